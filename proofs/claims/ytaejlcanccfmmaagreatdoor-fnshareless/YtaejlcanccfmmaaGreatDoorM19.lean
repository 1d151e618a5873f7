/-
  Several texts in one.
-/
import Derived.Test.YtaejlcanccfmmaaGreatDoorM18
import Derived.Test.YtaejlcanccfmmaaGreatDoorM12
import Derived.Test.YtaejlcanccfmmaaGreatDoorZrs
import Derived.Maps.AppendAt
namespace Go.Proofs.YtaejlcanccfmmaaGreatDoor
open Go.RowKit
theorem Rd.but {R : Nat} {w w' : World} {ob : Option Addr} {n cb : Nat} {p : Int} {f : Nat → Int} (h : Rd R w ob n cb p f) (hb : ∀ b, b ≤ R → w'.heap[b]? = w.heap[b]?) : Rd R w' ob n cb p f := by
  refine ⟨(hb R (Nat.le_refl _)).trans h.at_, h.le, h.p0, h.p1, h.fb, fun i hi => ?_⟩
  obtain ⟨b, off, h1, h2, h3⟩ := h.ce i hi
  exact ⟨b, off, h1, h2, (World.cell?_of_block (w := w) (a := ⟨b, off + i, none⟩) (hb b (by omega))).trans h3⟩
theorem Rd.lt {R : Nat} {w : World} {ob : Option Addr} {n cb : Nat} {p : Int} {f : Nat → Int} (h : Rd R w ob n cb p f) : R < w.heap.size := (Array.getElem?_eq_some_iff.1 h.at_).1
theorem but_new {S : Nat → Prop} {a w : World} (h : But S a w) {g : Nat} (hg : a.heap.size ≤ g) (i : Nat) (x : Value) : But S a (w.setCell ⟨g, i, none⟩ x) := by
  have hb := (Below.refl g w).setCell (p := ⟨g, i, none⟩) (Nat.le_refl _) x
  exact ⟨hb.os.trans h.os, hb.tape.trans h.tape, hb.output.trans h.output, Nat.le_trans h.size hb.size, fun b h1 h2 => (Below.heap_setCell w _ x b (fun e => by have : b = g := e; omega)).trans (h.block b h1 h2)⟩
theorem but_alloc {S : Nat → Prop} {a w : World} (h : But S a w) (o : Obj) : But S a (w.alloc o) := h.trans (But.of_below ((Below.refl _ _).alloc (Nat.le_refl _) o))
theorem lit_at (t : TypeId) (W : World) (l : List ByteArray) (hl : l.length ≤ maxLen) (hz : ∀ s ∈ l, s.size ≤ maxLen) : AtL (fun b => b = W.heap.size) (W.alloc (.cells (l.map Value.string).toArray t)) l (.slice (some ⟨W.heap.size, 0, none⟩) l.length l.length) := by
  refine ⟨_, _, rfl, ⟨hl, Nat.le_refl _, fun h => by cases h⟩, fun i hi => ⟨_, _, rfl, rfl, fun _ => .string l[i], fun j hj => ?_, ?_⟩⟩
  · rw [width_str] at hj ⊢
    have ej : j = 0 := by omega
    subst ej
    have h2 := heap_alloc_new W (.cells (l.map Value.string).toArray t)
    rw [Nat.mul_one, Nat.zero_add, Nat.add_zero]
    exact (cell_row h2 i _ (by simp [hi])).1
  · rw [at_str]; exact ⟨rfl, hz _ (List.getElem_mem hi)⟩
set_option maxRecDepth 100000 in
set_option maxHeartbeats 4000000 in
theorem pick_rd (R : Nat) (ob : Option Addr) (n cb : Nat) (f : Nat → Int) (p : Int) (m : Int) (w : World) (h : Rd R w ob n cb p f) (hp : p ≤ 90000) (hm : 1 ≤ m) (hm2 : m ≤ 1000) :
    Calls Tryz.prog 27 #[.pointer (some ⟨R, 0, none⟩), .int .i64 m] w fun e w' => ∃ x, e = .returned (.int .i64 x) ∧ 0 ≤ x ∧ x < m ∧ ∃ p', p' ≤ p + 1 ∧ Hid (Rd R w' ob n cb p' f) ∧ Hid (But (fun k => k = R) w w') := by
  refine (pick_any R ob n cb p m f w h hm hm2).mono ?_
  rintro e w' ⟨x, q, rfl, h0, h1, rfl⟩
  refine ⟨x, rfl, h0, h1, p + 1, Int.le_refl _, h.next (by omega) q, ?_⟩
  have hb := (Below.refl R w).setCell (p := ⟨R, 1, none⟩) (Nat.le_refl _) (.int .i64 (p + 1))
  exact ⟨hb.os, hb.tape, hb.output, hb.size, fun b h1 h2 => Below.heap_setCell w _ _ b h2⟩
set_option maxRecDepth 100000 in
set_option maxHeartbeats 4000000 in
theorem of_rd (R : Nat) (ob : Option Addr) (n cb : Nat) (f : Nat → Int) (p : Int) (S : Nat → Prop) (l : List ByteArray) (v : Value) (w : World) (h : Rd R w ob n cb p f) (hp : p ≤ 90000) (hat : AtL S w l v) (hS : ∀ b, S b → b < w.heap.size ∧ b ≠ R) (h1 : 1 ≤ l.length) (h2 : l.length ≤ 1000) :
    Calls Tryz.prog 28 #[.pointer (some ⟨R, 0, none⟩), v] w fun e w' => ∃ s, s ∈ l ∧ e = .returned (.string s) ∧ ∃ p', p' ≤ p + 1 ∧ Hid (Rd R w' ob n cb p' f) ∧ Hid (But (fun k => k = R) w w') := by
  obtain ⟨oa, cap, rfl, hn, hc⟩ := hat
  obtain ⟨m, em⟩ : ∃ m, l.length = m := ⟨_, rfl⟩
  have EM : Hid (l.length = m) := em
  rw [em]
  rw [em] at h1 h2
  have HC : Hid _ := hc
  have HS : Hid _ := hS
  have H : Hid (Rd R w ob n cb p f) := h
  clear em hn hc hS h
  go_enter Tryz.func28, Tryz.ntmps28
  go_wp2_with fail
  refine (pick_rd R ob n cb f p m w H.out hp (by omega) (by omega)).mono ?_
  rintro e w1 ⟨x, rfl, hx0, hx1, p', hp', rd1, bt1⟩
  obtain ⟨i, rfl⟩ := Int.eq_ofNat_of_zero_le hx0
  have hi : i < l.length := by have := EM.out; omega
  obtain ⟨b, off, rfl, hbS, c, h3, h4⟩ := HC.out i hi
  have e0 := h3 0 (by decide)
  rw [h4.1, width_str, Nat.mul_one, Nat.add_zero] at e0
  have e1 : w1.cell? ⟨b, off + i, none⟩ = some (.string (l[i]'hi)) := (World.cell?_of_block (w := w) (a := ⟨b, off + i, none⟩) (bt1.out.block b (HS.out b hbS).1 (HS.out b hbS).2)).trans e0
  obtain ⟨s, es⟩ : ∃ s, s = l[i]'hi := ⟨_, rfl⟩
  rw [← es] at e1
  have HM : Hid (s ∈ l) := by show s ∈ l; rw [es]; exact List.getElem_mem hi
  clear es h3 h4 e0 HC
  go_wp2
  go_ret
  exact ⟨s, HM.out, rfl, p', hp', rd1, bt1⟩
end Go.Proofs.YtaejlcanccfmmaaGreatDoor

namespace Go.Proofs.YtaejlcanccfmmaaGreatDoor
open Go.RowKit
theorem wrap_i64M (n : Int) (h0 : 0 ≤ n) (h1 : n < 9223372036854775808) : IntKind.i64.wrap n = n := by
  simp [IntKind.wrap, IntKind.bits, IntKind.signed]; omega
theorem app_newM {P : Program} {t e : TypeId} {size bytes m g B : Nat} {w : World} {sv : Value} {news : List Value} (T : ElT P t e size bytes) (hown : w.ownsRow B e size (.slice (some ⟨g, 0, none⟩) 0 0) 0 []) (hB : B ≤ w.heap.size) (hsrc : Src w sv m size news) (h63 : m ≤ maxLen) (hbytes : m * bytes ≤ 140737488355328) (ty : TypeId) :
    ∃ v' w', (Builtin.append_ #[t, t] ty #[.slice (some ⟨g, 0, none⟩) 0 0, sv]).run P w = .ok v' w' ∧ w'.ownsRow B e size v' m news ∧ Below w.heap.size w w' := by
  obtain ⟨i, z, hi, hz, h2, h3, h4⟩ := T.info
  rcases hsrc with ⟨hl, ⟨rfl, rfl⟩ | ⟨ad, c, rfl, hc⟩⟩
  · have hn : news = [] := List.eq_nil_of_length_eq_zero (by simpa using hl)
    subst hn
    exact ⟨_, w, run_append_owned_none (P := P) (w := w) B t ty e i size T.ht hi _ 0 [] hown, hown, Below.refl _ _⟩
  · by_cases h0 : m = 0
    · subst h0
      have hn : news = [] := List.eq_nil_of_length_eq_zero (by simpa using hl)
      subst hn
      refine ⟨.slice (some ⟨g, 0, none⟩) 0 0, w, ?_, hown, Below.refl _ _⟩
      simp [Builtin.append_, run_underlying T.ht, sizeOf, typeInfo, hi, storeCells, loadCells, Builtin.lenOf, Builtin.firstCells, loadCellsFrom]
    · obtain ⟨v', w', hr, q1, q2⟩ := run_append_arg_grows (P := P) (w := w) t ty e i z size bytes T.ht hi hz h2 h3 h4 T.pos ⟨g, 0, none⟩ 0 0 [] (by simp) (fun j u h => by simp at h) ad m c news hl hc (by omega) (by omega) (by simpa using hbytes)
      refine ⟨v', w', hr, ?_, ?_⟩
      · rw [Nat.zero_add, List.nil_append] at q1; exact Go.Joins.ownsRow_le q1 hB
      · exact ⟨q2.os, q2.tape, q2.output, q2.size, fun b hb => q2.block b hb (fun e => by cases e)⟩
theorem atl_noneM {α : Type} [Lay α] (S : Nat → Prop) (w : World) : AtL S w ([] : List α) (.slice none 0 0) := ⟨none, 0, rfl, ⟨Nat.zero_le _, Nat.le_refl _, fun _ => rfl⟩, fun _ hi => absurd hi (Nat.not_lt_zero _)⟩
theorem step1M {P : Program} {md : Region.Mode} {ops : Array Oper} {C : World → Prop} {n f : Nat} {L : Array Bool → Act → World → Prop} {listed : Array Bool} {i d : Nat} {o : Oper} {a : Act} {w : World} (u : Value) (w' : World) (hc : ops[i]? = some o ∧ o.guard = none ∧ o.dst = some d ∧ i < n) (r0 : Region.ready md ops listed = [i]) (run : (execOp a.eval o).run P w = .ok (.value u) w') (hC : C w') (hk : anyC P md ops C n L f (listed.setIfInBounds i true) (a.put (some d) u) w') : anyC P md ops C n L (f + 1) listed a w := by
  obtain ⟨h1, h2, h3, h4⟩ := hc
  refine anyC_step [i] r0 (by simp) (one_list ⟨h4, o, h1, h2, u, w', run, hC, ?_⟩)
  rw [h3]; exact hk
theorem exec_runM {P : Program} {t : TypeId} {w w' : World} {v sv v' : Value} {o : Oper} {a : Act} {s x : Operand} (ho : o.op = .call { callee := .builtin .append, args := #[s, x], argTypes := #[t, t] }) (hs : a.eval s = v) (hx : a.eval x = sv) (hr : (Builtin.append_ #[t, t] o.type #[v, sv]).run P w = .ok v' w') : (execOp a.eval o).run P w = .ok (.value v') w' := by
  unfold execOp
  simp only [ho, resolve, invoke, builtin, Sem.run_bind, Sem.run_pure, Result.andThen_ok, List.map_toArray, List.map_cons, List.map_nil, hs, hx, hr]
end Go.Proofs.YtaejlcanccfmmaaGreatDoor

namespace Go.Proofs.YtaejlcanccfmmaaGreatDoor
open Go.RowKit Go.Sort
theorem atl_strO {S : Nat → Prop} {w : World} {l : List ByteArray} {oa : Option Addr} {n cap : Nat} (h : AtL S w l (.slice oa n cap)) (i : Nat) (hi : i < l.length) : ∃ b off, oa = some ⟨b, off, none⟩ ∧ S b ∧ w.cell? ⟨b, off + i, none⟩ = some (.string l[i]) := by
  obtain ⟨oa', cap', e, _, hc⟩ := h
  cases e
  obtain ⟨b, off, g1, g2, c, g3, g4⟩ := hc i hi
  rw [width_str] at g3
  rw [at_str] at g4
  refine ⟨b, off, g1, g2, ?_⟩
  have e0 : w.cell? ⟨b, off + i, none⟩ = some (c 0) := by simpa using g3 0 (by omega)
  rw [e0, g4.1]
set_option maxRecDepth 100000 in
set_option maxHeartbeats 4000000 in
theorem names5_any (w : World) : Calls Tryz.prog 44 #[] w fun e w' => e = .returned (.slice (some ⟨w.heap.size, 0, none⟩) 5 5) ∧ w' = w.alloc (.cells #[.string ⟨#[97, 108, 101]⟩, .string ⟨#[98]⟩, .string ⟨#[99, 45, 99]⟩, .string ⟨#[100, 97, 114, 107]⟩, .string ⟨#[120, 57]⟩] 9) := by
  go_enter Tryz.func44, Tryz.ntmps44
  go_wp2
  go_ret
  exact ⟨rfl, rfl⟩
theorem But.grownZ {S : Nat → Prop} {w1 u u3 : World} {r : Option Nat} (h : But S w1 u) (hg : u.grownBy u3 r) (hr : ∀ q, r = some q → w1.heap.size ≤ q) : But S w1 u3 :=
  ⟨hg.os.trans h.os, hg.tape.trans h.tape, hg.output.trans h.output, Nat.le_trans h.size hg.size, fun b hb hn => (hg.block b (Nat.lt_of_lt_of_le hb h.size) (fun e => by
    have := hr b e.symm
    omega)).trans (h.block b hb hn)⟩
set_option maxRecDepth 100000 in
set_option maxHeartbeats 4000000 in
theorem some_rd (R : Nat) (ob : Option Addr) (n cb : Nat) (f : Nat → Int) (p : Int) (S : Nat → Prop) (l : List ByteArray) (oa : Option Addr) (nl kl : Nat) (m : Int) (w : World) (h : Rd R w ob n cb p f) (hp : p ≤ 80000) (hat : AtL S w l (.slice oa nl kl)) (hS : ∀ b, S b → b < w.heap.size ∧ b ≠ R) (h2 : nl ≤ 1000) (hm : 1 ≤ m) (hm2 : m ≤ 1000) :
    Calls Tryz.prog 26 #[.pointer (some ⟨R, 0, none⟩), .slice oa nl kl, .int .i64 m] w fun e w' => ∃ v M, e = .returned v ∧ M.length ≤ nl ∧ (∀ s ∈ M, s ∈ l) ∧ Hid (Row w' w.heap.size 9 1 eS v M) ∧ ∃ p', p' ≤ p + 1000 ∧ Hid (Rd R w' ob n cb p' f) ∧ Hid (But (fun k => k = R) w w') := by
  have rlt := h.lt
  have enl : l.length = nl := by obtain ⟨_, _, e, _⟩ := hat; cases e; rfl
  have ENL : Hid (l.length ≤ nl ∧ nl ≤ l.length) := ⟨by omega, by omega⟩
  have HAT : Hid (AtL S w l (.slice oa nl kl)) := hat
  have HSS : Hid _ := hS
  have HR0 : Hid (Row (w.alloc (.cells #[] 9)) w.heap.size 9 1 eS (.slice (some ⟨w.heap.size, 0, none⟩) 0 0) []) := Row.made w 9 1 eS (Nat.le_refl _)
  have BT0 : Hid (But (fun k => k = R) w (w.alloc (.cells #[] 9))) := but_alloc (But.refl _ w) _
  have RD0 : Hid (Rd R (w.alloc (.cells #[] 9)) ob n cb p f) := h.but (fun b hb => Below.heap_alloc _ _ _ (by omega))
  obtain ⟨i0, zz, hi, hz0, hz1, hz2, hz3⟩ := elS.info
  clear h hat hS enl
  go_enter Tryz.func26, Tryz.ntmps26
  go_wp2_with fail
  go_loopw [7, 8] (fun v i wr => ∃ (k : Nat) (M : List ByteArray) (og : Option Addr) (ng kg : Nat) (pk : Int), k ≤ nl ∧ i = .int .i64 k ∧ v = .slice og ng kg ∧ ng ≤ k ∧ pk ≤ p + k ∧ Hid (M.length ≤ ng ∧ ng ≤ M.length) ∧ Hid (∀ s ∈ M, s ∈ l) ∧ Hid (Row wr w.heap.size 9 1 eS (.slice og ng kg) M) ∧ Hid (Rd R wr ob n cb pk f) ∧ Hid (But (fun k => k = R) w wr)) (fun _ i _ => nl - (intOf i).toNat)
  case atStart => exact ⟨0, [], _, 0, _, p, Nat.zero_le _, rfl, rfl, Nat.le_refl _, by omega, ⟨Nat.le_refl _, Nat.le_refl _⟩, (fun s (hs : s ∈ []) => nomatch hs), HR0, RD0, BT0⟩
  case round =>
    obtain ⟨k, M, og, ng, kg, pk, hkn, rfl, rfl, hngk, hpk, hgl, hin, hrow, hrd, hbt⟩ := hrel
    by_cases hlt : k < nl
    · go_wp2_with fail
      refine (pick_rd R ob n cb f pk m wr hrd.out (by omega) hm hm2).mono ?_
      rintro e u ⟨x, rfl, hx0, hx1, p', hp', rd1, bt1⟩
      have BU : Hid (But (fun k => k = R) w u) := hbt.out.trans bt1.out
      have su := BU.out.size
      have GU : Hid (Row u w.heap.size 9 1 eS (.slice og ng kg) M) := Row.block hrow.out (fun g hg => by
        have h1 := World.ownsRow.lt hrow.out g hg
        exact bt1.out.block g h1.2 (fun e => by have e' : g = R := e; omega))
      have hpk' : p' ≤ p + ((k + 1 : Nat) : Int) := by omega
      clear bt1 hrd hrow hbt
      by_cases hxz : x = 0
      · subst hxz
        have hkl : k < l.length := by have := ENL.out; omega
        obtain ⟨b1, f1, e9, _, c1⟩ := atl_strO (HAT.out.same (BU.out.same (fun b hb => ⟨(HSS.out b hb).1, (HSS.out b hb).2⟩))) k hkl
        subst e9
        have ILK : Hid (l[k] ∈ l) := List.getElem_mem hkl
        obtain ⟨y, ey⟩ : ∃ y, l[k] = y := ⟨_, rfl⟩
        rw [ey] at c1 ILK
        clear ey
        have OWN : Hid ((u.alloc (.cells #[.string y] 9)).ownsRow w.heap.size 9 1 (.slice og ng kg) ng (enc 1 eS M)) := by
          have h1 := Row.below GU.out ((Below.refl _ _).alloc (Nat.le_refl _) (.cells #[.string y] 9))
          have h2 : M.length = ng := by have := hgl.out; omega
          rw [Row, h2] at h1
          exact h1
        have hlow : Hid (∀ qq, (Value.slice og ng kg).ownBlock = some qq → w.heap.size ≤ qq) := fun qq hq => (World.ownsRow.lt GU.out qq hq).1
        go_wp2_with (at_builtin; refine wpList_append_own_at _ rfl _ _ 23 rfl w.heap.size 9 i0 zz 1 16 elS.ht hi hz0 hz1 hz2 hz3 (by decide) _ _ _ rfl OWN.out ⟨u.heap.size, 0, none⟩ 1 1 [.string y] rfl rfl (cell_one_new _ _ _) (by simp [Value.oneCell']) (by unfold maxLen; omega) (by omega) (by simp; omega) ?_; intro v' u8 hown hgr _ hbk'; have ROW : Row u8 w.heap.size 9 1 eS v' (M ++ [y]) := (by show World.ownsRow _ _ _ _ _ _ _; rw [List.length_append, enc_append, show M.length = ng by have := hgl.out; omega]; exact hown); have B8 : But (fun k => k = R) w u8 := (but_alloc BU.out _).grownZ hgr (fun qq hq => hlow.out qq hq); have RD8 : Hid (Rd R u8 ob n cb p' f) := rd1.out.but (fun b hb => (hgr.block b (by simp; omega) (fun e => by have := hlow.out b e.symm; omega)).trans (Below.heap_alloc _ _ _ (by omega))); obtain ⟨ov', kv', hv'⟩ := Row.form ROW; subst hv'; have ROWH : Hid (Row u8 w.heap.size 9 1 eS (.slice ov' (M ++ [y]).length kv') (M ++ [y])) := ROW; have B8H : Hid _ := B8; clear ROW hgr hbk' hown B8)
        go_roundw
        case rel => exact ⟨k + 1, M ++ [y], ov', _, kv', p', by omega, by go_num, rfl, by have := hgl.out; simp; omega, hpk', ⟨by simp, by simp⟩, (fun s (hs : s ∈ M ++ [y]) => by
          rcases List.mem_append.1 hs with h | h
          · exact hin.out s h
          · rw [List.mem_singleton.1 h]; exact ILK.out), (by have h := ROWH; rw [List.length_append] at h; exact h), RD8, B8H⟩
        case measure => simp [intOf]; omega
      · have hx9 : (x == 0) = false := by simpa using hxz
        go_wp2_with fail
        go_roundw
        case rel => exact ⟨k + 1, M, og, ng, kg, p', by omega, by go_num, rfl, by omega, hpk', hgl, hin, GU, rd1, BU⟩
        case measure => simp [intOf]; omega
    · go_wp2_with fail
      go_ret
      exact ⟨_, M, rfl, by have := hgl.out; omega, hin.out, hrow, pk, by omega, hrd, hbt⟩
end Go.Proofs.YtaejlcanccfmmaaGreatDoor

namespace Go.Proofs.YtaejlcanccfmmaaGreatDoor
open Go.RowKit Go.Sort
def SzL (c : Nat) (l : List ByteArray) : Prop := l.length ≤ c ∧ ∀ x ∈ l, x.size ≤ c
def SzB (c : Nat) (f : DShareBatch) : Prop := f.1.size ≤ c ∧ SzL c f.2.1 ∧ SzL c f.2.2
def SzD (c : Nat) (D : DShareBook) : Prop := SzL c D.1 ∧ D.2.length ≤ c ∧ ∀ f ∈ D.2, SzB c f
theorem SzL.mono {c d : Nat} {l : List ByteArray} (h : SzL c l) (hc : c ≤ d) : SzL d l := ⟨Nat.le_trans h.1 hc, fun x hx => Nat.le_trans (h.2 x hx) hc⟩
theorem SzB.mono {c d : Nat} {f : DShareBatch} (h : SzB c f) (hc : c ≤ d) : SzB d f := ⟨Nat.le_trans h.1 hc, h.2.1.mono hc, h.2.2.mono hc⟩
theorem SzD.mono {c d : Nat} {D : DShareBook} (h : SzD c D) (hc : c ≤ d) : SzD d D := ⟨h.1.mono hc, Nat.le_trans h.2.1 hc, fun f hf => (h.2.2 f hf).mono hc⟩
theorem SzD.sm {D : DShareBook} (h : SzD 64 D) : SmD D := ⟨h.1, h.2.1, h.2.2⟩
theorem SzL.nil (c : Nat) : SzL c [] := ⟨Nat.zero_le _, fun x hx => by cases hx⟩
theorem SzL.sub {c : Nat} {l m : List ByteArray} (h : SzL c l) (hl : m.length ≤ l.length) (hm : ∀ x ∈ m, x ∈ l) : SzL c m := ⟨Nat.le_trans hl h.1, fun x hx => h.2 x (hm x hx)⟩
structure Dk (R : Nat) (w : World) (D : DShareBook) (v0 v1 : Value) : Prop where
  a0 : AtL (fun b => b < w.heap.size ∧ b ≠ R) w D.1 v0
  a1 : AtL (fun b => b < w.heap.size ∧ b ≠ R) w D.2 v1
theorem atl_but {α : Type} [Lay α] {R : Nat} {w w' : World} {l : List α} {v : Value} (h : AtL (fun b => b < w.heap.size ∧ b ≠ R) w l v) (hb : But (fun k => k = R) w w') : AtL (fun b => b < w'.heap.size ∧ b ≠ R) w' l v :=
  (h.same (hb.same (fun _ hb' => ⟨hb'.1, hb'.2⟩))).up (fun _ hb' => ⟨Nat.lt_of_lt_of_le hb'.1 hb.size, hb'.2⟩)
theorem Dk.but {R : Nat} {w w' : World} {D : DShareBook} {v0 v1 : Value} (h : Dk R w D v0 v1) (hb : But (fun k => k = R) w w') : Dk R w' D v0 v1 := ⟨atl_but h.a0 hb, atl_but h.a1 hb⟩
theorem row_dk {R B : Nat} {w : World} {v : Value} {l : List ByteArray} (h : Row w B 9 1 eS v l) (hR : R < B) (hz : ∀ s ∈ l, s.size ≤ maxLen) : AtL (fun b => b < w.heap.size ∧ b ≠ R) w l v :=
  flatS.row_at h (fun b hb => by have := World.ownsRow.lt h b hb; exact ⟨this.2, by omega⟩) hz
set_option maxRecDepth 100000 in
set_option maxHeartbeats 8000000 in
theorem base_rd (R : Nat) (ob : Option Addr) (n cb : Nat) (f : Nat → Int) (p : Int) (w : World) (h : Rd R w ob n cb p f) (hp : p ≤ 80000) :
    Calls Tryz.prog 61 #[.pointer (some ⟨R, 0, none⟩)] w fun e w' => ∃ v0 T, e = .returned (.agg #[v0, .slice none 0 0]) ∧ SzL 5 T ∧ Hid (Row w' w.heap.size 9 1 eS v0 T) ∧ ∃ p', p' ≤ p + 5 ∧ Hid (Rd R w' ob n cb p' f) ∧ Hid (But (fun k => k = R) w w') := by
  have rlt := h.lt
  obtain ⟨W, hW⟩ : ∃ W, W = ((w.alloc (.cells #[.slice none 0 0, .slice none 0 0] 26)).alloc (.cells #[.slice none 0 0, .slice none 0 0] 26)).alloc (.cells #[.string ⟨#[106]⟩, .string ⟨#[107, 101, 103]⟩, .string ⟨#[116, 117, 110]⟩, .string ⟨#[118, 97, 116]⟩, .string ⟨#[119]⟩] 9) := ⟨_, rfl⟩
  have EW : Hid (W = ((w.alloc (.cells #[.slice none 0 0, .slice none 0 0] 26)).alloc (.cells #[.slice none 0 0, .slice none 0 0] 26)).alloc (.cells #[.string ⟨#[106]⟩, .string ⟨#[107, 101, 103]⟩, .string ⟨#[116, 117, 110]⟩, .string ⟨#[118, 97, 116]⟩, .string ⟨#[119]⟩] 9)) := hW
  have BW : Hid (Below w.heap.size w W) := by rw [hW]; exact (((Below.refl _ _).alloc (Nat.le_refl _) _).alloc (by simp) _).alloc (by simp; omega) _
  have R1 : Hid (W.heap[w.heap.size]? = some (.cells #[.slice none 0 0, .slice none 0 0] 26 (0, 0))) := by rw [hW]; exact (Below.heap_alloc _ _ _ (by simp; omega)).trans ((Below.heap_alloc _ _ _ (by simp)).trans (heap_alloc_new w _))
  have R2 : Hid (W.heap[w.heap.size + 1]? = some (.cells #[.slice none 0 0, .slice none 0 0] 26 (0, 0))) := by
    rw [hW]; exact (Below.heap_alloc _ _ _ (by simp)).trans (alloc_atR _ (by simp))
  have R3 : Hid (W.heap[w.heap.size + 1 + 1]? = some (.cells #[.string ⟨#[106]⟩, .string ⟨#[107, 101, 103]⟩, .string ⟨#[116, 117, 110]⟩, .string ⟨#[118, 97, 116]⟩, .string ⟨#[119]⟩] 9 (0, 0))) := by
    rw [hW]; exact alloc_atR _ (by simp)
  have sW : w.heap.size + 3 ≤ W.heap.size := by rw [hW]; simp
  have RD0 : Hid (Rd R W ob n cb p f) := h.but (fun b hb => BW.out.block b (by omega))
  clear hW h
  go_enter Tryz.func61, Tryz.ntmps61
  go_upto_region 3 with fail
  rw [← EW.out]
  go_wp2_with fail
  go_loopw [5] (fun i wr => ∃ (k : Nat) (pk : Int), k ≤ 5 ∧ i = .int .i64 k ∧ pk ≤ p + k ∧ Hid (∃ (og : Option Addr) (ng kg : Nat) (M : List ByteArray), ng ≤ k ∧ M.length = ng ∧ (∀ s ∈ M, s.size ≤ 5) ∧ wr.heap[w.heap.size + 1]? = some (.cells #[.slice og ng kg, .slice none 0 0] 26 (0, 0)) ∧ Row wr W.heap.size 9 1 eS (.slice og ng kg) M) ∧ Hid (Rd R wr ob n cb pk f) ∧ Hid (But (fun b => b = R ∨ b = w.heap.size + 1) W wr)) (fun i _ => 5 - (intOf i).toNat)
  case atStart => exact ⟨0, p, by omega, rfl, by omega, ⟨none, 0, 0, [], Nat.le_refl _, rfl, (fun s (hs : s ∈ []) => nomatch hs), R2.out, Row.nil _ _ _ _ _⟩, RD0, But.refl _ _⟩
  case round =>
    obtain ⟨k, pk, hk, rfl, hpk, hst, hrd, hbt⟩ := hrel
    have swr := hbt.out.size
    by_cases hlt : k < 5
    case neg =>
      obtain ⟨og, ng, kg, M, hngk, hml, hmz, hbx, hrow⟩ := hst.out
      have R1r : wr.heap[w.heap.size]? = some (.cells #[.slice none 0 0, .slice none 0 0] 26 (0, 0)) := (hbt.out.block _ (by omega) (by omega)).trans R1.out
      have x0 := (cell_row hbx 0 (.slice og ng kg) rfl).1
      have x1 := (cell_row hbx 1 (.slice none 0 0) rfl).1
      obtain ⟨z0, f0⟩ := cell_row R1r 0 (.slice none 0 0) rfl
      obtain ⟨z1, f1⟩ := cell_row R1r 1 (.slice none 0 0) rfl
      have FIN : Hid (((wr.setCell ⟨w.heap.size, 0, none⟩ (.slice og ng kg)).setCell ⟨w.heap.size, 1, none⟩ (.slice none 0 0)).heap[w.heap.size]? = some (.cells #[.slice og ng kg, .slice none 0 0] 26 (0, 0))) := by
        have := set_row (set_row R1r 0 (.slice og ng kg)) 1 (.slice none 0 0)
        show _ = _
        rw [this]; rfl
      have OTH : Hid (∀ q, q ≠ w.heap.size → ((wr.setCell ⟨w.heap.size, 0, none⟩ (.slice og ng kg)).setCell ⟨w.heap.size, 1, none⟩ (.slice none 0 0)).heap[q]? = wr.heap[q]?) := fun q hq => (Below.heap_setCell _ _ _ _ hq).trans (Below.heap_setCell _ _ _ _ hq)
      have BBT : Hid (But (fun k => k = R) w ((wr.setCell ⟨w.heap.size, 0, none⟩ (.slice og ng kg)).setCell ⟨w.heap.size, 1, none⟩ (.slice none 0 0))) := by
        refine but_new (but_new ?_ (Nat.le_refl _) 0 _) (Nat.le_refl _) 1 _
        have b1 : But (fun k => k = R) w W := But.of_below BW.out
        exact ⟨hbt.out.os.trans b1.os, hbt.out.tape.trans b1.tape, hbt.out.output.trans b1.output, Nat.le_trans b1.size hbt.out.size, fun b hb hn => (hbt.out.block b (by omega) (fun e => by rcases e with e | e; exact hn e; omega)).trans (b1.block b hb hn)⟩
      have HROW : Hid (Row wr W.heap.size 9 1 eS (.slice og ng kg) M) := hrow
      have HSZ : Hid (SzL 5 M) := ⟨by omega, hmz⟩
      clear hst hbx hrow hml hmz
      go_wp2_with fail
      generalize ((wr.setCell ⟨w.heap.size, 0, none⟩ (.slice og ng kg)).setCell ⟨w.heap.size, 1, none⟩ (.slice none 0 0)) = F at FIN OTH BBT ⊢
      have g0 := (cell_row FIN.out 0 (.slice og ng kg) rfl).1
      have g1 := (cell_row FIN.out 1 (.slice none 0 0) rfl).1
      refine bodyPost_ret (v := .agg #[.slice og ng kg, .slice none 0 0]) (by simp [results, Tryz.results61, go_sem, g0, g1]) rfl ⟨_, M, rfl, HSZ.out, Row.low (Row.block HROW.out fun q hq => OTH.out q (by have := (World.ownsRow.lt HROW.out q hq).1; omega)) (by omega), pk, by omega, hrd.out.but (fun b hb => OTH.out b (by omega)), BBT⟩
    go_wp2_with fail
    refine (pick_rd R ob n cb f pk 5 wr hrd.out (by omega) (by decide) (by decide)).mono ?_
    rintro e u ⟨x, rfl, hx0, hx1, p', hp', rd1, bt1⟩
    have BU : Hid (But (fun b => b = R ∨ b = w.heap.size + 1) W u) := hbt.out.trans (bt1.out.up (fun b hb => .inl hb))
    have su := BU.out.size
    have hpk' : p' ≤ p + ((k + 1 : Nat) : Int) := by omega
    obtain ⟨og, ng, kg, M, hngk, hml, hmz, hbx, hrow⟩ := hst.out
    have BX : Hid (u.heap[w.heap.size + 1]? = some (.cells #[.slice og ng kg, .slice none 0 0] 26 (0, 0))) := (bt1.out.block _ (by omega) (by omega)).trans hbx
    have GU : Hid (Row u W.heap.size 9 1 eS (.slice og ng kg) M) := Row.block hrow (fun g hg => by
      have h1 := World.ownsRow.lt hrow g hg
      exact bt1.out.block g h1.2 (fun e => by have e' : g = R := e; omega))
    have HML : Hid (M.length = ng) := hml
    have HMZ : Hid (∀ s ∈ M, s.size ≤ 5) := hmz
    clear bt1 hrd hst hbx hrow hml hmz hbt
    by_cases hxz : 0 < x
    · have R3u : u.heap[w.heap.size + 1 + 1]? = some (.cells #[.string ⟨#[106]⟩, .string ⟨#[107, 101, 103]⟩, .string ⟨#[116, 117, 110]⟩, .string ⟨#[118, 97, 116]⟩, .string ⟨#[119]⟩] 9 (0, 0)) := (BU.out.block _ (by omega) (by omega)).trans R3.out
      obtain ⟨y, hy, hyz⟩ : ∃ y : ByteArray, u.cell? ⟨w.heap.size + 1 + 1, k, none⟩ = some (.string y) ∧ y.size ≤ 5 := by
        match k, hlt with
        | 0, _ => exact ⟨_, (cell_row R3u 0 _ rfl).1, by decide⟩
        | 1, _ => exact ⟨_, (cell_row R3u 1 _ rfl).1, by decide⟩
        | 2, _ => exact ⟨_, (cell_row R3u 2 _ rfl).1, by decide⟩
        | 3, _ => exact ⟨_, (cell_row R3u 3 _ rfl).1, by decide⟩
        | 4, _ => exact ⟨_, (cell_row R3u 4 _ rfl).1, by decide⟩
      clear R3u
      go_upto_region 7 with fail
      have x0 := (cell_row BX.out 0 (.slice og ng kg) rfl).1
      have q0 := fun d os => cell_regrown x0 d os
      have q1 := fun d os => cell_regrown hy d os
      refine wp_region_mix 7 [0, 1, 2, 3, 4, 5] (by kernel_rfl) (by kernel_rfl) ?_
      simp only [List.filterMap_cons, List.filterMap_nil, List.getElem?_cons_succ, List.getElem?_cons_zero]
      repeat (first | go_big_quiet_step (fail) | quiet_step (fail))
      refine wpQuiet_nil ?_
      clear q0 q1 x0 hy
      have hdr : Below u.heap.size u u.drew := (Below.refl _ _).drew
      refine anyC_step (f := 0) [6] (by kernel_rfl) (by simp) (one_list ⟨by decide, _, rfl, rfl, .slice (some ⟨u.drew.heap.size, 0, none⟩) 1 1, u.drew.alloc (.cells #[.string y] 9), ?runb, regrown_of_below (hdr.alloc hdr.size _), ?_⟩)
      case runb => go_simp
      refine ⟨by kernel_rfl, ?_⟩
      simp only [List.drop_succ_cons, List.drop_zero]
      simp only [Act.put, List.setIfInBounds_toArray]
      obtain ⟨X3, hX3⟩ : ∃ X, X = u.drew.alloc (.cells #[.string y] 9) := ⟨_, rfl⟩
      have bX3 : Hid (Below u.heap.size u X3) := by rw [hX3]; exact hdr.alloc hdr.size _
      have HSRC : Hid (Src X3 (.slice (some ⟨u.drew.heap.size, 0, none⟩) 1 1) 1 1 [.string y]) := by rw [hX3]; exact own_src4 (own_built (base := 0) (size := 1) (k := 1) (Nat.zero_le _) (by unfold maxLen; omega) rfl)
      have HOWN : Hid (X3.ownsRow W.heap.size 9 1 (.slice og ng kg) ng (enc 1 eS M)) := by
        have := Row.below GU.out bX3.out
        rw [Row, HML.out] at this
        exact this
      have s3 := bX3.out.size
      rw [← hX3]
      clear hX3
      go_wp2_with (first
        | (at_builtin; refine wpList_app elS rfl _ _ rfl rfl rfl HOWN.out HSRC.out (by intro z hz; simp at hz; subst hz; rfl) (by unfold maxLen; omega) (by omega) (by omega) ?_; intro v' u8 hown hgr0 _; obtain ⟨ov', kv', rfl⟩ := row_shape4 hown; have hgr : X3.grownBy u8 (Value.slice og ng kg).ownBlock := hgr0; have hb8 : u8.heap[w.heap.size + 1]? = some (.cells #[.slice og ng kg, .slice none 0 0] 26 (0, 0)) := (hgr.block _ (by omega) (fun e => by have := (World.ownsRow.lt GU.out _ e.symm).1; omega)).trans ((bX3.out.block _ (by omega)).trans BX.out); obtain ⟨zc8, zf8⟩ := cell_row hb8 0 _ rfl))
      have oth : ∀ q, q ≠ w.heap.size + 1 → (u8.setCell ⟨w.heap.size + 1, 0, none⟩ (.slice ov' (ng + 1) kv')).heap[q]? = u8.heap[q]? := fun q hq => Below.heap_setCell _ _ _ _ hq
      have ROW8 : Row u8 W.heap.size 9 1 eS (.slice ov' (ng + 1) kv') (M ++ [y]) := by
        show World.ownsRow _ _ _ _ _ _ _
        rw [List.length_append, enc_append, HML.out]
        exact hown
      have BUT2 : But (fun b => b = R ∨ b = w.heap.size + 1) W (u8.setCell ⟨w.heap.size + 1, 0, none⟩ (.slice ov' (ng + 1) kv')) := by
        refine But.set (S := fun b => b = R ∨ b = w.heap.size + 1) ?_ (.inr rfl) 0 _
        exact ⟨hgr.os.trans (bX3.out.os.trans BU.out.os), hgr.tape.trans (bX3.out.tape.trans BU.out.tape), hgr.output.trans (bX3.out.output.trans BU.out.output), by have := hgr.size; omega, fun q hq hno => (hgr.block q (by omega) (fun e => by have := (World.ownsRow.lt GU.out q e.symm).1; omega)).trans ((bX3.out.block q (by omega)).trans (BU.out.block q hq hno))⟩
      have RD2 : Rd R (u8.setCell ⟨w.heap.size + 1, 0, none⟩ (.slice ov' (ng + 1) kv')) ob n cb p' f := rd1.out.but (fun b hb => (oth b (by omega)).trans ((hgr.block b (by omega) (fun e => by have := (World.ownsRow.lt GU.out b e.symm).1; omega)).trans (bX3.out.block b (by omega))))
      go_roundw
      case rel => exact ⟨k + 1, p', by omega, by go_num, hpk', ⟨ov', ng + 1, kv', M ++ [y], by omega, by rw [List.length_append, HML.out]; rfl, (fun s hs => by
        rcases List.mem_append.1 hs with h | h
        · exact HMZ.out s h
        · rw [List.mem_singleton.1 h]; exact hyz), by rw [set_row hb8 0 _]; rfl, Row.block ROW8 fun q hq => oth q (by have := (World.ownsRow.lt ROW8 q hq).1; omega)⟩, RD2, BUT2⟩
      case measure => simp [intOf]; omega
    · go_wp2_with fail
      go_roundw
      case rel => exact ⟨k + 1, p', by omega, by go_num, hpk', ⟨og, ng, kg, M, by omega, HML.out, HMZ.out, BX.out, GU.out⟩, rd1, BU⟩
      case measure => simp [intOf]; omega
end Go.Proofs.YtaejlcanccfmmaaGreatDoor
