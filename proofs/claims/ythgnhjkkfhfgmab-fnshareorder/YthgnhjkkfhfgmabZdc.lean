/-
  Drawn names of shares: the names, and some of a list.
-/
import Derived.Test.YthgnhjkkfhfgmabZdb
import Derived.Test.YthgnhjkkfhfgmabZrt
import Derived.Maps.AppendAt
namespace Go.Proofs.Ythgnhjkkfhfgmab
open Go.RowKit Go.Sort

theorem atl_strO {S : Nat → Prop} {w : World} {l : List ByteArray} {oa : Option Addr} {n cap : Nat} (h : AtL S w l (.slice oa n cap)) (i : Nat) (hi : i < l.length) : ∃ b off, oa = some ⟨b, off, none⟩ ∧ S b ∧ w.cell? ⟨b, off + i, none⟩ = some (.string l[i]) := by
  obtain ⟨oa', cap', e, _, hc⟩ := h
  cases e
  obtain ⟨b, off, g1, g2, c, g3, g4⟩ := hc i hi
  rw [width_str] at g3
  rw [at_str] at g4
  refine ⟨b, off, g1, g2, ?_⟩
  have e0 : w.cell? ⟨b, off + i, none⟩ = some (c 0) := by simpa using g3 0 (by omega)
  rw [e0, g4.1]
set_option maxRecDepth 100000 in
set_option maxHeartbeats 4000000 in
theorem names5_any (w : World) : Calls Try.prog 68 #[] w fun e w' => e = .returned (.slice (some ⟨w.heap.size, 0, none⟩) 5 5) ∧ w' = w.alloc (.cells #[.string ⟨#[97, 108, 101]⟩, .string ⟨#[98]⟩, .string ⟨#[99, 45, 99]⟩, .string ⟨#[100, 97, 114, 107]⟩, .string ⟨#[120, 57]⟩] 9) := by
  go_enter Try.func68, Try.ntmps68
  go_wp2
  go_ret
  exact ⟨rfl, rfl⟩
theorem But.grownZ {S : Nat → Prop} {w1 u u3 : World} {r : Option Nat} (h : But S w1 u) (hg : u.grownBy u3 r) (hr : ∀ q, r = some q → w1.heap.size ≤ q) : But S w1 u3 :=
  ⟨hg.os.trans h.os, hg.tape.trans h.tape, hg.output.trans h.output, Nat.le_trans h.size hg.size, fun b hb hn => (hg.block b (Nat.lt_of_lt_of_le hb h.size) (fun e => by
    have := hr b e.symm
    omega)).trans (h.block b hb hn)⟩

set_option maxRecDepth 100000 in
set_option maxHeartbeats 4000000 in
theorem some_rd (R : Nat) (ob : Option Addr) (n cb : Nat) (f : Nat → Int) (p : Int) (S : Nat → Prop) (l : List ByteArray) (oa : Option Addr) (nl kl : Nat) (m : Int) (w : World) (h : Rd R w ob n cb p f) (hp : p ≤ 80000) (hat : AtL S w l (.slice oa nl kl)) (hS : ∀ b, S b → b < w.heap.size ∧ b ≠ R) (h2 : nl ≤ 1000) (hm : 1 ≤ m) (hm2 : m ≤ 1000) :
    Calls Try.prog 69 #[.pointer (some ⟨R, 0, none⟩), .slice oa nl kl, .int .i64 m] w fun e w' => ∃ v M, e = .returned v ∧ M.length ≤ nl ∧ (∀ s ∈ M, s ∈ l) ∧ Hid (Row w' w.heap.size 9 1 eS v M) ∧ ∃ p', p' ≤ p + 1000 ∧ Hid (Rd R w' ob n cb p' f) ∧ Hid (But (fun k => k = R) w w') := by
  have rlt := h.lt
  have enl : l.length = nl := by obtain ⟨_, _, e, _⟩ := hat; cases e; rfl
  have ENL : Hid (l.length ≤ nl ∧ nl ≤ l.length) := ⟨by omega, by omega⟩
  have HAT : Hid (AtL S w l (.slice oa nl kl)) := hat
  have HSS : Hid _ := hS
  have HR0 : Hid (Row (w.alloc (.cells #[] 9)) w.heap.size 9 1 eS (.slice (some ⟨w.heap.size, 0, none⟩) 0 0) []) := Row.made w 9 1 eS (Nat.le_refl _)
  have BT0 : Hid (But (fun k => k = R) w (w.alloc (.cells #[] 9))) := but_alloc (But.refl _ w) _
  have RD0 : Hid (Rd R (w.alloc (.cells #[] 9)) ob n cb p f) := h.but (fun b hb => Below.heap_alloc _ _ _ (by omega))
  obtain ⟨i0, zz, hi, hz0, hz1, hz2, hz3⟩ := elS.info
  clear h hat hS enl
  go_enter Try.func69, Try.ntmps69
  go_wp2_with fail
  go_loopw [7, 8] (fun v i wr => ∃ (k : Nat) (M : List ByteArray) (og : Option Addr) (ng kg : Nat) (pk : Int), k ≤ nl ∧ i = .int .i64 k ∧ v = .slice og ng kg ∧ ng ≤ k ∧ pk ≤ p + k ∧ Hid (M.length ≤ ng ∧ ng ≤ M.length) ∧ Hid (∀ s ∈ M, s ∈ l) ∧ Hid (Row wr w.heap.size 9 1 eS (.slice og ng kg) M) ∧ Hid (Rd R wr ob n cb pk f) ∧ Hid (But (fun k => k = R) w wr)) (fun _ i _ => nl - (intOf i).toNat)
  case atStart => exact ⟨0, [], _, 0, _, p, Nat.zero_le _, rfl, rfl, Nat.le_refl _, by omega, ⟨Nat.le_refl _, Nat.le_refl _⟩, (fun s (hs : s ∈ []) => nomatch hs), HR0, RD0, BT0⟩
  case round =>
    obtain ⟨k, M, og, ng, kg, pk, hkn, rfl, rfl, hngk, hpk, hgl, hin, hrow, hrd, hbt⟩ := hrel
    by_cases hlt : k < nl
    · go_wp2_with fail
      refine (pick_rd R ob n cb f pk m wr hrd.out (by omega) hm hm2).mono ?_
      rintro e u ⟨x, rfl, hx0, hx1, p', hp', rd1, bt1⟩
      have BU : Hid (But (fun k => k = R) w u) := hbt.out.trans bt1.out
      have su := BU.out.size
      have GU : Hid (Row u w.heap.size 9 1 eS (.slice og ng kg) M) := Row.block hrow.out (fun g hg => by
        have h1 := World.ownsRow.lt hrow.out g hg
        exact bt1.out.block g h1.2 (fun e => by have e' : g = R := e; omega))
      have hpk' : p' ≤ p + ((k + 1 : Nat) : Int) := by omega
      clear bt1 hrd hrow hbt
      by_cases hxz : x = 0
      · subst hxz
        have hkl : k < l.length := by have := ENL.out; omega
        obtain ⟨b1, f1, e9, _, c1⟩ := atl_strO (HAT.out.same (BU.out.same (fun b hb => ⟨(HSS.out b hb).1, (HSS.out b hb).2⟩))) k hkl
        subst e9
        have ILK : Hid (l[k] ∈ l) := List.getElem_mem hkl
        obtain ⟨y, ey⟩ : ∃ y, l[k] = y := ⟨_, rfl⟩
        rw [ey] at c1 ILK
        clear ey
        have OWN : Hid ((u.alloc (.cells #[.string y] 9)).ownsRow w.heap.size 9 1 (.slice og ng kg) ng (enc 1 eS M)) := by
          have h1 := Row.below GU.out ((Below.refl _ _).alloc (Nat.le_refl _) (.cells #[.string y] 9))
          have h2 : M.length = ng := by have := hgl.out; omega
          rw [Row, h2] at h1
          exact h1
        have hlow : Hid (∀ qq, (Value.slice og ng kg).ownBlock = some qq → w.heap.size ≤ qq) := fun qq hq => (World.ownsRow.lt GU.out qq hq).1
        go_wp2_with (at_builtin; refine wpList_append_own_at _ rfl _ _ 23 rfl w.heap.size 9 i0 zz 1 16 elS.ht hi hz0 hz1 hz2 hz3 (by decide) _ _ _ rfl OWN.out ⟨u.heap.size, 0, none⟩ 1 1 [.string y] rfl rfl (cell_one_new _ _ _) (by simp [Value.oneCell']) (by unfold maxLen; omega) (by omega) (by simp; omega) ?_; intro v' u8 hown hgr _ hbk'; have ROW : Row u8 w.heap.size 9 1 eS v' (M ++ [y]) := (by show World.ownsRow _ _ _ _ _ _ _; rw [List.length_append, enc_append, show M.length = ng by have := hgl.out; omega]; exact hown); have B8 : But (fun k => k = R) w u8 := (but_alloc BU.out _).grownZ hgr (fun qq hq => hlow.out qq hq); have RD8 : Hid (Rd R u8 ob n cb p' f) := rd1.out.but (fun b hb => (hgr.block b (by simp; omega) (fun e => by have := hlow.out b e.symm; omega)).trans (Below.heap_alloc _ _ _ (by omega))); obtain ⟨ov', kv', hv'⟩ := Row.form ROW; subst hv'; have ROWH : Hid (Row u8 w.heap.size 9 1 eS (.slice ov' (M ++ [y]).length kv') (M ++ [y])) := ROW; have B8H : Hid _ := B8; clear ROW hgr hbk' hown B8)
        go_roundw
        case rel => exact ⟨k + 1, M ++ [y], ov', _, kv', p', by omega, by go_num, rfl, by have := hgl.out; simp; omega, hpk', ⟨by simp, by simp⟩, (fun s (hs : s ∈ M ++ [y]) => by
          rcases List.mem_append.1 hs with h | h
          · exact hin.out s h
          · rw [List.mem_singleton.1 h]; exact ILK.out), (by have h := ROWH; rw [List.length_append] at h; exact h), RD8, B8H⟩
        case measure => simp [intOf]; omega
      · have hx9 : (x == 0) = false := by simpa using hxz
        go_wp2_with fail
        go_roundw
        case rel => exact ⟨k + 1, M, og, ng, kg, p', by omega, by go_num, rfl, by omega, hpk', hgl, hin, GU, rd1, BU⟩
        case measure => simp [intOf]; omega
    · go_wp2_with fail
      go_ret
      exact ⟨_, M, rfl, by have := hgl.out; omega, hin.out, hrow, pk, by omega, hrd, hbt⟩

end Go.Proofs.Ythgnhjkkfhfgmab
