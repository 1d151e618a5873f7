/-
  Several texts in one.
-/
import Derived.Test.YtidojjecjjochadGreatDoorM28
import Derived.Test.YtidojjecjjochadGreatDoorM9
import Derived.Deep.Cut
import Derived.Maps.AppendAt
import Derived.Test.YtidojjecjjochadGreatDoorM26
import Derived.Lib.Overlaps
import Derived.Lib.AppendZerosOnto
import Derived.Laws.CopyRow
import Derived.WalkKit
/-
  The model's ShareOrder.
-/
namespace Go.Proofs.YtidojjecjjochadGreatDoor
open Go.RowKit Go.Sort

/-- All go, one behind the other, as long as one can: from here on, so many still to go. -/
def ordF (Bs : List DShareBatch) : Nat → List ByteArray → List ByteArray × Bool
  | 0, g => (g, true)
  | n + 1, g => if nxtI Bs g < 0 then ([], false) else ordF Bs n (g ++ [(btN Bs (nxtI Bs g).toNat).1])
noncomputable def ordS (D : DShareBook) : List ByteArray × Bool := if bokB D = true then ordF D.2 D.2.length [] else ([], false)
theorem nxt_lt {Bs : List DShareBatch} {g : List ByteArray} (h : ¬ nxtI Bs g < 0) : ∃ q : Nat, nxtI Bs g = (q : Int) ∧ q < Bs.length := by
  unfold nxtI idxI at h ⊢
  cases e : (List.range Bs.length).findIdx? (freeB Bs g) with
  | none => rw [e] at h; simp at h
  | some i =>
    refine ⟨i, rfl, ?_⟩
    have := List.findIdx?_eq_some_iff_getElem.1 e
    obtain ⟨h1, _⟩ := this
    simpa using h1
def lenV (v : Value) : Nat := match v with
  | .slice _ n _ => n
  | _ => 0

set_option maxRecDepth 100000 in
set_option maxHeartbeats 16000000 in
theorem orderZ_any (S : Nat → Prop) (T : List ByteArray) (Bs : List DShareBatch) (o0 oa : Option Addr) (n0 k0 nb kb : Nat) (w : World) (h0 : AtL S w T (.slice o0 n0 k0)) (h1 : AtL S w Bs (.slice oa nb kb)) (hS : ∀ b, S b → b < w.heap.size) :
    Calls Tryz.prog 36 #[.agg #[.slice o0 n0 k0, .slice oa nb kb]] w fun e w' => ∃ q, e = .returned (.tuple #[q, .bool (ordS (T, Bs)).2]) ∧ Row w' w.heap.size 9 1 eS q (ordS (T, Bs)).1 ∧ Below w.heap.size w w' := by
  have enb : Bs.length = nb := by obtain ⟨_, _, e, _⟩ := h1; cases e; rfl
  have hmx : nb ≤ 9223372036854775807 := by obtain ⟨_, _, e, hf, _⟩ := id h1; cases e; have := hf.1; unfold maxLen at this; omega
  have ENB : Hid (Bs.length ≤ nb ∧ nb ≤ Bs.length) := ⟨by omega, by omega⟩
  have H0 : Hid (∀ u, Below w.heap.size w u → AtL S u T (.slice o0 n0 k0)) := fun u hu => h0.same (Same.of_below hu hS)
  have H1 : Hid (∀ u, Below w.heap.size w u → AtL S u Bs (.slice oa nb kb)) := fun u hu => h1.same (Same.of_below hu hS)
  have HS : Hid (∀ u, Below w.heap.size w u → ∀ b, S b → b < u.heap.size) := fun u hu b hb => Nat.lt_of_lt_of_le (hS b hb) hu.size
  obtain ⟨W, hW⟩ : ∃ W, W = w.alloc (.cells #[.slice o0 n0 k0, .slice oa nb kb] 30) := ⟨_, rfl⟩
  have EW : Hid (W = w.alloc (.cells #[.slice o0 n0 k0, .slice oa nb kb] 30)) := hW
  have BW : Hid (Below w.heap.size w W) := by rw [hW]; exact (Below.refl _ _).alloc (Nat.le_refl _) _
  have RW : Hid (W.heap[w.heap.size]? = some (.cells #[.slice o0 n0 k0, .slice oa nb kb] 30 (0, 0))) := by rw [hW]; exact heap_alloc_new w _
  have sW : w.heap.size + 1 ≤ W.heap.size := by rw [hW]; simp
  clear hW enb
  have BOX : Hid (∀ u, Below W.heap.size W u → u.heap[w.heap.size]? = some (.cells #[.slice o0 n0 k0, .slice oa nb kb] 30 (0, 0)) ∧ Below w.heap.size w u) := fun u hu => ⟨(hu.block _ (by omega)).trans RW.out, BW.out.trans (hu.mono (by omega))⟩
  obtain ⟨R, hR⟩ : ∃ R, R = ordS (T, Bs) := ⟨_, rfl⟩
  have HRR : Hid (R = ordS (T, Bs)) := hR
  rw [← hR]
  clear hR
  obtain ⟨W1, hW1⟩ : ∃ W1, W1 = W.alloc (.cells #[] 9) := ⟨_, rfl⟩
  have EW1 : Hid (W1 = W.alloc (.cells #[] 9)) := hW1
  have BW1 : Hid (Below W.heap.size W W1) := by rw [hW1]; exact (Below.refl _ _).alloc (Nat.le_refl _) _
  have G0 : Hid (Row W1 W.heap.size 9 1 eS (.slice (some ⟨W.heap.size, 0, none⟩) 0 0) []) := by
    show World.ownsRow _ _ _ _ _ _ _
    rw [hW1]
    exact own_built (c := #[]) (by omega) (by unfold maxLen; omega) rfl
  have sW1 : W.heap.size + 1 ≤ W1.heap.size := by rw [hW1]; simp
  clear hW1
  have HB := BW1.out
  have y0 := (cell_row (BOX.out W1 HB).1 0 (.slice o0 n0 k0) rfl).1
  have y1 := (cell_row (BOX.out W1 HB).1 1 (.slice oa nb kb) rfl).1
  have CB : Hid (Calls Tryz.prog 16 #[.agg #[.slice o0 n0 k0, .slice oa nb kb]] W1 fun e w' => e = .returned (.bool (bokB (T, Bs))) ∧ Below W1.heap.size W1 w') := bookZ_any S (T, Bs) _ _ W1 (H0.out W1 (BOX.out W1 HB).2) (H1.out W1 (BOX.out W1 HB).2) (HS.out W1 (BOX.out W1 HB).2)
  go_enter Tryz.func36, Tryz.ntmps36
  go_upto_region 1 with fail
  rw [← EW.out]
  go_upto_region 2 with fail
  rw [← EW1.out]
  go_wp2_with fail
  refine CB.out.mono ?_; rintro e u ⟨rfl, hbu⟩
  have BU : Hid (Below W.heap.size W u) := HB.trans (hbu.mono HB.size)
  have GU : Hid (Row u W.heap.size 9 1 eS (.slice (some ⟨W.heap.size, 0, none⟩) 0 0) []) := Row.below G0.out hbu
  clear hbu y0 y1 HB CB
  cases hbk : bokB (T, Bs)
  · have er : R = ([], false) := by rw [HRR.out]; unfold ordS; rw [hbk]; rfl
    subst er
    go_wp2_with fail
    exact bodyPost_ret (v := .tuple #[.slice (some ⟨W.heap.size, 0, none⟩) 0 0, .bool false]) (by simp [results, Tryz.results36, go_sem]) rfl ⟨_, rfl, Row.low GU.out (by omega), (BOX.out u BU.out).2⟩
  have hst : R = ordF Bs Bs.length [] := by rw [HRR.out]; unfold ordS; rw [hbk]; rfl
  have hnb5 : nb ≤ 5 := by have h1 := (bok_iff.1 hbk).len; have h2 := ENB.out; simp only at h1; omega
  go_wp2_with fail
  go_loopw [4] (fun v wr => ∃ (gone : List ByteArray) (og : Option Addr) (kg ng : Nat), v = .slice og ng kg ∧ ng ≤ nb ∧ Hid (gone.length ≤ ng ∧ ng ≤ gone.length) ∧ Hid (Row wr W.heap.size 9 1 eS (.slice og ng kg) gone) ∧ Hid (∀ x ∈ gone, x.size ≤ maxLen) ∧ Hid (R = ordF Bs (Bs.length - gone.length) gone) ∧ Hid (Below W.heap.size W wr)) (fun v _ => nb - lenV v)
  case atStart => exact ⟨[], _, _, 0, rfl, Nat.zero_le _, ⟨Nat.le_refl _, Nat.le_refl _⟩, GU, fun x hx => by simp at hx, hst, BU⟩
  case round =>
    obtain ⟨gone, og, kg, ng, rfl, hng, hgl, hrow, hok, hor, hbel⟩ := hrel
    have HB := hbel.out
    have bwr := (BOX.out wr HB).2
    have hsz := HB.size
    have y0 := (cell_row (BOX.out wr HB).1 0 (.slice o0 n0 k0) rfl).1
    have y1 := (cell_row (BOX.out wr HB).1 1 (.slice oa nb kb) rfl).1
    by_cases hlt : ng < nb
    case neg =>
      have er : R = (gone, true) := by
        rw [hor.out, show Bs.length - gone.length = 0 by have := ENB.out; have := hgl.out; omega]; rfl
      subst er
      go_wp2_with fail
      exact bodyPost_ret (v := .tuple #[.slice og ng kg, .bool true]) (by simp [results, Tryz.results36, go_sem]) rfl ⟨_, rfl, Row.low hrow.out (by omega), bwr⟩
    have hmore : R = if nxtI Bs gone < 0 then ([], false) else ordF Bs (Bs.length - gone.length - 1) (gone ++ [(btN Bs (nxtI Bs gone).toNat).1]) := by
      have h1 := ENB.out
      have h2 := hgl.out
      have h3 := hor.out
      obtain ⟨k, ek⟩ : ∃ k, Bs.length - gone.length = k + 1 := ⟨Bs.length - gone.length - 1, by omega⟩
      rw [ek] at h3 ⊢
      rw [h3]; rfl
    have hlt' := World.ownsRow.lt hrow.out
    have hlow : Hid (∀ qq, (Value.slice og ng kg).ownBlock = some qq → W.heap.size ≤ qq) := fun qq hq => (hlt' qq hq).1
    have AG : AtL (fun b => W.heap.size ≤ b ∧ b < wr.heap.size) wr gone (.slice og ng kg) := flatS.row_at hrow.out (fun q hq => hlt' q hq) (fun x hx => hok.out x hx)
    have CN : Hid (Calls Tryz.prog 44 #[.agg #[.slice o0 n0 k0, .slice oa nb kb], .slice og ng kg] wr fun e w' => e = .returned (.int .i64 (nxtI Bs gone)) ∧ Below wr.heap.size wr w') := nextZ_any S T Bs _ _ _ _ _ _ _ gone og ng kg wr (H0.out wr bwr) (H1.out wr bwr) (HS.out wr bwr) AG (fun b hb => hb.2)
    clear AG hlt'
    go_wp2_with fail
    refine CN.out.mono ?_; rintro e u ⟨rfl, hbu⟩
    have BU2 : Hid (Below W.heap.size W u) := HB.trans (hbu.mono hsz)
    have GU2 : Hid (Row u W.heap.size 9 1 eS (.slice og ng kg) gone) := Row.below hrow.out hbu
    have su := BU2.out.size
    clear hbu y0 y1 CN
    by_cases hneg : nxtI Bs gone < 0
    · have er : R = ([], false) := by rw [hmore, if_pos hneg]
      subst er
      have GE : Row (u.alloc (.cells #[] 9)) w.heap.size 9 1 eS (.slice (some ⟨u.heap.size, 0, none⟩) 0 0) [] := own_built (c := #[]) (by omega) (by unfold maxLen; omega) rfl
      have BE : Below w.heap.size w (u.alloc (.cells #[] 9)) := ((BOX.out u BU2.out).2).alloc (by omega) _
      go_wp2_with fail
      exact bodyPost_ret (v := .tuple #[.slice (some ⟨u.heap.size, 0, none⟩) 0 0, .bool false]) (by simp [results, Tryz.results36, go_sem]) rfl ⟨_, rfl, GE, BE⟩
    obtain ⟨q, eq, hqb⟩ := nxt_lt hneg
    rw [if_neg hneg, eq, Int.toNat_natCast, btN_at hqb] at hmore
    have HMO : Hid _ := hmore
    clear hmore hor
    rw [eq]
    have bu := (BOX.out u BU2.out).2
    obtain ⟨bb, off, o1, n1, k1, o2, n2, k2, rfl, hbS, e0, _, _, _, _, z0⟩ := bat_at (H1.out u bu) q hqb
    have y1 := (cell_row (BOX.out u BU2.out).1 1 (.slice (some ⟨bb, off, none⟩) nb kb) rfl).1
    obtain ⟨f, ef⟩ : ∃ f, Bs[q] = f := ⟨_, rfl⟩
    rw [ef] at e0 z0 HMO
    have hqn : q < nb := by have := ENB.out; omega
    have hng0 : ¬ ((q : Int) < 0) := by omega
    obtain ⟨i0, zz, hi, hz0, hz1, hz2, hz3⟩ := elS.info
    have OWN : Hid ((u.alloc (.cells #[.string f.1] 9)).ownsRow W.heap.size 9 1 (.slice og ng kg) ng (enc 1 eS gone)) := by
      have h1 := Row.below GU2.out ((Below.refl _ _).alloc (Nat.le_refl _) (.cells #[.string f.1] 9))
      have h2 : gone.length = ng := by have := hgl.out; omega
      rw [Row, h2] at h1
      exact h1
    clear hneg
    go_wp2_with (at_builtin; refine wpList_append_own_at _ rfl _ _ 22 rfl W.heap.size 9 i0 zz 1 16 elS.ht hi hz0 hz1 hz2 hz3 (by decide) _ _ _ rfl OWN.out ⟨u.heap.size, 0, none⟩ 1 1 [.string f.1] rfl rfl (cell_one_new _ _ _) (by simp [Value.oneCell']) (by unfold maxLen; omega) (by omega) (by simp; omega) ?_; intro v' u8 hown hgr _ hbk'; have ROW : Row u8 W.heap.size 9 1 eS v' (gone ++ [f.1]) := (by show World.ownsRow _ _ _ _ _ _ _; rw [List.length_append, enc_append, show gone.length = ng by have := hgl.out; omega]; exact hown); have B8 : Below W.heap.size W u8 := (BU2.out.alloc su _).grown hgr (by simp; omega) (fun qq hq => by have := hlow.out qq hq; omega); obtain ⟨ov', kv', hv'⟩ := Row.form ROW; subst hv'; have ROWH : Hid (Row u8 W.heap.size 9 1 eS (.slice ov' (gone ++ [f.1]).length kv') (gone ++ [f.1])) := ROW; have B8H : Hid _ := B8; clear ROW hgr hbk' hown B8)
    go_roundw
    case rel => exact ⟨gone ++ [f.1], ov', kv', _, rfl, by have := hgl.out; omega, ⟨by simp, by simp⟩, (by have h := ROWH; rw [List.length_append] at h; exact h), fun x hx => by
      rcases List.mem_append.1 hx with h | h
      · exact hok.out x h
      · simp at h; rw [h]; exact z0, by
        show R = _
        rw [HMO.out, List.length_append, show Bs.length - (gone.length + [f.1].length) = Bs.length - gone.length - 1 by simp; omega], B8H⟩
    case measure => simp [lenV]; have := hgl.out; omega

end Go.Proofs.YtidojjecjjochadGreatDoor

/-
  The model's ShareSafe.
-/
namespace Go.Proofs.YtidojjecjjochadGreatDoor
open Go.RowKit Go.Sort

set_option maxRecDepth 100000 in
set_option maxHeartbeats 8000000 in
theorem safeZ_any (S : Nat → Prop) (T : List ByteArray) (Bs : List DShareBatch) (o0 oa : Option Addr) (n0 k0 nb kb : Nat) (w : World) (h0 : AtL S w T (.slice o0 n0 k0)) (h1 : AtL S w Bs (.slice oa nb kb)) (hS : ∀ b, S b → b < w.heap.size) :
    Calls Tryz.prog 22 #[.agg #[.slice o0 n0 k0, .slice oa nb kb]] w fun e w' => e = .returned (.bool (ordS (T, Bs)).2) ∧ Below w.heap.size w w' := by
  go_enter Tryz.func22, Tryz.ntmps22
  go_wp2_with fail
  refine (orderZ_any S T Bs _ _ _ _ _ _ _ (h0.same (Same.of_alloc w _ hS)) (h1.same (Same.of_alloc w _ hS)) (fun b hb => by have := hS b hb; simp; omega)).mono ?_; rintro e u ⟨q, rfl, _, hbu⟩
  go_wp2_with fail
  go_ret
  exact ⟨rfl, ((Below.refl _ _).alloc (Nat.le_refl _) _).trans (hbu.mono (by simp))⟩

end Go.Proofs.YtidojjecjjochadGreatDoor

/-
  What asking makes of a book, plain.
-/
namespace Go.Proofs.YtidojjecjjochadGreatDoor
open Go.RowKit Go.Sort

def insF (l th : List ByteArray) : List ByteArray := th.foldl insR l
theorem insR_memM : ∀ {l : List ByteArray} {x y : ByteArray}, y ∈ insR l x → y ∈ l ∨ y = x
  | [], x, y, h => by simp [insR] at h; exact Or.inr h
  | z :: l, x, y, h => by
    unfold insR at h
    cases h1 : ltB z x
    · rw [h1] at h
      cases h2 : eqB z x
      · rw [h2] at h
        rcases List.mem_cons.1 h with h | h
        · exact Or.inr h
        · exact Or.inl h
      · rw [h2] at h
        exact Or.inl h
    · rw [h1] at h
      rcases List.mem_cons.1 h with h | h
      · exact Or.inl (by rw [h]; exact List.mem_cons_self)
      · rcases insR_memM h with h | h
        · exact Or.inl (List.mem_cons_of_mem _ h)
        · exact Or.inr h
theorem insF_mem : ∀ {th l : List ByteArray} {y : ByteArray}, y ∈ insF l th → y ∈ l ∨ y ∈ th
  | [], _, _, h => Or.inl h
  | x :: th, l, y, h => by
    have h1 : y ∈ insF (insR l x) th := h
    rcases insF_mem h1 with h | h
    · rcases insR_memM h with h | h
      · exact Or.inl h
      · exact Or.inr (by rw [h]; exact List.mem_cons_self)
    · exact Or.inr (List.mem_cons_of_mem _ h)
theorem insF_len : ∀ (th l : List ByteArray), (insF l th).length ≤ l.length + th.length
  | [], _ => Nat.le_refl _
  | x :: th, l => by
    have h1 := insF_len th (insR l x)
    have h2 := insR_len l x
    have h3 : insF l (x :: th) = insF (insR l x) th := rfl
    rw [h3, List.length_cons]
    omega
theorem insF_next (l : List ByteArray) {th : List ByteArray} {k : Nat} (hk : k < th.length) : insF l (th.take (k + 1)) = insR (insF l (th.take k)) th[k] := by
  rw [List.take_add_one, List.getElem?_eq_getElem hk]
  show List.foldl insR l (th.take k ++ [th[k]]) = _
  rw [List.foldl_append]
  rfl
def askB (f : DShareBatch) (th : List ByteArray) : DShareBatch := (f.1, insF f.2.1 th, f.2.2)
noncomputable def askS (D : DShareBook) (x : ByteArray) (th : List ByteArray) : DShareBook × Int :=
  if bokB D = true then (if atI D.2 x < 0 then (D, 3) else if subB (btN D.2 (atI D.2 x).toNat).2.2 th = true then (if takB D.2 (atI D.2 x).toNat th = true then (D, 5) else if (ordS D).2 = true ∧ (ordS (D.1, D.2.set (atI D.2 x).toNat (askB (btN D.2 (atI D.2 x).toNat) th))).2 = false then (D, 6) else ((D.1, D.2.set (atI D.2 x).toNat (askB (btN D.2 (atI D.2 x).toNat) th)), 0)) else (D, 2)) else (([], []), 1)
theorem bok_eight {D : DShareBook} (h : BokP D) {i : Nat} (hi : i < D.2.length) : D.2[i].2.1.length ≤ 8 ∧ D.2[i].2.2.length ≤ 8 := by
  have hb := (h.row i hi).bat
  unfold batB at hb
  simp only [Bool.and_eq_true] at hb
  have e1 := sub_lenM hb.1.2
  have e2 := sub_lenM hb.2
  have e3 := (bok_small h).2.1
  omega
theorem ask_small {D : DShareBook} (h : BokP D) {q : Nat} (hq : q < D.2.length) {th : List ByteArray} (hs : subB (btN D.2 q).2.2 th = true) : SmD (D.1, D.2.set q (askB (btN D.2 q) th)) := by
  have h1 := (bok_small h).1
  rw [btN_at hq] at hs ⊢
  have h2 := h1.2.2 _ (List.getElem_mem hq)
  have h3 := bok_eight h hq
  have h4 := sub_lenM hs
  have h5 := SmL.of_sub h2.2.2 hs (by omega)
  refine ⟨h1.1, sm_set h1.2 ⟨h2.1, ⟨?_, fun y hy => ?_⟩, h2.2.2⟩⟩
  · have := insF_len th D.2[q].2.1
    show (insF D.2[q].2.1 th).length ≤ 64
    omega
  · rcases insF_mem hy with hy | hy
    · exact h2.2.1.2 y hy
    · exact h5.2 y hy
theorem enc_SM (l : List ByteArray) : enc 1 eS l = l.map .string := by
  induction l with
  | nil => rfl
  | cons x l ih => rw [enc_cons, ih]; rfl
theorem BkO.set1 {B : Nat} {w : World} {g cap nb : Nat} {v0 : Value} {T : List ByteArray} {L : List HB} (h : BkO B w v0 (.slice (some ⟨g, 0, none⟩) nb cap) T L) (hl : L.length = nb) {q : Nat} (hq : q < L.length) {hv : Value} {hs : List ByteArray} (hh : Row w B 9 1 eS hv hs) (zh : ∀ s ∈ hs, s.size ≤ maxLen) (ho : ∃ b, hv.ownBlock = some b) :
    BkO B (w.setCell ⟨g, q * 3 + 1, none⟩ hv) v0 (.slice (some ⟨g, 0, none⟩) nb cap) T (L.set q (L[q].1, (hv, hs), L[q].2.2)) := by
  subst hl
  have h2 := (Row.put h.bs.ro hq (j := 1) (by omega) hv (L[q].1, (hv, hs), L[q].2.2) (fun j hj => by rcases (show j = 0 ∨ j = 1 ∨ j = 2 by omega) with rfl | rfl | rfl <;> rfl)).1
  have KP : ∀ (b : Nat) (c : Array Value), w.heap[b]? = some (.cells c 9 (0, 0)) → (w.setCell ⟨g, q * 3 + 1, none⟩ hv).heap[b]? = w.heap[b]? := fun b c hc => by
    have hb : b ≠ g := fun e => by
      obtain ⟨c', hc'⟩ := Row.typed h.bs.ro g rfl
      rw [← e, hc] at hc'
      injection hc' with h1
      injection h1 with _ h2
      revert h2
      decide
    exact Below.heap_setCell _ _ _ _ hb
  refine ⟨strRow_kept h.th KP, h.zt, ⟨h2, fun y hy => ?_⟩, fun y hy => ?_, fun e => ?_⟩
  · rcases List.mem_or_eq_of_mem_set hy with hy | rfl
    · exact (h.bs.el y hy).kept KP
    · exact ⟨strRow_kept hh KP, strRow_kept (h.bs.el _ (List.getElem_mem hq)).n KP, (h.bs.el _ (List.getElem_mem hq)).z, zh, (h.bs.el _ (List.getElem_mem hq)).zn⟩
  · rcases List.mem_or_eq_of_mem_set hy with hy | rfl
    · exact h.nh y hy
    · exact ho
  · have := congrArg List.length e
    rw [List.length_set, List.length_nil] at this
    omega

end Go.Proofs.YtidojjecjjochadGreatDoor

/-
  'copy(d, s)' into a row, elements of whatever size; what slices.Insert leaves in a row. No program is named here.
-/
namespace Go.Proofs.YtidojjecjjochadGreatDoor
open Go.RowKit

theorem run_copy_k {P : Program} (w : World) (dT sT ty elem : TypeId) (K : Nat) (g o dLen dCap : Nat) (a : Addr) (sLen sCap : Nat) (cur : Array Value) (t : TypeId) (cs : List Value)
    (hu : P.underlying dT = some (.slice elem)) (hs : (P.info? elem).map (·.size) = some K)
    (hg : w.heap[g]? = some (.cells cur t (0, 0))) (n : Nat) (hn : n = Nat.min sLen dLen) (hcs : cs.length = n * K)
    (hsrc : ∀ j v, cs[j]? = some v → w.cell? (a.add j) = some v) (hfit : o + cs.length ≤ cur.size) (h1 : ∀ v ∈ cs, v.oneCell' = true) :
    (Builtin.copy_ #[dT, sT] ty #[.slice (some ⟨g, o, none⟩) dLen dCap, .slice (some a) sLen sCap]).run P w =
      .ok (goInt n) (w.setRow g (cur.toList.take o ++ cs ++ cur.toList.drop (o + cs.length)).toArray) := by
  have hl := run_loadCells_list (P := P) w a cs hsrc
  have hst := run_storeCells_at P g o t cs 0 cur w hg (by simpa using hfit) h1
  rw [hcs] at hl
  cases hq : P.info? elem with
  | none => simp [hq] at hs
  | some i =>
    have hi : i.size = K := by simpa [hq] using hs
    simp [Builtin.copy_, run_underlying hu, Builtin.lenOf, Builtin.firstCells, sizeOf, typeInfo, hq, hi, ← hn, hl, hst]

theorem wp_copy_k {P : Program} (w : World) {o : Oper} {a : Act} {K : Act → World → Prop} {Q : Exit → Act → World → Prop} (d s : Operand) (t t' : TypeId)
    (ho : o.op = .call { callee := .builtin .copy, args := #[d, s], argTypes := #[t, t'] }) (v u : Value) (hd : a.eval d = v) (hs : a.eval s = u) {v' : Value} {w' : World}
    (hr : (Builtin.copy_ #[t, t'] o.type #[v, u]).run P w = .ok v' w') (h : K (a.put o.dst v') w') : o.wp P a w K Q := by
  unfold Oper.wp execOp
  simp only [ho, resolve, invoke, builtin, Sem.run_bind, Sem.run_pure, Result.andThen_ok, List.map_toArray, List.map_cons, List.map_nil, hd, hs, hr]
  exact h
theorem wpList_copy_k {P : Program} (w : World) {ops : Array Oper} {rest : List Oper} {o : Oper} {a : Act} {Q : Exit → Act → World → Prop} (hgd : o.guard = none) (d s : Operand) (t t' : TypeId)
    (ho : o.op = .call { callee := .builtin .copy, args := #[d, s], argTypes := #[t, t'] }) (v u : Value) (hd : a.eval d = v) (hs : a.eval s = u) {v' : Value} {w' : World}
    (hr : (Builtin.copy_ #[t, t'] o.type #[v, u]).run P w = .ok v' w') (h : wpList P ops Q rest (a.put o.dst v') w') : wpList P ops Q (o :: rest) a w :=
  wpList_plain hgd fun _ hK => wp_copy_k w d s t t' ho v u hd hs hr (hK _ _ h)
theorem step_copy_k {P : Program} {ops : Array Oper} {o : Oper} {a : Act} {w : World} {K : Act → World → Prop} {Q : Exit → Act → World → Prop} {E : Prop}
    (hg : o.guard = none) (d x : Operand) (dT sT : TypeId) (hop : o.op = Op.call { callee := Callee.builtin Builtin.copy, args := #[d, x], argTypes := #[dT, sT] })
    (v u : Value) (hd : a.eval d = v) (hx : a.eval x = u) {v' : Value} {w' : World} (hr : (Builtin.copy_ #[dT, sT] o.type #[v, u]).run P w = .ok v' w') (hK : K (a.put o.dst v') w') :
    if Region.wanted o (yielded ops a.tmps) = true then Oper.wp P o a w K Q else E := by
  have hw : Region.wanted o (yielded ops a.tmps) = true := by simp [Region.wanted, hg]
  rw [if_pos hw]
  exact wp_copy_k w d x dT sT hop v u hd hx hr hK

/-- A row's cells with a hole made and filled: what lies at the front. -/
theorem shift_front (c A X D R : List Value) (hA : c.take A.length = A) (hR : A.length + X.length + D.length ≤ c.length) (h : ∃ c1 : List Value, c1 = c.take (A.length + X.length) ++ D ++ c.drop (A.length + X.length + D.length) ∧ R = c1.take A.length ++ X ++ c1.drop (A.length + X.length)) :
    R.take (A.length + X.length + D.length) = A ++ X ++ D ∧ R.length = c.length := by
  obtain ⟨c1, rfl, rfl⟩ := h
  have e1 : (c.take (A.length + X.length) ++ D ++ c.drop (A.length + X.length + D.length)).take A.length = A := by
    rw [List.append_assoc, List.take_append_of_le_length (by simp; omega), List.take_take, Nat.min_eq_left (by omega)]
    exact hA
  have e2 : (c.take (A.length + X.length) ++ D ++ c.drop (A.length + X.length + D.length)).drop (A.length + X.length) = D ++ c.drop (A.length + X.length + D.length) := by
    rw [List.append_assoc, List.drop_append_of_le_length (by simp; omega), List.drop_of_length_le (by simp; omega), List.nil_append]
  rw [e1, e2]
  constructor
  · rw [← List.append_assoc, List.take_append_of_le_length (by simp; omega), List.take_of_length_le (by simp; omega)]
  · simp; omega
end Go.Proofs.YtidojjecjjochadGreatDoor
