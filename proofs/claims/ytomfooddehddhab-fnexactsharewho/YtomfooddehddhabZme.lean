/-
  Who has a thing, by the model.
-/
import Derived.Test.YtomfooddehddhabZmg
namespace Go.Proofs.Ytomfooddehddhab
open Go.RowKit Go.Sort

/-- The name of the first batch that has it. -/
def whoF (Bs : List DShareBatch) (x : ByteArray) : ByteArray := match Bs.find? (fun f => hasB f.2.1 x) with
  | some f => f.1
  | none => ⟨#[]⟩
noncomputable def whoS (D : DShareBook) (x : ByteArray) : ByteArray := if bokB D = true then whoF D.2 x else ⟨#[]⟩
theorem who_yes {Bs : List DShareBatch} {x : ByteArray} {q : Nat} (hq : q < Bs.length) (h : hasB Bs[q].2.1 x = true) (hno : ∀ j (hj : j < Bs.length), j < q → hasB Bs[j].2.1 x = false) : whoF Bs x = Bs[q].1 := by
  have : Bs.find? (fun f => hasB f.2.1 x) = some Bs[q] := by
    rw [List.find?_eq_some_iff_getElem]
    exact ⟨h, q, hq, rfl, fun j hj => by simp [hno j (by omega) hj]⟩
  unfold whoF; rw [this]
theorem who_no {Bs : List DShareBatch} {x : ByteArray} (h : ∀ j (hj : j < Bs.length), hasB Bs[j].2.1 x = false) : whoF Bs x = ⟨#[]⟩ := by
  have : Bs.find? (fun f => hasB f.2.1 x) = none := by
    rw [List.find?_eq_none]
    intro f hf
    obtain ⟨j, hj, rfl⟩ := List.mem_iff_getElem.1 hf
    rw [h j hj]; simp
  unfold whoF; rw [this]

set_option maxRecDepth 100000 in
set_option maxHeartbeats 8000000 in
theorem whoZ_any (S : Nat → Prop) (T : List ByteArray) (Bs : List DShareBatch) (o0 oa : Option Addr) (n0 k0 nb kb : Nat) (x : ByteArray) (w : World) (h0 : AtL S w T (.slice o0 n0 k0)) (h1 : AtL S w Bs (.slice oa nb kb)) (hS : ∀ b, S b → b < w.heap.size) :
    Calls Try.prog 5 #[.agg #[.slice o0 n0 k0, .slice oa nb kb], .string x] w fun e w' => e = .returned (.string (whoS (T, Bs) x)) ∧ Below w.heap.size w w' := by
  have enb : Bs.length = nb := by obtain ⟨_, _, e, _⟩ := h1; cases e; rfl
  have hmx : nb ≤ 9223372036854775807 := by obtain ⟨_, _, e, hf, _⟩ := id h1; cases e; have := hf.1; unfold maxLen at this; omega
  have ENB : Hid (Bs.length ≤ nb ∧ nb ≤ Bs.length) := ⟨by omega, by omega⟩
  have H0 : Hid (∀ u, Below w.heap.size w u → AtL S u T (.slice o0 n0 k0)) := fun u hu => h0.same (Same.of_below hu hS)
  have H1 : Hid (∀ u, Below w.heap.size w u → AtL S u Bs (.slice oa nb kb)) := fun u hu => h1.same (Same.of_below hu hS)
  have HS : Hid (∀ u, Below w.heap.size w u → ∀ b, S b → b < u.heap.size) := fun u hu b hb => Nat.lt_of_lt_of_le (hS b hb) hu.size
  obtain ⟨W, hW⟩ : ∃ W, W = w.alloc (.cells #[.slice o0 n0 k0, .slice oa nb kb] 30) := ⟨_, rfl⟩
  have EW : Hid (W = w.alloc (.cells #[.slice o0 n0 k0, .slice oa nb kb] 30)) := hW
  have BW : Hid (Below w.heap.size w W) := by rw [hW]; exact (Below.refl _ _).alloc (Nat.le_refl _) _
  have RW : Hid (W.heap[w.heap.size]? = some (.cells #[.slice o0 n0 k0, .slice oa nb kb] 30 (0, 0))) := by rw [hW]; exact heap_alloc_new w _
  have sW : w.heap.size + 1 ≤ W.heap.size := by rw [hW]; simp
  clear hW enb
  have BOX : Hid (∀ u, Below W.heap.size W u → u.heap[w.heap.size]? = some (.cells #[.slice o0 n0 k0, .slice oa nb kb] 30 (0, 0)) ∧ Below w.heap.size w u) := fun u hu => ⟨(hu.block _ (by omega)).trans RW.out, BW.out.trans (hu.mono (by omega))⟩
  obtain ⟨R, hR⟩ : ∃ R, R = whoS (T, Bs) x := ⟨_, rfl⟩
  have HRR : Hid (R = whoS (T, Bs) x) := hR
  rw [← hR]
  clear hR
  go_enter Try.func5, Try.ntmps5
  go_wp2_with fail
  rw [← EW.out]
  go_loopw [5] (fun i wr => ∃ q : Nat, q ≤ nb ∧ i = .int .i64 q ∧ Hid (∀ j (hj : j < Bs.length), j < q → hasB Bs[j].2.1 x = false) ∧ Hid (Below W.heap.size W wr)) (fun i _ => nb - (intOf i).toNat)
  case atStart => exact ⟨0, Nat.zero_le _, rfl, fun _ _ h => by omega, Below.refl _ _⟩
  case round =>
    obtain ⟨q, hq, rfl, hall, hbel⟩ := hrel
    have HB := hbel.out
    have bwr := (BOX.out wr HB).2
    have hsz := HB.size
    have y0 := (cell_row (BOX.out wr HB).1 0 (.slice o0 n0 k0) rfl).1
    have y1 := (cell_row (BOX.out wr HB).1 1 (.slice oa nb kb) rfl).1
    by_cases hlt : q < nb
    case neg =>
      have er : R = ⟨#[]⟩ := by
        rw [HRR.out]; unfold whoS
        rw [who_no (fun i hi => hall.out i hi (by have := ENB.out; omega))]
        split <;> rfl
      go_wp2_with fail
      go_ret
      rw [er]
      exact ⟨rfl, bwr⟩
    have hqb : q < Bs.length := by have := ENB.out; omega
    have CB : Hid (Calls Try.prog 11 #[.agg #[.slice o0 n0 k0, .slice oa nb kb]] wr fun e w' => e = .returned (.bool (bokB (T, Bs))) ∧ Below wr.heap.size wr w') := bookZ_any S (T, Bs) _ _ wr (H0.out wr bwr) (H1.out wr bwr) (HS.out wr bwr)
    go_wp2_with fail
    refine CB.out.mono ?_; rintro e u ⟨rfl, hbu⟩
    have HB1 : Below W.heap.size W u := HB.trans (hbu.mono hsz)
    have B1 : Hid (Below W.heap.size W u) := HB1
    have bu := (BOX.out u HB1).2
    have s1 := HB1.size
    clear hbu y0 y1 CB
    cases hbk : bokB (T, Bs)
    · have er : R = ⟨#[]⟩ := by rw [HRR.out]; unfold whoS; rw [hbk]; rfl
      go_wp2_with fail
      go_ret
      rw [er]
      exact ⟨rfl, bu⟩
    obtain ⟨bb, off, o1, n1, k1, o2, n2, k2, rfl, hbS, e0, e1, _, a1, _, _⟩ := bat_at (H1.out u bu) q hqb
    have y1 := (cell_row (BOX.out u HB1).1 1 (.slice (some ⟨bb, off, none⟩) nb kb) rfl).1
    obtain ⟨f, ef⟩ : ∃ f, Bs[q] = f := ⟨_, rfl⟩
    rw [ef] at e0 a1
    have CH : Hid (Calls Try.prog 12 #[.slice o1 n1 k1, .string x] u fun e w' => e = .returned (.bool (hasB f.2.1 x)) ∧ Below u.heap.size u w') := hasZ_any S _ f.2.1 x u a1
    clear a1
    go_wp2_with fail
    refine CH.out.mono ?_; rintro e u2 ⟨rfl, hb2⟩
    have B2 : Hid (Below W.heap.size W u2) := B1.out.trans (hb2.mono s1)
    have bu2 := (BOX.out u2 B2.out).2
    have z0 := (hb2.cell (p := ⟨bb, off + q * 3, none⟩) (HS.out u bu bb hbS)).trans e0
    clear hb2 y1 e0 e1
    have y1 := (cell_row (BOX.out u2 B2.out).1 1 (.slice (some ⟨bb, off, none⟩) nb kb) rfl).1
    cases c0 : hasB f.2.1 x
    · have hp : hasB Bs[q].2.1 x = false := by rw [ef]; exact c0
      go_wp2_with fail
      go_roundw
      case rel => exact ⟨q + 1, by omega, by go_num, fun j hj hjq => by
        by_cases e : j = q
        · subst e; exact hp
        · exact hall.out j hj (by omega), B2⟩
      case measure => simp [intOf]; omega
    · have hp : hasB Bs[q].2.1 x = true := by rw [ef]; exact c0
      have er : R = f.1 := by rw [HRR.out]; unfold whoS; rw [hbk, if_pos rfl, ← ef]; exact who_yes hqb hp (fun j hj hjq => hall.out j hj hjq)
      go_wp2_with fail
      go_ret
      rw [er]
      exact ⟨rfl, bu2⟩

end Go.Proofs.Ytomfooddehddhab
