/-
  Whether somebody else has one of some things, by the model.
-/
import Derived.Test.YthgnhjkkfhfgmabZrt
namespace Go.Proofs.Ythgnhjkkfhfgmab
open Go.RowKit Go.Sort

/-- Whether somebody else has one of some things. -/
def takB (Bs : List DShareBatch) (a : Nat) (th : List ByteArray) : Bool := (List.range Bs.length).any fun j => !(j == a) && shareB (btN Bs j).2.1 th

set_option maxRecDepth 100000 in
set_option maxHeartbeats 16000000 in
theorem takZ_any (S : Nat → Prop) (Bs : List DShareBatch) (o0 oa : Option Addr) (n0 k0 nb kb : Nat) (SN : Nat → Prop) (th : List ByteArray) (on : Option Addr) (nn kn a : Nat) (w : World) (h1 : AtL S w Bs (.slice oa nb kb)) (hS : ∀ b, S b → b < w.heap.size) (hN : AtL SN w th (.slice on nn kn)) (hSN : ∀ b, SN b → b < w.heap.size) (ha : a < Bs.length) :
    Calls Try.prog 79 #[.agg #[.slice o0 n0 k0, .slice oa nb kb], .int .i64 a, .slice on nn kn] w fun e w' => e = .returned (.bool (takB Bs a th)) ∧ Below w.heap.size w w' := by
  have HN : Hid (∀ u, Below w.heap.size w u → AtL SN u th (.slice on nn kn)) := fun u hu => hN.same (Same.of_below hu hSN)
  have HSN : Hid (∀ u, Below w.heap.size w u → ∀ b, SN b → b < u.heap.size) := fun u hu b hb => Nat.lt_of_lt_of_le (hSN b hb) hu.size
  have enb : Bs.length = nb := by obtain ⟨_, _, e, _⟩ := h1; cases e; rfl
  have hmx : nb ≤ 9223372036854775807 := by obtain ⟨_, _, e, hf, _⟩ := id h1; cases e; have := hf.1; unfold maxLen at this; omega
  have ENB : Hid (Bs.length ≤ nb ∧ nb ≤ Bs.length) := ⟨by omega, by omega⟩
  have H1 : Hid (∀ u, Below w.heap.size w u → AtL S u Bs (.slice oa nb kb)) := fun u hu => h1.same (Same.of_below hu hS)
  have HS : Hid (∀ u, Below w.heap.size w u → ∀ b, S b → b < u.heap.size) := fun u hu b hb => Nat.lt_of_lt_of_le (hS b hb) hu.size
  obtain ⟨W, hW⟩ : ∃ W, W = w.alloc (.cells #[.slice o0 n0 k0, .slice oa nb kb] 26) := ⟨_, rfl⟩
  have EW : Hid (W = w.alloc (.cells #[.slice o0 n0 k0, .slice oa nb kb] 26)) := hW
  have BW : Hid (Below w.heap.size w W) := by rw [hW]; exact (Below.refl _ _).alloc (Nat.le_refl _) _
  have RW : Hid (W.heap[w.heap.size]? = some (.cells #[.slice o0 n0 k0, .slice oa nb kb] 26 (0, 0))) := by rw [hW]; exact heap_alloc_new w _
  have sW : w.heap.size + 1 ≤ W.heap.size := by rw [hW]; simp
  have han : a < nb := by omega
  clear hW enb h1 hN ha
  have BOX : Hid (∀ u, Below W.heap.size W u → u.heap[w.heap.size]? = some (.cells #[.slice o0 n0 k0, .slice oa nb kb] 26 (0, 0)) ∧ Below w.heap.size w u) := fun u hu => ⟨(hu.block _ (by omega)).trans RW.out, BW.out.trans (hu.mono (by omega))⟩
  go_enter Try.func79, Try.ntmps79
  go_wp2_with fail
  rw [← EW.out]
  go_loopw [7] (fun i wr => ∃ q : Nat, q ≤ nb ∧ i = .int .i64 q ∧ Hid (∀ j, j < q → (!(j == a) && shareB (btN Bs j).2.1 th) = false) ∧ Hid (Below W.heap.size W wr)) (fun i _ => nb - (intOf i).toNat)
  case atStart => exact ⟨0, Nat.zero_le _, rfl, fun _ h => by omega, Below.refl _ _⟩
  case round =>
    obtain ⟨q, hq, rfl, hall, hbel⟩ := hrel
    have HB := hbel.out
    have bwr := (BOX.out wr HB).2
    have hsz := HB.size
    have y0 := (cell_row (BOX.out wr HB).1 0 (.slice o0 n0 k0) rfl).1
    have y1 := (cell_row (BOX.out wr HB).1 1 (.slice oa nb kb) rfl).1
    by_cases hlt : q < nb
    case neg =>
      have hno : takB Bs a th = false := by
        unfold takB
        rw [List.any_eq_false]
        intro j hj
        have h1 := hall.out j (by have := ENB.out; have := List.mem_range.1 hj; omega)
        rw [h1]
        simp
      go_wp2_with fail
      go_ret
      rw [hno]
      exact ⟨rfl, bwr⟩
    have hqb : q < Bs.length := by have := ENB.out; omega
    obtain ⟨bb, off, o1, n1, k1, o2, n2, k2, rfl, hbS, e0, e1, e2, a1, a2, z0⟩ := bat_at (H1.out wr bwr) q hqb
    rw [← btN_at hqb] at a1
    have CS : Hid (Calls Try.prog 28 #[.slice o1 n1 k1, .slice on nn kn] wr fun e w' => e = .returned (.bool (shareB (btN Bs q).2.1 th)) ∧ Below wr.heap.size wr w') := shareZ_any (fun b => S b ∨ SN b) _ _ _ _ wr (AtL.up a1 (fun b hb => Or.inl hb)) (AtL.up (HN.out wr bwr) (fun b hb => Or.inr hb)) (fun b hb => hb.elim (HS.out wr bwr b) (HSN.out wr bwr b))
    clear e0 e2 a1 a2 z0 hbS
    by_cases hqa : q = a
    · have hqn : ((q : Int) != (a : Int)) = false := by simp [hqa]
      have hw0 : Hid ((!(q == a) && shareB (btN Bs q).2.1 th) = false) := by show _ = _; simp [hqa]
      clear hqa CS
      go_wp2_with fail
      go_roundw
      case rel => exact ⟨q + 1, by omega, by go_num, fun j hj => by
        by_cases e : j = q
        · subst e; exact hw0.out
        · exact hall.out j (by omega), hbel⟩
      case measure => simp [intOf]; omega
    have hqn : ((q : Int) != (a : Int)) = true := by simp; omega
    have hqa' : (q == a) = false := by simpa using hqa
    have HQ : Hid ((q == a) = false) := hqa'
    clear hqa hqa'
    go_wp2_with fail
    refine CS.out.mono ?_; rintro e u ⟨rfl, hbu⟩
    have BU : Hid (Below W.heap.size W u) := HB.trans (hbu.mono hsz)
    clear hbu CS y0 y1 e1
    cases c1 : shareB (btN Bs q).2.1 th
    case false =>
      go_wp2_with fail
      go_roundw
      case rel => exact ⟨q + 1, by omega, by go_num, fun j hj => by
        by_cases e : j = q
        · subst e; rw [c1]; simp
        · exact hall.out j (by omega), BU⟩
      case measure => simp [intOf]; omega
    have hyes : takB Bs a th = true := by
      unfold takB
      rw [List.any_eq_true]
      exact ⟨q, List.mem_range.2 hqb, by rw [HQ.out, c1]; rfl⟩
    have BUW : Hid (Below w.heap.size w u) := (BOX.out u BU.out).2
    go_wp2_with fail
    go_ret
    rw [hyes]
    exact ⟨rfl, BUW.out⟩

end Go.Proofs.Ythgnhjkkfhfgmab
