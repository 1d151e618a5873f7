/-
  A batch in memory; who can have all they need.
-/
import Derived.Test.YthgnhjkkfhfgmabZmb
namespace Go.Proofs.Ythgnhjkkfhfgmab
open Go.RowKit Go.Sort

theorem bat_at {S : Nat → Prop} {w : World} {Bs : List DShareBatch} {oa : Option Addr} {nb kb : Nat} (h : AtL S w Bs (.slice oa nb kb)) (i : Nat) (hi : i < Bs.length) :
    ∃ bb off o1 n1 k1 o2 n2 k2, oa = some ⟨bb, off, none⟩ ∧ S bb ∧ w.cell? ⟨bb, off + i * 3, none⟩ = some (.string Bs[i].1) ∧ w.cell? ⟨bb, off + i * 3 + 1, none⟩ = some (.slice o1 n1 k1) ∧ w.cell? ⟨bb, off + i * 3 + 2, none⟩ = some (.slice o2 n2 k2) ∧ AtL S w Bs[i].2.1 (.slice o1 n1 k1) ∧ AtL S w Bs[i].2.2 (.slice o2 n2 k2) ∧ Bs[i].1.size ≤ maxLen := by
  obtain ⟨oa', kb', e, _, hc⟩ := h
  cases e
  obtain ⟨bb, off, e, hS, cc, hcl, hat⟩ := hc i hi
  rw [width_DShareBatch] at hcl
  obtain ⟨⟨t0, z0⟩, a1, a2⟩ := at_DShareBatch.1 hat
  obtain ⟨o1, k1, t1, _⟩ := id a1
  obtain ⟨o2, k2, t2, _⟩ := id a2
  rw [t1] at a1
  rw [t2] at a2
  exact ⟨bb, off, o1, _, k1, o2, _, k2, e, hS, (by simpa using hcl 0 (by omega) : w.cell? ⟨bb, off + i * 3, none⟩ = some (cc 0)).trans (by rw [t0]), (hcl 1 (by omega)).trans (by rw [t1]), (hcl 2 (by omega)).trans (by rw [t2]), a1, a2, z0⟩
/-- The batch at a place. -/
def btN (Bs : List DShareBatch) (i : Nat) : DShareBatch := Bs[i]?.getD default
theorem btN_at {Bs : List DShareBatch} {i : Nat} (h : i < Bs.length) : btN Bs i = Bs[i] := by simp [btN, h]
/-- Does the batch at i stand in the way of the one at a, when some are gone? -/
def inWay (Bs : List DShareBatch) (a : Nat) (gone : List ByteArray) (i : Nat) : Bool := !(i == a) && !(hasB gone (btN Bs i).1) && shareB (btN Bs i).2.1 (btN Bs a).2.2
def canB (Bs : List DShareBatch) (a : Nat) (gone : List ByteArray) : Bool := !((List.range Bs.length).any (inWay Bs a gone))
theorem can_yes {Bs : List DShareBatch} {a : Nat} {gone : List ByteArray} (h : ∀ i, i < Bs.length → inWay Bs a gone i = false) : canB Bs a gone = true := by
  unfold canB
  rw [Bool.not_eq_true', List.any_eq_false]
  intro i hi
  rw [h i (List.mem_range.1 hi)]; simp
theorem can_no {Bs : List DShareBatch} {a i : Nat} {gone : List ByteArray} (hi : i < Bs.length) (h : inWay Bs a gone i = true) : canB Bs a gone = false := by
  unfold canB
  rw [Bool.not_eq_false', List.any_eq_true]
  exact ⟨i, List.mem_range.2 hi, h⟩

end Go.Proofs.Ythgnhjkkfhfgmab
