/-
  A batch in memory; who can have all they need.
-/
import Derived.Test.YtigkkelaadbhcaaZmb
namespace Go.Proofs.Ytigkkelaadbhcaa
open Go.RowKit Go.Sort

theorem bat_at {S : Nat → Prop} {w : World} {Bs : List DShareBatch} {oa : Option Addr} {nb kb : Nat} (h : AtL S w Bs (.slice oa nb kb)) (i : Nat) (hi : i < Bs.length) :
    ∃ bb off o1 n1 k1 o2 n2 k2, oa = some ⟨bb, off, none⟩ ∧ S bb ∧ w.cell? ⟨bb, off + i * 3, none⟩ = some (.string Bs[i].1) ∧ w.cell? ⟨bb, off + i * 3 + 1, none⟩ = some (.slice o1 n1 k1) ∧ w.cell? ⟨bb, off + i * 3 + 2, none⟩ = some (.slice o2 n2 k2) ∧ AtL S w Bs[i].2.1 (.slice o1 n1 k1) ∧ AtL S w Bs[i].2.2 (.slice o2 n2 k2) ∧ Bs[i].1.size ≤ maxLen := by
  obtain ⟨oa', kb', e, _, hc⟩ := h
  cases e
  obtain ⟨bb, off, e, hS, cc, hcl, hat⟩ := hc i hi
  rw [width_DShareBatch] at hcl
  obtain ⟨⟨t0, z0⟩, a1, a2⟩ := at_DShareBatch.1 hat
  obtain ⟨o1, k1, t1, _⟩ := id a1
  obtain ⟨o2, k2, t2, _⟩ := id a2
  rw [t1] at a1
  rw [t2] at a2
  exact ⟨bb, off, o1, _, k1, o2, _, k2, e, hS, (by simpa using hcl 0 (by omega) : w.cell? ⟨bb, off + i * 3, none⟩ = some (cc 0)).trans (by rw [t0]), (hcl 1 (by omega)).trans (by rw [t1]), (hcl 2 (by omega)).trans (by rw [t2]), a1, a2, z0⟩
end Go.Proofs.Ytigkkelaadbhcaa
