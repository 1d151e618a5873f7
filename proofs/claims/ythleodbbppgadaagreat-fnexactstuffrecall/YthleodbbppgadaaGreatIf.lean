/-
  The program's map of the book's foes, both ways; the stuffs of some lots, each once.
-/
import Derived.Test.YthleodbbppgadaaGreatIb
import Derived.Test.YthleodbbppgadaaGreatFq
import Derived.Maps.AppendAt
namespace Go.Proofs.YthleodbbppgadaaGreat
open Go.RowKit

theorem eqB_iff (a b : ByteArray) : eqB a b = true ↔ a = b := by
  constructor
  · intro h
    simp only [eqB, beq_iff_eq, ByteArray.toList_eq] at h
    exact ByteArray.ext (Array.toList_inj.1 h)
  · rintro rfl
    exact eqB_refl a
/-- Pair i of a list of foes. -/
def nthF (l : List DStuffFoe) (i : Nat) : ByteArray × ByteArray := l.getD i (⟨#[]⟩, ⟨#[]⟩)
theorem nthF_at (l : List DStuffFoe) (i : Nat) (h : i < l.length) : nthF l i = l[i] := by simp [nthF, h]
theorem cnt_foe (l : List DStuffFoe) (a b : ByteArray) : decide (0 < cntF (nthF l) l.length a b) = foeB l a b := by
  rw [Bool.eq_iff_iff, decide_eq_true_iff, cnt_iff, foeB, List.any_eq_true]
  constructor
  · rintro ⟨i, hi, h⟩
    rw [nthF_at l i hi] at h
    refine ⟨l[i], List.getElem_mem hi, ?_⟩
    rw [Bool.or_eq_true, Bool.and_eq_true, Bool.and_eq_true, eqB_iff, eqB_iff, eqB_iff, eqB_iff]
    rcases h with ⟨h1, h2⟩ | ⟨h1, h2⟩
    · exact Or.inl ⟨h1.symm, h2.symm⟩
    · exact Or.inr ⟨h2.symm, h1.symm⟩
  · rintro ⟨f, hf, h⟩
    obtain ⟨i, hi, rfl⟩ := List.getElem_of_mem hf
    refine ⟨i, hi, ?_⟩
    rw [nthF_at l i hi]
    rw [Bool.or_eq_true, Bool.and_eq_true, Bool.and_eq_true, eqB_iff, eqB_iff, eqB_iff, eqB_iff] at h
    rcases h with ⟨h1, h2⟩ | ⟨h1, h2⟩
    · exact Or.inl ⟨h1.symm, h2.symm⟩
    · exact Or.inr ⟨h2.symm, h1.symm⟩

set_option maxRecDepth 100000 in
set_option maxHeartbeats 4000000 in
theorem bothWays_any (S : Nat → Prop) (v0 v1 v2 v3 : Value) (l : List DStuffFoe) (w : World) (h : AtL S w l v0) (hS : ∀ b, S b → b < w.heap.size) (hm : l.length ≤ 1048576) :
    Calls Tryz.prog 93 #[.agg #[v0, v1, v2, v3]] w fun e w' => ∃ b, e = .returned (.map (some b)) ∧ Mp w' b (cntF (nthF l) l.length) ∧ Below w.heap.size w w' := by
  obtain ⟨oa, cap, rfl, hn, hc⟩ := h
  obtain ⟨n, en⟩ : ∃ n, l.length = n := ⟨_, rfl⟩
  rw [en] at hn hm
  rw [en]
  unfold maxLen at hn
  have HC : Hid _ := hc
  clear hc
  have hmm := @run_makeMap Tryz.prog
  go_enter Tryz.func93, Tryz.ntmps93
  go_wp2
  go_loopw [10] (fun i wr => ∃ k : Nat, k ≤ n ∧ i = .int .i64 k ∧ Hid (Mp wr (w.heap.size + 1) (cntF (nthF l) k)) ∧ Hid (Below (w.heap.size + 1) (w.alloc (.cells #[.slice oa n cap, v1, v2, v3] 36)) wr)) (fun i _ => n - (intOf i).toNat)
  case atStart =>
    refine ⟨0, Nat.zero_le _, rfl, ?_, (Below.refl _ _).alloc (by simp) _⟩
    have hmade := Mp.made (w.alloc (.cells #[.slice oa n cap, v1, v2, v3] 36))
    have hsz : (w.alloc (.cells #[.slice oa n cap, v1, v2, v3] 36)).heap.size = w.heap.size + 1 := by simp
    rw [hsz] at hmade
    exact hmade
  case round =>
    obtain ⟨k, hk, rfl, hmp, hbl⟩ := hrel
    have hbw := below_end hbl.out
    by_cases hlt : k < n
    · obtain ⟨b, off, rfl, hbS, ce, hcelle, hate⟩ := HC.out k (by omega)
      have hbb := hS b hbS
      rw [width_DStuffFoe] at hcelle
      have e0 : wr.cell? ⟨b, off + k * 2, none⟩ = some (ce 0) := (hbw.cell (p := ⟨b, off + k * 2, none⟩) (by show b < _; omega)).trans (by simpa using hcelle 0 (by omega))
      have e1 : wr.cell? ⟨b, off + k * 2 + 1, none⟩ = some (ce 1) := (hbw.cell (p := ⟨b, off + k * 2 + 1, none⟩) (by show b < _; omega)).trans (by simpa using hcelle 1 (by omega))
      clear hcelle
      have hate := Lay.same hate (Same.of_below hbw hS)
      rw [at_DStuffFoe] at hate
      obtain ⟨ef, eef⟩ : ∃ f, l[k]'(by omega) = f := ⟨_, rfl⟩
      rw [eef] at hate
      obtain ⟨⟨te0, ze0⟩, ⟨te1, ze1⟩⟩ := hate
      rw [te0] at e0
      rw [te1] at e1
      clear te0 te1
      clear hbw
      have hlt1 : w.heap.size + 1 < wr.heap.size := hmp.out.lt
      have mA : Hid (Mp (wr.alloc (.cells #[.string ef.1, .string ef.2] 93)) (w.heap.size + 1) (cntF (nthF l) k)) := hmp.out.of_block (Below.heap_alloc wr _ _ hmp.out.lt)
      have BA : Hid (Below (w.heap.size + 1) (w.alloc (.cells #[.slice (some ⟨b, off, none⟩) n cap, v1, v2, v3] 36)) (wr.alloc (.cells #[.string ef.1, .string ef.2] 93))) := hbl.out.alloc (by omega) _
      have hM : Hid (∀ p q, 0 ≤ cntF (nthF l) k p q ∧ cntF (nthF l) k p q ≤ 4611686018427387904) := fun p q => by have := cnt_bound (nthF l) k p q; omega
      have hst : Hid (addN (cntF (nthF l) k) ef.1 ef.2 = cntF (nthF l) (k + 1)) := by
        show _ = addN _ (nthF l k).1 (nthF l k).2
        rw [nthF_at l k (by omega), eef]
      go_wp2_with (go_at_call 129; refine (add_any (w.heap.size + 1) (cntF (nthF l) k) _ _ _ mA.out ze0 ze1 hM.out).mono ?_; rintro e w1 ⟨rfl, hm1, hb1⟩)
      rw [hst.out] at hm1
      go_roundw
      case rel => exact ⟨k + 1, by omega, by go_num, hm1, BA.out.trans hb1⟩
      case measure => simp [intOf]; omega
    · go_wp2
      go_ret
      have hkn : k = n := by omega
      subst hkn
      exact ⟨_, rfl, hmp.out, hbw⟩

end Go.Proofs.YthleodbbppgadaaGreat
