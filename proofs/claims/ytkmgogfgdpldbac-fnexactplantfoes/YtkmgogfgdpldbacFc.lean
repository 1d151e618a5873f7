/-
  Whether two stuffs are foes, as the program tells it: by a map from pairs to how often they stand in the list.
-/
import Derived.Test.YtkmgogfgdpldbacZh
import Derived.Test.YtkmgogfgdpldbacFq
namespace Go.Proofs.Ytkmgogfgdpldbac
open Go.RowKit

set_option maxRecDepth 100000 in
set_option maxHeartbeats 4000000 in
theorem foePairs_any (B : Nat) (v0 v1 v2 v3 : Value) (n : Nat) (f : Nat → ByteArray × ByteArray) (w : World) (h : Lst B w v1 n 2 (cF f)) (hB : B ≤ w.heap.size) (hs : ∀ i, i < n → (f i).1.size ≤ maxLen ∧ (f i).2.size ≤ maxLen) (hm : n ≤ 1048576) :
    Calls Try.prog 20 #[.agg #[v0, v1, v2, v3]] w fun e w' => ∃ b, e = .returned (.map (some b)) ∧ Mp w' b (cntF f n) ∧ Below w.heap.size w w' := by
  obtain ⟨oa, cap, rfl, hn, hc⟩ := h
  unfold maxLen at hn
  have HC : Hid _ := hc
  have HS : Hid _ := hs
  clear hc hs
  have hmm := @run_makeMap Try.prog
  go_enter Try.func20, Try.ntmps20
  go_wp2
  go_loopw [10] (fun i wr => ∃ k : Nat, k ≤ n ∧ i = .int .i64 k ∧ Hid (Mp wr (w.heap.size + 1) (cntF f k)) ∧ Hid (Below (w.heap.size + 1) (w.alloc (.cells #[v0, .slice oa n cap, v2, v3] 34)) wr)) (fun i _ => n - (intOf i).toNat)
  case atStart =>
    refine ⟨0, Nat.zero_le _, rfl, ?_, (Below.refl _ _).alloc (by simp) _⟩
    have hmade := Mp.made (w.alloc (.cells #[v0, .slice oa n cap, v2, v3] 34))
    have hsz : (w.alloc (.cells #[v0, .slice oa n cap, v2, v3] 34)).heap.size = w.heap.size + 1 := by simp
    rw [hsz] at hmade
    exact hmade
  case round =>
    obtain ⟨k, hk, rfl, hmp, hbl⟩ := hrel
    by_cases hlt : k < n
    · obtain ⟨bb, off, rfl, hbB, hcell⟩ := HC.out k hlt
      have c0 := (hbl.out.cell (p := ⟨bb, off + k * 2 + 0, none⟩) (by show bb < w.heap.size + 1; omega)).trans (cell_past (hcell 0 (by omega)) (by omega) _)
      have c1 := (hbl.out.cell (p := ⟨bb, off + k * 2 + 1, none⟩) (by show bb < w.heap.size + 1; omega)).trans (cell_past (hcell 1 (by omega)) (by omega) _)
      rw [Nat.add_zero] at c0
      simp only [cF, if_true] at c0
      simp only [cF, Nat.one_ne_zero, if_false] at c1
      clear hcell
      obtain ⟨hx, hy⟩ := HS.out k hlt
      have hlt1 : w.heap.size + 1 < wr.heap.size := hmp.out.lt
      have mA : Hid (Mp (wr.alloc (.cells #[.string (f k).1, .string (f k).2] 64)) (w.heap.size + 1) (cntF f k)) := hmp.out.of_block (Below.heap_alloc wr _ _ hmp.out.lt)
      have BA : Hid (Below (w.heap.size + 1) (w.alloc (.cells #[v0, .slice (some ⟨bb, off, none⟩) n cap, v2, v3] 34)) (wr.alloc (.cells #[.string (f k).1, .string (f k).2] 64))) := hbl.out.alloc (by omega) _
      have hM : Hid (∀ p q, 0 ≤ cntF f k p q ∧ cntF f k p q ≤ 4611686018427387904) := fun p q => by have := cnt_bound f k p q; omega
      go_wp2_with (go_at_call 39; refine (add_any (w.heap.size + 1) (cntF f k) _ _ _ mA.out hx hy hM.out).mono ?_; rintro e w1 ⟨rfl, hm1, hb1⟩)
      go_roundw
      case rel => exact ⟨k + 1, by omega, by go_num, hm1, BA.out.trans hb1⟩
      case measure => simp [intOf]; omega
    · go_wp2
      go_ret
      have hkn : k = n := by omega
      subst hkn
      exact ⟨_, rfl, hmp.out, below_end hbl.out⟩

end Go.Proofs.Ytkmgogfgdpldbac
