/-
  A contract of the program's fresh copies of texts.
-/
import Derived.Test.YtciembgenlcogadKn
import Derived.Test.YtciembgenlcogadGc
import Derived.Maps.AppendAt
namespace Go.Proofs.Ytciembgenlcogad
open Go.RowKit

theorem take_nth' {l : List ByteArray} {j : Nat} (h : j < l.length) : l.take (j + 1) = l.take j ++ [nthB l j] := by
  rw [List.take_add_one, nth_at h]; rfl

set_option maxRecDepth 100000 in
set_option maxHeartbeats 4000000 in
theorem freshI_any (B : Nat) (v : Value) (l : List ByteArray) (w : World) (h : Lst B w v l.length 1 (cS (nthB l))) (hB : B ≤ w.heap.size) (hl : l.length ≤ 1048576) (hs : ∀ i, i < l.length → (nthB l i).size ≤ 1048576) :
    Calls Try.prog 46 #[v] w fun e w' => ∃ v', e = .returned v' ∧ w'.ownsRow w.heap.size 9 1 v' l.length (l.map .string) ∧ Below w.heap.size w w' := by
  obtain ⟨i0, hi, hz0, hz1, hz2⟩ := info_parts info9b
  obtain ⟨oa, cap, rfl, _, hc⟩ := h
  have HC : Hid _ := hc
  have HS : Hid _ := hs
  clear hc hs
  generalize hn : l.length = n at *
  have HN : Hid (l.length = n) := hn
  clear hn
  go_enter Try.func46, Try.ntmps46
  go_wp2
  go_loopw [3, 8] (fun v i wr => ∃ q : Nat, q ≤ n ∧ i = .int .i64 q ∧ Hid (wr.ownsRow w.heap.size 9 1 v q ((l.take q).map .string)) ∧ Hid (Below w.heap.size w wr)) (fun _ i _ => n - (intOf i).toNat)
  case atStart => exact ⟨0, Nat.zero_le _, rfl, by simpa [Hid] using World.ownsRow_nil w w.heap.size 9 1, Below.refl _ _⟩
  case round =>
    obtain ⟨q, hq, rfl, hown, hbel⟩ := hrel
    have hsz := hbel.out.size
    by_cases hlt : q < n
    · obtain ⟨b, off, rfl, hbB, hcell⟩ := HC.out q hlt
      have e0 : wr.cell? ⟨b, off + q, none⟩ = some (.string (nthB l q)) := (hbel.out.cell (p := ⟨b, off + q, none⟩) (by show b < _; omega)).trans (by simpa [cS] using hcell 0 (by omega))
      clear hcell
      have hsq := HS.out q hlt
      have R : Hid (∀ (v' : Value) (w3 : World), w3.ownsRow w.heap.size 9 1 v' (q + 1) ((l.take q).map .string ++ [.string (nthB l q)]) → w3.ownsRow w.heap.size 9 1 v' (q + 1) ((l.take (q + 1)).map .string)) := fun v' w3 h => by
        rw [take_nth' (by rw [HN.out]; exact hlt), List.map_append]; exact h
      go_wp2_with fail
      refine (clones_any _ _ hsq).mono ?_; rintro e w1 ⟨rfl, hb1⟩
      have hs1 := hb1.size
      go_wp2_with (first
        | (at_builtin; refine wpList_append_own _ rfl _ _ 22 rfl w.heap.size 9 i0 (.string ByteArray.empty) 1 16 under24b hi hz0 hz1 hz2 rfl (by decide) _ _ _ rfl ((own_belowR hown.out hb1).alloc _) ⟨w1.heap.size, 0, none⟩ 1 1 [.string (nthB l q)] rfl rfl (cell_one_new _ _ _) (fun x hx => by simp at hx; subst hx; rfl) (by unfold maxLen; omega) (by omega) (by simp; omega) ?_; intro v' w3 hown' hgrow3 hnil3))
      go_roundw
      case rel =>
        have RR : ∃ q' : Nat, q' ≤ n ∧ Value.int .i64 ((q : Int) + 1) = .int .i64 (q' : Int) ∧ Hid (w3.ownsRow w.heap.size 9 1 v' q' ((l.take q').map .string)) ∧ Hid (Below w.heap.size w w3) :=
          ⟨q + 1, by omega, by go_num, R.out v' w3 hown', ((hbel.out.trans (hb1.mono hsz)).alloc (by omega) _).grown hgrow3 (by simp; omega) (fun p hp => (hown.out.lt p hp).1)⟩
        first
          | exact RR
          | ((repeat apply Exists.intro); exact ⟨RR, rfl⟩)
      case measure => simp [intOf]; omega
    · have hkn : q = n := by omega
      subst hkn
      have TL : Hid (l.take q = l) := by show _ = _; rw [← HN.out, List.take_length]
      go_wp2
      go_ret
      refine ⟨_, rfl, ?_, hbel.out⟩
      have := hown.out
      rw [TL.out] at this
      exact this

end Go.Proofs.Ytciembgenlcogad
