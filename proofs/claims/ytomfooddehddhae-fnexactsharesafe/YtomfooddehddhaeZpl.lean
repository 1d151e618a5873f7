/-
  Some things of a book as the bits of a word: the program's bitsIn.
-/
import Derived.Test.YtomfooddehddhaeZpq
namespace Go.Proofs.Ytomfooddehddhae
open Go.RowKit

theorem idx_at {T : List ByteArray} (nd : T.Nodup) {x : ByteArray} (hx : x ∈ T) : ∃ t : Nat, idxI T (fun f => eqB f x) = (t : Int) ∧ ∃ ht : t < T.length, T[t] = x := by
  obtain ⟨t, ht, rfl⟩ := List.getElem_of_mem hx
  refine ⟨t, idx_yes ht (eqB_refl _) fun j hj hjt => ?_, ht, rfl⟩
  cases e : eqB T[j] T[t]
  · rfl
  · rw [eqB_iff] at e
    exact absurd e (List.pairwise_iff_getElem.1 nd j t hj ht hjt)

set_option maxRecDepth 100000 in
set_option maxHeartbeats 8000000 in
theorem bits_any (S : Nat → Prop) (v va : Value) (l T : List ByteArray) (w : World) (h : AtL S w l v) (hT : AtL S w T va) (n8 : T.length ≤ 8) (nd : T.Nodup) (nl : l.Nodup) (sub : ∀ x ∈ l, x ∈ T) :
    Calls Try.prog 36 #[v, va] w fun e w' => e = .returned (.int .u32 (hasM T l : Nat)) ∧ w' = w := by
  obtain ⟨oa, cap, rfl, hn, hc⟩ := h
  obtain ⟨n, en⟩ : ∃ n, l.length = n := ⟨_, rfl⟩
  have EN : Hid (l.length ≤ n ∧ n ≤ l.length) := ⟨by omega, by omega⟩
  rw [en] at hn
  rw [en]
  unfold maxLen at hn
  have HC : Hid _ := hc
  have HI : Hid (∀ x, Calls Try.prog 50 #[va, .string x] w fun e w' => e = .returned (.int .i64 (idxI T (fun f => eqB f x))) ∧ w' = w) := fun x => index_any S va T x w hT
  obtain ⟨R, hR⟩ : ∃ R : Int, R = (hasM T l : Nat) := ⟨_, rfl⟩
  have HR : Hid (R = (hasM T l : Nat)) := hR
  rw [← hR]
  have ND : Hid T.Nodup := nd
  have NL : Hid l.Nodup := nl
  have SUB : Hid (∀ x ∈ l, x ∈ T) := sub
  have N8 : Hid (T.length ≤ 8) := n8
  clear hc hT hR en nd nl sub n8
  go_enter Try.func36, Try.ntmps36
  go_wp2
  go_loop [5, 10] (fun s i => ∃ (k : Nat) (m : Nat), k ≤ n ∧ i = .int .i64 k ∧ s = .int .u32 m ∧ m < 256 ∧ Hid (m = hasM T (l.take k))) (fun _ i => n - (intOf i).toNat)
  case atStart => exact ⟨0, 0, Nat.zero_le _, rfl, rfl, by omega, by show _ = _; rw [List.take_zero, hasM_nil]⟩
  case round =>
    obtain ⟨k, m, hk, rfl, rfl, hm, hsum⟩ := hrel
    by_cases hlt : k < n
    · have hkl : k < l.length := by have := EN.out; omega
      obtain ⟨b, off, rfl, _, cc, hcell, hat⟩ := HC.out k hkl
      rw [width_str] at hcell
      have hcell := hcell 0 (by omega)
      rw [Nat.mul_one, Nat.add_zero] at hcell
      rw [at_str] at hat
      rw [hat.1] at hcell
      obtain ⟨x, ex⟩ : ∃ x, l[k] = x := ⟨_, rfl⟩
      rw [ex] at hcell
      obtain ⟨t, hti, htl, htx⟩ := idx_at ND.out (SUB.out l[k] (List.getElem_mem hkl))
      have hnx : Hid (hasM T (l.take (k + 1)) = m + 2 ^ t ∧ hasM T (l.take (k + 1)) < 256) := by
        refine ⟨?_, hasM_lt N8.out _⟩
        rw [List.take_succ_eq_append_getElem hkl, ← htx, hasM_snoc ND.out htl, hsum.out]
        rw [htx]
        intro hmem
        obtain ⟨j, hj, e⟩ := List.getElem_of_mem hmem
        rw [List.length_take] at hj
        rw [List.getElem_take] at e
        exact absurd e (List.pairwise_iff_getElem.1 NL.out j k (by omega) hkl (by omega))
      rw [ex] at hti
      have HX : Hid (Calls Try.prog 50 #[va, .string x] w fun e w' => e = .returned (.int .i64 (t : Int)) ∧ w' = w) := by
        have := HI.out x; rw [hti] at this; exact this
      have ht8 : t < 8 := by have := N8.out; omega
      clear hti htx htl hat ex
      have h8 : t = 0 ∨ t = 1 ∨ t = 2 ∨ t = 3 ∨ t = 4 ∨ t = 5 ∨ t = 6 ∨ t = 7 := by omega
      rcases h8 with rfl | rfl | rfl | rfl | rfl | rfl | rfl | rfl
      all_goals
        obtain ⟨hnb, hnc⟩ := hnx.out
        rw [hnb] at hnc
        have HNB : Hid _ := hnb
        simp only [Nat.reducePow] at hnc
        clear hnb hnx
        go_wp2_with fail
        refine Calls.mono HX.out ?_
        rintro e w1 ⟨rfl, rfl⟩
        go_wp2_with fail
        go_round
        case rel => exact ⟨k + 1, hasM T (l.take (k + 1)), by omega, by go_num, by rw [HNB.out]; go_num, hasM_lt N8.out _, rfl⟩
        case measure => simp [intOf]; omega
    · go_wp2
      go_ret
      have : l.take k = l := List.take_of_length_le (by have := EN.out; omega)
      rw [HR.out, hsum.out, this]
      exact ⟨rfl, rfl⟩

end Go.Proofs.Ytomfooddehddhae
