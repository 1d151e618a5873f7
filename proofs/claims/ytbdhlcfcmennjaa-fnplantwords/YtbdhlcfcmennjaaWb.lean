/-
  Contracts of the law's own helpers: the text that marks a place, and how a list of texts is held against another, marked, and asked for its marks.
-/
import Derived.Test.YtbdhlcfcmennjaaChecked
import Derived.Test.YtbdhlcfcmennjaaPlain
import Derived.Test.YtbdhlcfcmennjaaVa
import Derived.WalkKit
import Derived.WalkSpells
import Derived.WalkLawsBesides
import Derived.BigQuiet
import Derived.Deep.QuietTactic
import Derived.Deep.RegionWith
namespace Go.Proofs.Ytbdhlcfcmennjaa
open Go.RowKit

/-- The text that marks place j, written digit by digit from its end. -/
def mtf : Nat → Int → ByteArray → ByteArray
  | 0, _, t => t
  | n + 1, k, t => if 0 < k then mtf n (k / 10) (⟨#[UInt8.ofNat (48 + k % 10).toNat]⟩ ++ t) else t
def mt (k : Int) : ByteArray := ⟨#[109]⟩ ++ mtf 20 k ⟨#[]⟩
theorem mtf_end (n : Nat) (k : Int) (t : ByteArray) (h : ¬ 0 < k) : mtf n k t = t := by
  cases n with
  | zero => rfl
  | succ n => simp [mtf, h]

set_option maxRecDepth 100000 in
set_option maxHeartbeats 400000 in
theorem mark_any (k : Int) (w : World) (h1 : 1 ≤ k) (h2 : k ≤ 2000000) :
    Calls Try.prog 41 #[.int .i64 k] w fun e w' => e = .returned (.string (mt k)) ∧ Below w.heap.size w w' := by
  have hd : decide (k ≤ 0) = false := by simp; omega
  have hcv := conv_one
  go_enter Try.func41, Try.ntmps41
  go_wp2
  go_loopw [0, 3] (fun i t wr => ∃ (j : Int) (u : ByteArray) (n : Nat), 0 ≤ j ∧ j ≤ 2000000 ∧ Hid (j < 10 ^ n) ∧ i = .int .i64 j ∧ t = .string u ∧ Hid (mtf n j u = mtf 20 k ⟨#[]⟩) ∧ u.size + n ≤ 20 ∧ Below w.heap.size w wr) (fun i _ _ => (intOf i).toNat)
  case atStart => exact ⟨k, _, 20, by omega, by omega, by show k < _; omega, rfl, rfl, rfl, by decide, Below.refl _ _⟩
  case round =>
    obtain ⟨j, u, n, hj1, hj2, hn, rfl, rfl, he, hu, hbel⟩ := hrel
    by_cases hp : 0 < j
    · go_wp2
      go_roundw
      case rel =>
        cases n with
        | zero => exact absurd hn.out (by simp; omega)
        | succ n =>
          refine ⟨j / 10, _, n, by omega, by omega, ?_, rfl, rfl, ?_, ?_, hbel.alloc hbel.size _⟩
          · have h := hn.out
            rw [Int.pow_succ] at h
            show j / 10 < 10 ^ n
            omega
          · show mtf n (j / 10) _ = _
            rw [← he.out, mtf, if_pos (by omega)]
          · have e1 : (⟨#[UInt8.ofNat (48 + j % 10).toNat]⟩ : ByteArray).size = 1 := rfl
            rw [ByteArray.size_append, e1]; omega
      case measure => simp [intOf]; omega
    · go_wp2
      go_ret
      refine ⟨?_, hbel⟩
      rw [mt, ← he.out, mtf_end _ _ _ (by omega)]
      rfl

set_option maxHeartbeats 400000 in
theorem eq_any (oa ob : Option Addr) (n ca cb : Nat) (f : Nat → ByteArray) (w : World) (hn : n ≤ maxLen)
    (ha : ∀ i, i < n → ∃ g, oa = some ⟨g, 0, none⟩ ∧ w.cell? ⟨g, i, none⟩ = some (.string (f i))) 
    (hb : ∀ i, i < n → ∃ g, ob = some ⟨g, 0, none⟩ ∧ w.cell? ⟨g, i, none⟩ = some (.string (f i))) :
    Calls Try.prog 17 #[.slice oa n ca, .slice ob n cb] w fun e w' => e = .returned (.bool true) ∧ ∃ q, w' = w.drewN q := by
  unfold maxLen at hn
  have HA : Hid _ := ha
  have HB : Hid _ := hb
  clear ha hb
  go_enter Try.func17, Try.ntmps17
  go_wp2
  go_loopw [5] (fun i wr => ∃ k q : Nat, k ≤ n ∧ i = .int .i64 k ∧ wr = w.drewN q) (fun i _ => n - (intOf i).toNat)
  case atStart => exact ⟨0, 0, Nat.zero_le _, rfl, rfl⟩
  case round =>
    obtain ⟨k, q, hk, rfl, rfl⟩ := hrel
    by_cases hlt : k < n
    · obtain ⟨ga, rfl, hca⟩ := HA.out k hlt
      obtain ⟨gb, rfl, hcb⟩ := HB.out k hlt
      go_wp2
      go_region
      go_wp2
      go_roundw
      case rel => exact ⟨k + 1, q + 1, by omega, by go_num, rfl⟩
      case measure => simp [intOf]; omega
    · go_wp2
      go_ret
      exact ⟨rfl, q, rfl⟩

set_option maxRecDepth 100000 in
set_option maxHeartbeats 400000 in
theorem markS_any (B g cap n : Nat) (cur : Array Value) (w : World) (hg : w.heap[g]? = some (.cells cur 9 (0, 0))) (hB : B ≤ g) (hn : n ≤ cap) (hc : cur.size = cap) (hm : n ≤ 1000000) :
    Calls Try.prog 18 #[.slice (some ⟨g, 0, none⟩) n cap, .int .i64 1] w fun e w' => e = .returned (.int .i64 (1 + n)) ∧ Below B w w' ∧
      ∃ cur', w'.heap[g]? = some (.cells cur' 9 (0, 0)) ∧ cur'.size = cap ∧ ∀ i, i < n → cur'[i]? = some (.string (mt (1 + i))) := by
  go_enter Try.func18, Try.ntmps18
  go_wp2
  go_loopw [1, 5] (fun q i wr => ∃ (k : Nat) (c : Array Value), k ≤ n ∧ i = .int .i64 k ∧ q = .int .i64 (1 + k) ∧ Below B w wr ∧ wr.heap[g]? = some (.cells c 9 (0, 0)) ∧ c.size = cap ∧ Hid (∀ i, i < k → c[i]? = some (.string (mt (1 + i))))) (fun _ i _ => n - (intOf i).toNat)
  case atStart => exact ⟨0, cur, Nat.zero_le _, rfl, rfl, Below.refl _ _, hg, hc, fun _ h => by omega⟩
  case round =>
    obtain ⟨k, c, hk, rfl, rfl, hbel, hgr, hcs, hall⟩ := hrel
    by_cases hlt : k < n
    · obtain ⟨v0, hv0⟩ : ∃ v0, c[k]? = some v0 := ⟨_, Array.getElem?_eq_getElem (by omega)⟩
      have hgl : g < wr.heap.size := (Array.getElem?_eq_some_iff.1 hgr).1
      have HV : Hid _ := hv0
      have HG : Hid _ := hgr
      clear hv0 hgr
      go_wp2_with (go_at_call 41; refine (mark_any _ _ (by omega) (by omega)).mono ?_; rintro e w1 ⟨rfl, hb1⟩; obtain ⟨hcl, hfr⟩ := cell_row ((hb1.block g hgl).trans HG.out) k v0 HV.out)
      go_roundw
      case rel =>
        refine ⟨k + 1, c.setIfInBounds k (.string (mt (1 + k))), by omega, by go_num, by go_num, ?_, set_row ((hb1.block g hgl).trans HG.out) k _, by simpa using hcs, ?_⟩
        · exact (hbel.trans (hb1.mono (by omega))).setCell hB _
        · intro i hi
          by_cases e : i = k
          · subst e
            exact set_at c i _ (by omega)
          · rw [Array.getElem?_setIfInBounds_ne (fun h => e h.symm)]
            exact hall.out i (by omega)
      case measure => simp [intOf]; omega
    · go_wp2
      go_ret
      have hkn : k = n := by omega
      subst hkn
      exact ⟨rfl, hbel, c, hgr, hcs, hall.out⟩

set_option maxRecDepth 100000 in
set_option maxHeartbeats 400000 in
theorem heldS_any (g cap n : Nat) (w : World) (hm : n ≤ 1000000) (hc : ∀ i, i < n → w.cell? ⟨g, i, none⟩ = some (.string (mt (1 + i)))) :
    Calls Try.prog 19 #[.slice (some ⟨g, 0, none⟩) n cap, .int .i64 1] w fun e w' => e = .returned (.int .i64 (1 + n)) ∧ Below w.heap.size w w' := by
  have HC : Hid _ := hc
  clear hc
  go_enter Try.func19, Try.ntmps19
  go_wp2
  go_loopw [1, 5] (fun q i wr => ∃ k : Nat, k ≤ n ∧ i = .int .i64 k ∧ q = .int .i64 (1 + k) ∧ Below w.heap.size w wr) (fun _ i _ => n - (intOf i).toNat)
  case atStart => exact ⟨0, Nat.zero_le _, rfl, rfl, Below.refl _ _⟩
  case round =>
    obtain ⟨k, hk, rfl, rfl, hbel⟩ := hrel
    by_cases hlt : k < n
    · have hgl : g < w.heap.size := World.block_lt_of_cell? w _ (HC.out k hlt)
      have hck : wr.cell? ⟨g, k, none⟩ = some (.string (mt (1 + k))) := (hbel.cell (by exact hgl)).trans (HC.out k hlt)
      have hgw : g < wr.heap.size := Nat.lt_of_lt_of_le hgl hbel.size
      go_wp2
      go_region_with (go_at_call 41; refine (mark_any _ _ (by omega) (by omega)).mono ?_; rintro e w1 ⟨rfl, hb1⟩; have hck1 := (hb1.cell (p := ⟨g, k, none⟩) hgw).trans hck)
      all_goals
        go_wp2
        go_roundw
        case rel => exact ⟨k + 1, by omega, by go_num, by go_num, hbel.drew.trans (hb1.mono hbel.size)⟩
        case measure => simp [intOf]; omega
    · go_wp2
      go_ret
      have hkn : k = n := by omega
      subst hkn
      exact ⟨rfl, hbel⟩

end Go.Proofs.Ytbdhlcfcmennjaa
