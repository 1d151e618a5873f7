/-
  Contracts of the small callees: what a byte test, a rune test and the cutting of a remark give.
-/
import Derived.Test.YtbdhlcfcmennjaaChecked
import Derived.Test.YtbdhlcfcmennjaaPlain
import Derived.WalkKit
import Derived.WalkSpells
import Derived.WalkLawsBesides
import Derived.BigQuiet
namespace Go.Proofs.Ytbdhlcfcmennjaa
open Go.RowKit

theorem ret_int {k : IntKind} {a b : Int} (h : a = b) : Ending.returned (.int k a) = .returned (.int k b) := by rw [h]

/-- May a word hold this rune? -/
def okR (r : Int) : Bool := decide (33 ≤ r ∧ r ≤ 126)

set_option maxHeartbeats 400000 in
theorem okR_any (r : Int) (w : World) : Calls Try.prog 123 #[.int .i32 r] w fun e w' => e = .returned (.bool (okR r)) ∧ w' = w := by
  by_cases h1 : 33 ≤ r
  · by_cases h2 : r ≤ 126
    · have hw : okR r = true := by simp [okR, h1, h2]
      rw [hw]
      go_enter Try.func123, Try.ntmps123
      go_wp2
      go_ret
      exact ⟨rfl, rfl⟩
    · have hw : okR r = false := by simp [okR]; omega
      rw [hw]
      go_enter Try.func123, Try.ntmps123
      go_wp2
      go_ret
      exact ⟨rfl, rfl⟩
  · have hw : okR r = false := by simp [okR]; omega
    rw [hw]
    go_enter Try.func123, Try.ntmps123
    go_wp2
    go_ret
    exact ⟨rfl, rfl⟩

set_option maxHeartbeats 400000 in
theorem in_any (n : Int) (w : World) : Calls Try.prog 26 #[.int .i64 n, .int .i64 33, .int .i64 126] w fun e w' => e = .returned (.bool (okR n)) ∧ w' = w := by
  by_cases h1 : 33 ≤ n
  · by_cases h2 : n ≤ 126
    · have hw : okR n = true := by simp [okR, h1, h2]
      rw [hw]
      go_enter Try.func26, Try.ntmps26
      go_wp2
      go_ret
      exact ⟨rfl, rfl⟩
    · have hw : okR n = false := by simp [okR]; omega
      rw [hw]
      go_enter Try.func26, Try.ntmps26
      go_wp2
      go_ret
      exact ⟨rfl, rfl⟩
  · have hw : okR n = false := by simp [okR]; omega
    rw [hw]
    go_enter Try.func26, Try.ntmps26
    go_wp2
    go_ret
    exact ⟨rfl, rfl⟩

theorem size_list (s : ByteArray) : s.size = s.data.toList.length := by simp
theorem get_list (s : ByteArray) (k : Nat) (h : k < s.size) : s.data.toList[k]? = some s[k] := by
  rw [List.getElem?_eq_getElem (by rw [← size_list]; exact h)]; rfl
theorem extract_list (s : ByteArray) (k : Nat) : (s.extract 0 k).data.toList = s.data.toList.take k := by
  simp [ByteArray.data_extract]
theorem is35 {c : UInt8} (h : ((c.toNat : Int) == 35) = true) : some c = some (35 : UInt8) := by
  have h1 : (c.toNat : Int) = 35 := by simpa using h
  have h2 : c = 35 := UInt8.toNat_inj.1 (by show c.toNat = 35; omega)
  rw [h2]
theorem not35 {c : UInt8} (h : ((c.toNat : Int) == 35) = false) : some c ≠ some (35 : UInt8) := by
  intro e
  have e2 : c = 35 := Option.some.inj e
  subst e2
  exact absurd h (by decide)

set_option maxHeartbeats 400000 in
theorem bare_any (s : ByteArray) (w : World) (hs : s.size ≤ maxLen) :
    Calls Try.prog 25 #[.string s] w fun e w' => (∃ t : ByteArray, e = .returned (.string t) ∧ t.data.toList = Pl.bare s.data.toList) ∧ w' = w := by
  unfold maxLen at hs
  go_enter Try.func25, Try.ntmps25
  go_wp2
  go_loop [3] (fun i => ∃ k : Nat, k ≤ s.size ∧ i = .int .i64 k ∧ Hid (∀ j, j < k → s.data.toList[j]? ≠ some 35)) (fun i => s.size - (intOf i).toNat)
  case atStart => exact ⟨0, Nat.zero_le _, rfl, fun _ h => by omega⟩
  case round =>
    obtain ⟨k, hk, rfl, hno⟩ := hrel
    by_cases hlt : k < s.size
    · have hg : s.data.toList[k]? = some s[k] := get_list s k hlt
      have HG : Hid (s.data.toList[k]? = some s[k]) := hg
      clear hg
      go_wp2
      · have h35 : ((s[k].toNat : Int) == 35) = true := by assumption
        go_ret
        refine ⟨⟨_, rfl, ?_⟩, rfl⟩
        rw [Pl.bare_of s.data.toList k (by rw [← size_list]; omega) hno.out (Or.inr (by rw [HG.out, is35 h35]))]
        exact extract_list s k
      · have h35 : ((s[k].toNat : Int) == 35) = false := by assumption
        go_round
        case rel =>
          refine ⟨k + 1, by omega, by go_num, ?_⟩
          intro j hj
          by_cases e : j = k
          · subst e; rw [HG.out]; exact not35 h35
          · exact hno.out j (by omega)
        case measure => simp [intOf]; omega
    · go_wp2
      go_ret
      refine ⟨⟨s, rfl, ?_⟩, rfl⟩
      have hk2 : k = s.size := by omega
      rw [Pl.bare_of s.data.toList k (by rw [← size_list]; omega) hno.out (Or.inl (by rw [← size_list]; exact hk2)), List.take_of_length_le (by rw [← size_list]; omega)]

end Go.Proofs.Ytbdhlcfcmennjaa
