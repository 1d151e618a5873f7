import Derived.Test.YtgjcppdeljoimaaChecked
import Derived.WalkKit
import Derived.WalkSpells
import Derived.WalkLawsBesides
import Derived.BigQuiet
import Derived.Deep.QuietTactic
import Derived.Lib.QuietBelow
import Derived.Lib.OthersKept
namespace Go.Proofs.Ytgjcppdeljoimaa
open Go.RowKit
def okn (c : Int) : Bool := decide ((97 ≤ c ∧ c ≤ 122) ∨ (48 ≤ c ∧ c ≤ 57) ∨ c = 45)
def nameB (s : ByteArray) : Bool := decide (1 ≤ s.size ∧ s.size ≤ 8) && s.data.toList.all fun c => okn c.toNat
theorem sz_list (s : ByteArray) : s.size = s.data.toList.length := by simp
theorem gt_list (s : ByteArray) (k : Nat) (h : k < s.size) : s.data.toList[k]? = some s[k] := by
  rw [List.getElem?_eq_getElem (by rw [← sz_list]; exact h)]; rfl
theorem name_short {s : ByteArray} (h : ¬ (1 ≤ s.size ∧ s.size ≤ 8)) : nameB s = false := by simp [nameB]; omega
theorem name_bad {s : ByteArray} {k : Nat} (h : k < s.size) (hc : okn s[k].toNat = false) : nameB s = false := by
  have : (s.data.toList.all fun c => okn c.toNat) = false := by
    rw [List.all_eq_false]
    exact ⟨s[k], List.mem_of_getElem? (gt_list s k h), by simp [hc]⟩
  simp only [nameB, this, Bool.and_false]
theorem name_all {s : ByteArray} (h : 1 ≤ s.size ∧ s.size ≤ 8) (ha : ∀ j (hj : j < s.size), okn s[j].toNat = true) : nameB s = true := by
  have : (s.data.toList.all fun c => okn c.toNat) = true := by
    rw [List.all_eq_true]
    intro c hc
    obtain ⟨j, hj, e⟩ := List.mem_iff_getElem.1 hc
    have hj' : j < s.size := by rw [sz_list]; exact hj
    have := ha j hj'
    rw [← e]; exact this
  simp only [nameB, this, Bool.and_true]
  exact decide_eq_true h
def inB (n lo hi : Int) : Bool := decide (lo ≤ n ∧ n ≤ hi)
set_option maxHeartbeats 400000 in
theorem inB_any (n lo hi : Int) (w : World) : Calls Try.prog 69 #[.int .i64 n, .int .i64 lo, .int .i64 hi] w fun e w' => e = .returned (.bool (inB n lo hi)) ∧ w' = w := by
  by_cases h1 : lo ≤ n
  · by_cases h2 : n ≤ hi
    · have hw : inB n lo hi = true := by simp [inB, h1, h2]
      rw [hw]
      go_enter Try.func69, Try.ntmps69
      go_wp2
      go_ret
      exact ⟨rfl, rfl⟩
    · have hw : inB n lo hi = false := by simp [inB]; omega
      rw [hw]
      go_enter Try.func69, Try.ntmps69
      go_wp2
      go_ret
      exact ⟨rfl, rfl⟩
  · have hw : inB n lo hi = false := by simp [inB]; omega
    rw [hw]
    go_enter Try.func69, Try.ntmps69
    go_wp2
    go_ret
    exact ⟨rfl, rfl⟩
set_option maxRecDepth 100000 in
set_option maxHeartbeats 1000000 in
theorem nameS_any (s : ByteArray) (w : World) (hs : s.size ≤ maxLen) : Calls Try.prog 67 #[.string s] w fun e w' => e = .returned (.bool (nameB s)) ∧ w' = w := by
  unfold maxLen at hs
  by_cases hl : 1 ≤ s.size ∧ s.size ≤ 8
  · have hin : inB (s.size : Int) 1 8 = true := by simp [inB]; omega
    go_enter Try.func67, Try.ntmps67
    go_wp2_with (go_at_call 69; refine (inB_any _ _ _ _).mono ?_; rintro e w1 ⟨rfl, rfl⟩; rw [hin])
    go_loop [3] (fun i => ∃ k : Nat, k ≤ s.size ∧ i = .int .i64 k ∧ Hid (∀ j (hj : j < s.size), j < k → okn s[j].toNat = true)) (fun i => s.size - (intOf i).toNat)
    case atStart => exact ⟨0, Nat.zero_le _, rfl, fun _ _ h => by omega⟩
    case round =>
      obtain ⟨k, hk, rfl, hno⟩ := hrel
      by_cases hlt : k < s.size
      · have hb := s[k].toNat_lt
        have HN : Hid (okn s[k].toNat = false → nameB s = false) := fun h => name_bad hlt h
        rcases (show (s[k].toNat : Int) < 45 ∨ (s[k].toNat : Int) = 45 ∨ (45 < (s[k].toNat : Int) ∧ (s[k].toNat : Int) < 48) ∨ (48 ≤ (s[k].toNat : Int) ∧ (s[k].toNat : Int) ≤ 57) ∨ (57 < (s[k].toNat : Int) ∧ (s[k].toNat : Int) < 97) ∨ (97 ≤ (s[k].toNat : Int) ∧ (s[k].toNat : Int) ≤ 122) ∨ 122 < (s[k].toNat : Int) by omega) with h | h | ⟨h, h'⟩ | ⟨h, h'⟩ | ⟨h, h'⟩ | ⟨h, h'⟩ | h
        · have h45 : ((s[k].toNat : Int) == 45) = false := by simp; omega
          have HO : Hid (okn s[k].toNat = false) := by simp [Hid, okn]; omega
          go_wp2
          rw [HN.out HO.out]
          go_ret
          exact ⟨rfl, rfl⟩
        · have h45 : ((s[k].toNat : Int) == 45) = true := by rw [h]; rfl
          have HO : Hid (okn s[k].toNat = true) := by rw [h]; rfl
          have ha : (s[k].toNat : Int) ≤ 45 := by omega
          clear h
          go_wp2
          go_round
          case rel => exact ⟨k + 1, by omega, by go_num, fun j hj hjk => by
            by_cases e : j = k
            · subst e; exact HO.out
            · exact hno.out j hj (by omega)⟩
          case measure => simp [intOf]; omega
        · have h45 : ((s[k].toNat : Int) == 45) = false := by simp; omega
          have HO : Hid (okn s[k].toNat = false) := by simp [Hid, okn]; omega
          go_wp2
          rw [HN.out HO.out]
          go_ret
          exact ⟨rfl, rfl⟩
        · have h45 : ((s[k].toNat : Int) == 45) = false := by simp; omega
          have HO : Hid (okn s[k].toNat = true) := by simp [Hid, okn]; omega
          go_wp2
          go_round
          case rel => exact ⟨k + 1, by omega, by go_num, fun j hj hjk => by
            by_cases e : j = k
            · subst e; exact HO.out
            · exact hno.out j hj (by omega)⟩
          case measure => simp [intOf]; omega
        · have h45 : ((s[k].toNat : Int) == 45) = false := by simp; omega
          have HO : Hid (okn s[k].toNat = false) := by simp [Hid, okn]; omega
          have d57 : decide ((s[k].toNat : Int) ≤ 57) = false := by simp; omega
          go_wp2
          rw [HN.out HO.out]
          go_ret
          exact ⟨rfl, rfl⟩
        · have h45 : ((s[k].toNat : Int) == 45) = false := by simp; omega
          have HO : Hid (okn s[k].toNat = true) := by simp [Hid, okn]; omega
          go_wp2
          go_round
          case rel => exact ⟨k + 1, by omega, by go_num, fun j hj hjk => by
            by_cases e : j = k
            · subst e; exact HO.out
            · exact hno.out j hj (by omega)⟩
          case measure => simp [intOf]; omega
        · have h45 : ((s[k].toNat : Int) == 45) = false := by simp; omega
          have HO : Hid (okn s[k].toNat = false) := by simp [Hid, okn]; omega
          have d57 : decide ((s[k].toNat : Int) ≤ 57) = false := by simp; omega
          have d122 : decide ((s[k].toNat : Int) ≤ 122) = false := by simp; omega
          go_wp2
          rw [HN.out HO.out]
          go_ret
          exact ⟨rfl, rfl⟩
      · go_wp2
        go_ret
        have hkn : k = s.size := by omega
        subst hkn
        rw [name_all hl (fun j hj => hno.out j hj hj)]
        exact ⟨rfl, rfl⟩
  · have hin : inB (s.size : Int) 1 8 = false := by simp [inB]; omega
    rw [name_short hl]
    go_enter Try.func67, Try.ntmps67
    go_wp2_with (go_at_call 69; refine (inB_any _ _ _ _).mono ?_; rintro e w1 ⟨rfl, rfl⟩; rw [hin])
    go_ret
    exact ⟨rfl, rfl⟩
end Go.Proofs.Ytgjcppdeljoimaa
