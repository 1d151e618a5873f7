/-
  Several texts in one.
-/
import Derived.Test.YtaejlcanccfmmaaGreatDoorM1
import Derived.Lib.Bytealg
import Derived.Lib.Strings
import Derived.Deep.RegionWith
import Derived.Test.YtaejlcanccfmmaaGreatDoorLy
namespace Go.Proofs.YtaejlcanccfmmaaGreatDoor
open Go.RowKit
theorem okn_cases (r : Int) : (r < 45 ∧ okn r = false) ∨ (r = 45 ∧ okn r = true) ∨ ((45 < r ∧ r < 48) ∧ okn r = false) ∨ ((48 ≤ r ∧ r ≤ 57) ∧ okn r = true) ∨ ((57 < r ∧ r < 97) ∧ okn r = false) ∨ ((97 ≤ r ∧ r ≤ 122) ∧ okn r = true) ∨ (122 < r ∧ okn r = false) := by
  simp only [okn, decide_eq_true_eq, decide_eq_false_iff_not]; omega
set_option maxHeartbeats 1000000 in
theorem okn_any (r : Int) (w : World) : Calls Tryz.prog 90 #[.int .i32 r] w fun e w' => e = .returned (.bool (okn r)) ∧ w' = w := by
  rcases okn_cases r with ⟨h, ho⟩ | ⟨h, ho⟩ | ⟨⟨h, h'⟩, ho⟩ | ⟨⟨h, h'⟩, ho⟩ | ⟨⟨h, h'⟩, ho⟩ | ⟨⟨h, h'⟩, ho⟩ | ⟨h, ho⟩
  · have h45 : (r == 45) = false := by simp; omega
    rw [ho]
    go_enter Tryz.func90, Tryz.ntmps90
    go_wp2
    go_ret
    exact ⟨rfl, rfl⟩
  · subst h
    rw [ho]
    go_enter Tryz.func90, Tryz.ntmps90
    go_wp2
    go_ret
    exact ⟨rfl, rfl⟩
  · have h45 : (r == 45) = false := by simp; omega
    rw [ho]
    go_enter Tryz.func90, Tryz.ntmps90
    go_wp2
    go_ret
    exact ⟨rfl, rfl⟩
  · have h45 : (r == 45) = false := by simp; omega
    rw [ho]
    go_enter Tryz.func90, Tryz.ntmps90
    go_wp2
    go_ret
    exact ⟨rfl, rfl⟩
  · have h45 : (r == 45) = false := by simp; omega
    have d57 : decide (r ≤ 57) = false := by simp; omega
    rw [ho]
    go_enter Tryz.func90, Tryz.ntmps90
    go_wp2
    go_ret
    exact ⟨rfl, rfl⟩
  · have h45 : (r == 45) = false := by simp; omega
    rw [ho]
    go_enter Tryz.func90, Tryz.ntmps90
    go_wp2
    go_ret
    exact ⟨rfl, rfl⟩
  · have h45 : (r == 45) = false := by simp; omega
    have d57 : decide (r ≤ 57) = false := by simp; omega
    have d122 : decide (r ≤ 122) = false := by simp; omega
    rw [ho]
    go_enter Tryz.func90, Tryz.ntmps90
    go_wp2
    go_ret
    exact ⟨rfl, rfl⟩
theorem rune_okn (t : ByteArray) (pos : Nat) (h : pos < t.size) : ∃ (r : Int) (wd : Nat), ((Utf8.decode t pos).1 : Int) = r ∧ (Utf8.decode t pos).2 = wd ∧ okn r = okn (t[pos].toNat : Int) ∧ (okn r = true → wd = 1) := by
  by_cases ha : (t[pos]'h).toNat < 128
  · refine ⟨_, _, rfl, rfl, ?_, fun _ => ?_⟩
    · rw [decode_ascii t pos h ha]
    · rw [decode_ascii t pos h ha]
  · have hh := decode_high t pos h (by omega)
    have e1 : okn ((Utf8.decode t pos).1 : Int) = false := by simp [okn]; omega
    have e2 : okn (t[pos].toNat : Int) = false := by simp [okn]; omega
    exact ⟨_, _, rfl, rfl, e1.trans e2.symm, fun h => by rw [e1] at h; cases h⟩
set_option maxRecDepth 100000 in
set_option maxHeartbeats 1000000 in
theorem nameI_any (s : ByteArray) (w : World) (hs : s.size ≤ maxLen) : Calls Tryz.prog 69 #[.string s] w fun e w' => e = .returned (.bool (nameB s)) ∧ Below w.heap.size w w' := by
  unfold maxLen at hs
  by_cases hl : 1 ≤ s.size ∧ s.size ≤ 8
  · have d1 : decide ((s.size : Int) < 1) = false := by simp; omega
    have d2 : decide ((8 : Int) < (s.size : Int)) = false := by simp; omega
    go_enter Tryz.func69, Tryz.ntmps69
    go_wp2
    go_loopw [4] (fun _ wr => ∃ pos : Nat, pos ≤ s.size ∧ wr = w.iter s pos ∧ Hid (∀ j (hj : j < s.size), j < pos → okn s[j].toNat = true)) (fun _ wr => s.size - wr.iterPos w.heap.size)
    case atStart => exact ⟨0, Nat.zero_le _, rfl, fun _ _ h => by omega⟩
    case round =>
      obtain ⟨pos, hpos, rfl, hno⟩ := hrel
      by_cases hp : pos < s.size
      · obtain ⟨r, wd, hr1, hr2, hr3, hr4⟩ := rune_okn s pos hp
        have hnx : ∀ ty, (Instr.next (.pointer (some ⟨w.heap.size, 0, none⟩)) true ty).run Tryz.prog (w.iter s pos) = .ok (.tuple #[.bool true, .int .i64 pos, .int .i32 r]) (w.iter s (pos + wd)) := fun ty => by
          rw [run_next_any w s pos ty hp, hr1, hr2]
        clear hr1 hr2
        have H3 : Hid _ := hr3
        have H4 : Hid _ := hr4
        clear hr3 hr4
        cases hok : okn r
        · have hnb := name_bad hp (by rw [← H3.out]; exact hok)
          have HN : Hid _ := hnb
          clear hnb
          go_wp2_with (go_at_call 90; refine (okn_any _ _).mono ?_; rintro e w1 ⟨rfl, rfl⟩; rw [hok])
          rw [HN.out]
          go_ret
          exact ⟨rfl, (Below.refl _ w).alloc (Nat.le_refl _) _⟩
        · have hw1 := H4.out hok
          subst hw1
          go_wp2_with (go_at_call 90; refine (okn_any _ _).mono ?_; rintro e w1 ⟨rfl, rfl⟩; rw [hok])
          go_roundw
          case rel => exact ⟨pos + 1, by omega, rfl, fun j hj hjp => by
            by_cases e : j = pos
            · subst e; rw [← H3.out]; exact hok
            · exact hno.out j hj (by omega)⟩
          case measure => simp; omega
      · have hnx : ∀ ty, (Instr.next (.pointer (some ⟨w.heap.size, 0, none⟩)) true ty).run Tryz.prog (w.iter s pos) = .ok (.tuple #[.bool false]) (w.iter s pos) := fun ty => run_next_end w s pos ty hp
        have hnm := name_all hl (fun j hj => hno.out j hj (by omega))
        have HN : Hid _ := hnm
        clear hnm
        go_wp2
        rw [HN.out]
        go_ret
        exact ⟨rfl, (Below.refl _ w).alloc (Nat.le_refl _) _⟩
  · rw [name_short hl]
    by_cases h1 : s.size < 1
    · have d1 : decide ((s.size : Int) < 1) = true := by simp; omega
      go_enter Tryz.func69, Tryz.ntmps69
      go_wp2
      go_ret
      exact ⟨rfl, Below.refl _ _⟩
    · have d1 : decide ((s.size : Int) < 1) = false := by simp; omega
      have d2 : decide ((8 : Int) < (s.size : Int)) = true := by simp; omega
      go_enter Tryz.func69, Tryz.ntmps69
      go_wp2
      go_ret
      exact ⟨rfl, Below.refl _ _⟩
end Go.Proofs.YtaejlcanccfmmaaGreatDoor

namespace Go.Proofs.YtaejlcanccfmmaaGreatDoor
open Go.RowKit
abbrev DShareBatch := ByteArray × List ByteArray × List ByteArray
abbrev DShareBook := List ByteArray × List DShareBatch
theorem width_DShareBatch : Lay.width DShareBatch = 3 := rfl
theorem at_DShareBatch {S : Nat → Prop} {w : World} {a : DShareBatch} {c : Nat → Value} : Lay.At S w a c ↔ (c 0 = .string a.1 ∧ a.1.size ≤ maxLen) ∧ AtL S w a.2.1 (c 1) ∧ AtL S w a.2.2 (c 2) := Iff.rfl
theorem tot_DShareBatch {a : DShareBatch} : Lay.tot a = a.1.size + (totL a.2.1 + (totL a.2.2)) := rfl
theorem at_DShareBook {S : Nat → Prop} {w : World} {a : DShareBook} {c : Nat → Value} : Lay.At S w a c ↔ AtL S w a.1 (c 0) ∧ AtL S w a.2 (c 1) := Iff.rfl
theorem tot_DShareBook {a : DShareBook} : Lay.tot a = totL a.1 + (totL a.2) := rfl
end Go.Proofs.YtaejlcanccfmmaaGreatDoor
