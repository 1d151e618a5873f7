/-
  Decimals and words of kinds, of the model and of the program.
-/
import Derived.Test.YthonjmefjmbogacDoorPq
import Derived.Test.YthonjmefjmbogacDoorHq
import Derived.Lib.ItoaNum
import Derived.Deep.RegionWith
namespace Go.Proofs.YthonjmefjmbogacDoor
open Go.RowKit

theorem under135 : Tryd.prog.underlying 37 = some (.slice 5) := by kernel_rfl

theorem under5 : Tryd.prog.underlying 5 = some (.int .u8) := by kernel_rfl

theorem under9 : Tryd.prog.underlying 9 = some .string := by kernel_rfl

/-- One byte, made a text. -/
theorem conv_one (x : Int) (W : World) : (convert 37 9 (.slice (some ⟨W.heap.size, 0, none⟩) 1 1)).run Tryd.prog (W.alloc (.cells #[.int .u8 x] 5)) = .ok (.string ⟨#[UInt8.ofNat x.toNat]⟩) (W.alloc (.cells #[.int .u8 x] 5)) := by
  rw [run_convert_bytes_string _ 37 9 5 _ 1 1 under135 under5 under9]
  rw [run_bytesToString _ ⟨W.heap.size, 0, none⟩ 1 1 [x]]
  · rfl
  · exact run_loadCells_list _ ⟨W.heap.size, 0, none⟩ [.int .u8 x] (fun j v hj => by
      match j, hj with
      | 0, hj => simp at hj; subst hj; simp [Addr.add])
/-- A list of bytes, as a text. -/
def tx (l : List UInt8) : ByteArray := ⟨l.toArray⟩

theorem tx_size (l : List UInt8) : (tx l).size = l.length := by simp [tx, ByteArray.size]

theorem tx_data (l : List UInt8) : (tx l).data.toList = l := by simp [tx]

theorem tx_of (a : ByteArray) : tx a.data.toList = a := by simp [tx]

theorem tx_app (l m : List UInt8) : tx l ++ tx m = tx (l ++ m) := by
  apply ByteArray.ext; rw [ByteArray.data_append]; simp [tx]

/-- One byte that lies somewhere, made a text. -/
theorem conv_cell (x : Int) (g : Nat) (W : World) (h : W.cell? ⟨g, 0, none⟩ = some (.int .u8 x)) : (convert 37 9 (.slice (some ⟨g, 0, none⟩) 1 1)).run Tryd.prog W = .ok (.string ⟨#[UInt8.ofNat x.toNat]⟩) W := by
  rw [run_convert_bytes_string _ 37 9 5 _ 1 1 under135 under5 under9]
  rw [run_bytesToString _ ⟨g, 0, none⟩ 1 1 [x]]
  · rfl
  · exact run_loadCells_list _ ⟨g, 0, none⟩ [.int .u8 x] (fun j v hj => by
      match j, hj with
      | 0, hj => simp at hj; subst hj; simpa [Addr.add] using h)

theorem dec_len (n : Nat) (h : n ≤ 9999) : (Lib.decDigits n).length ≤ 4 := by
  unfold Lib.decDigits
  split
  · simp
  · unfold Lib.decDigits
    split
    · simp
    · unfold Lib.decDigits
      split
      · simp
      · unfold Lib.decDigits
        split
        · simp
        · omega

theorem dec_pos (n : Nat) : 1 ≤ (Lib.decDigits n).length := by
  unfold Lib.decDigits
  split <;> simp

set_option maxRecDepth 100000 in
set_option maxHeartbeats 1000000 in
theorem dec_any : ∀ (f : Nat) (j : Int) (w : World), j.toNat < f → 0 ≤ j → j ≤ 9999 →
    Calls Tryd.prog 12 #[.int .i64 j] w fun e w' => e = .returned (.string (tx (Lib.decDigits j.toNat))) ∧ Below w.heap.size w w'
  | 0, _, _, h, _, _ => absurd h (Nat.not_lt_zero _)
  | f + 1, j, w, hf, h0, h1 => by
    have hcv := conv_one
    by_cases h : j < 10
    · have e : Lib.decDigits j.toNat = [UInt8.ofNat (48 + j).toNat] := by
        rw [Lib.decDigits_one (by omega)]; congr 2; omega
      rw [e]
      go_enter Tryd.func12, Tryd.ntmps12
      go_wp2
      go_ret
      exact ⟨rfl, (Below.refl _ _).alloc (Nat.le_refl _) _⟩
    · have e : Lib.decDigits j.toNat = Lib.decDigits (j / 10).toNat ++ [UInt8.ofNat (48 + j % 10).toNat] := by
        rw [Lib.decDigits, dif_neg (by omega)]
        have e1 : j.toNat / 10 = (j / 10).toNat := by omega
        have e2 : 48 + j.toNat % 10 = (48 + j % 10).toNat := by omega
        rw [e1, e2]
      rw [e]
      have hl : (tx (Lib.decDigits (j / 10).toNat)).size ≤ 4 := by rw [tx_size]; exact dec_len _ (by omega)
      have ih : ∀ W : World, Calls Tryd.prog 12 #[.int .i64 (j / 10)] W fun e w' => e = .returned (.string (tx (Lib.decDigits (j / 10).toNat))) ∧ Below W.heap.size W w' := fun W => dec_any f (j / 10) W (by omega) (by omega) (by omega)
      have hcv2 : (convert 37 9 (.slice (some ⟨w.heap.size, 0, none⟩) 1 1)).run Tryd.prog (w.alloc (.cells #[.int .u8 (48 + j % 10)] 5)).drew = .ok (.string ⟨#[UInt8.ofNat (48 + j % 10).toNat]⟩) (w.alloc (.cells #[.int .u8 (48 + j % 10)] 5)).drew := conv_cell _ _ _ (by simp)
      have hq : IntKind.i64.wrap (j.tdiv 10) = j / 10 := by rw [Int.tdiv_eq_ediv_of_nonneg h0]; simp [IntKind.wrap, IntKind.bits, IntKind.signed]; omega
      have hr : j.tmod 10 = j % 10 := Int.tmod_eq_emod_of_nonneg h0
      have h2 : IntKind.i64.wrap (48 + j % 10) = 48 + j % 10 := by simp [IntKind.wrap, IntKind.bits, IntKind.signed]; omega
      have h3 : IntKind.u8.wrap (48 + j % 10) = 48 + j % 10 := by simp [IntKind.wrap, IntKind.bits, IntKind.signed]; omega
      go_enter Tryd.func12, Tryd.ntmps12
      go_wp2
      go_region_with (first
        | (go_at_call 12; with_reducible refine (ih w.drew).mono ?_; rintro e w1 ⟨rfl, hb1⟩)
        | (go_at_call 12; with_reducible refine (ih (w.alloc (.cells #[.int .u8 (48 + j % 10)] 5)).drew).mono ?_; rintro e w1 ⟨rfl, hb1⟩; have hcv1 := conv_cell (48 + j % 10) w.heap.size w1 ((hb1.cell (p := ⟨w.heap.size, 0, none⟩) (by simp)).trans (by simp))))
      all_goals go_wp2
      all_goals go_ret
      · exact ⟨congrArg (fun s => Ending.returned (.string s)) (tx_app _ [_]), ((Below.refl _ _).drew.trans hb1).alloc hb1.size _⟩
      · exact ⟨congrArg (fun s => Ending.returned (.string s)) (tx_app _ [_]), ((Below.refl _ _).alloc (Nat.le_refl _) _).drew.trans (hb1.mono (by simp))⟩
      · exact ⟨congrArg (fun s => Ending.returned (.string s)) (tx_app _ [_]), ((Below.refl _ _).alloc (Nat.le_refl _) _).drew.trans (hb1.mono (by simp))⟩


/-- The word of a kind. -/
def kwT (k : Int) : ByteArray := if k = 1 then ⟨#[102, 105, 108, 108]⟩ else if k = 2 then ⟨#[109, 111, 118, 101]⟩ else if k = 3 then ⟨#[104, 111, 108, 100]⟩ else if k = 4 then ⟨#[99, 108, 101, 97, 110]⟩ else ⟨#[116, 101, 115, 116]⟩
theorem kw_size (k : Int) : (kwT k).size ≤ 5 := by
  unfold kwT
  repeat' split
  all_goals decide

set_option maxRecDepth 100000 in
set_option maxHeartbeats 4000000 in
theorem wordI_any (k : Int) (w : World) : Calls Tryd.prog 29 #[.int .i64 k] w fun e w' => e = .returned (.string (kwT k)) ∧ w' = w := by
  by_cases h1 : k = 1
  · subst h1
    go_enter Tryd.func29, Tryd.ntmps29
    go_wp2
    go_ret
    exact ⟨rfl, rfl⟩
  by_cases h2 : k = 2
  · subst h2
    go_enter Tryd.func29, Tryd.ntmps29
    go_wp2
    go_ret
    exact ⟨rfl, rfl⟩
  by_cases h3 : k = 3
  · subst h3
    go_enter Tryd.func29, Tryd.ntmps29
    go_wp2
    go_ret
    exact ⟨rfl, rfl⟩
  by_cases h4 : k = 4
  · subst h4
    go_enter Tryd.func29, Tryd.ntmps29
    go_wp2
    go_ret
    exact ⟨rfl, rfl⟩
  have e : kwT k = ⟨#[116, 101, 115, 116]⟩ := by unfold kwT; rw [if_neg h1, if_neg h2, if_neg h3, if_neg h4]
  have q1 : (k == 1) = false := by simpa using h1
  have q2 : (k == 2) = false := by simpa using h2
  have q3 : (k == 3) = false := by simpa using h3
  have q4 : (k == 4) = false := by simpa using h4
  rw [e]
  go_enter Tryd.func29, Tryd.ntmps29
  go_wp2
  go_ret
  exact ⟨rfl, rfl⟩

set_option maxRecDepth 100000 in
set_option maxHeartbeats 4000000 in
theorem kindX_any (k : Int) (w : World) (h0 : 1 ≤ k) (h1 : k ≤ 5) : Calls Tryd.prog 11 #[.int .i64 k] w fun e w' => e = .returned (.string (kwT k)) ∧ Below w.heap.size w w' := by
  have : k = 1 ∨ k = 2 ∨ k = 3 ∨ k = 4 ∨ k = 5 := by omega
  rcases this with rfl | rfl | rfl | rfl | rfl
  · go_enter Tryd.func11, Tryd.ntmps11
    go_wp2
    go_ret
    exact ⟨rfl, (Below.refl _ _).alloc (Nat.le_refl _) _⟩
  · go_enter Tryd.func11, Tryd.ntmps11
    go_wp2
    go_ret
    exact ⟨rfl, (Below.refl _ _).alloc (Nat.le_refl _) _⟩
  · go_enter Tryd.func11, Tryd.ntmps11
    go_wp2
    go_ret
    exact ⟨rfl, (Below.refl _ _).alloc (Nat.le_refl _) _⟩
  · go_enter Tryd.func11, Tryd.ntmps11
    go_wp2
    go_ret
    exact ⟨rfl, (Below.refl _ _).alloc (Nat.le_refl _) _⟩
  · go_enter Tryd.func11, Tryd.ntmps11
    go_wp2
    go_ret
    exact ⟨rfl, (Below.refl _ _).alloc (Nat.le_refl _) _⟩

end Go.Proofs.YthonjmefjmbogacDoor
