import Derived.Test.YtgjcppdeljoimaaYa
namespace Go.Proofs.Ytgjcppdeljoimaa
open Go.RowKit
def Lst (B : Nat) (w : World) (v : Value) (n k : Nat) (c : Nat → Nat → Value) : Prop :=
  ∃ oa cap, v = .slice oa n cap ∧ n ≤ maxLen ∧ ∀ i, i < n → ∃ b off, oa = some ⟨b, off, none⟩ ∧ b < B ∧ ∀ j, j < k → w.cell? ⟨b, off + i * k + j, none⟩ = some (c i j)
theorem Lst.kept {B B' : Nat} {w w' : World} {v : Value} {n k : Nat} {c : Nat → Nat → Value} (h : Lst B w v n k c) (hb : Below B' w w') (hB : B ≤ B') : Lst B w' v n k c := by
  obtain ⟨oa, cap, hv, hn, hc⟩ := h
  refine ⟨oa, cap, hv, hn, fun i hi => ?_⟩
  obtain ⟨b, off, h1, h2, h3⟩ := hc i hi
  exact ⟨b, off, h1, h2, fun j hj => (hb.cell (p := ⟨b, off + i * k + j, none⟩) (by show b < B'; omega)).trans (h3 j hj)⟩
theorem cell_past {w : World} {b o : Nat} {v : Value} (h : w.cell? ⟨b, o, none⟩ = some v) (hb : b < w.heap.size) (ob : Obj) : (w.alloc ob).cell? ⟨b, o, none⟩ = some v :=
  (World.cell?_of_block (w := w) (a := ⟨b, o, none⟩) (Below.heap_alloc w ob b hb)).trans h
def eqB (a b : ByteArray) : Bool := a.toList == b.toList
def ltB (a b : ByteArray) : Bool := Op.bytesLess a.toList b.toList
theorem eqB_refl (a : ByteArray) : eqB a a = true := by simp [eqB]
def hasB (n : Nat) (f : Nat → ByteArray) (x : ByteArray) : Bool := (List.range n).any fun i => eqB (f i) x
theorem has_yes {n : Nat} {f : Nat → ByteArray} {x : ByteArray} {k : Nat} (hk : k < n) (h : eqB (f k) x = true) : hasB n f x = true := by
  simp only [hasB, List.any_eq_true]
  exact ⟨k, List.mem_range.2 hk, h⟩
theorem has_no {n : Nat} {f : Nat → ByteArray} {x : ByteArray} (h : ∀ j, j < n → eqB (f j) x = false) : hasB n f x = false := by
  simp only [hasB, List.any_eq_false]
  intro i hi
  simp [h i (List.mem_range.1 hi)]
set_option maxRecDepth 100000 in
set_option maxHeartbeats 1000000 in
theorem hasS_any (B : Nat) (v : Value) (n : Nat) (f : Nat → ByteArray) (x : ByteArray) (w : World) (h : Lst B w v n 1 (fun i _ => .string (f i))) :
    Calls Try.prog 44 #[v, .string x] w fun e w' => e = .returned (.bool (hasB n f x)) ∧ w' = w := by
  obtain ⟨oa, cap, rfl, hn, hc⟩ := h
  unfold maxLen at hn
  have HC : Hid _ := hc
  clear hc
  go_enter Try.func44, Try.ntmps44
  go_wp2
  go_loop [5] (fun i => ∃ k : Nat, k ≤ n ∧ i = .int .i64 k ∧ Hid (∀ j, j < k → eqB (f j) x = false)) (fun i => n - (intOf i).toNat)
  case atStart => exact ⟨0, Nat.zero_le _, rfl, fun _ h => by omega⟩
  case round =>
    obtain ⟨k, hk, rfl, hno⟩ := hrel
    by_cases hlt : k < n
    · obtain ⟨b, off, rfl, _, hcell⟩ := HC.out k hlt
      have hcell := hcell 0 (by omega)
      rw [Nat.mul_one, Nat.add_zero] at hcell
      go_wp2
      · have hy : ((f k).toList == x.toList) = true := by assumption
        rw [has_yes hlt hy]
        go_ret
        exact ⟨rfl, rfl⟩
      · have hy : ((f k).toList == x.toList) = false := by assumption
        go_round
        case rel => exact ⟨k + 1, by omega, by go_num, fun j hj => by
          by_cases e : j = k
          · subst e; exact hy
          · exact hno.out j (by omega)⟩
        case measure => simp [intOf]; omega
    · go_wp2
      go_ret
      have hkn : k = n := by omega
      subst hkn
      rw [has_no hno.out]
      exact ⟨rfl, rfl⟩
def befB (a b : ByteArray × ByteArray) : Bool := ltB a.1 b.1 || eqB a.1 b.1 && ltB a.2 b.2
set_option maxRecDepth 100000 in
set_option maxHeartbeats 1000000 in
theorem bef_any (a1 a2 b1 b2 : ByteArray) (w : World) :
    Calls Try.prog 68 #[.agg #[.string a1, .string a2], .agg #[.string b1, .string b2]] w fun e w' => e = .returned (.bool (befB (a1, a2) (b1, b2))) ∧ Below w.heap.size w w' := by
  cases h1 : Op.bytesLess a1.toList b1.toList
  · cases h2 : (a1.toList == b1.toList)
    · have hb : befB (a1, a2) (b1, b2) = false := by simp only [befB, ltB, eqB, h1, h2]; rfl
      rw [hb]
      go_enter Try.func68, Try.ntmps68
      go_wp2
      go_ret
      exact ⟨rfl, ((Below.refl _ _).alloc (Nat.le_refl _) _).alloc (by simp) _⟩
    · have hb : befB (a1, a2) (b1, b2) = Op.bytesLess a2.toList b2.toList := by simp only [befB, ltB, eqB, h1, h2]; simp
      rw [hb]
      go_enter Try.func68, Try.ntmps68
      go_wp2
      go_ret
      exact ⟨rfl, ((Below.refl _ _).alloc (Nat.le_refl _) _).alloc (by simp) _⟩
  · have hb : befB (a1, a2) (b1, b2) = true := by simp only [befB, ltB, h1]; rfl
    rw [hb]
    go_enter Try.func68, Try.ntmps68
    go_wp2
    go_ret
    exact ⟨rfl, ((Below.refl _ _).alloc (Nat.le_refl _) _).alloc (by simp) _⟩
def cP (g : Nat → ByteArray × Int × ByteArray) (i j : Nat) : Value := if j = 0 then .string (g i).1 else if j = 1 then .int .i64 (g i).2.1 else .string (g i).2.2
def cV (g : Nat → ByteArray × ByteArray × ByteArray × ByteArray) (i j : Nat) : Value := if j = 0 then .string (g i).1 else if j = 1 then .string (g i).2.1 else if j = 2 then .string (g i).2.2.1 else .string (g i).2.2.2
def cF (g : Nat → ByteArray × ByteArray) (i j : Nat) : Value := if j = 0 then .string (g i).1 else .string (g i).2
def cS (g : Nat → ByteArray) (i _ : Nat) : Value := .string (g i)
def placeI (n : Nat) (f : Nat → ByteArray × Int × ByteArray) (x : ByteArray) : Int := match (List.range n).find? (fun i => eqB (f i).1 x) with | some i => i | none => -1
theorem place_yes {n : Nat} {f : Nat → ByteArray × Int × ByteArray} {x : ByteArray} {k : Nat} (hk : k < n) (h : eqB (f k).1 x = true) (hno : ∀ j, j < k → eqB (f j).1 x = false) : placeI n f x = k := by
  have : (List.range n).find? (fun i => eqB (f i).1 x) = some k := by
    rw [List.find?_range_eq_some]
    refine ⟨h, by simpa using hk, fun j hj => by simp [hno j hj]⟩
  simp only [placeI, this]
theorem place_no {n : Nat} {f : Nat → ByteArray × Int × ByteArray} {x : ByteArray} (h : ∀ j, j < n → eqB (f j).1 x = false) : placeI n f x = -1 := by
  have : (List.range n).find? (fun i => eqB (f i).1 x) = none := by
    rw [List.find?_eq_none]
    intro i hi
    simp [h i (List.mem_range.1 hi)]
  simp only [placeI, this]
set_option maxRecDepth 100000 in
set_option maxHeartbeats 1000000 in
theorem place_any (B : Nat) (v0 v1 v2 v3 : Value) (n : Nat) (f : Nat → ByteArray × Int × ByteArray) (x : ByteArray) (w : World) (h : Lst B w v2 n 3 (cP f)) (hB : B ≤ w.heap.size) :
    Calls Try.prog 42 #[.agg #[v0, v1, v2, v3], .string x] w fun e w' => e = .returned (.int .i64 (placeI n f x)) ∧ Below w.heap.size w w' := by
  obtain ⟨oa, cap, rfl, hn, hc⟩ := h
  unfold maxLen at hn
  have HC : Hid _ := hc
  clear hc
  go_enter Try.func42, Try.ntmps42
  go_wp2
  go_loop [5] (fun i => ∃ k : Nat, k ≤ n ∧ i = .int .i64 k ∧ Hid (∀ j, j < k → eqB (f j).1 x = false)) (fun i => n - (intOf i).toNat)
  case atStart => exact ⟨0, Nat.zero_le _, rfl, fun _ h => by omega⟩
  case round =>
    obtain ⟨k, hk, rfl, hno⟩ := hrel
    by_cases hlt : k < n
    · obtain ⟨b, off, rfl, hbB, hcell⟩ := HC.out k hlt
      have hcell := cell_past (hcell 0 (by omega)) (by omega) (.cells #[v0, v1, .slice (some ⟨b, off, none⟩) n cap, v3] 28)
      rw [Nat.add_zero] at hcell
      simp only [cP, if_true] at hcell
      go_wp2
      · have hy : ((f k).1.toList == x.toList) = true := by assumption
        rw [place_yes hlt hy hno.out]
        go_ret
        exact ⟨rfl, (Below.refl _ _).alloc (Nat.le_refl _) _⟩
      · have hy : ((f k).1.toList == x.toList) = false := by assumption
        go_round
        case rel => exact ⟨k + 1, by omega, by go_num, fun j hj => by
          by_cases e : j = k
          · subst e; exact hy
          · exact hno.out j (by omega)⟩
        case measure => simp [intOf]; omega
    · go_wp2
      go_ret
      have hkn : k = n := by omega
      subst hkn
      rw [place_no hno.out]
      exact ⟨rfl, (Below.refl _ _).alloc (Nat.le_refl _) _⟩
end Go.Proofs.Ytgjcppdeljoimaa
