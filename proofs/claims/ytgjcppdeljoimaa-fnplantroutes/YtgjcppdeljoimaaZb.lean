import Derived.Test.YtgjcppdeljoimaaM27
namespace Go.Proofs.Ytgjcppdeljoimaa
open Go.RowKit
theorem eqB_commZ (a b : ByteArray) : eqB a b = eqB b a := by
  simp only [eqB]; rw [Bool.eq_iff_iff, beq_iff_eq, beq_iff_eq]; exact eq_comm
def findI (n : Nat) (p : Nat → Bool) : Int := match (List.range n).find? p with | some i => i | none => -1
theorem find_yes {n : Nat} {p : Nat → Bool} {k : Nat} (hk : k < n) (h : p k = true) (hno : ∀ j, j < k → p j = false) : findI n p = k := by
  have : (List.range n).find? p = some k := by
    rw [List.find?_range_eq_some]
    refine ⟨h, by simpa using hk, fun j hj => by simp [hno j hj]⟩
  simp only [findI, this]
theorem find_no {n : Nat} {p : Nat → Bool} (h : ∀ j, j < n → p j = false) : findI n p = -1 := by
  have : (List.range n).find? p = none := by
    rw [List.find?_eq_none]
    intro i hi
    simp [h i (List.mem_range.1 hi)]
  simp only [findI, this]
theorem find_has (n : Nat) (f : Nat → ByteArray) (x : ByteArray) : decide (0 ≤ findI n (fun i => eqB (f i) x)) = hasB n f x := by
  unfold findI hasB
  cases h : (List.range n).find? (fun i => eqB (f i) x) with
  | none =>
    have h2 : (List.range n).any (fun i => eqB (f i) x) = false := by
      rw [List.any_eq_false]; intro i hi; rw [List.find?_eq_none] at h; exact h i hi
    rw [h2]; decide
  | some k =>
    have h1 := List.find?_some h
    have h3 := List.mem_of_find?_eq_some h
    have h2 : (List.range n).any (fun i => eqB (f i) x) = true := List.any_eq_true.2 ⟨k, h3, h1⟩
    rw [h2]; simp
set_option maxRecDepth 100000 in
set_option maxHeartbeats 1000000 in
theorem index_any' (B : Nat) (v : Value) (n : Nat) (f : Nat → ByteArray) (x : ByteArray) (w : World) (h : Lst B w v n 1 (cS f)) :
    Calls Try.prog 73 #[v, .string x] w fun e w' => e = .returned (.int .i64 (findI n (fun i => eqB (f i) x))) ∧ w' = w := by
  obtain ⟨oa, cap, rfl, hn, hc⟩ := h
  unfold maxLen at hn
  have HC : Hid _ := hc
  clear hc
  go_enter Try.func73, Try.ntmps73
  go_wp2
  go_loop [8] (fun i => ∃ k : Nat, k ≤ n ∧ i = .int .i64 k ∧ Hid (∀ j, j < k → eqB (f j) x = false)) (fun i => n - (intOf i).toNat)
  case atStart => exact ⟨0, Nat.zero_le _, rfl, fun _ h => by omega⟩
  case round =>
    obtain ⟨k, hk, rfl, hno⟩ := hrel
    by_cases hlt : k < n
    · obtain ⟨b, off, rfl, _, hcell⟩ := HC.out k hlt
      have hcell := hcell 0 (by omega)
      rw [Nat.mul_one, Nat.add_zero] at hcell
      simp only [cS] at hcell
      go_wp2
      · have hy : (x.toList == (f k).toList) = true := by assumption
        rw [find_yes hlt (by rw [eqB_commZ]; exact hy) hno.out]
        go_ret
        exact ⟨rfl, rfl⟩
      · have hy : (x.toList == (f k).toList) = false := by assumption
        go_round
        case rel => exact ⟨k + 1, by omega, by go_num, fun j hj => by
          by_cases e : j = k
          · subst e; rw [eqB_commZ]; exact hy
          · exact hno.out j (by omega)⟩
        case measure => simp [intOf]; omega
    · go_wp2
      go_ret
      have hkn : k = n := by omega
      subst hkn
      rw [find_no hno.out]
      exact ⟨rfl, rfl⟩
set_option maxRecDepth 100000 in
set_option maxHeartbeats 1000000 in
theorem hasI_any (B : Nat) (v : Value) (n : Nat) (f : Nat → ByteArray) (x : ByteArray) (w : World) (h : Lst B w v n 1 (cS f)) :
    Calls Try.prog 55 #[v, .string x] w fun e w' => e = .returned (.bool (hasB n f x)) ∧ w' = w := by
  rw [← find_has]
  go_enter Try.func55, Try.ntmps55
  go_wp2_with (go_at_call 73; refine (index_any' B v n f x _ h).mono ?_; rintro e w1 ⟨rfl, rfl⟩)
  go_ret
  exact ⟨rfl, rfl⟩
set_option maxRecDepth 100000 in
set_option maxHeartbeats 1000000 in
theorem isPlace_any (a s x : ByteArray) (c : Int) (nb : Nat) (w : World) (hx : w.cell? ⟨nb, 0, none⟩ = some (.string x)) (hnb : nb < w.heap.size) :
    Calls Try.prog 75 #[.agg #[.string a, .int .i64 c, .string s], .pointer (some ⟨nb, 0, none⟩)] w fun e w' => e = .returned (.bool (eqB a x)) ∧ Below w.heap.size w w' := by
  have hx' := fun o => cell_past hx hnb o
  go_enter Try.func75, Try.ntmps75
  go_wp2
  go_ret
  exact ⟨rfl, (Below.refl _ _).alloc (Nat.le_refl _) _⟩
set_option maxRecDepth 100000 in
set_option maxHeartbeats 1000000 in
theorem indexF_any (B : Nat) (v : Value) (n : Nat) (f : Nat → ByteArray × Int × ByteArray) (x : ByteArray) (nb : Nat) (w : World) (h : Lst B w v n 3 (cP f)) (hB : B ≤ w.heap.size) (hx : w.cell? ⟨nb, 0, none⟩ = some (.string x)) (hnb : nb < w.heap.size) :
    Calls Try.prog 63 #[v, .func (.func 75) #[] #[.pointer (some ⟨nb, 0, none⟩)]] w fun e w' => e = .returned (.int .i64 (placeI n f x)) ∧ Below w.heap.size w w' := by
  obtain ⟨oa, cap, rfl, hn, hc⟩ := h
  unfold maxLen at hn
  have HC : Hid _ := hc
  have HX : Hid _ := hx
  clear hc hx
  go_enter Try.func63, Try.ntmps63
  go_wp2
  go_loopw [8] (fun i wr => ∃ k : Nat, k ≤ n ∧ i = .int .i64 k ∧ Hid (∀ j, j < k → eqB (f j).1 x = false) ∧ Hid (Below w.heap.size w wr)) (fun i _ => n - (intOf i).toNat)
  case atStart => exact ⟨0, Nat.zero_le _, rfl, fun _ h => by omega, Below.refl _ _⟩
  case round =>
    obtain ⟨k, hk, rfl, hno, hbel⟩ := hrel
    have hs := hbel.out.size
    by_cases hlt : k < n
    · obtain ⟨b, off, rfl, hbB, hcell⟩ := HC.out k hlt
      have e0 : wr.cell? ⟨b, off + k * 3, none⟩ = some (.string (f k).1) := (hbel.out.cell (p := ⟨b, off + k * 3, none⟩) (by show b < _; omega)).trans (by simpa [cP] using hcell 0 (by omega))
      have e1 : wr.cell? ⟨b, off + k * 3 + 1, none⟩ = some (.int .i64 (f k).2.1) := (hbel.out.cell (p := ⟨b, off + k * 3 + 1, none⟩) (by show b < _; omega)).trans (by simpa [cP] using hcell 1 (by omega))
      have e2 : wr.cell? ⟨b, off + k * 3 + 2, none⟩ = some (.string (f k).2.2) := (hbel.out.cell (p := ⟨b, off + k * 3 + 2, none⟩) (by show b < _; omega)).trans (by simpa [cP] using hcell 2 (by omega))
      have HXR : Hid (wr.cell? ⟨nb, 0, none⟩ = some (.string x)) := (hbel.out.cell (p := ⟨nb, 0, none⟩) hnb).trans HX.out
      cases hy : eqB (f k).1 x
      · go_wp2_with (go_at_call 75; refine (isPlace_any _ _ x _ nb _ HXR.out (by omega)).mono ?_; rintro e w1 ⟨rfl, hb1⟩; rw [hy])
        go_roundw
        case rel => exact ⟨k + 1, by omega, by go_num, fun j hj => by
          by_cases e : j = k
          · subst e; exact hy
          · exact hno.out j (by omega), hbel.out.trans (hb1.mono hs)⟩
        case measure => simp [intOf]; omega
      · go_wp2_with (go_at_call 75; refine (isPlace_any _ _ x _ nb _ HXR.out (by omega)).mono ?_; rintro e w1 ⟨rfl, hb1⟩; rw [hy])
        rw [place_yes hlt hy hno.out]
        go_ret
        exact ⟨rfl, hbel.out.trans (hb1.mono hs)⟩
    · go_wp2
      go_ret
      have hkn : k = n := by omega
      subst hkn
      rw [place_no hno.out]
      exact ⟨rfl, hbel.out⟩
set_option maxRecDepth 100000 in
set_option maxHeartbeats 1000000 in
theorem containsF_any (B : Nat) (v : Value) (n : Nat) (f : Nat → ByteArray × Int × ByteArray) (x : ByteArray) (nb : Nat) (w : World) (h : Lst B w v n 3 (cP f)) (hB : B ≤ w.heap.size) (hx : w.cell? ⟨nb, 0, none⟩ = some (.string x)) (hnb : nb < w.heap.size) :
    Calls Try.prog 34 #[v, .func (.func 75) #[] #[.pointer (some ⟨nb, 0, none⟩)]] w fun e w' => e = .returned (.bool (decide (0 ≤ placeI n f x))) ∧ Below w.heap.size w w' := by
  go_enter Try.func34, Try.ntmps34
  go_wp2_with (go_at_call 63; refine (indexF_any B v n f x nb _ h hB hx hnb).mono ?_; rintro e w1 ⟨rfl, hb1⟩)
  go_ret
  exact ⟨rfl, hb1⟩
set_option maxRecDepth 100000 in
set_option maxHeartbeats 1000000 in
theorem hasPlace_any (B : Nat) (v0 v1 v2 v3 : Value) (n : Nat) (f : Nat → ByteArray × Int × ByteArray) (x : ByteArray) (w : World) (h : Lst B w v2 n 3 (cP f)) (hB : B ≤ w.heap.size) :
    Calls Try.prog 60 #[.agg #[v0, v1, v2, v3], .string x] w fun e w' => e = .returned (.bool (decide (0 ≤ placeI n f x))) ∧ Below w.heap.size w w' := by
  have hmf : ∀ (fn : Fn) (first cap : Array Value) (w : World), (Instr.makeFunc fn first cap).run Try.prog w = .ok (.func fn first cap) w := fun _ _ _ _ => rfl
  have H : Hid (∀ o1 o2, Lst B ((w.alloc o1).alloc o2) v2 n 3 (cP f)) := fun o1 o2 => h.kept (((Below.refl _ _).alloc (Nat.le_refl _) o1).alloc (by simp) o2) hB
  clear h
  go_enter Try.func60, Try.ntmps60
  go_wp2_with (go_at_call 34; refine (containsF_any B v2 n f x (w.heap.size + 1) _ (H.out _ _) (by simp; omega) (by simp) (by simp)).mono ?_; rintro e w1 ⟨rfl, hb1⟩)
  go_ret
  exact ⟨rfl, (((Below.refl _ _).alloc (Nat.le_refl _) _).alloc (by simp) _).trans (hb1.mono (by simp; omega))⟩
end Go.Proofs.Ytgjcppdeljoimaa
