/-
  Several texts in one.
-/
import Derived.Test.YtndacfockllehaaGreatKa
import Derived.Test.YtndacfockllehaaGreatZb
/-
  Contracts of what the program asks of a plant: whether a name is a vessel's, a joint's; what is behind a valve.
-/
namespace Go.Proofs.YtndacfockllehaaGreat
open Go.RowKit

theorem find_any (n : Nat) (p : Nat → Bool) : decide (0 ≤ findI n p) = (List.range n).any p := by
  unfold findI
  cases h : (List.range n).find? p with
  | none =>
    have h2 : (List.range n).any p = false := by
      rw [List.any_eq_false]; intro i hi; rw [List.find?_eq_none] at h; exact h i hi
    rw [h2]; decide
  | some k =>
    have h2 : (List.range n).any p = true := List.any_eq_true.2 ⟨k, List.mem_of_find?_eq_some h, List.find?_some h⟩
    rw [h2]; simp

set_option maxRecDepth 100000 in
set_option maxHeartbeats 1000000 in
theorem ves1_any (a s x : ByteArray) (c : Int) (nb : Nat) (w : World) (hx : w.cell? ⟨nb, 0, none⟩ = some (.string x)) (hnb : nb < w.heap.size) :
    Calls Tryz.prog 121 #[.agg #[.string a, .int .i64 c, .string s], .pointer (some ⟨nb, 0, none⟩)] w fun e w' => e = .returned (.bool (eqB a x && decide (0 < c))) ∧ Below w.heap.size w w' := by
  have hx' := fun o => cell_past hx hnb o
  unfold eqB
  cases h1 : (a.toList == x.toList)
  · go_enter Tryz.func121, Tryz.ntmps121
    go_wp2
    go_ret
    exact ⟨rfl, (Below.refl _ _).alloc (Nat.le_refl _) _⟩
  · go_enter Tryz.func121, Tryz.ntmps121
    go_wp2
    go_ret
    exact ⟨rfl, (Below.refl _ _).alloc (Nat.le_refl _) _⟩

set_option maxRecDepth 100000 in
set_option maxHeartbeats 1000000 in
theorem vesF_any (B : Nat) (v : Value) (n : Nat) (f : Nat → ByteArray × Int × ByteArray) (x : ByteArray) (nb : Nat) (w : World) (h : Lst B w v n 3 (cP f)) (hB : B ≤ w.heap.size) (hx : w.cell? ⟨nb, 0, none⟩ = some (.string x)) (hnb : nb < w.heap.size) :
    Calls Tryz.prog 136 #[v, .func (.func 121) #[] #[.pointer (some ⟨nb, 0, none⟩)]] w fun e w' => e = .returned (.int .i64 (findI n fun i => eqB (f i).1 x && decide (0 < (f i).2.1))) ∧ Below w.heap.size w w' := by
  obtain ⟨oa, cap, rfl, hn, hc⟩ := h
  unfold maxLen at hn
  have HC : Hid _ := hc
  have HX : Hid _ := hx
  clear hc hx
  go_enter Tryz.func136, Tryz.ntmps136
  go_wp2
  go_loopw [8] (fun i wr => ∃ k : Nat, k ≤ n ∧ i = .int .i64 k ∧ Hid (∀ j, j < k → (eqB (f j).1 x && decide (0 < (f j).2.1)) = false) ∧ Hid (Below w.heap.size w wr)) (fun i _ => n - (intOf i).toNat)
  case atStart => exact ⟨0, Nat.zero_le _, rfl, fun _ h => by omega, Below.refl _ _⟩
  case round =>
    obtain ⟨k, hk, rfl, hno, hbel⟩ := hrel
    have hs := hbel.out.size
    by_cases hlt : k < n
    · obtain ⟨b, off, rfl, hbB, hcell⟩ := HC.out k hlt
      have e0 : wr.cell? ⟨b, off + k * 3, none⟩ = some (.string (f k).1) := (hbel.out.cell (p := ⟨b, off + k * 3, none⟩) (by show b < _; omega)).trans (hcell 0 (by omega))
      have e1 : wr.cell? ⟨b, off + k * 3 + 1, none⟩ = some (.int .i64 (f k).2.1) := (hbel.out.cell (p := ⟨b, off + k * 3 + 1, none⟩) (by show b < _; omega)).trans (hcell 1 (by omega))
      have e2 : wr.cell? ⟨b, off + k * 3 + 2, none⟩ = some (.string (f k).2.2) := (hbel.out.cell (p := ⟨b, off + k * 3 + 2, none⟩) (by show b < _; omega)).trans (hcell 2 (by omega))
      have HXR : Hid (wr.cell? ⟨nb, 0, none⟩ = some (.string x)) := (hbel.out.cell (p := ⟨nb, 0, none⟩) hnb).trans HX.out
      cases hy : (eqB (f k).1 x && decide (0 < (f k).2.1))
      · have HY : Hid ((eqB (f k).1 x && decide (0 < (f k).2.1)) = false) := hy
        clear hy
        go_wp2_with (go_at_call 121; refine (ves1_any _ _ x _ nb _ HXR.out (by omega)).mono ?_; rintro e w1 ⟨rfl, hb1⟩; rw [HY.out])
        go_roundw
        case rel => exact ⟨k + 1, by omega, by go_num, fun j hj => by
          by_cases e : j = k
          · subst e; exact HY.out
          · exact hno.out j (by omega), hbel.out.trans (hb1.mono hs)⟩
        case measure => simp [intOf]; omega
      · have HY : Hid ((eqB (f k).1 x && decide (0 < (f k).2.1)) = true) := hy
        clear hy
        go_wp2_with (go_at_call 121; refine (ves1_any _ _ x _ nb _ HXR.out (by omega)).mono ?_; rintro e w1 ⟨rfl, hb1⟩; rw [HY.out])
        rw [find_yes hlt HY.out hno.out]
        go_ret
        exact ⟨rfl, hbel.out.trans (hb1.mono hs)⟩
    · go_wp2
      go_ret
      have hkn : k = n := by omega
      subst hkn
      rw [find_no hno.out]
      exact ⟨rfl, hbel.out⟩

set_option maxRecDepth 100000 in
set_option maxHeartbeats 1000000 in
theorem vesC_any (B : Nat) (v : Value) (n : Nat) (f : Nat → ByteArray × Int × ByteArray) (x : ByteArray) (nb : Nat) (w : World) (h : Lst B w v n 3 (cP f)) (hB : B ≤ w.heap.size) (hx : w.cell? ⟨nb, 0, none⟩ = some (.string x)) (hnb : nb < w.heap.size) :
    Calls Tryz.prog 119 #[v, .func (.func 121) #[] #[.pointer (some ⟨nb, 0, none⟩)]] w fun e w' => e = .returned (.bool (vesB n f x)) ∧ Below w.heap.size w w' := by
  unfold vesB
  rw [← find_any]
  go_enter Tryz.func119, Tryz.ntmps119
  go_wp2_with (go_at_call 136; refine (vesF_any B v n f x nb _ h hB hx hnb).mono ?_; rintro e w1 ⟨rfl, hb1⟩)
  go_ret
  exact ⟨rfl, hb1⟩

set_option maxRecDepth 100000 in
set_option maxHeartbeats 1000000 in
theorem isVessel_any (B : Nat) (v0 v1 v2 v3 : Value) (n : Nat) (f : Nat → ByteArray × Int × ByteArray) (x : ByteArray) (w : World) (h : Lst B w v2 n 3 (cP f)) (hB : B ≤ w.heap.size) :
    Calls Tryz.prog 85 #[.agg #[v0, v1, v2, v3], .string x] w fun e w' => e = .returned (.bool (vesB n f x)) ∧ Below w.heap.size w w' := by
  have hmf : ∀ (fn : Fn) (first cap : Array Value) (w : World), (Instr.makeFunc fn first cap).run Tryz.prog w = .ok (.func fn first cap) w := fun _ _ _ _ => rfl
  have H : Hid (∀ o1 o2, Lst B ((w.alloc o1).alloc o2) v2 n 3 (cP f)) := fun o1 o2 => h.kept (((Below.refl _ _).alloc (Nat.le_refl _) o1).alloc (by simp) o2) hB
  clear h
  go_enter Tryz.func85, Tryz.ntmps85
  go_wp2_with (go_at_call 119; refine (vesC_any B v2 n f x (w.heap.size + 1) _ (H.out _ _) (by simp; omega) (by simp) (by simp)).mono ?_; rintro e w1 ⟨rfl, hb1⟩)
  go_ret
  exact ⟨rfl, (((Below.refl _ _).alloc (Nat.le_refl _) _).alloc (by simp) _).trans (hb1.mono (by simp; omega))⟩

set_option maxRecDepth 100000 in
set_option maxHeartbeats 1000000 in
theorem joi1_any (a s x : ByteArray) (c : Int) (nb : Nat) (w : World) (hx : w.cell? ⟨nb, 0, none⟩ = some (.string x)) (hnb : nb < w.heap.size) :
    Calls Tryz.prog 120 #[.agg #[.string a, .int .i64 c, .string s], .pointer (some ⟨nb, 0, none⟩)] w fun e w' => e = .returned (.bool (eqB a x && (c == 0))) ∧ Below w.heap.size w w' := by
  have hx' := fun o => cell_past hx hnb o
  unfold eqB
  cases h1 : (a.toList == x.toList)
  · go_enter Tryz.func120, Tryz.ntmps120
    go_wp2
    go_ret
    exact ⟨rfl, (Below.refl _ _).alloc (Nat.le_refl _) _⟩
  · go_enter Tryz.func120, Tryz.ntmps120
    go_wp2
    go_ret
    exact ⟨rfl, (Below.refl _ _).alloc (Nat.le_refl _) _⟩

set_option maxRecDepth 100000 in
set_option maxHeartbeats 1000000 in
theorem joiF_any (B : Nat) (v : Value) (n : Nat) (f : Nat → ByteArray × Int × ByteArray) (x : ByteArray) (nb : Nat) (w : World) (h : Lst B w v n 3 (cP f)) (hB : B ≤ w.heap.size) (hx : w.cell? ⟨nb, 0, none⟩ = some (.string x)) (hnb : nb < w.heap.size) :
    Calls Tryz.prog 136 #[v, .func (.func 120) #[] #[.pointer (some ⟨nb, 0, none⟩)]] w fun e w' => e = .returned (.int .i64 (findI n fun i => eqB (f i).1 x && ((f i).2.1 == 0))) ∧ Below w.heap.size w w' := by
  obtain ⟨oa, cap, rfl, hn, hc⟩ := h
  unfold maxLen at hn
  have HC : Hid _ := hc
  have HX : Hid _ := hx
  clear hc hx
  go_enter Tryz.func136, Tryz.ntmps136
  go_wp2
  go_loopw [8] (fun i wr => ∃ k : Nat, k ≤ n ∧ i = .int .i64 k ∧ Hid (∀ j, j < k → (eqB (f j).1 x && ((f j).2.1 == 0)) = false) ∧ Hid (Below w.heap.size w wr)) (fun i _ => n - (intOf i).toNat)
  case atStart => exact ⟨0, Nat.zero_le _, rfl, fun _ h => by omega, Below.refl _ _⟩
  case round =>
    obtain ⟨k, hk, rfl, hno, hbel⟩ := hrel
    have hs := hbel.out.size
    by_cases hlt : k < n
    · obtain ⟨b, off, rfl, hbB, hcell⟩ := HC.out k hlt
      have e0 : wr.cell? ⟨b, off + k * 3, none⟩ = some (.string (f k).1) := (hbel.out.cell (p := ⟨b, off + k * 3, none⟩) (by show b < _; omega)).trans (hcell 0 (by omega))
      have e1 : wr.cell? ⟨b, off + k * 3 + 1, none⟩ = some (.int .i64 (f k).2.1) := (hbel.out.cell (p := ⟨b, off + k * 3 + 1, none⟩) (by show b < _; omega)).trans (hcell 1 (by omega))
      have e2 : wr.cell? ⟨b, off + k * 3 + 2, none⟩ = some (.string (f k).2.2) := (hbel.out.cell (p := ⟨b, off + k * 3 + 2, none⟩) (by show b < _; omega)).trans (hcell 2 (by omega))
      have HXR : Hid (wr.cell? ⟨nb, 0, none⟩ = some (.string x)) := (hbel.out.cell (p := ⟨nb, 0, none⟩) hnb).trans HX.out
      cases hy : (eqB (f k).1 x && ((f k).2.1 == 0))
      · have HY : Hid ((eqB (f k).1 x && ((f k).2.1 == 0)) = false) := hy
        clear hy
        go_wp2_with (go_at_call 120; refine (joi1_any _ _ x _ nb _ HXR.out (by omega)).mono ?_; rintro e w1 ⟨rfl, hb1⟩; rw [HY.out])
        go_roundw
        case rel => exact ⟨k + 1, by omega, by go_num, fun j hj => by
          by_cases e : j = k
          · subst e; exact HY.out
          · exact hno.out j (by omega), hbel.out.trans (hb1.mono hs)⟩
        case measure => simp [intOf]; omega
      · have HY : Hid ((eqB (f k).1 x && ((f k).2.1 == 0)) = true) := hy
        clear hy
        go_wp2_with (go_at_call 120; refine (joi1_any _ _ x _ nb _ HXR.out (by omega)).mono ?_; rintro e w1 ⟨rfl, hb1⟩; rw [HY.out])
        rw [find_yes hlt HY.out hno.out]
        go_ret
        exact ⟨rfl, hbel.out.trans (hb1.mono hs)⟩
    · go_wp2
      go_ret
      have hkn : k = n := by omega
      subst hkn
      rw [find_no hno.out]
      exact ⟨rfl, hbel.out⟩

set_option maxRecDepth 100000 in
set_option maxHeartbeats 1000000 in
theorem joiC_any (B : Nat) (v : Value) (n : Nat) (f : Nat → ByteArray × Int × ByteArray) (x : ByteArray) (nb : Nat) (w : World) (h : Lst B w v n 3 (cP f)) (hB : B ≤ w.heap.size) (hx : w.cell? ⟨nb, 0, none⟩ = some (.string x)) (hnb : nb < w.heap.size) :
    Calls Tryz.prog 119 #[v, .func (.func 120) #[] #[.pointer (some ⟨nb, 0, none⟩)]] w fun e w' => e = .returned (.bool (joiB n f x)) ∧ Below w.heap.size w w' := by
  unfold joiB
  rw [← find_any]
  go_enter Tryz.func119, Tryz.ntmps119
  go_wp2_with (go_at_call 136; refine (joiF_any B v n f x nb _ h hB hx hnb).mono ?_; rintro e w1 ⟨rfl, hb1⟩)
  go_ret
  exact ⟨rfl, hb1⟩

set_option maxRecDepth 100000 in
set_option maxHeartbeats 1000000 in
theorem isJoint_any (B : Nat) (v0 v1 v2 v3 : Value) (n : Nat) (f : Nat → ByteArray × Int × ByteArray) (x : ByteArray) (w : World) (h : Lst B w v2 n 3 (cP f)) (hB : B ≤ w.heap.size) :
    Calls Tryz.prog 84 #[.agg #[v0, v1, v2, v3], .string x] w fun e w' => e = .returned (.bool (joiB n f x)) ∧ Below w.heap.size w w' := by
  have hmf : ∀ (fn : Fn) (first cap : Array Value) (w : World), (Instr.makeFunc fn first cap).run Tryz.prog w = .ok (.func fn first cap) w := fun _ _ _ _ => rfl
  have H : Hid (∀ o1 o2, Lst B ((w.alloc o1).alloc o2) v2 n 3 (cP f)) := fun o1 o2 => h.kept (((Below.refl _ _).alloc (Nat.le_refl _) o1).alloc (by simp) o2) hB
  clear h
  go_enter Tryz.func84, Tryz.ntmps84
  go_wp2_with (go_at_call 119; refine (joiC_any B v2 n f x (w.heap.size + 1) _ (H.out _ _) (by simp; omega) (by simp) (by simp)).mono ?_; rintro e w1 ⟨rfl, hb1⟩)
  go_ret
  exact ⟨rfl, (((Below.refl _ _).alloc (Nat.le_refl _) _).alloc (by simp) _).trans (hb1.mono (by simp; omega))⟩

set_option maxRecDepth 100000 in
set_option maxHeartbeats 1000000 in
theorem behI_any (n a b s x : ByteArray) (w : World) :
    Calls Tryz.prog 124 #[.agg #[.string n, .string a, .string b, .string s], .string x] w fun e w' => e = .returned (.tuple #[.string (behS (n, a, b, s) x), .bool (endB (n, a, b, s) x)]) ∧ Below w.heap.size w w' := by
  cases h1 : (x.toList == a.toList)
  · cases h2 : (x.toList == b.toList)
    · have e1 : behS (n, a, b, s) x = ⟨#[]⟩ := by simp only [behS, eqB, h1, h2, cond_false]
      have e2 : endB (n, a, b, s) x = false := by simp only [endB, eqB, h1, h2, Bool.or_false]
      rw [e1, e2]
      go_enter Tryz.func124, Tryz.ntmps124
      go_wp2
      go_ret2
      exact ⟨rfl, (Below.refl _ _).alloc (Nat.le_refl _) _⟩
    · have e1 : behS (n, a, b, s) x = a := by simp only [behS, eqB, h1, h2, cond_false, cond_true]
      have e2 : endB (n, a, b, s) x = true := by simp only [endB, eqB, h1, h2, Bool.or_true]
      rw [e1, e2]
      go_enter Tryz.func124, Tryz.ntmps124
      go_wp2
      go_ret2
      exact ⟨rfl, (Below.refl _ _).alloc (Nat.le_refl _) _⟩
  · have e1 : behS (n, a, b, s) x = b := by simp only [behS, eqB, h1, cond_true]
    have e2 : endB (n, a, b, s) x = true := by simp only [endB, eqB, h1, Bool.true_or]
    rw [e1, e2]
    go_enter Tryz.func124, Tryz.ntmps124
    go_wp2
    go_ret2
    exact ⟨rfl, (Below.refl _ _).alloc (Nat.le_refl _) _⟩

end Go.Proofs.YtndacfockllehaaGreat

/-
  Contracts of what the program asks of a plant: whether a name is a vessel's, a joint's, and whether a valve lies between two places.
-/
namespace Go.Proofs.YtndacfockllehaaGreat
open Go.RowKit

/-- Does this valve have this name, and lie between these two places? -/
def liesT (g : ByteArray × ByteArray × ByteArray × ByteArray) (v a b : ByteArray) : Bool := eqB g.1 v && (endB g a && eqB (behS g a) b)

set_option maxRecDepth 100000 in
set_option maxHeartbeats 1000000 in
theorem lies1_any (n c d s v a b : ByteArray) (na nv nb : Nat) (w : World) (ha : w.cell? ⟨na, 0, none⟩ = some (.string a)) (hv : w.cell? ⟨nv, 0, none⟩ = some (.string v)) (hb : w.cell? ⟨nb, 0, none⟩ = some (.string b)) (h1 : na < w.heap.size) (h2 : nv < w.heap.size) (h3 : nb < w.heap.size) :
    Calls Tryz.prog 123 #[.agg #[.string n, .string c, .string d, .string s], .pointer (some ⟨na, 0, none⟩), .pointer (some ⟨nv, 0, none⟩), .pointer (some ⟨nb, 0, none⟩)] w fun e w' => e = .returned (.bool (liesT (n, c, d, s) v a b)) ∧ Below w.heap.size w w' := by
  have ha' := cell_past ha h1 (.cells #[.string n, .string c, .string d, .string s] 105)
  have k0 : Hid (Below (w.heap.size + 1) (w.alloc (.cells #[.string n, .string c, .string d, .string s] 105)) (w.alloc (.cells #[.string n, .string c, .string d, .string s] 105))) := Below.refl _ _
  have HV : Hid _ := hv
  have HB : Hid _ := hb
  clear ha hv hb
  unfold liesT
  cases q1 : (n.toList == v.toList)
  · have E : Hid ((eqB n v && (endB (n, c, d, s) a && eqB (behS (n, c, d, s) a) b)) = false) := by unfold Hid eqB; rw [q1]; rfl
    go_enter Tryz.func123, Tryz.ntmps123
    go_wp2_with fail
    refine (behI_any n c d s a _).mono ?_; rintro e w1 ⟨rfl, hb1⟩
    have k1 : Hid (Below (w.heap.size + 1) (w.alloc (.cells #[.string n, .string c, .string d, .string s] 105)) w1) := below_of k0.out hb1
    have x0 := box_in k1.out 0 _ rfl
    simp only [List.getElem_toArray, List.getElem_cons_zero] at x0
    have y1 := old_in k1.out h2 HV.out
    have y2 := old_in k1.out h3 HB.out
    go_wp2_with fail
    go_ret
    rw [E.out]
    exact ⟨rfl, below_end k1.out⟩
  · cases q2 : endB (n, c, d, s) a
    · have E : Hid ((eqB n v && (false && eqB (behS (n, c, d, s) a) b)) = false) := by simp [Hid]
      go_enter Tryz.func123, Tryz.ntmps123
      go_wp2_with fail
      refine (behI_any n c d s a _).mono ?_; rintro e w1 ⟨rfl, hb1⟩
      rw [q2]
      have k1 : Hid (Below (w.heap.size + 1) (w.alloc (.cells #[.string n, .string c, .string d, .string s] 105)) w1) := below_of k0.out hb1
      have x0 := box_in k1.out 0 _ rfl
      simp only [List.getElem_toArray, List.getElem_cons_zero] at x0
      have y1 := old_in k1.out h2 HV.out
      have y2 := old_in k1.out h3 HB.out
      go_wp2_with fail
      go_ret
      rw [E.out]
      exact ⟨rfl, below_end k1.out⟩
    · have E : Hid ((eqB n v && (true && eqB (behS (n, c, d, s) a) b)) = ((behS (n, c, d, s) a).toList == b.toList)) := by unfold Hid eqB; rw [q1]; rfl
      go_enter Tryz.func123, Tryz.ntmps123
      go_wp2_with fail
      refine (behI_any n c d s a _).mono ?_; rintro e w1 ⟨rfl, hb1⟩
      rw [q2]
      have k1 : Hid (Below (w.heap.size + 1) (w.alloc (.cells #[.string n, .string c, .string d, .string s] 105)) w1) := below_of k0.out hb1
      have x0 := box_in k1.out 0 _ rfl
      simp only [List.getElem_toArray, List.getElem_cons_zero] at x0
      have y1 := old_in k1.out h2 HV.out
      have y2 := old_in k1.out h3 HB.out
      go_wp2_with fail
      go_ret
      rw [E.out]
      exact ⟨rfl, below_end k1.out⟩

set_option maxRecDepth 100000 in
set_option maxHeartbeats 1000000 in
theorem liesF_any (B : Nat) (u : Value) (n : Nat) (f : Nat → ByteArray × ByteArray × ByteArray × ByteArray) (v a b : ByteArray) (na nv nb : Nat) (w : World) (h : Lst B w u n 4 (cV f)) (hB : B ≤ w.heap.size) (ha : w.cell? ⟨na, 0, none⟩ = some (.string a)) (hv : w.cell? ⟨nv, 0, none⟩ = some (.string v)) (hb : w.cell? ⟨nb, 0, none⟩ = some (.string b)) (h1 : na < w.heap.size) (h2 : nv < w.heap.size) (h3 : nb < w.heap.size) :
    Calls Tryz.prog 137 #[u, .func (.func 123) #[] #[.pointer (some ⟨na, 0, none⟩), .pointer (some ⟨nv, 0, none⟩), .pointer (some ⟨nb, 0, none⟩)]] w fun e w' => e = .returned (.int .i64 (findI n fun i => liesT (f i) v a b)) ∧ Below w.heap.size w w' := by
  obtain ⟨oa, cap, rfl, hn, hc⟩ := h
  unfold maxLen at hn
  have HC : Hid _ := hc
  have HX : Hid (w.cell? ⟨na, 0, none⟩ = some (.string a) ∧ w.cell? ⟨nv, 0, none⟩ = some (.string v) ∧ w.cell? ⟨nb, 0, none⟩ = some (.string b)) := ⟨ha, hv, hb⟩
  clear hc ha hv hb
  go_enter Tryz.func137, Tryz.ntmps137
  go_wp2
  go_loopw [8] (fun i wr => ∃ k : Nat, k ≤ n ∧ i = .int .i64 k ∧ Hid (∀ j, j < k → liesT (f j) v a b = false) ∧ Hid (Below w.heap.size w wr)) (fun i _ => n - (intOf i).toNat)
  case atStart => exact ⟨0, Nat.zero_le _, rfl, fun _ h => by omega, Below.refl _ _⟩
  case round =>
    obtain ⟨k, hk, rfl, hno, hbel⟩ := hrel
    have hs := hbel.out.size
    by_cases hlt : k < n
    · obtain ⟨bb, off, rfl, hbB, hcell⟩ := HC.out k hlt
      have e0 : wr.cell? ⟨bb, off + k * 4, none⟩ = some (.string (f k).1) := (hbel.out.cell (p := ⟨bb, off + k * 4, none⟩) (by show bb < _; omega)).trans (hcell 0 (by omega))
      have e1 : wr.cell? ⟨bb, off + k * 4 + 1, none⟩ = some (.string (f k).2.1) := (hbel.out.cell (p := ⟨bb, off + k * 4 + 1, none⟩) (by show bb < _; omega)).trans (hcell 1 (by omega))
      have e2 : wr.cell? ⟨bb, off + k * 4 + 2, none⟩ = some (.string (f k).2.2.1) := (hbel.out.cell (p := ⟨bb, off + k * 4 + 2, none⟩) (by show bb < _; omega)).trans (hcell 2 (by omega))
      have e3 : wr.cell? ⟨bb, off + k * 4 + 3, none⟩ = some (.string (f k).2.2.2) := (hbel.out.cell (p := ⟨bb, off + k * 4 + 3, none⟩) (by show bb < _; omega)).trans (hcell 3 (by omega))
      have HXR : Hid (wr.cell? ⟨na, 0, none⟩ = some (.string a) ∧ wr.cell? ⟨nv, 0, none⟩ = some (.string v) ∧ wr.cell? ⟨nb, 0, none⟩ = some (.string b)) := ⟨(hbel.out.cell (p := ⟨na, 0, none⟩) h1).trans HX.out.1, (hbel.out.cell (p := ⟨nv, 0, none⟩) h2).trans HX.out.2.1, (hbel.out.cell (p := ⟨nb, 0, none⟩) h3).trans HX.out.2.2⟩
      cases hy : liesT (f k) v a b
      · have HY : Hid (liesT ((f k).1, (f k).2.1, (f k).2.2.1, (f k).2.2.2) v a b = false) := hy
        go_wp2_with (go_at_call 123; refine (lies1_any _ _ _ _ v a b na nv nb _ HXR.out.1 HXR.out.2.1 HXR.out.2.2 (by omega) (by omega) (by omega)).mono ?_; rintro e w1 ⟨rfl, hb1⟩; rw [HY.out])
        go_roundw
        case rel => exact ⟨k + 1, by omega, by go_num, fun j hj => by
          by_cases e : j = k
          · subst e; exact HY.out
          · exact hno.out j (by omega), hbel.out.trans (hb1.mono hs)⟩
        case measure => simp [intOf]; omega
      · have HY : Hid (liesT ((f k).1, (f k).2.1, (f k).2.2.1, (f k).2.2.2) v a b = true) := hy
        go_wp2_with (go_at_call 123; refine (lies1_any _ _ _ _ v a b na nv nb _ HXR.out.1 HXR.out.2.1 HXR.out.2.2 (by omega) (by omega) (by omega)).mono ?_; rintro e w1 ⟨rfl, hb1⟩; rw [HY.out])
        rw [find_yes hlt HY.out hno.out]
        go_ret
        exact ⟨rfl, hbel.out.trans (hb1.mono hs)⟩
    · go_wp2
      go_ret
      have hkn : k = n := by omega
      subst hkn
      rw [find_no hno.out]
      exact ⟨rfl, hbel.out⟩

set_option maxRecDepth 100000 in
set_option maxHeartbeats 1000000 in
theorem liesC_any (B : Nat) (u : Value) (n : Nat) (f : Nat → ByteArray × ByteArray × ByteArray × ByteArray) (v a b : ByteArray) (na nv nb : Nat) (w : World) (h : Lst B w u n 4 (cV f)) (hB : B ≤ w.heap.size) (ha : w.cell? ⟨na, 0, none⟩ = some (.string a)) (hv : w.cell? ⟨nv, 0, none⟩ = some (.string v)) (hb : w.cell? ⟨nb, 0, none⟩ = some (.string b)) (h1 : na < w.heap.size) (h2 : nv < w.heap.size) (h3 : nb < w.heap.size) :
    Calls Tryz.prog 122 #[u, .func (.func 123) #[] #[.pointer (some ⟨na, 0, none⟩), .pointer (some ⟨nv, 0, none⟩), .pointer (some ⟨nb, 0, none⟩)]] w fun e w' => e = .returned (.bool (liesB n f v a b)) ∧ Below w.heap.size w w' := by
  have E : liesB n f v a b = decide (0 ≤ findI n fun i => liesT (f i) v a b) := (find_any n _).symm
  rw [E]
  clear E
  go_enter Tryz.func122, Tryz.ntmps122
  go_wp2_with (go_at_call 137; refine (liesF_any B u n f v a b na nv nb _ h hB ha hv hb h1 h2 h3).mono ?_; rintro e w1 ⟨rfl, hb1⟩)
  go_ret
  exact ⟨rfl, hb1⟩

set_option maxRecDepth 100000 in
set_option maxHeartbeats 2000000 in
theorem liesBetween_any (B : Nat) (v0 v1 v2 v3 : Value) (n : Nat) (f : Nat → ByteArray × ByteArray × ByteArray × ByteArray) (v a b : ByteArray) (w : World) (h : Lst B w v3 n 4 (cV f)) (hB : B ≤ w.heap.size) :
    Calls Tryz.prog 86 #[.agg #[v0, v1, v2, v3], .string v, .string a, .string b] w fun e w' => e = .returned (.bool (liesB n f v a b)) ∧ Below w.heap.size w w' := by
  have hmf : ∀ (fn : Fn) (first cap : Array Value) (w : World), (Instr.makeFunc fn first cap).run Tryz.prog w = .ok (.func fn first cap) w := fun _ _ _ _ => rfl
  have H : Hid (∀ w', Below w.heap.size w w' → Lst B w' v3 n 4 (cV f)) := fun w' hb => h.kept hb hB
  clear h
  have hb4 : Hid (∀ o1 o2 o3 o4, Below w.heap.size w ((((w.alloc o1).alloc o2).alloc o3).alloc o4)) := fun o1 o2 o3 o4 => ((((Below.refl _ _).alloc (Nat.le_refl _) o1).alloc (by simp) o2).alloc (by simp; omega) o3).alloc (by simp; omega) o4
  go_enter Tryz.func86, Tryz.ntmps86
  go_wp2_with fail
  have cv := cell_past (cell_past (new_cell (w.alloc (.cells #[v0, v1, v2, v3] 40)) #[.string v] 9 0 _ rfl) (by simp) (.cells #[.string a] 9)) (by simp) (.cells #[.string b] 9)
  have ca := cell_past (new_cell ((w.alloc (.cells #[v0, v1, v2, v3] 40)).alloc (.cells #[.string v] 9)) #[.string a] 9 0 _ rfl) (by simp) (.cells #[.string b] 9)
  have cb := new_cell (((w.alloc (.cells #[v0, v1, v2, v3] 40)).alloc (.cells #[.string v] 9)).alloc (.cells #[.string a] 9)) #[.string b] 9 0 _ rfl
  simp only [World.size_alloc, List.getElem_toArray, List.getElem_cons_zero] at cv ca cb
  refine (liesC_any B v3 n f v a b (w.heap.size + 1 + 1) (w.heap.size + 1) (w.heap.size + 1 + 1 + 1) _ (H.out _ (hb4.out _ _ _ _)) (by simp; omega) ca cv cb (by simp) (by simp) (by simp)).mono ?_; rintro e w1 ⟨rfl, hb1⟩
  go_wp2_with fail
  go_ret
  exact ⟨rfl, (hb4.out _ _ _ _).trans (hb1.mono (by simp; omega))⟩

end Go.Proofs.YtndacfockllehaaGreat
