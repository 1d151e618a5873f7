/-
  The law FnExactClaimShut, walked: whatever the book and the valve, the call returns true, and nothing that was there before has turned.
-/
import Derived.Test.YticojnepejboaabGreatCsh
import Derived.Test.YticojnepejboaabGreatCbe
import Derived.Test.YticojnepejboaabGreatCbk
import Derived.Deep.RegionWith
namespace Go.Proofs.YticojnepejboaabGreat
open Go.RowKit

/-- How many marks a list takes, at most. -/
theorem cntL_le {α : Type} [Own α] (K : Nat) : ∀ l : List α, (∀ x ∈ l, Own.cnt x ≤ K * (Lay.tot x + 1)) → cntL l ≤ K * totL l
  | [], _ => by simp [cntL, cntTo]
  | x :: l, h => by
    have h1 := h x List.mem_cons_self
    have h2 := cntL_le K l (fun y hy => h y (List.mem_cons_of_mem _ hy))
    have e1 : cntL (x :: l) = Own.cnt x + cntL l := by simp [cntL, cntTo]
    have e2 : totL (x :: l) = (Lay.tot x + 1) + totL l := by simp [totL, sumTo]; omega
    rw [e1, e2, Nat.mul_add]
    omega
theorem cntL_strs (l : List ByteArray) : cntL l ≤ totL l := by
  have := cntL_le 1 l (fun x _ => by show 1 ≤ 1 * (x.size + 1); omega)
  omega
theorem cntL_ints : ∀ l : List Int, cntL l = l.length
  | [] => rfl
  | x :: l => by
    have e1 : cntL (x :: l) = 1 + cntL l := by simp [cntL, cntTo]; rfl
    rw [e1, cntL_ints l, List.length_cons]; omega
theorem cntL_uses (l : List DClaimUse) : cntL l ≤ 3 * totL l := cntL_le 3 l (fun x _ => by rw [cnt_DClaimUse]; omega)
/-- The lists of a book. -/
def lists4 (a : DClaimBook) : DClaimBookL := (a.1, a.2.1, a.2.2.1, a.2.2.2.1)
theorem cnt_lists {a : DClaimBook} (h : Lay.tot a ≤ 1048576) : Own.cnt (lists4 a) ≤ 4194304 := by
  have h0 : cntL a.1 ≤ 4 * totL a.1 := cntL_le 4 a.1 (fun x _ => by rw [cnt_DClaimFoe]; omega)
  have h1 : cntL a.2.1 ≤ 4 * totL a.2.1 := cntL_le 4 a.2.1 (fun x _ => by
    rw [cnt_DClaimSpot, tot_DClaimSpot]
    have q1 := cntL_strs x.2.2.2.2
    omega)
  have h2 : cntL a.2.2.1 ≤ totL a.2.2.1 := cntL_strs _
  have h3 : cntL a.2.2.2.1 ≤ 4 * totL a.2.2.2.1 := cntL_le 4 a.2.2.2.1 (fun x _ => by
    rw [cnt_DClaimPart, tot_DClaimPart]
    have q1 := cntL_strs x.2.2.1
    have q2 := cntL_uses x.2.2.2.1
    have q3 := cntL_strs x.2.2.2.2.1
    have q4 := cntL_strs x.2.2.2.2.2.1
    omega)
  rw [tot_DClaimBook] at h
  rw [cnt_DClaimBookL]
  show cntL a.1 + (cntL a.2.1 + (cntL a.2.2.1 + cntL a.2.2.2.1)) ≤ _
  omega
theorem on_lists {S : Nat → Prop} {w : World} {a : DClaimBook} {c : Nat → Value} (h : Own.On S w a c) : Own.On S w (lists4 a) c := by
  obtain ⟨A0, B0, p0, q0, H0, A1, B1, p1, q1, H1, A2, B2, p2, q2, H2, A3, B3, p3, q3, H3, _⟩ := on_DClaimBook.1 h
  exact on_DClaimBookL.2 ⟨A0, B0, p0, q0, H0, A1, B1, p1, q1, H1, A2, B2, p2, q2, H2, H3.up (fun b hb => (p3 b hb).1)⟩
theorem shut_len {a : DClaimBook} {x : ByteArray} (h : Lay.tot a ≤ 1048576) : (shutL a.1 a.2.1 a.2.2.1 a.2.2.2.1 a.2.2.2.2 x).length ≤ 2097152 := by
  rw [tot_DClaimBook] at h
  have h1 := totL_len a.2.2.2.1
  unfold shutL
  split
  · have h2 := shutK_len x a.2.2.2.1 _ (Nat.le_refl _)
    rw [List.take_length] at h2
    omega
  · simp
theorem ansC (S : Nat → Prop) (a : DClaimBook) (c : Nat → Value) (tx : ByteArray) (w : World) (h : Lay.At S w a c) (hS : ∀ b, S b → b < w.heap.size) (hm : Lay.tot a ≤ 1048576) :
    Calls Tryz.prog 5 #[.agg #[c 0, c 1, c 2, c 3, c 4], .string tx] w fun e w' => ∃ r, e = .returned r ∧ OnL (fun b => w.heap.size ≤ b ∧ b < w'.heap.size) w' (shutL a.1 a.2.1 a.2.2.1 a.2.2.2.1 a.2.2.2.2 tx) r ∧ Below w.heap.size w w' := by
  obtain ⟨h0, h1, h2, h3, ⟨e4, _, _⟩⟩ := at_DClaimBook.1 h
  rw [e4]
  exact shutC_any S _ _ _ _ a.2.2.2.2 a.1 a.2.1 a.2.2.1 a.2.2.2.1 tx w h0 h1 h2 h3 hS (by rw [tot_DClaimBook] at hm; have := totL_len a.2.2.2.1; omega)
theorem ansI (S : Nat → Prop) (a : DClaimBook) (c : Nat → Value) (tx : ByteArray) (w : World) (h : Lay.At S w a c) (hS : ∀ b, S b → b < w.heap.size) (hm : Lay.tot a ≤ 1048576) :
    Calls Tryz.prog 7 #[.agg #[c 0, c 1, c 2, c 3, c 4], .string tx] w fun e w' => ∃ r, e = .returned r ∧ OnL (fun b => w.heap.size ≤ b ∧ b < w'.heap.size) w' (shutL a.1 a.2.1 a.2.2.1 a.2.2.2.1 a.2.2.2.2 tx) r ∧ Below w.heap.size w w' := by
  obtain ⟨h0, h1, h2, h3, ⟨e4, _, _⟩⟩ := at_DClaimBook.1 h
  rw [e4]
  exact shutI_any S _ _ _ _ a.2.2.2.2 a.1 a.2.1 a.2.2.1 a.2.2.2.1 tx w h0 h1 h2 h3 hS (by rw [tot_DClaimBook] at hm; have := totL_len a.2.2.2.1; omega)

set_option maxRecDepth 100000 in
set_option maxHeartbeats 8000000 in
theorem law_any (S : Nat → Prop) (a : DClaimBook) (c : Nat → Value) (tx : ByteArray) (w : World) (h : Lay.At S w a c) (hS : ∀ b, S b → b < w.heap.size) (htx : tx.size ≤ maxLen) :
    Calls Tryz.prog 3 #[.agg #[c 0, c 1, c 2, c 3, c 4], .string tx] w fun e w' => e = .returned (.bool true) ∧ Below w.heap.size w w' := by
  have H : Hid (∀ w', Below w.heap.size w w' → Lay.At S w' a c) := fun w' hb => Lay.same h (Same.of_below hb hS)
  clear h
  have k0 : Hid (Below (w.heap.size + 1) (w.alloc (.cells #[c 0, c 1, c 2, c 3, c 4] 27)) (w.alloc (.cells #[c 0, c 1, c 2, c 3, c 4] 27))) := Below.refl _ _
  unfold maxLen at htx
  by_cases gtx : 1048576 < tx.size
  · go_enter Tryz.func3, Tryz.ntmps3
    go_wp2_with fail
    go_ret
    exact ⟨rfl, below_end k0.out⟩
  go_enter Tryz.func3, Tryz.ntmps3
  go_wp2_with fail
  refine (szClaimBook_any S a c 1048576 _ (H.out _ (below_end k0.out)) (fun b hb => by have := hS b hb; simp; omega) (by omega) (by omega)).mono ?_
  rintro e w1 ⟨y, rfl, hy, hb1⟩
  have k1 : Hid (Below (w.heap.size + 1) (w.alloc (.cells #[c 0, c 1, c 2, c 3, c 4] 27)) w1) := below_of k0.out hb1
  have HY : Hid _ := hy
  clear hy hb1 k0
  by_cases hneg : y < 0
  · go_wp2_with fail
    go_ret
    exact ⟨rfl, below_end k1.out⟩
  have s1 : w.heap.size + 1 ≤ w1.heap.size := by have := k1.out.size; simpa using this
  have HM : Hid (Lay.tot a ≤ 1048576) := by have := HY.out; show _ ≤ _; omega
  have a0 := box_at _ _ k1.out 0 (c 0) rfl
  have a1 := box_at _ _ k1.out 1 (c 1) rfl
  have a2 := box_at _ _ k1.out 2 (c 2) rfl
  have a3 := box_at _ _ k1.out 3 (c 3) rfl
  have a4 := box_at _ _ k1.out 4 (c 4) rfl
  go_wp2_with fail
  refine (toClaimBook_any S a c _ (H.out _ (below_end k1.out)) (fun b hb => by have := hS b hb; omega) HM.out).mono ?_
  rintro e w2 ⟨g, rfl, G, hb2⟩
  have k2 : Hid (Below (w.heap.size + 1) (w.alloc (.cells #[c 0, c 1, c 2, c 3, c 4] 27)) w2) := below_of k1.out hb2
  have s2 : w1.heap.size ≤ w2.heap.size := hb2.size
  have HG : Hid (Lay.At (fun b => w1.heap.size ≤ b ∧ b < w2.heap.size) w2 a g) := G
  clear G a0 a1 a2 a3 a4 hb2
  go_wp2_with fail
  refine (ansC _ a g tx _ HG.out (fun b hb => hb.2) HM.out).mono ?_
  rintro e w3 ⟨r0, rfl, hr0, hb3⟩
  have k3 : Hid (Below (w.heap.size + 1) (w.alloc (.cells #[c 0, c 1, c 2, c 3, c 4] 27)) w3) := below_of k2.out hb3
  have s3 : w2.heap.size ≤ w3.heap.size := hb3.size
  have A0 : Hid (∀ w', Below w3.heap.size w3 w' → AtL (fun b => b < w3.heap.size) w' (shutL a.1 a.2.1 a.2.2.1 a.2.2.2.1 a.2.2.2.2 tx) r0) := fun w' hb => ((OnL.at_ hr0).up (fun b hb => hb.2)).same (Same.of_below hb (fun b hb => hb))
  clear hb3 HG hr0 k1 k2
  have a0 := box_at _ _ k3.out 0 (c 0) rfl
  have a1 := box_at _ _ k3.out 1 (c 1) rfl
  have a2 := box_at _ _ k3.out 2 (c 2) rfl
  have a3 := box_at _ _ k3.out 3 (c 3) rfl
  have a4 := box_at _ _ k3.out 4 (c 4) rfl
  go_wp2_with fail
  refine (toClaimBook_own S a c _ (H.out _ (below_end k3.out)) (fun b hb => by have := hS b hb; omega) HM.out).mono ?_
  rintro e w4 ⟨g4, rfl, G4, hb4⟩
  have k4 : Hid (Below (w.heap.size + 1) (w.alloc (.cells #[c 0, c 1, c 2, c 3, c 4] 27)) w4) := below_of k3.out hb4
  have s4 : w3.heap.size ≤ w4.heap.size := hb4.size
  have b34 : Hid (Below w3.heap.size w3 w4) := hb4
  have O4 : Hid (Own.On (fun b => w3.heap.size ≤ b ∧ b < w4.heap.size) w4 a g4) := G4
  have G4' := Own.on_at G4
  rw [at_DClaimBook] at G4'
  obtain ⟨l0, l1, l2, l3, ⟨e4, _, _⟩⟩ := G4'
  clear G4 hb4 a0 a1 a2 a3 a4 k3
  obtain ⟨o0, x0, e0, _⟩ := id l0
  obtain ⟨o1, x1, e1, _⟩ := id l1
  obtain ⟨o2, x2, e2, _⟩ := id l2
  obtain ⟨o3, x3, e3, _⟩ := id l3
  clear l0 l1 l2 l3
  obtain ⟨n0, en0⟩ : ∃ n, a.1.length = n := ⟨_, rfl⟩
  obtain ⟨n1, en1⟩ : ∃ n, a.2.1.length = n := ⟨_, rfl⟩
  obtain ⟨n2, en2⟩ : ∃ n, a.2.2.1.length = n := ⟨_, rfl⟩
  obtain ⟨n3, en3⟩ : ∃ n, a.2.2.2.1.length = n := ⟨_, rfl⟩
  rw [en0] at e0
  rw [en1] at e1
  rw [en2] at e2
  rw [en3] at e3
  have U0 : Hid (g4 0 = _) := e0
  have U1 : Hid (g4 1 = _) := e1
  have U2 : Hid (g4 2 = _) := e2
  have U3 : Hid (g4 3 = _) := e3
  have U4 : Hid (g4 4 = _) := e4
  rw [e0, e1, e2, e3, e4]
  clear e0 e1 e2 e3 e4 en0 en1 en2 en3
  have O5 : Hid (Own.On (fun b => w3.heap.size ≤ b ∧ b < w4.heap.size) (w4.alloc (.cells #[.slice o0 n0 x0, .slice o1 n1 x1, .slice o2 n2 x2, .slice o3 n3 x3, .int .i64 a.2.2.2.2] 35)) a g4) := Own.on_same O4.out (Same.of_alloc w4 _ (fun b hb => hb.2))
  have RI : Hid (Calls Tryz.prog 7 #[.agg #[g4 0, g4 1, g4 2, g4 3, g4 4], .string tx] (w4.alloc (.cells #[.slice o0 n0 x0, .slice o1 n1 x1, .slice o2 n2 x2, .slice o3 n3 x3, .int .i64 a.2.2.2.2] 35)) _) := ansI _ a g4 tx _ (Own.on_at O5.out) (fun b hb => by have := hb.2; simp; omega) HM.out
  have RI2 := RI.out
  rw [U0.out, U1.out, U2.out, U3.out, U4.out] at RI2
  have RI3 : Hid _ := RI2
  clear RI RI2 O4
  go_wp2_with fail
  refine Calls.mono RI3.out ?_
  rintro e w5 ⟨r1, rfl, hr1, hb5⟩
  have s5 : w4.heap.size + 1 ≤ w5.heap.size := by have := hb5.size; simpa using this
  have R1 : Hid (OnL (fun b => w4.heap.size + 1 ≤ b ∧ b < w5.heap.size) w5 (shutL a.1 a.2.1 a.2.2.1 a.2.2.2.1 a.2.2.2.2 tx) r1) := by have := hr1; rw [World.size_alloc] at this; exact this
  have bk5 : Hid (Below (w4.heap.size + 1) (w4.alloc (.cells #[.slice o0 n0 x0, .slice o1 n1 x1, .slice o2 n2 x2, .slice o3 n3 x3, .int .i64 a.2.2.2.2] 35)) w5) := by have := hb5; rw [World.size_alloc] at this; exact this
  have k5 : Hid (Below (w.heap.size + 1) (w.alloc (.cells #[c 0, c 1, c 2, c 3, c 4] 27)) w5) := below_of k4.out (below_end bk5.out)
  have b35 : Hid (Below w3.heap.size w3 w5) := b34.out.trans ((below_end bk5.out).mono s4)
  clear hr1 hb5 RI3 k4 b34
  have A1 : Hid (AtL (fun b => w4.heap.size + 1 ≤ b ∧ b < w5.heap.size) w5 (shutL a.1 a.2.1 a.2.2.1 a.2.2.2.1 a.2.2.2.2 tx) r1) := R1.out.at_
  go_wp2_with fail
  refine (eqInt_any _ _ _ _ _ _ A1.out (A0.out _ b35.out) (fun b hb => hb.2) (fun b hb => by omega)).mono ?_
  rintro e w6 ⟨rfl, hb6⟩
  have bk6 : Hid (Below (w4.heap.size + 1) (w4.alloc (.cells #[.slice o0 n0 x0, .slice o1 n1 x1, .slice o2 n2 x2, .slice o3 n3 x3, .int .i64 a.2.2.2.2] 35)) w6) := below_of bk5.out hb6
  have k6 : Hid (Below (w.heap.size + 1) (w.alloc (.cells #[c 0, c 1, c 2, c 3, c 4] 27)) w6) := below_of k5.out hb6
  have b56 : Hid (Below w5.heap.size w5 w6) := hb6
  have s6 : w5.heap.size ≤ w6.heap.size := hb6.size
  clear hb6 k5 bk5
  have d0 := box_at _ _ bk6.out 0 (.slice o0 n0 x0) rfl
  have d1 := box_at _ _ bk6.out 1 (.slice o1 n1 x1) rfl
  have d2 := box_at _ _ bk6.out 2 (.slice o2 n2 x2) rfl
  have d3 := box_at _ _ bk6.out 3 (.slice o3 n3 x3) rfl
  have d4 := box_at _ _ bk6.out 4 (.int .i64 a.2.2.2.2) rfl
  have e0 := box_at _ _ k6.out 0 (c 0) rfl
  have e1 := box_at _ _ k6.out 1 (c 1) rfl
  have e2 := box_at _ _ k6.out 2 (c 2) rfl
  have e3 := box_at _ _ k6.out 3 (c 3) rfl
  have e4 := box_at _ _ k6.out 4 (c 4) rfl
  have EQB : Hid (∀ (w7 : World) (r : Nat → Value), Below w6.heap.size w6 w7 → Lay.At (fun b => w6.heap.size ≤ b ∧ b < w7.heap.size) w7 a r → Calls Tryz.prog 9 #[.agg #[g4 0, g4 1, g4 2, g4 3, g4 4], .agg #[r 0, r 1, r 2, r 3, r 4]] w7 fun e w' => e = .returned (.bool true) ∧ Below w7.heap.size w7 w') := fun w7 r hb hr =>
    eqClaimBook_any (fun b => w3.heap.size ≤ b ∧ b < w4.heap.size) (fun b => w6.heap.size ≤ b ∧ b < w7.heap.size) a g4 r w7 (Lay.same (Own.on_at O5.out) (Same.of_below (bk6.out.trans (hb.mono (by omega))) (fun b hb => by omega))) hr (fun b hb' => by have := hb.size; omega) (fun b hb => hb.2)
  have EQ2 : Hid (∀ (w7 : World) (r : Nat → Value), Below w6.heap.size w6 w7 → Lay.At (fun b => w6.heap.size ≤ b ∧ b < w7.heap.size) w7 a r → Calls Tryz.prog 9 #[.agg #[.slice o0 n0 x0, .slice o1 n1 x1, .slice o2 n2 x2, .slice o3 n3 x3, .int .i64 a.2.2.2.2], .agg #[r 0, r 1, r 2, r 3, r 4]] w7 fun e w' => e = .returned (.bool true) ∧ Below w7.heap.size w7 w') := by
    have := EQB.out; rw [U0.out, U1.out, U2.out, U3.out, U4.out] at this; exact this
  clear EQB
  go_wp2_with fail
  go_region_with (first
    | (go_at_call 6; refine (toClaimBook_any S a c _ (by exact H.out _ (below_end k6.out).drew) (fun b hb => by show b < w6.heap.size; have := hS b hb; omega) HM.out).mono ?_; rintro e w7 ⟨r, rfl, G7, hb7⟩; have b67 : Below w6.heap.size w6 w7 := ((Below.refl _ _).drew).trans hb7; have HG7 : Hid (Lay.At (fun b => w6.heap.size ≤ b ∧ b < w7.heap.size) w7 a r) := G7; clear G7; have s7 : w6.heap.size ≤ w7.heap.size := b67.size; have q0 := (b67.cell (p := ⟨w4.heap.size, 0, none⟩) (by show w4.heap.size < w6.heap.size; omega)).trans d0; have q1 := (b67.cell (p := ⟨w4.heap.size, 1, none⟩) (by show w4.heap.size < w6.heap.size; omega)).trans d1; have q2 := (b67.cell (p := ⟨w4.heap.size, 2, none⟩) (by show w4.heap.size < w6.heap.size; omega)).trans d2; have q3 := (b67.cell (p := ⟨w4.heap.size, 3, none⟩) (by show w4.heap.size < w6.heap.size; omega)).trans d3; have q4 := (b67.cell (p := ⟨w4.heap.size, 4, none⟩) (by show w4.heap.size < w6.heap.size; omega)).trans d4)
    | (go_at_call 9; refine (EQ2.out w7 r b67 HG7.out).mono ?_; rintro e w8 ⟨rfl, hb8⟩))
  all_goals
    have b68 : Hid (Below w6.heap.size w6 w8) := b67.trans (hb8.mono s7)
    have s8 : w6.heap.size ≤ w8.heap.size := b68.out.size
    have k8 : Hid (Below (w.heap.size + 1) (w.alloc (.cells #[c 0, c 1, c 2, c 3, c 4] 27)) w8) := below_of k6.out b68.out
    have bk8 : Hid (Below (w4.heap.size + 1) (w4.alloc (.cells #[.slice o0 n0 x0, .slice o1 n1 x1, .slice o2 n2 x2, .slice o3 n3 x3, .int .i64 a.2.2.2.2] 35)) w8) := below_of bk6.out b68.out
    have O8 : Hid (Own.On (fun b => w3.heap.size ≤ b ∧ b < w4.heap.size) w8 a g4) := Own.on_same O5.out (Same.of_below bk8.out (fun b hb => by omega))
    have R8 : Hid (OnL (fun b => w4.heap.size + 1 ≤ b ∧ b < w5.heap.size) w8 (shutL a.1 a.2.1 a.2.2.1 a.2.2.2.1 a.2.2.2.2 tx) r1) := R1.out.same (Same.of_below (b56.out.trans (b68.out.mono s6)) (fun b hb => hb.2))
    have b38 : Hid (Below w3.heap.size w3 w8) := b35.out.trans ((b56.out.trans (b68.out.mono s6)).mono (by omega))
    have CB : Hid (Own.cnt (lists4 a) ≤ 4194304) := cnt_lists HM.out
    have MK : Hid (Calls Tryz.prog 10 #[.agg #[g4 0, g4 1, g4 2, g4 3, g4 4], .int .i64 1] w8 fun e w' => e = .returned (.int .i64 (1 + (Own.cnt (lists4 a) : Int))) ∧ Own.On (fun b => w3.heap.size ≤ b ∧ b < w4.heap.size) w' (Own.mkD 1 (lists4 a)) g4 ∧ But (fun b => w3.heap.size ≤ b ∧ b < w4.heap.size) w8 w') := (by rw [U4.out]; exact markClaimBook_any _ (lists4 a) g4 _ 1 w8 (on_lists O8.out) (fun b hb => by omega) (by omega) (by have := CB.out; omega))
    have MK2 := MK.out
    rw [U0.out, U1.out, U2.out, U3.out, U4.out] at MK2
    obtain ⟨ca, hca⟩ : ∃ n, Own.cnt (lists4 a) = n := ⟨_, rfl⟩
    have MK3 : Hid (Calls Tryz.prog 10 #[.agg #[.slice o0 n0 x0, .slice o1 n1 x1, .slice o2 n2 x2, .slice o3 n3 x3, .int .i64 a.2.2.2.2], .int .i64 1] w8 fun e w' => e = .returned (.int .i64 (1 + (ca : Int))) ∧ But (fun b => w3.heap.size ≤ b ∧ b < w4.heap.size) w8 w') := Calls.mono MK2 (fun e w' q => ⟨by rw [← hca]; exact q.1, q.2.2⟩)
    have hk9 : ¬ ((1 : Int) + (ca : Int) < 0) := by omega
    have t0 := box_at _ _ bk8.out 0 (.slice o0 n0 x0) rfl
    have t1 := box_at _ _ bk8.out 1 (.slice o1 n1 x1) rfl
    have t2 := box_at _ _ bk8.out 2 (.slice o2 n2 x2) rfl
    have t3 := box_at _ _ bk8.out 3 (.slice o3 n3 x3) rfl
    have t4 := box_at _ _ bk8.out 4 (.int .i64 a.2.2.2.2) rfl
    have CL : Hid (cntL (shutL a.1 a.2.1 a.2.2.1 a.2.2.2.1 a.2.2.2.2 tx) ≤ 2097152) := by show _ ≤ _; rw [cntL_ints]; exact shut_len HM.out
    clear MK MK2 hca CB q0 q1 q2 q3 q4 b67 hb7 hb8 d0 d1 d2 d3 d4 e0 e1 e2 e3 e4 HG7 EQ2 k6 bk6 b35 b56 b68 R1 A1 O5 O8 U0 U1 U2 U3 U4
    go_wp2_with fail
    refine Calls.mono MK3.out ?_
    rintro e w9 ⟨rfl, hbut⟩
    have s9 := hbut.size
    have k9 : Hid (Below (w.heap.size + 1) (w.alloc (.cells #[c 0, c 1, c 2, c 3, c 4] 27)) w9) := k8.out.trans (hbut.below (B := w.heap.size + 1) (fun b hb => by omega) (by omega))
    have b39 : Hid (Below w3.heap.size w3 w9) := b38.out.trans (hbut.below (B := w3.heap.size) (fun b hb => hb.1) (by omega))
    have R9 : Hid (OnL (fun b => w4.heap.size + 1 ≤ b ∧ b < w5.heap.size) w9 (shutL a.1 a.2.1 a.2.2.1 a.2.2.2.1 a.2.2.2.2 tx) r1) := R8.out.same (hbut.same (fun b hb => ⟨by omega, by omega⟩))
    have A9 : Hid (AtL (fun b => w4.heap.size + 1 ≤ b ∧ b < w9.heap.size) w9 (shutL a.1 a.2.1 a.2.2.1 a.2.2.2.1 a.2.2.2.2 tx) r1) := R9.out.at_.up (fun b hb => ⟨hb.1, by omega⟩)
    clear hbut MK3 k8 bk8 b38 R8 t0 t1 t2 t3 t4
    go_wp2_with fail
    refine (eqInt_any _ _ _ _ _ _ A9.out (A0.out _ b39.out) (fun b hb => hb.2) (fun b hb => by omega)).mono ?_
    rintro e w10 ⟨rfl, hb10⟩
    have s10 := hb10.size
    have k10 : Hid (Below (w.heap.size + 1) (w.alloc (.cells #[c 0, c 1, c 2, c 3, c 4] 27)) w10) := below_of k9.out hb10
    have b310 : Hid (Below w3.heap.size w3 w10) := b39.out.trans (hb10.mono (by omega))
    have R10 : Hid (OnL (fun b => w4.heap.size + 1 ≤ b ∧ b < w5.heap.size) w10 (shutL a.1 a.2.1 a.2.2.1 a.2.2.2.1 a.2.2.2.2 tx) r1) := R9.out.same (Same.of_below hb10 (fun b hb => by omega))
    have MS : Hid (Calls Tryz.prog 11 #[r1, .int .i64 1] w10 fun e w' => e = .returned (.int .i64 (1 + (cntL (shutL a.1 a.2.1 a.2.2.1 a.2.2.2.1 a.2.2.2.2 tx) : Int))) ∧ OnL (fun b => w4.heap.size + 1 ≤ b ∧ b < w5.heap.size) w' (mkL 1 (shutL a.1 a.2.1 a.2.2.1 a.2.2.2.1 a.2.2.2.2 tx)) r1 ∧ But (fun b => w4.heap.size + 1 ≤ b ∧ b < w5.heap.size) w10 w') := markIntS_any _ (shutL a.1 a.2.1 a.2.2.1 a.2.2.2.1 a.2.2.2.2 tx) r1 1 w10 R10.out (fun b hb => by omega) (by omega) (by have := CL.out; omega)
    clear hb10 k9 b39 R9 A9
    go_wp2_with fail
    refine Calls.mono MS.out ?_
    rintro e w11 ⟨rfl, hon, hbut⟩
    have s11 := hbut.size
    have lo : ∀ b, w4.heap.size + 1 ≤ b ∧ b < w5.heap.size → w4.heap.size + 1 ≤ b ∧ b < w10.heap.size := fun b hb => ⟨hb.1, by omega⟩
    have LO : Hid (∀ b, w4.heap.size + 1 ≤ b ∧ b < w5.heap.size → w4.heap.size + 1 ≤ b ∧ b < w10.heap.size) := lo
    have k11 : Hid (Below (w.heap.size + 1) (w.alloc (.cells #[c 0, c 1, c 2, c 3, c 4] 27)) w11) := k10.out.trans (hbut.below (B := w.heap.size + 1) (fun b hb => by have := lo b hb; omega) (by omega))
    have b311 : Hid (Below w3.heap.size w3 w11) := b310.out.trans (hbut.below (B := w3.heap.size) (fun b hb => by have := lo b hb; omega) (by omega))
    have ON : Hid (AtL (fun b => w4.heap.size + 1 ≤ b ∧ b < w5.heap.size) w11 (mkL 1 (shutL a.1 a.2.1 a.2.2.1 a.2.2.2.1 a.2.2.2.2 tx)) r1) := hon.at_
    have HE : Hid (∀ w', Below w11.heap.size w11 w' → Calls Tryz.prog 12 #[r1, .int .i64 1] w' fun e w'' => e = .returned (.int .i64 (1 + (cntL (shutL a.1 a.2.1 a.2.2.1 a.2.2.2.1 a.2.2.2.2 tx) : Int))) ∧ Below w'.heap.size w' w'') := fun w' hb => heldIntS_any _ (shutL a.1 a.2.1 a.2.2.1 a.2.2.2.1 a.2.2.2.2 tx) r1 1 w' (ON.out.same (Same.of_below hb (fun b hb => by have := LO.out b hb; omega))) (fun b hb' => by have := LO.out b hb'; have := hb.size; omega) (by omega) (by have := CL.out; omega)
    clear hon hbut lo MS k10 b310 R10 ON
    obtain ⟨cl, hcl⟩ : ∃ n, cntL (shutL a.1 a.2.1 a.2.2.1 a.2.2.2.1 a.2.2.2.2 tx) = n := ⟨_, rfl⟩
    rw [hcl] at HE
    rw [hcl]
    clear hcl CL
    have hk11 : ¬ ((1 : Int) + (cl : Int) < 0) := by omega
    go_wp2_with fail
    refine (HE.out w11 (Below.refl _ _)).mono ?_
    rintro e w12 ⟨rfl, hb12⟩
    have b1112 : Hid (Below w11.heap.size w11 w12) := hb12
    have s12 := hb12.size
    have k12 : Hid (Below (w.heap.size + 1) (w.alloc (.cells #[c 0, c 1, c 2, c 3, c 4] 27)) w12) := below_of k11.out hb12
    have b312 : Hid (Below w3.heap.size w3 w12) := b311.out.trans (hb12.mono (by omega))
    clear hb12 k11 b311
    have e0 := box_at _ _ k12.out 0 (c 0) rfl
    have e1 := box_at _ _ k12.out 1 (c 1) rfl
    have e2 := box_at _ _ k12.out 2 (c 2) rfl
    have e3 := box_at _ _ k12.out 3 (c 3) rfl
    have e4 := box_at _ _ k12.out 4 (c 4) rfl
    go_wp2_with fail
    refine (toClaimBook_any S a c _ (H.out _ (below_end k12.out)) (fun b hb => by have := hS b hb; omega) HM.out).mono ?_
    rintro e w13 ⟨g13, rfl, G13, hb13⟩
    have HG13 : Hid (Lay.At (fun b => w12.heap.size ≤ b ∧ b < w13.heap.size) w13 a g13) := G13
    have s13 := hb13.size
    have b1213 : Hid (Below w12.heap.size w12 w13) := hb13
    clear G13 hb13 e0 e1 e2 e3 e4
    go_wp2_with fail
    refine (ansI _ a g13 tx _ HG13.out (fun b hb => hb.2) HM.out).mono ?_
    rintro e w14 ⟨r2, rfl, hr2, hb14⟩
    have s14 := hb14.size
    have b1214 : Hid (Below w12.heap.size w12 w14) := b1213.out.trans (hb14.mono s13)
    have A14 : Hid (AtL (fun b => w13.heap.size ≤ b ∧ b < w14.heap.size) w14 (shutL a.1 a.2.1 a.2.2.1 a.2.2.2.1 a.2.2.2.2 tx) r2) := OnL.at_ hr2
    clear hr2 hb14 HG13 b1213
    go_wp2_with fail
    refine (eqInt_any _ _ _ _ _ _ A14.out (A0.out _ (b312.out.trans (b1214.out.mono (by omega)))) (fun b hb => hb.2) (fun b hb => by omega)).mono ?_
    rintro e w15 ⟨rfl, hb15⟩
    have b1215 : Hid (Below w12.heap.size w12 w15) := b1214.out.trans (hb15.mono (by omega))
    clear hb15 A14 b1214
    go_wp2_with fail
    refine (HE.out w15 (b1112.out.trans (b1215.out.mono s12))).mono ?_
    rintro e w16 ⟨rfl, hb16⟩
    have s15 := b1215.out.size
    have k16 : Hid (Below (w.heap.size + 1) (w.alloc (.cells #[c 0, c 1, c 2, c 3, c 4] 27)) w16) := below_of (below_of k12.out b1215.out) hb16
    go_wp2_with fail
    go_ret
    exact ⟨rfl, below_end k16.out⟩

end Go.Proofs.YticojnepejboaabGreat
