/-
  The law FnExactStuffSplit, walked: whatever the amounts and the number, the call returns true, and nothing that was there before has turned.
-/
import Derived.Test.YtkmgogfgdpldbabSw
namespace Go.Proofs.Ytkmgogfgdpldbab
open Go.RowKit

theorem split_bound (A : List Int) (N : Int) : (splitL A N).length ≤ 16 ∧ ∀ x ∈ splitL A N, 0 ≤ x ∧ x ≤ 17000000 := by
  by_cases h : OkN A N
  · have h16 := h.1.1
    by_cases h0 : A.sum = 0
    · rw [split_zero h h0]
      exact ⟨by simp; omega, fun x hx => by obtain ⟨y, _, rfl⟩ := List.mem_map.1 hx; omega⟩
    · rw [split_run h h0]
      have hl := runS_len (whole A N, over A N) (miss A N).toNat
      have hm := miss_bound h h0
      have hs := sum_bound A h.1.2
      refine ⟨by rw [hl.1]; simp [whole]; omega, fun x hx => ?_⟩
      have := runS_bound (whole A N, over A N) 16000000 (fun y hy => by
        obtain ⟨z, hz, rfl⟩ := List.mem_map.1 hy
        exact (part_bound (N := N) (x := z) (T := A.sum) ⟨h.2.1, by have := h.2.2; omega⟩ (h.1.2 z hz) (by omega)).2.1) (by omega) _ x hx
      omega
  · rw [split_no h]; simp

set_option maxRecDepth 100000 in
set_option maxHeartbeats 8000000 in
theorem lawSplit_any (S : Nat → Prop) (v : Value) (A : List Int) (N : Int) (w : World) (h : AtL S w A v) (hS : ∀ b, S b → b < w.heap.size) :
    Calls Try.prog 4 #[v, .int .i64 N] w fun e w' => e = .returned (.bool true) ∧ Below w.heap.size w w' := by
  have HB : Hid (∀ x ∈ A, -9223372036854775808 ≤ x ∧ x ≤ 9223372036854775807) := at_bounds h
  have H : Hid (∀ w', Below w.heap.size w w' → AtL S w' A v) := fun w' hb => h.same (Same.of_below hb hS)
  obtain ⟨oa, cap, hv, hn, _⟩ := h
  subst hv
  obtain ⟨n, en⟩ : ∃ n, A.length = n := ⟨_, rfl⟩
  rw [en] at hn H
  rw [en]
  unfold maxLen at hn
  by_cases hbig : 1048576 < n
  · have db : decide ((1048576 : Int) < (n : Int)) = true := by simp; omega
    go_enter Try.func4, Try.ntmps4
    go_wp2_with fail
    go_ret
    exact ⟨rfl, Below.refl _ _⟩
  have db : decide ((1048576 : Int) < (n : Int)) = false := by simp; omega
  have hAl : A.length ≤ 1048576 := by omega
  obtain ⟨hPl, hPb⟩ := split_bound A N
  have HPB : Hid (∀ x ∈ splitL A N, -9223372036854775808 ≤ x ∧ x ≤ 9223372036854775807) := fun x hx => by have := hPb x hx; omega
  clear hPb
  have HMB : Hid (∀ x ∈ marks 1 (splitL A N).length, -9223372036854775808 ≤ x ∧ x ≤ 9223372036854775807) := fun x hx => by
    obtain ⟨i, hi, rfl⟩ := List.mem_map.1 hx
    have := List.mem_range.1 hi
    omega
  go_enter Try.func4, Try.ntmps4
  go_wp2_with fail
  -- a copy, and the model's answer
  refine (toInt_any S _ A w (H.out w (Below.refl _ _)) hS hAl).mono ?_
  rintro e w1 ⟨r1, rfl, o1, b1⟩
  have k1 : Hid (Below w.heap.size w w1) := b1
  have a1 : Hid (AtL (fun b => w.heap.size ≤ b ∧ b < w1.heap.size) w1 A r1) := oi_atB o1 hAl HB.out
  clear o1 b1
  go_wp2_with fail
  refine (splitS_any _ r1 A N w1 a1.out (fun b hb => hb.2)).mono ?_
  rintro e w2 ⟨r2, rfl, o2, b2⟩
  have k2 : Hid (Below w.heap.size w w2) := k1.out.trans (b2.mono k1.out.size)
  have O2 : Hid (OI w2 w1.heap.size r2 (splitL A N)) := o2
  have s12 := b2.size
  clear o2 b2
  -- a copy, and the program's answer
  go_wp2_with fail
  refine (toInt_any S _ A w2 (H.out w2 k2.out) (fun b hb => Nat.lt_of_lt_of_le (hS b hb) k2.out.size) hAl).mono ?_
  rintro e w3 ⟨r3, rfl, o3, b3⟩
  have k3 : Hid (Below w.heap.size w w3) := k2.out.trans (b3.mono k2.out.size)
  have O3 : Hid (OI w3 w2.heap.size r3 A) := o3
  have O23 : Hid (OI w3 w1.heap.size r2 (splitL A N)) := oi_below O2.out b3
  have s23 := b3.size
  clear o3 b3
  go_wp2_with fail
  refine (splitI_any _ r3 A N w3 (oi_atB O3.out hAl HB.out) (fun b hb => hb.2)).mono ?_
  rintro e w4 ⟨r4, rfl, o4, b4⟩
  have k4 : Hid (Below w.heap.size w w4) := k3.out.trans (b4.mono k3.out.size)
  have O4 : Hid (OI w4 w3.heap.size r4 (splitL A N)) := o4
  have O24 : Hid (OI w4 w1.heap.size r2 (splitL A N)) := oi_below O23.out b4
  have O34 : Hid (OI w4 w2.heap.size r3 A) := oi_below O3.out b4
  have s34 := b4.size
  clear o4 b4
  -- they are the same
  go_wp2_with fail
  refine (eqInt_any _ _ r4 r2 (splitL A N) w4 (oi_atB O4.out (by omega) HPB.out) (oi_atB O24.out (by omega) HPB.out) (fun b hb => hb.2) (fun b hb => hb.2)).mono ?_
  rintro e w5 ⟨rfl, b5⟩
  have k5 : Hid (Below w.heap.size w w5) := k4.out.trans (b5.mono k4.out.size)
  have O45 : Hid (OI w5 w3.heap.size r4 (splitL A N)) := oi_below O4.out b5
  have O25 : Hid (OI w5 w1.heap.size r2 (splitL A N)) := oi_below O24.out b5
  have O35 : Hid (OI w5 w2.heap.size r3 A) := oi_below O34.out b5
  have s45 := b5.size
  clear b5
  -- the argument is as it was
  go_wp2_with fail
  refine (toInt_any S _ A w5 (H.out w5 k5.out) (fun b hb => Nat.lt_of_lt_of_le (hS b hb) k5.out.size) hAl).mono ?_
  rintro e w6 ⟨r6, rfl, o6, b6⟩
  have k6 : Hid (Below w.heap.size w w6) := k5.out.trans (b6.mono k5.out.size)
  have O6 : Hid (OI w6 w5.heap.size r6 A) := o6
  have O46 : Hid (OI w6 w3.heap.size r4 (splitL A N)) := oi_below O45.out b6
  have O26 : Hid (OI w6 w1.heap.size r2 (splitL A N)) := oi_below O25.out b6
  have O36 : Hid (OI w6 w2.heap.size r3 A) := oi_below O35.out b6
  have s56 := b6.size
  clear o6 b6
  go_wp2_with fail
  refine (eqInt_any _ _ r3 r6 A w6 (oi_atB O36.out hAl HB.out) (oi_atB O6.out hAl HB.out) (fun b hb => hb.2) (fun b hb => hb.2)).mono ?_
  rintro e w7 ⟨rfl, b7⟩
  have k7 : Hid (Below w.heap.size w w7) := k6.out.trans (b7.mono k6.out.size)
  have O47 : Hid (OI w7 w3.heap.size r4 (splitL A N)) := oi_below O46.out b7
  have O27 : Hid (OI w7 w1.heap.size r2 (splitL A N)) := oi_below O26.out b7
  have O37 : Hid (OI w7 w2.heap.size r3 A) := oi_below O36.out b7
  have s67 := b7.size
  clear b7
  -- the blocks of the three lists lie apart
  have BL2 : Hid (∀ k, r2.ownBlock = some k → w1.heap.size ≤ k ∧ k < w2.heap.size) := fun k hk => O2.out.lt k hk
  have BL3 : Hid (∀ k, r3.ownBlock = some k → w2.heap.size ≤ k ∧ k < w3.heap.size) := fun k hk => O3.out.lt k hk
  have BL4 : Hid (∀ k, r4.ownBlock = some k → w3.heap.size ≤ k ∧ k < w4.heap.size) := fun k hk => O4.out.lt k hk
  -- the argument is marked; the answer stays
  go_wp2_with fail
  refine (markInt_any w2.heap.size r3 A 1 w7 O37.out hAl ⟨by omega, by omega⟩).mono ?_
  rintro e w8 ⟨rfl, _, b8, z8, t8⟩
  rw [en]
  have k8 : Hid (Below w.heap.size w w8) := k7.out.trans (b8.mono k2.out.size)
  have O48 : Hid (OI w8 w3.heap.size r4 (splitL A N)) := oi_keep O47.out (fun k hk => t8 k (fun e => by have := BL4.out k hk; have := BL3.out k e.symm; omega))
  have O28 : Hid (OI w8 w1.heap.size r2 (splitL A N)) := oi_keep O27.out (fun k hk => t8 k (fun e => by have := BL2.out k hk; have := BL3.out k e.symm; omega))
  clear b8 t8
  go_wp2_with fail
  refine (eqInt_any _ _ r4 r2 (splitL A N) w8 (oi_atB O48.out (by omega) HPB.out) (oi_atB O28.out (by omega) HPB.out) (fun b hb => hb.2) (fun b hb => hb.2)).mono ?_
  rintro e w9 ⟨rfl, b9⟩
  have k9 : Hid (Below w.heap.size w w9) := k8.out.trans (b9.mono k8.out.size)
  have O49 : Hid (OI w9 w3.heap.size r4 (splitL A N)) := oi_below O48.out b9
  have O29 : Hid (OI w9 w1.heap.size r2 (splitL A N)) := oi_below O28.out b9
  have s89 := b9.size
  clear b9
  -- the answer is marked, and holds its marks
  go_wp2_with fail
  refine (markInt_any w3.heap.size r4 (splitL A N) 1 w9 O49.out (by omega) ⟨by omega, by omega⟩).mono ?_
  rintro e w10 ⟨rfl, o10, b10, z10, t10⟩
  have k10 : Hid (Below w.heap.size w w10) := k9.out.trans (b10.mono k3.out.size)
  have M10 : Hid (OI w10 w3.heap.size r4 (marks 1 (splitL A N).length)) := o10
  have O210 : Hid (OI w10 w1.heap.size r2 (splitL A N)) := oi_keep O29.out (fun k hk => t10 k (fun e => by have := BL2.out k hk; have := BL4.out k e.symm; omega))
  clear o10 b10 t10
  obtain ⟨p, ep⟩ : ∃ p, (splitL A N).length = p := ⟨_, rfl⟩
  rw [ep] at M10 HMB hPl ⊢
  have hml : (marks 1 p).length ≤ 1048576 := by rw [marks_len]; omega
  have HELD : Hid (∀ W, OI W w3.heap.size r4 (marks 1 p) → Calls Try.prog 12 #[r4, .int .i64 1] W fun e w' => e = .returned (.int .i64 (1 + (p : Int))) ∧ w' = W) := fun W hW => heldInt_any _ r4 1 p W (oi_atB hW hml HMB.out) (by omega) ⟨by omega, by omega⟩
  go_wp2_with fail
  refine Calls.mono (HELD.out _ M10.out) ?_
  rintro e w11 ⟨rfl, hw11⟩
  rw [hw11]
  clear hw11 w11
  -- once more, the marks still there
  go_wp2_with fail
  refine (toInt_any S _ A w10 (H.out w10 k10.out) (fun b hb => Nat.lt_of_lt_of_le (hS b hb) k10.out.size) hAl).mono ?_
  rintro e w12 ⟨r12, rfl, o12, b12⟩
  have k12 : Hid (Below w.heap.size w w12) := k10.out.trans (b12.mono k10.out.size)
  have O12 : Hid (OI w12 w10.heap.size r12 A) := o12
  have M12 : Hid (OI w12 w3.heap.size r4 (marks 1 p)) := oi_below M10.out b12
  have O212 : Hid (OI w12 w1.heap.size r2 (splitL A N)) := oi_below O210.out b12
  clear o12 b12
  go_wp2_with fail
  refine (splitI_any _ r12 A N w12 (oi_atB O12.out hAl HB.out) (fun b hb => hb.2)).mono ?_
  rintro e w13 ⟨r13, rfl, o13, b13⟩
  have k13 : Hid (Below w.heap.size w w13) := k12.out.trans (b13.mono k12.out.size)
  have O13 : Hid (OI w13 w12.heap.size r13 (splitL A N)) := o13
  have M13 : Hid (OI w13 w3.heap.size r4 (marks 1 p)) := oi_below M12.out b13
  have O213 : Hid (OI w13 w1.heap.size r2 (splitL A N)) := oi_below O212.out b13
  clear o13 b13
  go_wp2_with fail
  refine (eqInt_any _ _ r13 r2 (splitL A N) w13 (oi_atB O13.out (by omega) HPB.out) (oi_atB O213.out (by omega) HPB.out) (fun b hb => hb.2) (fun b hb => hb.2)).mono ?_
  rintro e w14 ⟨rfl, b14⟩
  have k14 : Hid (Below w.heap.size w w14) := k13.out.trans (b14.mono k13.out.size)
  have M14 : Hid (OI w14 w3.heap.size r4 (marks 1 p)) := oi_below M13.out b14
  clear b14
  go_wp2_with fail
  refine Calls.mono (HELD.out _ M14.out) ?_
  rintro e w15 ⟨rfl, hw15⟩
  rw [hw15]
  clear hw15 w15
  go_wp2_with fail
  go_ret
  exact ⟨rfl, k14.out⟩

end Go.Proofs.Ytkmgogfgdpldbab
