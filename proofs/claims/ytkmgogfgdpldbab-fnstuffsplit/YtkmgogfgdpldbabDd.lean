/-
  The law FnStuffSplit, walked: whatever the code, the call returns true, and nothing that was there before has turned.
-/
import Derived.Test.YtkmgogfgdpldbabDc
import Derived.Test.YtkmgogfgdpldbabDa
import Derived.Test.YtkmgogfgdpldbabSz
namespace Go.Proofs.Ytkmgogfgdpldbab
open Go.RowKit

open Go.Sort in
set_option maxRecDepth 100000 in
set_option maxHeartbeats 4000000 in
theorem wsInt_any (S S' : Nat → Prop) (va vb : Value) (l : List Int) (w : World) (ha : AtL S w l va) (hb : AtL S' w l vb) (hS : ∀ b, S b → b < w.heap.size) (hS' : ∀ b, S' b → b < w.heap.size) :
    Calls Try.prog 7 #[va, vb] w fun e w' => e = .returned (.bool true) ∧ Below w.heap.size w w' := by
  obtain ⟨oa, ca, rfl, hn, hca⟩ := ha
  obtain ⟨ob, cb, rfl, _, hcb⟩ := hb
  obtain ⟨n, en⟩ : ∃ n, l.length = n := ⟨_, rfl⟩
  rw [en] at hn
  rw [en]
  unfold maxLen at hn
  have HA : Hid _ := hca
  have HB : Hid _ := hcb
  clear hca hcb
  go_enter Try.func7, Try.ntmps7
  go_wp2
  go_loopw [5] (fun i wr => ∃ k : Nat, k ≤ n ∧ i = .int .i64 k ∧ Hid (Below w.heap.size w wr)) (fun i _ => n - (intOf i).toNat)
  case atStart => exact ⟨0, Nat.zero_le _, rfl, Below.refl _ _⟩
  case round =>
    obtain ⟨k, hk, rfl, hbel⟩ := hrel
    have hs := hbel.out.size
    by_cases hlt : k < n
    · obtain ⟨b, off, rfl, hbS, cc, hcell, hat⟩ := HA.out k (by omega)
      obtain ⟨b2, off2, rfl, hbS2, cc2, hcell2, hat2⟩ := HB.out k (by omega)
      have hbb := hS b hbS
      have hbb2 := hS' b2 hbS2
      rw [width_int] at hcell hcell2
      have hcell := hcell 0 (by omega)
      have hcell2 := hcell2 0 (by omega)
      rw [Nat.mul_one, Nat.add_zero] at hcell hcell2
      rw [at_int] at hat hat2
      rw [hat.1] at hcell
      rw [hat2.1] at hcell2
      obtain ⟨x, ex⟩ : ∃ x, l[k]'(by omega) = x := ⟨_, rfl⟩
      rw [ex] at hcell hcell2
      clear hat hat2
      have e0 := fun d os => cell_regrown ((hbel.out.cell (p := ⟨b, off + k, none⟩) (by show b < _; omega)).trans hcell) d os
      have a0 := fun d os => cell_regrown ((hbel.out.cell (p := ⟨b2, off2 + k, none⟩) (by show b2 < _; omega)).trans hcell2) d os
      clear hcell hcell2
      have hxx : (x == x) = true := by simp
      go_wp2
      refine wp_region_quiet_below (by kernel_rfl) (by kernel_rfl) ?_
      repeat (first | go_big_quiet_step (fail) | quiet_step (fail))
      refine wpQuiet_nil ?_
      intro _ hw'
      obtain ⟨⟨dq, osq⟩, hw''⟩ := hw'
      subst hw''
      go_wp2
      go_roundw
      case rel => exact ⟨k + 1, by omega, by go_num, hbel.out.trans ((below_regrown _ dq osq).mono hs)⟩
      case measure => simp [intOf]; omega
    · go_wp2
      go_ret
      exact ⟨rfl, hbel.out⟩


set_option maxRecDepth 100000 in
set_option maxHeartbeats 16000000 in
theorem lawDraw_any (ob : Option Addr) (n cb : Nat) (f : Nat → Int) (w : World) (hn : n ≤ maxLen) (hnc : n ≤ cb) (fb : ∀ i, 0 ≤ f i ∧ f i ≤ 255)
    (ce : ∀ i, i < n → ∃ b off, ob = some ⟨b, off, none⟩ ∧ b < w.heap.size ∧ w.cell? ⟨b, off + i, none⟩ = some (.int .u8 (f i))) :
    Calls Try.prog 3 #[.slice ob n cb] w fun e w' => e = .returned (.bool true) ∧ Below w.heap.size w w' := by
  have DRAW : Hid _ := drawS_any ob n cb f w hn hnc fb ce
  unfold maxLen at hn
  clear ce fb hnc
  by_cases hbig : 1048576 < n
  · have db : decide ((1048576 : Int) < (n : Int)) = true := by simp; omega
    go_enter Try.func3, Try.ntmps3
    go_wp2_with fail
    go_ret
    exact ⟨rfl, Below.refl _ _⟩
  have db : decide ((1048576 : Int) < (n : Int)) = false := by simp; omega
  go_enter Try.func3, Try.ntmps3
  go_wp2_with fail
  refine Calls.mono DRAW.out ?_
  rintro e w1 ⟨r, A, N, rfl, o1, hD, hN0, hN1, b1⟩
  have k1 : Hid (Below w.heap.size w w1) := b1
  have O1 : Hid (OI w1 w.heap.size r A) := o1
  have HAB : Hid (∀ x ∈ A, -9223372036854775808 ≤ x ∧ x ≤ 9223372036854775807) := fun x hx => by have := hD.2 x hx; omega
  have hAl : A.length ≤ 20 := hD.1
  have HD : Hid (Drawn A) := hD
  clear o1 b1 DRAW hD
  obtain ⟨hPl, hPb⟩ := split_bound A N
  have HPB : Hid (∀ x ∈ splitL A N, -9223372036854775808 ≤ x ∧ x ≤ 9223372036854775807) := fun x hx => by have := hPb x hx; omega
  clear hPb
  go_wp2_with fail
  refine (splitI_any _ r A N w1 (oi_atB O1.out (by omega) HAB.out) (fun b hb => hb.2)).mono ?_
  rintro e w2 ⟨r4, rfl, o4, b2⟩
  have k2 : Hid (Below w.heap.size w w2) := k1.out.trans (b2.mono k1.out.size)
  have O4 : Hid (OI w2 w1.heap.size r4 (splitL A N)) := o4
  have O12 : Hid (OI w2 w.heap.size r A) := oi_below O1.out b2
  clear o4 b2 O1
  go_wp2_with fail
  refine (splitS_any _ r A N w2 (oi_atB O12.out (by omega) HAB.out) (fun b hb => hb.2)).mono ?_
  rintro e w3 ⟨r5, rfl, o5, b3⟩
  have k3 : Hid (Below w.heap.size w w3) := k2.out.trans (b3.mono k2.out.size)
  have O5 : Hid (OI w3 w2.heap.size r5 (splitL A N)) := o5
  have O13 : Hid (OI w3 w.heap.size r A) := oi_below O12.out b3
  have O43 : Hid (OI w3 w1.heap.size r4 (splitL A N)) := oi_below O4.out b3
  clear o5 b3 O12 O4
  go_wp2_with fail
  refine (wsInt_any _ _ r4 r5 (splitL A N) w3 (oi_atB O43.out (by omega) HPB.out) (oi_atB O5.out (by omega) HPB.out) (fun b hb => hb.2) (fun b hb => hb.2)).mono ?_
  rintro e w4 ⟨rfl, b4⟩
  have k4 : Hid (Below w.heap.size w w4) := k3.out.trans (b4.mono k3.out.size)
  have O14 : Hid (OI w4 w.heap.size r A) := oi_below O13.out b4
  have O44 : Hid (OI w4 w1.heap.size r4 (splitL A N)) := oi_below O43.out b4
  clear b4 O13 O43 O5
  have AT1 := oi_atB O14.out (by omega) HAB.out
  have AT4 := oi_atB O44.out (by omega) HPB.out
  have H1 : Hid (AtL (fun b => w.heap.size ≤ b ∧ b < w4.heap.size) w4 A r) := AT1
  obtain ⟨oa, ca, ea, _, hca⟩ := AT1
  obtain ⟨op, cp, ep, _, hcp⟩ := AT4
  subst ea ep
  have HCA : Hid _ := hca
  have HCP : Hid _ := hcp
  clear hca hcp O44
  obtain ⟨l, el⟩ : ∃ l, A.length = l := ⟨_, rfl⟩
  obtain ⟨m, em⟩ : ∃ m, (splitL A N).length = m := ⟨_, rfl⟩
  rw [el] at H1 hAl
  rw [em] at hPl
  rw [el, em]
  have EMP : Hid (¬ OkN A N → m = 0) := fun h => by rw [← em, split_no h]; rfl
  go_wp2_with fail
  go_loop [6, 7] (fun s i => ∃ k : Nat, k ≤ l ∧ i = .int .i64 k ∧ s = .int .i64 (A.take k).sum ∧ Hid (∀ j (hj : j < A.length), j < k → 0 ≤ A[j] ∧ A[j] ≤ 1000)) (fun _ i => l - (intOf i).toNat)
  case atStart => exact ⟨0, Nat.zero_le _, rfl, rfl, fun _ _ h => by omega⟩
  case round =>
    obtain ⟨k, hk, rfl, rfl, hall⟩ := hrel
    have hps : -1000 ≤ (A.take k).sum ∧ (A.take k).sum ≤ 1000 * k := by
      have := sum_bound (A.take k) (fun x hx => by
        obtain ⟨j, hj, rfl⟩ := List.getElem_of_mem hx
        rw [List.getElem_take]
        have hj' : j < k := by rw [List.length_take] at hj; omega
        exact hall.out j (by omega) hj')
      rw [List.length_take] at this
      omega
    by_cases hlt : k < l
    · obtain ⟨b, off, rfl, _, cc, hcell, hat⟩ := HCA.out k (by omega)
      rw [width_int] at hcell
      have hcell := hcell 0 (by omega)
      rw [Nat.mul_one, Nat.add_zero] at hcell
      rw [at_int] at hat
      rw [hat.1] at hcell
      have hx := HD.out.2 _ (List.getElem_mem (by omega : k < A.length))
      have hs : Hid _ := take_sum A k (by omega)
      obtain ⟨x, ex⟩ : ∃ x, A[k]'(by omega) = x := ⟨_, rfl⟩
      rw [ex] at hcell hx hs
      clear hat
      generalize (A.take k).sum = p at *
      by_cases hbad : 0 ≤ x ∧ x ≤ 1000
      · have d0 : decide (x < 0) = false := decide_eq_false (by omega)
        have d1 : decide ((1000 : Int) < x) = false := decide_eq_false (by omega)
        go_wp2_with fail
        go_round
        case rel => exact ⟨k + 1, by omega, by go_num, by rw [hs.out], fun j hj hjk => by
          by_cases e : j = k
          · subst e; rw [ex]; exact hbad
          · exact hall.out j hj (by omega)⟩
        case measure => simp [intOf]; omega
      · have hm0 : m = 0 := EMP.out (fun h => hbad (by rw [← ex]; exact h.1.2 _ (List.getElem_mem (by omega : k < A.length))))
        subst hm0
        by_cases h0 : x < 0
        · have d0 : decide (x < 0) = true := decide_eq_true h0
          go_wp2_with fail
          go_ret
          exact ⟨rfl, k4.out⟩
        · have d0 : decide (x < 0) = false := decide_eq_false h0
          have d1 : decide ((1000 : Int) < x) = true := decide_eq_true (by omega)
          go_wp2_with fail
          go_ret
          exact ⟨rfl, k4.out⟩
    · have hkl : k = l := by omega
      have hT : (A.take k).sum = A.sum := by rw [hkl, ← el, List.take_length]
      rw [hT] at hps ⊢
      clear hT
      have hOk1 : ∀ x ∈ A, 0 ≤ x ∧ x ≤ 1000 := fun x hx => by
        obtain ⟨j, hj, rfl⟩ := List.getElem_of_mem hx
        exact hall.out j hj (by omega)
      subst hkl
      by_cases hok : OkN A N
      case neg =>
        have hm0 : m = 0 := EMP.out hok
        subst hm0
        by_cases h16 : 16 < k
        · have d16 : decide ((16 : Int) < (k : Int)) = true := decide_eq_true (by omega)
          go_wp2_with fail
          go_ret
          exact ⟨rfl, k4.out⟩
        · have d16 : decide ((16 : Int) < (k : Int)) = false := decide_eq_false (by omega)
          by_cases hn0 : N < 0
          · have d0 : decide (N < 0) = true := decide_eq_true hn0
            go_wp2_with fail
            go_ret
            exact ⟨rfl, k4.out⟩
          · have d0 : decide (N < 0) = false := decide_eq_false hn0
            have dT : decide (A.sum < N) = true := decide_eq_true (by
              apply Classical.byContradiction
              intro h
              exact hok ⟨⟨by omega, hOk1⟩, by omega, by omega⟩)
            go_wp2_with fail
            go_ret
            exact ⟨rfl, k4.out⟩
      obtain ⟨hsum, hper⟩ := split_props hok
      have hlen := split_len hok
      have h16 : k ≤ 16 := by have := hok.1.1; omega
      have hNT : 0 ≤ N ∧ N ≤ A.sum := hok.2
      have HAA : Hid (splitL A A.sum = A) := split_all hok.1
      have HSUM : Hid ((splitL A N).sum = N) := hsum
      have HOK : Hid (OkN A N) := hok
      have HOK1 : Hid _ := hOk1
      have HPER : Hid _ := hper
      obtain ⟨T, eT⟩ : ∃ T, A.sum = T := ⟨_, rfl⟩
      have hmk : m = k := by omega
      subst hmk
      rw [eT] at HPER hps hNT HAA ⊢
      clear hsum hper hok hOk1 EMP
      have d16 : decide ((16 : Int) < (m : Int)) = false := decide_eq_false (by omega)
      have d0 : decide (N < 0) = false := decide_eq_false (by omega)
      have dT : decide (T < N) = false := decide_eq_false (by omega)
      have H1L : Hid _ := H1
      go_wp2_with fail
      go_loopw [8, 9] (fun s i wr => ∃ j : Nat, j ≤ m ∧ i = .int .i64 j ∧ s = .int .i64 ((splitL A N).take j).sum ∧ Hid (Below w4.heap.size w4 wr)) (fun _ i _ => m - (intOf i).toNat)
      case atStart => exact ⟨0, Nat.zero_le _, rfl, rfl, Below.refl _ _⟩
      case round =>
        obtain ⟨j, hj, rfl, rfl, hbel⟩ := hrel
        have hs4 := hbel.out.size
        have hyb : ∀ y ∈ splitL A N, 0 ≤ y ∧ y ≤ 1000 := fun y hy => by
          obtain ⟨q, hq, rfl⟩ := List.getElem_of_mem hy
          have h1 := HPER.out q (by omega)
          have h2 := HOK1.out _ (List.getElem_mem (show q < A.length by omega))
          rw [List.getD_eq_getElem?_getD, List.getD_eq_getElem?_getD, List.getElem?_eq_getElem hq, List.getElem?_eq_getElem (show q < A.length by omega)] at h1
          simp only [Option.getD_some] at h1
          omega
        have hqs := sum_boundB 1000 (by decide) ((splitL A N).take j) (fun y hy => hyb y (List.mem_of_mem_take hy))
        rw [List.length_take] at hqs
        have hqs : 0 ≤ ((splitL A N).take j).sum ∧ ((splitL A N).take j).sum ≤ 16000 := by omega
        by_cases hlt : j < m
        · have hx := HOK1.out _ (List.getElem_mem (show j < A.length by omega))
          have hpj := HPER.out j (by omega)
          rw [List.getD_eq_getElem?_getD, List.getD_eq_getElem?_getD, List.getElem?_eq_getElem (show j < A.length by omega), List.getElem?_eq_getElem (show j < (splitL A N).length by omega)] at hpj
          simp only [Option.getD_some] at hpj
          obtain ⟨b, off, rfl, hbS, cc, hcell, hat⟩ := HCA.out j (by omega)
          obtain ⟨b2, off2, rfl, hbS2, cc2, hcell2, hat2⟩ := HCP.out j (by omega)
          rw [width_int] at hcell hcell2
          have hcell := hcell 0 (by omega)
          have hcell2 := hcell2 0 (by omega)
          rw [Nat.mul_one, Nat.add_zero] at hcell hcell2
          rw [at_int] at hat hat2
          rw [hat.1] at hcell
          rw [hat2.1] at hcell2
          have hts : Hid _ := take_sum (splitL A N) j (by omega)
          obtain ⟨x, ex⟩ : ∃ x, A[j]'(by omega) = x := ⟨_, rfl⟩
          obtain ⟨y, ey⟩ : ∃ y, (splitL A N)[j]'(by omega) = y := ⟨_, rfl⟩
          rw [ex] at hcell hx hpj
          rw [ey] at hcell2 hpj hts
          clear hat hat2
          generalize ((splitL A N).take j).sum = p at *
          have c0 := fun d os => cell_regrown ((hbel.out.cell (p := ⟨b, off + j, none⟩) (by show b < _; omega)).trans hcell) d os
          have a0 := fun d os => cell_regrown ((hbel.out.cell (p := ⟨b2, off2 + j, none⟩) (by show b2 < _; omega)).trans hcell2) d os
          have a1 := (hbel.out.cell (p := ⟨b2, off2 + j, none⟩) (by show b2 < _; omega)).trans hcell2
          clear hcell hcell2
          have hyT : 0 ≤ y * T ∧ y * T ≤ 20000000 := ⟨Int.mul_nonneg (by omega) (by omega), by
            have := Int.mul_le_mul (show y ≤ 1000 by omega) (show T ≤ 20000 by omega) (by omega) (by omega); omega⟩
          have hNx : 0 ≤ N * x ∧ N * x ≤ 1000000 := ⟨Int.mul_nonneg (by omega) (by omega), by
            have := Int.mul_le_mul (show N ≤ 1000 by omega) (show x ≤ 1000 by omega) (by omega) (by omega); omega⟩
          have y0 : decide (y < 0) = false := decide_eq_false (by omega)
          have y1 : decide (x < y) = false := decide_eq_false (by omega)
          go_wp2
          refine wp_region_quiet_below (by kernel_rfl) (by kernel_rfl) ?_
          repeat (first | go_big_quiet_step (fail) | quiet_step (fail))
          refine wpQuiet_nil ?_
          intro _ hw'
          obtain ⟨⟨dq, osq⟩, hw''⟩ := hw'
          subst hw''
          go_wp2
          have c2 := fun d os => cell_regrown (c0 dq osq) d os
          have a2 := fun d os => cell_regrown (a0 dq osq) d os
          have hb2 : Hid _ := hbel.out.trans ((below_regrown _ dq osq).mono hs4)
          by_cases hT0 : 0 < T
          · have t0 : decide (0 < T) = true := decide_eq_true hT0
            obtain ⟨hd1, hd2⟩ := hpj.2.2 hT0
            have t1 : decide (T ≤ y * T - N * x) = false := decide_eq_false (by omega)
            have t2 : decide (y * T - N * x ≤ -T) = false := decide_eq_false (by omega)
            refine wp_region_quiet_below (by kernel_rfl) (by kernel_rfl) ?_
            repeat (first | go_big_quiet_step (fail) | quiet_step (fail))
            refine wpQuiet_nil ?_
            intro _ hw'
            obtain ⟨⟨dq2, osq2⟩, hw''⟩ := hw'
            subst hw''
            go_wp2
            go_roundw
            case rel => exact ⟨j + 1, by omega, by go_num, by rw [hts.out], hb2.out.trans ((below_regrown _ dq2 osq2).mono hb2.out.size)⟩
            case measure => simp [intOf]; omega
          · have t0 : decide (0 < T) = false := decide_eq_false hT0
            refine wp_region_quiet_below (by kernel_rfl) (by kernel_rfl) ?_
            repeat (first | go_big_quiet_step (fail) | quiet_step (fail))
            refine wpQuiet_nil ?_
            intro _ hw'
            obtain ⟨⟨dq2, osq2⟩, hw''⟩ := hw'
            subst hw''
            go_wp2
            go_roundw
            case rel => exact ⟨j + 1, by omega, by go_num, by rw [hts.out], hb2.out.trans ((below_regrown _ dq2 osq2).mono hb2.out.size)⟩
            case measure => simp [intOf]; omega
        · have hjm : j = m := by omega
          have hN : ((splitL A N).take j).sum = N := by rw [hjm, ← em, List.take_length]; exact HSUM.out
          rw [hN] at hqs ⊢
          subst hjm
          clear hN
          have hNN : (N == N) = true := by simp
          go_wp2_with fail
          have hs4 := hbel.out.size
          have k5 : Hid (Below w.heap.size w wr) := k4.out.trans (hbel.out.mono k4.out.size)
          have O15 : Hid (OI wr w.heap.size (.slice oa j ca) A) := by have := oi_below O14.out hbel.out; rw [el] at this; exact this
          refine (splitI_any _ (.slice oa j ca) A T wr (oi_atB O15.out (by omega) HAB.out) (fun b hb => hb.2)).mono ?_
          rintro e w5 ⟨r6, rfl, o6, b5⟩
          rw [HAA.out] at o6
          have k6 : Hid (Below w.heap.size w w5) := k5.out.trans (b5.mono k5.out.size)
          have O16 : Hid (OI w5 w.heap.size (.slice oa j ca) A) := oi_below O15.out b5
          have O6 : Hid (OI w5 wr.heap.size r6 A) := o6
          clear o6 b5
          go_wp2_with fail
          refine (wsInt_any _ _ r6 (.slice oa j ca) A w5 (oi_atB O6.out (by omega) HAB.out) (oi_atB O16.out (by omega) HAB.out) (fun b hb => hb.2) (fun b hb => hb.2)).mono ?_
          rintro e w6 ⟨rfl, b6⟩
          have k7 : Hid (Below w.heap.size w w6) := k6.out.trans (b6.mono k6.out.size)
          clear b6
          go_wp2_with fail
          go_ret
          exact ⟨rfl, k7.out⟩

end Go.Proofs.Ytkmgogfgdpldbab
