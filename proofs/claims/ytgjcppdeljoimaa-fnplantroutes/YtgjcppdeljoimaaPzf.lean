import Derived.Test.YtgjcppdeljoimaaPzb
import Derived.Deep.CutBlock
namespace Go.Proofs.Ytgjcppdeljoimaa
open Go.RowKit Go.Sort
def valvI (n : Nat) (f : Nat → ByteArray × ByteArray × ByteArray × ByteArray) (x : ByteArray) : Int := match (List.range n).find? (fun i => eqB (f i).1 x) with | some i => i | none => -1
theorem valv_yes {n : Nat} {f : Nat → ByteArray × ByteArray × ByteArray × ByteArray} {x : ByteArray} {k : Nat} (hk : k < n) (h : eqB (f k).1 x = true) (hno : ∀ j, j < k → eqB (f j).1 x = false) : valvI n f x = k := by
  have : (List.range n).find? (fun i => eqB (f i).1 x) = some k := by
    rw [List.find?_range_eq_some]
    refine ⟨h, by simpa using hk, fun j hj => by simp [hno j hj]⟩
  simp only [valvI, this]
theorem valv_no {n : Nat} {f : Nat → ByteArray × ByteArray × ByteArray × ByteArray} {x : ByteArray} (h : ∀ j, j < n → eqB (f j).1 x = false) : valvI n f x = -1 := by
  have : (List.range n).find? (fun i => eqB (f i).1 x) = none := by
    rw [List.find?_eq_none]
    intro i hi
    simp [h i (List.mem_range.1 hi)]
  simp only [valvI, this]
set_option maxRecDepth 100000 in
set_option maxHeartbeats 1000000 in
theorem valv_any (B : Nat) (v0 v1 v2 v3 : Value) (n : Nat) (f : Nat → ByteArray × ByteArray × ByteArray × ByteArray) (x : ByteArray) (w : World) (h : Lst B w v3 n 4 (cV f)) (hB : B ≤ w.heap.size) :
    Calls Try.prog 86 #[.agg #[v0, v1, v2, v3], .string x] w fun e w' => e = .returned (.int .i64 (valvI n f x)) ∧ Below w.heap.size w w' := by
  obtain ⟨oa, cap, rfl, hn, hc⟩ := h
  unfold maxLen at hn
  have HC : Hid _ := hc
  clear hc
  go_enter Try.func86, Try.ntmps86
  go_wp2
  go_loop [5] (fun i => ∃ k : Nat, k ≤ n ∧ i = .int .i64 k ∧ Hid (∀ j, j < k → eqB (f j).1 x = false)) (fun i => n - (intOf i).toNat)
  case atStart => exact ⟨0, Nat.zero_le _, rfl, fun _ h => by omega⟩
  case round =>
    obtain ⟨k, hk, rfl, hno⟩ := hrel
    by_cases hlt : k < n
    · obtain ⟨b, off, rfl, hbB, hcell⟩ := HC.out k hlt
      have hcell := cell_past (hcell 0 (by omega)) (by omega) (.cells #[v0, v1, v2, .slice (some ⟨b, off, none⟩) n cap] 28)
      rw [Nat.add_zero] at hcell
      simp only [cV, if_true] at hcell
      go_wp2
      · have hy : ((f k).1.toList == x.toList) = true := by assumption
        rw [valv_yes hlt hy hno.out]
        go_ret
        exact ⟨rfl, (Below.refl _ _).alloc (Nat.le_refl _) _⟩
      · have hy : ((f k).1.toList == x.toList) = false := by assumption
        go_round
        case rel => exact ⟨k + 1, by omega, by go_num, fun j hj => by
          by_cases e : j = k
          · subst e; exact hy
          · exact hno.out j (by omega)⟩
        case measure => simp [intOf]; omega
    · go_wp2
      go_ret
      have hkn : k = n := by omega
      subst hkn
      rw [valv_no hno.out]
      exact ⟨rfl, (Below.refl _ _).alloc (Nat.le_refl _) _⟩
theorem valv_q (B : Nat) (v0 v1 v2 v3 : Value) (n : Nat) (f : Nat → ByteArray × ByteArray × ByteArray × ByteArray) (x : ByteArray) (wr : World) (h : Lst B wr v3 n 4 (cV f)) (hB : B ≤ wr.heap.size) (d : Nat) (os : Array Obj) : Calls Try.prog 86 #[.agg #[v0, v1, v2, v3], .string x] (grow (redrawn wr d) os) fun e w'' => e = .returned (.int .i64 (valvI n f x)) ∧ ∃ p : Regrown, w'' = grow (redrawn wr p.d) p.os :=
  Calls.regrown_of (valv_any B v0 v1 v2 v3 n f x _ (h.kept (below_regrown wr d os) hB) (Nat.le_trans hB (below_regrown wr d os).size))
set_option maxRecDepth 100000 in
set_option maxHeartbeats 4000000 in
theorem valve_ex (B : Nat) (v0 v1 v2 v3 : Value) (X : PlL) (bw cw : Nat) (g : Nat → ByteArray) (w : World) (h : PlR B w v0 v1 v2 v3 X) (hX : X.Ok) (hcw : 5 ≤ cw) (hc : ∀ i, i < 5 → w.cell? ⟨bw, i, none⟩ = some (.string (g i))) (hs : ∀ i, (g i).size ≤ maxLen) (hB : B ≤ w.heap.size) :
    Calls Try.prog 81 #[.agg #[v0, v1, v2, v3], .slice (some ⟨bw, 0, none⟩) 5 cw] w fun e w' => PutP B w e w' := by
  obtain ⟨o0, c0, rfl⟩ := Row.form h.s
  obtain ⟨o1, c1, rfl⟩ := Row.form h.f
  obtain ⟨o2, c2, rfl⟩ := Row.form h.p
  obtain ⟨o3, c3, rfl⟩ := Row.form h.v
  generalize en0 : X.ss.length = n0 at h ⊢
  generalize en1 : X.ff.length = n1 at h ⊢
  generalize en2 : X.pp.length = n2 at h ⊢
  generalize en3 : X.vv.length = n3 at h ⊢
  have HH : Hid (PlR B w (.slice o0 n0 c0) (.slice o1 n1 c1) (.slice o2 n2 c2) (.slice o3 n3 c3) X) := h
  clear h
  obtain ⟨W, hW⟩ : ∃ W, W = (w.alloc (.cells #[.slice o0 n0 c0, .slice o1 n1 c1, .slice o2 n2 c2, .slice o3 n3 c3] 28)).alloc (.cells #[.slice none 0 0, .slice none 0 0, .slice none 0 0, .slice none 0 0] 28) := ⟨_, rfl⟩
  have hbW : Hid (Below w.heap.size w W) := by rw [hW]; exact ((Below.refl _ _).alloc (Nat.le_refl _) _).alloc (by simp) _
  have hsW : W.heap.size = w.heap.size + 1 + 1 := by rw [hW]; simp
  have HP : Hid (W.heap[w.heap.size]? = some (.cells #[.slice o0 n0 c0, .slice o1 n1 c1, .slice o2 n2 c2, .slice o3 n3 c3] 28 (0, 0))) := by
    rw [hW]; exact (Below.heap_alloc _ _ _ (by simp)).trans (heap_alloc_new w _)
  have HR : Hid (W.heap[w.heap.size + 1]? = some (.cells #[.slice none 0 0, .slice none 0 0, .slice none 0 0, .slice none 0 0] 28 (0, 0))) := by
    have e : (w.alloc (.cells #[.slice o0 n0 c0, .slice o1 n1 c1, .slice o2 n2 c2, .slice o3 n3 c3] 28)).heap.size = w.heap.size + 1 := by simp
    rw [hW, ← e]; exact heap_alloc_new _ _
  have HW : Hid (PlR B W (.slice o0 n0 c0) (.slice o1 n1 c1) (.slice o2 n2 c2) (.slice o3 n3 c3) X) := HH.out.below hbW.out
  have HC : Hid (∀ i, i < 5 → W.cell? ⟨bw, i, none⟩ = some (.string (g i))) := fun i hi => (hbW.out.cell (p := ⟨bw, i, none⟩) (World.block_lt_of_cell? w _ (hc i hi))).trans (hc i hi)
  have HC1 : Hid (∀ u, Below W.heap.size W u → ∀ i, i < 5 → u.cell? ⟨bw, i, none⟩ = some (.string (g i))) := fun u hu i hi => (hu.cell (p := ⟨bw, i, none⟩) (World.block_lt_of_cell? W _ (HC.out i hi))).trans (HC.out i hi)
  clear hc
  have HBW : Hid (Below W.heap.size W W) := Below.refl _ _
  have hcw' : (5 : Int) ≤ (cw : Int) := by omega
  go_enter Try.func81, Try.ntmps81
  go_upto_region 1 with fail
  rw [← hW]
  clear hW
  go_cut [47] from 8 (fun v wr => (∃ b : Bool, v = .bool b) ∧ Hid (Below W.heap.size W wr))
  case first =>
    have hsu_W : W.heap.size ≤ W.heap.size := HBW.out.size
    have gW1 := HC1.out W HBW.out 1 (by decide)
    have gW2 := HC1.out W HBW.out 2 (by decide)
    have gW3 := HC1.out W HBW.out 3 (by decide)
    have gW4 := HC1.out W HBW.out 4 (by decide)
    have q_gW1 := fun d os => cell_regrown gW1 d os
    have q_gW2 := fun d os => cell_regrown gW2 d os
    have q_gW3 := fun d os => cell_regrown gW3 d os
    have q_gW4 := fun d os => cell_regrown gW4 d os
    cases hn1 : nameB (g 1)
    case false =>
      refine wp_region_quiet_below (by kernel_rfl) (by kernel_rfl) ?_
      repeat (first | go_big_quiet_step ((first | with_reducible exact name_q (g 1) _ (hs 1) _ hn1 _ _ | with_reducible exact name_q (g 2) _ (hs 2) _ hn2 _ _ | with_reducible exact name_q (g 3) _ (hs 3) _ hn3 _ _ | with_reducible exact name_q (g 4) _ (hs 4) _ hn4 _ _)) | quiet_step ((first | with_reducible exact name_q (g 1) _ (hs 1) _ hn1 _ _ | with_reducible exact name_q (g 2) _ (hs 2) _ hn2 _ _ | with_reducible exact name_q (g 3) _ (hs 3) _ hn3 _ _ | with_reducible exact name_q (g 4) _ (hs 4) _ hn4 _ _)))
      refine wpQuiet_nil ?_
      intro _ hw'
      obtain ⟨⟨dq, osq⟩, hw''⟩ := hw'
      subst hw''
      have hq3 : Hid (Below W.heap.size W (grow (redrawn W dq) osq)) := HBW.out.trans ((below_regrown _ dq osq).mono HBW.out.size)
      generalize grow (redrawn W dq) osq = uq at hq3 ⊢
      go_wp2_with fail
      go_meet
      case rel => exact ⟨⟨_, rfl⟩, hq3⟩
    case true =>
      cases hn2 : nameB (g 2)
      case false =>
        refine wp_region_quiet_below (by kernel_rfl) (by kernel_rfl) ?_
        repeat (first | go_big_quiet_step ((first | with_reducible exact name_q (g 1) _ (hs 1) _ hn1 _ _ | with_reducible exact name_q (g 2) _ (hs 2) _ hn2 _ _ | with_reducible exact name_q (g 3) _ (hs 3) _ hn3 _ _ | with_reducible exact name_q (g 4) _ (hs 4) _ hn4 _ _)) | quiet_step ((first | with_reducible exact name_q (g 1) _ (hs 1) _ hn1 _ _ | with_reducible exact name_q (g 2) _ (hs 2) _ hn2 _ _ | with_reducible exact name_q (g 3) _ (hs 3) _ hn3 _ _ | with_reducible exact name_q (g 4) _ (hs 4) _ hn4 _ _)))
        refine wpQuiet_nil ?_
        intro _ hw'
        obtain ⟨⟨dq, osq⟩, hw''⟩ := hw'
        subst hw''
        have hq3 : Hid (Below W.heap.size W (grow (redrawn W dq) osq)) := HBW.out.trans ((below_regrown _ dq osq).mono HBW.out.size)
        generalize grow (redrawn W dq) osq = uq at hq3 ⊢
        go_wp2_with fail
        go_meet
        case rel => exact ⟨⟨_, rfl⟩, hq3⟩
      case true =>
        cases hn3 : nameB (g 3)
        case false =>
          refine wp_region_quiet_below (by kernel_rfl) (by kernel_rfl) ?_
          repeat (first | go_big_quiet_step ((first | with_reducible exact name_q (g 1) _ (hs 1) _ hn1 _ _ | with_reducible exact name_q (g 2) _ (hs 2) _ hn2 _ _ | with_reducible exact name_q (g 3) _ (hs 3) _ hn3 _ _ | with_reducible exact name_q (g 4) _ (hs 4) _ hn4 _ _)) | quiet_step ((first | with_reducible exact name_q (g 1) _ (hs 1) _ hn1 _ _ | with_reducible exact name_q (g 2) _ (hs 2) _ hn2 _ _ | with_reducible exact name_q (g 3) _ (hs 3) _ hn3 _ _ | with_reducible exact name_q (g 4) _ (hs 4) _ hn4 _ _)))
          refine wpQuiet_nil ?_
          intro _ hw'
          obtain ⟨⟨dq, osq⟩, hw''⟩ := hw'
          subst hw''
          have hq3 : Hid (Below W.heap.size W (grow (redrawn W dq) osq)) := HBW.out.trans ((below_regrown _ dq osq).mono HBW.out.size)
          generalize grow (redrawn W dq) osq = uq at hq3 ⊢
          go_wp2_with fail
          go_meet
          case rel => exact ⟨⟨_, rfl⟩, hq3⟩
        case true =>
          cases heq : ((g 2).toList == (g 3).toList)
          case true =>
            refine wp_region_quiet_below (by kernel_rfl) (by kernel_rfl) ?_
            repeat (first | go_big_quiet_step ((first | with_reducible exact name_q (g 1) _ (hs 1) _ hn1 _ _ | with_reducible exact name_q (g 2) _ (hs 2) _ hn2 _ _ | with_reducible exact name_q (g 3) _ (hs 3) _ hn3 _ _ | with_reducible exact name_q (g 4) _ (hs 4) _ hn4 _ _)) | quiet_step ((first | with_reducible exact name_q (g 1) _ (hs 1) _ hn1 _ _ | with_reducible exact name_q (g 2) _ (hs 2) _ hn2 _ _ | with_reducible exact name_q (g 3) _ (hs 3) _ hn3 _ _ | with_reducible exact name_q (g 4) _ (hs 4) _ hn4 _ _)))
            refine wpQuiet_nil ?_
            intro _ hw'
            obtain ⟨⟨dq, osq⟩, hw''⟩ := hw'
            subst hw''
            have hq3 : Hid (Below W.heap.size W (grow (redrawn W dq) osq)) := HBW.out.trans ((below_regrown _ dq osq).mono HBW.out.size)
            generalize grow (redrawn W dq) osq = uq at hq3 ⊢
            go_wp2_with fail
            go_meet
            case rel => exact ⟨⟨_, rfl⟩, hq3⟩
          case false =>
            cases hn4 : nameB (g 4)
            case false =>
              refine wp_region_quiet_below (by kernel_rfl) (by kernel_rfl) ?_
              repeat (first | go_big_quiet_step ((first | with_reducible exact name_q (g 1) _ (hs 1) _ hn1 _ _ | with_reducible exact name_q (g 2) _ (hs 2) _ hn2 _ _ | with_reducible exact name_q (g 3) _ (hs 3) _ hn3 _ _ | with_reducible exact name_q (g 4) _ (hs 4) _ hn4 _ _)) | quiet_step ((first | with_reducible exact name_q (g 1) _ (hs 1) _ hn1 _ _ | with_reducible exact name_q (g 2) _ (hs 2) _ hn2 _ _ | with_reducible exact name_q (g 3) _ (hs 3) _ hn3 _ _ | with_reducible exact name_q (g 4) _ (hs 4) _ hn4 _ _)))
              refine wpQuiet_nil ?_
              intro _ hw'
              obtain ⟨⟨dq, osq⟩, hw''⟩ := hw'
              subst hw''
              have hq3 : Hid (Below W.heap.size W (grow (redrawn W dq) osq)) := HBW.out.trans ((below_regrown _ dq osq).mono HBW.out.size)
              generalize grow (redrawn W dq) osq = uq at hq3 ⊢
              go_wp2_with fail
              go_meet
              case rel => exact ⟨⟨_, rfl⟩, hq3⟩
            case true =>
              refine wp_region_quiet_below (by kernel_rfl) (by kernel_rfl) ?_
              repeat (first | go_big_quiet_step ((first | with_reducible exact name_q (g 1) _ (hs 1) _ hn1 _ _ | with_reducible exact name_q (g 2) _ (hs 2) _ hn2 _ _ | with_reducible exact name_q (g 3) _ (hs 3) _ hn3 _ _ | with_reducible exact name_q (g 4) _ (hs 4) _ hn4 _ _)) | quiet_step ((first | with_reducible exact name_q (g 1) _ (hs 1) _ hn1 _ _ | with_reducible exact name_q (g 2) _ (hs 2) _ hn2 _ _ | with_reducible exact name_q (g 3) _ (hs 3) _ hn3 _ _ | with_reducible exact name_q (g 4) _ (hs 4) _ hn4 _ _)))
              refine wpQuiet_nil ?_
              intro _ hw'
              obtain ⟨⟨dq, osq⟩, hw''⟩ := hw'
              subst hw''
              have hq3 : Hid (Below W.heap.size W (grow (redrawn W dq) osq)) := HBW.out.trans ((below_regrown _ dq osq).mono HBW.out.size)
              generalize grow (redrawn W dq) osq = uq at hq3 ⊢
              go_wp2_with fail
              go_meet
              case rel => exact ⟨⟨_, rfl⟩, hq3⟩
  case rest =>
    obtain ⟨⟨b, rfl⟩, hb1⟩ := hcut
    obtain ⟨w1, ew1⟩ : ∃ x, x = wc := ⟨_, rfl⟩
    rw [← ew1] at hb1 ⊢
    clear ew1
    cases b
    case true =>
      have hsu_ : W.heap.size ≤ w1.heap.size := hb1.out.size
      obtain ⟨xr0, _⟩ := cell_row ((hb1.out.block _ (by omega)).trans HP.out) 0 _ rfl
      obtain ⟨xr1, _⟩ := cell_row ((hb1.out.block _ (by omega)).trans HP.out) 1 _ rfl
      obtain ⟨xr2, _⟩ := cell_row ((hb1.out.block _ (by omega)).trans HP.out) 2 _ rfl
      obtain ⟨xr3, _⟩ := cell_row ((hb1.out.block _ (by omega)).trans HP.out) 3 _ rfl
      simp only [List.getElem_toArray, List.getElem_cons_zero, List.getElem_cons_succ] at xr0 xr1 xr2 xr3
      obtain ⟨zr0, tzr0⟩ := cell_row ((hb1.out.block (w.heap.size + 1) (by omega)).trans HR.out) 0 _ rfl
      obtain ⟨zr1, tzr1⟩ := cell_row ((hb1.out.block (w.heap.size + 1) (by omega)).trans HR.out) 1 _ rfl
      obtain ⟨zr2, tzr2⟩ := cell_row ((hb1.out.block (w.heap.size + 1) (by omega)).trans HR.out) 2 _ rfl
      obtain ⟨zr3, tzr3⟩ := cell_row ((hb1.out.block (w.heap.size + 1) (by omega)).trans HR.out) 3 _ rfl
      simp only [List.getElem_toArray, List.getElem_cons_zero, List.getElem_cons_succ] at zr0 zr1 zr2 zr3
      have R4 := hidZ (ret4 ((hb1.out.block (w.heap.size + 1) (by omega)).trans HR.out) (.slice o0 n0 c0) (.slice o1 n1 c1) (.slice o2 n2 c2) (.slice o3 n3 c3))
      have ff0 := hidZ (cell_row R4.out.1 0 _ rfl).1
      have ff1 := hidZ (cell_row R4.out.1 1 _ rfl).1
      have ff2 := hidZ (cell_row R4.out.1 2 _ rfl).1
      have ff3 := hidZ (cell_row R4.out.1 3 _ rfl).1
      have hF := hidZ (hbW.out.trans ((hb1.out.mono (by omega)).trans (R4.out.2.2.2.mono (by omega))))
      go_wp2_with fail
      all_goals exact bodyPost_ret (v := .tuple #[.agg #[.slice o0 n0 c0, .slice o1 n1 c1, .slice o2 n2 c2, .slice o3 n3 c3], .int .i64 3]) (by simp [results, Try.results81, go_sem, ff0.out, ff1.out, ff2.out, ff3.out]) rfl (putP (HH.out.below hF.out) hX hF.out)
    case false =>
      have H1 : Hid (Lst w1.heap.size w1 (.slice o3 n3 c3) n3 4 (cV (fun i => X.vv.getD i (ByteArray.empty, ByteArray.empty, ByteArray.empty, ByteArray.empty)))) := by have := row_lst (HW.out.below hb1.out).v (ByteArray.empty, ByteArray.empty, ByteArray.empty, ByteArray.empty); rw [en3] at this; exact this
      have hsw1 : W.heap.size ≤ w1.heap.size := hb1.out.size
      go_upto_region 3 with fail
      go_cut [54] from 8 (fun v wr => (∃ b : Bool, v = .bool b) ∧ Hid (Below W.heap.size W wr))
      case first =>
        have hsu_w1 : W.heap.size ≤ w1.heap.size := hb1.out.size
        have gw11 := HC1.out w1 hb1.out 1 (by decide)
        have gw12 := HC1.out w1 hb1.out 2 (by decide)
        have gw13 := HC1.out w1 hb1.out 3 (by decide)
        have gw14 := HC1.out w1 hb1.out 4 (by decide)
        have q_gw11 := fun d os => cell_regrown gw11 d os
        have q_gw12 := fun d os => cell_regrown gw12 d os
        have q_gw13 := fun d os => cell_regrown gw13 d os
        have q_gw14 := fun d os => cell_regrown gw14 d os
        obtain ⟨xw10, _⟩ := cell_row ((hb1.out.block _ (by omega)).trans HP.out) 0 _ rfl
        obtain ⟨xw11, _⟩ := cell_row ((hb1.out.block _ (by omega)).trans HP.out) 1 _ rfl
        obtain ⟨xw12, _⟩ := cell_row ((hb1.out.block _ (by omega)).trans HP.out) 2 _ rfl
        obtain ⟨xw13, _⟩ := cell_row ((hb1.out.block _ (by omega)).trans HP.out) 3 _ rfl
        simp only [List.getElem_toArray, List.getElem_cons_zero, List.getElem_cons_succ] at xw10 xw11 xw12 xw13
        have q_xw10 := fun d os => cell_regrown xw10 d os
        have q_xw11 := fun d os => cell_regrown xw11 d os
        have q_xw12 := fun d os => cell_regrown xw12 d os
        have q_xw13 := fun d os => cell_regrown xw13 d os
        refine wp_region_quiet_below (by kernel_rfl) (by kernel_rfl) ?_
        repeat (first | go_big_quiet_step ((with_reducible exact valv_q w1.heap.size _ _ _ _ n3 (fun i => X.vv.getD i (ByteArray.empty, ByteArray.empty, ByteArray.empty, ByteArray.empty)) _ _ H1.out (Nat.le_refl _) _ _)) | quiet_step ((with_reducible exact valv_q w1.heap.size _ _ _ _ n3 (fun i => X.vv.getD i (ByteArray.empty, ByteArray.empty, ByteArray.empty, ByteArray.empty)) _ _ H1.out (Nat.le_refl _) _ _)))
        refine wpQuiet_nil ?_
        intro _ hw'
        obtain ⟨⟨dq, osq⟩, hw''⟩ := hw'
        subst hw''
        have hq3 : Hid (Below W.heap.size W (grow (redrawn w1 dq) osq)) := hb1.out.trans ((below_regrown _ dq osq).mono hb1.out.size)
        generalize grow (redrawn w1 dq) osq = uq at hq3 ⊢
        go_wp2_with fail
        go_meet
        case rel => exact ⟨⟨_, rfl⟩, hq3⟩
      case rest =>
        obtain ⟨⟨b, rfl⟩, hb2⟩ := hcut
        obtain ⟨w2, ew2⟩ : ∃ x, x = wc := ⟨_, rfl⟩
        rw [← ew2] at hb2 ⊢
        clear ew2
        cases b
        case true =>
          have hsu_ : W.heap.size ≤ w2.heap.size := hb2.out.size
          obtain ⟨xr0, _⟩ := cell_row ((hb2.out.block _ (by omega)).trans HP.out) 0 _ rfl
          obtain ⟨xr1, _⟩ := cell_row ((hb2.out.block _ (by omega)).trans HP.out) 1 _ rfl
          obtain ⟨xr2, _⟩ := cell_row ((hb2.out.block _ (by omega)).trans HP.out) 2 _ rfl
          obtain ⟨xr3, _⟩ := cell_row ((hb2.out.block _ (by omega)).trans HP.out) 3 _ rfl
          simp only [List.getElem_toArray, List.getElem_cons_zero, List.getElem_cons_succ] at xr0 xr1 xr2 xr3
          obtain ⟨zr0, tzr0⟩ := cell_row ((hb2.out.block (w.heap.size + 1) (by omega)).trans HR.out) 0 _ rfl
          obtain ⟨zr1, tzr1⟩ := cell_row ((hb2.out.block (w.heap.size + 1) (by omega)).trans HR.out) 1 _ rfl
          obtain ⟨zr2, tzr2⟩ := cell_row ((hb2.out.block (w.heap.size + 1) (by omega)).trans HR.out) 2 _ rfl
          obtain ⟨zr3, tzr3⟩ := cell_row ((hb2.out.block (w.heap.size + 1) (by omega)).trans HR.out) 3 _ rfl
          simp only [List.getElem_toArray, List.getElem_cons_zero, List.getElem_cons_succ] at zr0 zr1 zr2 zr3
          have R4 := hidZ (ret4 ((hb2.out.block (w.heap.size + 1) (by omega)).trans HR.out) (.slice o0 n0 c0) (.slice o1 n1 c1) (.slice o2 n2 c2) (.slice o3 n3 c3))
          have ff0 := hidZ (cell_row R4.out.1 0 _ rfl).1
          have ff1 := hidZ (cell_row R4.out.1 1 _ rfl).1
          have ff2 := hidZ (cell_row R4.out.1 2 _ rfl).1
          have ff3 := hidZ (cell_row R4.out.1 3 _ rfl).1
          have hF := hidZ (hbW.out.trans ((hb2.out.mono (by omega)).trans (R4.out.2.2.2.mono (by omega))))
          go_wp2_with fail
          all_goals exact bodyPost_ret (v := .tuple #[.agg #[.slice o0 n0 c0, .slice o1 n1 c1, .slice o2 n2 c2, .slice o3 n3 c3], .int .i64 4]) (by simp [results, Try.results81, go_sem, ff0.out, ff1.out, ff2.out, ff3.out]) rfl (putP (HH.out.below hF.out) hX hF.out)
        case false =>
          have hsw2 : W.heap.size ≤ w2.heap.size := hb2.out.size
          have H2 : Hid (Lst w2.heap.size w2 (.slice o2 n2 c2) n2 3 (cP (fun i => X.pp.getD i (ByteArray.empty, 0, ByteArray.empty)))) := by have := row_lst (HW.out.below hb2.out).p (ByteArray.empty, 0, ByteArray.empty); rw [en2] at this; exact this
          obtain ⟨fp, efp⟩ : ∃ f, f = (fun i => X.pp.getD i (ByteArray.empty, 0, ByteArray.empty)) := ⟨_, rfl⟩
          rw [← efp] at H2
          clear efp
          go_upto_region 5 with fail
          go_cut [69] from 8 (fun v wr => (∃ b : Bool, v = .bool b) ∧ Hid (Below W.heap.size W wr))
          case first =>
            have hsu_w2 : W.heap.size ≤ w2.heap.size := hb2.out.size
            have gw21 := HC1.out w2 hb2.out 1 (by decide)
            have gw22 := HC1.out w2 hb2.out 2 (by decide)
            have gw23 := HC1.out w2 hb2.out 3 (by decide)
            have gw24 := HC1.out w2 hb2.out 4 (by decide)
            have q_gw21 := fun d os => cell_regrown gw21 d os
            have q_gw22 := fun d os => cell_regrown gw22 d os
            have q_gw23 := fun d os => cell_regrown gw23 d os
            have q_gw24 := fun d os => cell_regrown gw24 d os
            obtain ⟨xw20, _⟩ := cell_row ((hb2.out.block _ (by omega)).trans HP.out) 0 _ rfl
            obtain ⟨xw21, _⟩ := cell_row ((hb2.out.block _ (by omega)).trans HP.out) 1 _ rfl
            obtain ⟨xw22, _⟩ := cell_row ((hb2.out.block _ (by omega)).trans HP.out) 2 _ rfl
            obtain ⟨xw23, _⟩ := cell_row ((hb2.out.block _ (by omega)).trans HP.out) 3 _ rfl
            simp only [List.getElem_toArray, List.getElem_cons_zero, List.getElem_cons_succ] at xw20 xw21 xw22 xw23
            have q_xw20 := fun d os => cell_regrown xw20 d os
            have q_xw21 := fun d os => cell_regrown xw21 d os
            have q_xw22 := fun d os => cell_regrown xw22 d os
            have q_xw23 := fun d os => cell_regrown xw23 d os
            cases ha : decide (placeI n2 fp (g 2) < 0)
            case true =>
              refine wp_region_quiet_below (by kernel_rfl) (by kernel_rfl) ?_
              repeat (first | go_big_quiet_step ((with_reducible exact place_q w2.heap.size _ _ _ _ n2 fp _ _ H2.out (Nat.le_refl _) _ _)) | quiet_step ((with_reducible exact place_q w2.heap.size _ _ _ _ n2 fp _ _ H2.out (Nat.le_refl _) _ _)))
              refine wpQuiet_nil ?_
              intro _ hw'
              obtain ⟨⟨dq, osq⟩, hw''⟩ := hw'
              subst hw''
              have hq3 : Hid (Below W.heap.size W (grow (redrawn w2 dq) osq)) := hb2.out.trans ((below_regrown _ dq osq).mono hb2.out.size)
              generalize grow (redrawn w2 dq) osq = uq at hq3 ⊢
              go_wp2_with fail
              go_meet
              case rel => exact ⟨⟨_, rfl⟩, hq3⟩
            case false =>
              refine wp_region_quiet_below (by kernel_rfl) (by kernel_rfl) ?_
              repeat (first | go_big_quiet_step ((with_reducible exact place_q w2.heap.size _ _ _ _ n2 fp _ _ H2.out (Nat.le_refl _) _ _)) | quiet_step ((with_reducible exact place_q w2.heap.size _ _ _ _ n2 fp _ _ H2.out (Nat.le_refl _) _ _)))
              refine wpQuiet_nil ?_
              intro _ hw'
              obtain ⟨⟨dq, osq⟩, hw''⟩ := hw'
              subst hw''
              have hq3 : Hid (Below W.heap.size W (grow (redrawn w2 dq) osq)) := hb2.out.trans ((below_regrown _ dq osq).mono hb2.out.size)
              generalize grow (redrawn w2 dq) osq = uq at hq3 ⊢
              go_wp2_with fail
              go_meet
              case rel => exact ⟨⟨_, rfl⟩, hq3⟩
          case rest =>
            obtain ⟨⟨b, rfl⟩, hb4⟩ := hcut
            obtain ⟨w4, ew4⟩ : ∃ x, x = wc := ⟨_, rfl⟩
            rw [← ew4] at hb4 ⊢
            clear ew4
            cases b
            case true =>
              have hsu_ : W.heap.size ≤ w4.heap.size := hb4.out.size
              obtain ⟨xr0, _⟩ := cell_row ((hb4.out.block _ (by omega)).trans HP.out) 0 _ rfl
              obtain ⟨xr1, _⟩ := cell_row ((hb4.out.block _ (by omega)).trans HP.out) 1 _ rfl
              obtain ⟨xr2, _⟩ := cell_row ((hb4.out.block _ (by omega)).trans HP.out) 2 _ rfl
              obtain ⟨xr3, _⟩ := cell_row ((hb4.out.block _ (by omega)).trans HP.out) 3 _ rfl
              simp only [List.getElem_toArray, List.getElem_cons_zero, List.getElem_cons_succ] at xr0 xr1 xr2 xr3
              obtain ⟨zr0, tzr0⟩ := cell_row ((hb4.out.block (w.heap.size + 1) (by omega)).trans HR.out) 0 _ rfl
              obtain ⟨zr1, tzr1⟩ := cell_row ((hb4.out.block (w.heap.size + 1) (by omega)).trans HR.out) 1 _ rfl
              obtain ⟨zr2, tzr2⟩ := cell_row ((hb4.out.block (w.heap.size + 1) (by omega)).trans HR.out) 2 _ rfl
              obtain ⟨zr3, tzr3⟩ := cell_row ((hb4.out.block (w.heap.size + 1) (by omega)).trans HR.out) 3 _ rfl
              simp only [List.getElem_toArray, List.getElem_cons_zero, List.getElem_cons_succ] at zr0 zr1 zr2 zr3
              have R4 := hidZ (ret4 ((hb4.out.block (w.heap.size + 1) (by omega)).trans HR.out) (.slice o0 n0 c0) (.slice o1 n1 c1) (.slice o2 n2 c2) (.slice o3 n3 c3))
              have ff0 := hidZ (cell_row R4.out.1 0 _ rfl).1
              have ff1 := hidZ (cell_row R4.out.1 1 _ rfl).1
              have ff2 := hidZ (cell_row R4.out.1 2 _ rfl).1
              have ff3 := hidZ (cell_row R4.out.1 3 _ rfl).1
              have hF := hidZ (hbW.out.trans ((hb4.out.mono (by omega)).trans (R4.out.2.2.2.mono (by omega))))
              go_wp2_with fail
              all_goals exact bodyPost_ret (v := .tuple #[.agg #[.slice o0 n0 c0, .slice o1 n1 c1, .slice o2 n2 c2, .slice o3 n3 c3], .int .i64 5]) (by simp [results, Try.results81, go_sem, ff0.out, ff1.out, ff2.out, ff3.out]) rfl (putP (HH.out.below hF.out) hX hF.out)
            case false =>
              cases dl : decide ((18 : Int) ≤ (n3 : Int))
              case true =>
                have hsu_ : W.heap.size ≤ w4.heap.size := hb4.out.size
                obtain ⟨xr0, _⟩ := cell_row ((hb4.out.block _ (by omega)).trans HP.out) 0 _ rfl
                obtain ⟨xr1, _⟩ := cell_row ((hb4.out.block _ (by omega)).trans HP.out) 1 _ rfl
                obtain ⟨xr2, _⟩ := cell_row ((hb4.out.block _ (by omega)).trans HP.out) 2 _ rfl
                obtain ⟨xr3, _⟩ := cell_row ((hb4.out.block _ (by omega)).trans HP.out) 3 _ rfl
                simp only [List.getElem_toArray, List.getElem_cons_zero, List.getElem_cons_succ] at xr0 xr1 xr2 xr3
                obtain ⟨zr0, tzr0⟩ := cell_row ((hb4.out.block (w.heap.size + 1) (by omega)).trans HR.out) 0 _ rfl
                obtain ⟨zr1, tzr1⟩ := cell_row ((hb4.out.block (w.heap.size + 1) (by omega)).trans HR.out) 1 _ rfl
                obtain ⟨zr2, tzr2⟩ := cell_row ((hb4.out.block (w.heap.size + 1) (by omega)).trans HR.out) 2 _ rfl
                obtain ⟨zr3, tzr3⟩ := cell_row ((hb4.out.block (w.heap.size + 1) (by omega)).trans HR.out) 3 _ rfl
                simp only [List.getElem_toArray, List.getElem_cons_zero, List.getElem_cons_succ] at zr0 zr1 zr2 zr3
                have R4 := hidZ (ret4 ((hb4.out.block (w.heap.size + 1) (by omega)).trans HR.out) (.slice o0 n0 c0) (.slice o1 n1 c1) (.slice o2 n2 c2) (.slice o3 n3 c3))
                have ff0 := hidZ (cell_row R4.out.1 0 _ rfl).1
                have ff1 := hidZ (cell_row R4.out.1 1 _ rfl).1
                have ff2 := hidZ (cell_row R4.out.1 2 _ rfl).1
                have ff3 := hidZ (cell_row R4.out.1 3 _ rfl).1
                have hF := hidZ (hbW.out.trans ((hb4.out.mono (by omega)).trans (R4.out.2.2.2.mono (by omega))))
                go_wp2_with fail
                all_goals exact bodyPost_ret (v := .tuple #[.agg #[.slice o0 n0 c0, .slice o1 n1 c1, .slice o2 n2 c2, .slice o3 n3 c3], .int .i64 6]) (by simp [results, Try.results81, go_sem, ff0.out, ff1.out, ff2.out, ff3.out]) rfl (putP (HH.out.below hF.out) hX hF.out)
              case false =>
                have hl : n3 < 18 := by have := of_decide_eq_false dl; omega
                have hsu_w4 : W.heap.size ≤ w4.heap.size := hb4.out.size
                have gw41 := HC1.out w4 hb4.out 1 (by decide)
                have gw42 := HC1.out w4 hb4.out 2 (by decide)
                have gw43 := HC1.out w4 hb4.out 3 (by decide)
                have gw44 := HC1.out w4 hb4.out 4 (by decide)
                have q_gw41 := fun d os => cell_regrown gw41 d os
                have q_gw42 := fun d os => cell_regrown gw42 d os
                have q_gw43 := fun d os => cell_regrown gw43 d os
                have q_gw44 := fun d os => cell_regrown gw44 d os
                obtain ⟨xw40, _⟩ := cell_row ((hb4.out.block _ (by omega)).trans HP.out) 0 _ rfl
                obtain ⟨xw41, _⟩ := cell_row ((hb4.out.block _ (by omega)).trans HP.out) 1 _ rfl
                obtain ⟨xw42, _⟩ := cell_row ((hb4.out.block _ (by omega)).trans HP.out) 2 _ rfl
                obtain ⟨xw43, _⟩ := cell_row ((hb4.out.block _ (by omega)).trans HP.out) 3 _ rfl
                simp only [List.getElem_toArray, List.getElem_cons_zero, List.getElem_cons_succ] at xw40 xw41 xw42 xw43
                have q_xw40 := fun d os => cell_regrown xw40 d os
                have q_xw41 := fun d os => cell_regrown xw41 d os
                have q_xw42 := fun d os => cell_regrown xw42 d os
                have q_xw43 := fun d os => cell_regrown xw43 d os
                go_wp2_with fail
                refine wp_region_mix 14 [0, 1, 2, 3, 4, 5, 6, 7, 8, 9, 10, 11, 12] (by kernel_rfl) (by kernel_rfl) ?_
                simp only [List.filterMap_cons, List.filterMap_nil, List.getElem?_cons_succ, List.getElem?_cons_zero]
                repeat (first | go_big_quiet_step (fail) | quiet_step (fail))
                refine wpQuiet_nil ?_
                have hd4 : Hid (Below w4.heap.size w4 (w4.drew.alloc (.cells #[.string ByteArray.empty, .string ByteArray.empty, .string ByteArray.empty, .string ByteArray.empty] 53))) := (Below.refl _ _).drew.alloc (Nat.le_refl _) _
                refine anyC_step (f := 0) [13] (by kernel_rfl) (by simp) (one_list ⟨by decide, _, rfl, rfl, .pointer (some ⟨w4.heap.size, 0, none⟩), (w4.drew.alloc (.cells #[.string ByteArray.empty, .string ByteArray.empty, .string ByteArray.empty, .string ByteArray.empty] 53)), ?run7, regrown_of_below hd4.out, ?_⟩)
                case run7 => go_simp; rfl
                refine ⟨by kernel_rfl, ?_⟩
                simp only [List.drop_succ_cons, List.drop_zero]
                simp only [Act.put]
                have hs5 : (w4.drew.alloc (.cells #[.string ByteArray.empty, .string ByteArray.empty, .string ByteArray.empty, .string ByteArray.empty] 53)).heap.size = w4.heap.size + 1 := by simp
                have HF5 : Hid ((w4.drew.alloc (.cells #[.string ByteArray.empty, .string ByteArray.empty, .string ByteArray.empty, .string ByteArray.empty] 53)).heap[w4.heap.size]? = some (.cells #[.string ByteArray.empty, .string ByteArray.empty, .string ByteArray.empty, .string ByteArray.empty] 53 (0, 0))) := heap_alloc_new _ _
                have hb5 : Hid (Below W.heap.size W (w4.drew.alloc (.cells #[.string ByteArray.empty, .string ByteArray.empty, .string ByteArray.empty, .string ByteArray.empty] 53))) := hb4.out.trans (hd4.out.mono hsu_w4)
                clear gw41 q_gw41 gw42 q_gw42 gw43 q_gw43 gw44 q_gw44 xw40 q_xw40 xw41 q_xw41 xw42 q_xw42 xw43 q_xw43
                clear hd4
                generalize w4.drew.alloc (.cells #[.string ByteArray.empty, .string ByteArray.empty, .string ByteArray.empty, .string ByteArray.empty] 53) = w5 at hs5 HF5 hb5 ⊢
                obtain ⟨F0, tF0⟩ := cell_row (HF5.out) 0 _ rfl
                obtain ⟨F1, tF1⟩ := cell_row (HF5.out) 1 _ rfl
                obtain ⟨F2, tF2⟩ := cell_row (HF5.out) 2 _ rfl
                obtain ⟨F3, tF3⟩ := cell_row (HF5.out) 3 _ rfl
                simp only [List.getElem_toArray, List.getElem_cons_zero, List.getElem_cons_succ] at F0 F1 F2 F3
                go_upto_region 10 with fail
                have HF6 : Hid (((((w5.setCell ⟨w4.heap.size, 0, none⟩ (.string (g 1))).setCell ⟨w4.heap.size, 1, none⟩ (.string (g 2))).setCell ⟨w4.heap.size, 2, none⟩ (.string (g 3))).setCell ⟨w4.heap.size, 3, none⟩ (.string (g 4))).heap[w4.heap.size]? = some (.cells #[.string (g 1), .string (g 2), .string (g 3), .string (g 4)] 53 (0, 0))) := (set_row (set_row (set_row (set_row HF5.out 0 (.string (g 1))) 1 (.string (g 2))) 2 (.string (g 3))) 3 (.string (g 4)))
                have hb6 : Hid (Below W.heap.size W ((((w5.setCell ⟨w4.heap.size, 0, none⟩ (.string (g 1))).setCell ⟨w4.heap.size, 1, none⟩ (.string (g 2))).setCell ⟨w4.heap.size, 2, none⟩ (.string (g 3))).setCell ⟨w4.heap.size, 3, none⟩ (.string (g 4)))) := ((((hb5.out.setCell (p := ⟨w4.heap.size, 0, none⟩) hsu_w4 (.string (g 1))).setCell (p := ⟨w4.heap.size, 1, none⟩) hsu_w4 (.string (g 2))).setCell (p := ⟨w4.heap.size, 2, none⟩) hsu_w4 (.string (g 3))).setCell (p := ⟨w4.heap.size, 3, none⟩) hsu_w4 (.string (g 4)))
                have hs6 : ((((w5.setCell ⟨w4.heap.size, 0, none⟩ (.string (g 1))).setCell ⟨w4.heap.size, 1, none⟩ (.string (g 2))).setCell ⟨w4.heap.size, 2, none⟩ (.string (g 3))).setCell ⟨w4.heap.size, 3, none⟩ (.string (g 4))).heap.size = w4.heap.size + 1 := by simpa using hs5
                clear F0 tF0 F1 tF1 F2 tF2 F3 tF3 hs5
                generalize ((((w5.setCell ⟨w4.heap.size, 0, none⟩ (.string (g 1))).setCell ⟨w4.heap.size, 1, none⟩ (.string (g 2))).setCell ⟨w4.heap.size, 2, none⟩ (.string (g 3))).setCell ⟨w4.heap.size, 3, none⟩ (.string (g 4))) = w6 at HF6 hb6 hs6 ⊢
                obtain ⟨F0, _⟩ := cell_row (HF6.out) 0 _ rfl
                obtain ⟨F1, _⟩ := cell_row (HF6.out) 1 _ rfl
                obtain ⟨F2, _⟩ := cell_row (HF6.out) 2 _ rfl
                obtain ⟨F3, _⟩ := cell_row (HF6.out) 3 _ rfl
                simp only [List.getElem_toArray, List.getElem_cons_zero, List.getElem_cons_succ] at F0 F1 F2 F3
                go_upto_if 93 with fail
                go_cut [] from 8 (fun wr => (∃ fn fa fb fs : ByteArray, (fn.size ≤ maxLen ∧ fa.size ≤ maxLen ∧ fb.size ≤ maxLen ∧ fs.size ≤ maxLen) ∧ Hid (wr.heap[w4.heap.size]? = some (.cells #[.string fn, .string fa, .string fb, .string fs] 53 (0, 0)))) ∧ Hid (Below W.heap.size W wr) ∧ w4.heap.size < wr.heap.size)
                case first =>
                  cases heq : ((g 2).toList == (g 3).toList) <;> cases hlt : Op.bytesLess (g 2).toList (g 3).toList
                  case false.false =>
                    go_upto_region 11 with fail
                    have m1 := HC1.out w6 hb6.out 1 (by decide)
                    have q_m1 := fun d os => cell_regrown m1 d os
                    have m2 := HC1.out w6 hb6.out 2 (by decide)
                    have q_m2 := fun d os => cell_regrown m2 d os
                    have m3 := HC1.out w6 hb6.out 3 (by decide)
                    have q_m3 := fun d os => cell_regrown m3 d os
                    have m4 := HC1.out w6 hb6.out 4 (by decide)
                    have q_m4 := fun d os => cell_regrown m4 d os
                    refine wp_region_head_tail 13 (by kernel_rfl) (by kernel_rfl) ?_
                    simp only [List.take_succ_cons, List.take_zero, List.drop_succ_cons, List.drop_zero]
                    repeat (first | go_big_quiet_step (fail) | quiet_step (fail))
                    refine wpQuiet_nil ?_
                    intro _ hw'
                    obtain ⟨⟨dq, osq⟩, hw''⟩ := hw'
                    subst hw''
                    have hx7 : Hid (Below w6.heap.size w6 (grow (redrawn w6 dq) osq)) := below_regrown _ dq osq
                    generalize grow (redrawn w6 dq) osq = w7 at hx7 ⊢
                    have hs7 : w6.heap.size ≤ w7.heap.size := hx7.out.size
                    have HF7 := hidZ ((hx7.out.block w4.heap.size (by omega)).trans HF6.out)
                    clear F0 F1 F2 F3
                    obtain ⟨F0, tF0⟩ := cell_row (HF7.out) 0 _ rfl
                    obtain ⟨F1, tF1⟩ := cell_row (HF7.out) 1 _ rfl
                    obtain ⟨F2, tF2⟩ := cell_row (HF7.out) 2 _ rfl
                    obtain ⟨F3, tF3⟩ := cell_row (HF7.out) 3 _ rfl
                    simp only [List.getElem_toArray, List.getElem_cons_zero, List.getElem_cons_succ] at F0 F1 F2 F3
                    have HF8 : Hid (((((w7.setCell ⟨w4.heap.size, 0, none⟩ (.string (g 1))).setCell ⟨w4.heap.size, 1, none⟩ (.string (g 3))).setCell ⟨w4.heap.size, 2, none⟩ (.string (g 2))).setCell ⟨w4.heap.size, 3, none⟩ (.string (g 4))).heap[w4.heap.size]? = some (.cells #[.string (g 1), .string (g 3), .string (g 2), .string (g 4)] 53 (0, 0))) := (set_row (set_row (set_row (set_row HF7.out 0 (.string (g 1))) 1 (.string (g 3))) 2 (.string (g 2))) 3 (.string (g 4)))
                    have hb8 : Hid (Below W.heap.size W ((((w7.setCell ⟨w4.heap.size, 0, none⟩ (.string (g 1))).setCell ⟨w4.heap.size, 1, none⟩ (.string (g 3))).setCell ⟨w4.heap.size, 2, none⟩ (.string (g 2))).setCell ⟨w4.heap.size, 3, none⟩ (.string (g 4)))) := (((((hb6.out.trans (hx7.out.mono (by omega))).setCell (p := ⟨w4.heap.size, 0, none⟩) hsu_w4 (.string (g 1))).setCell (p := ⟨w4.heap.size, 1, none⟩) hsu_w4 (.string (g 3))).setCell (p := ⟨w4.heap.size, 2, none⟩) hsu_w4 (.string (g 2))).setCell (p := ⟨w4.heap.size, 3, none⟩) hsu_w4 (.string (g 4)))
                    have hs8 : ((((w7.setCell ⟨w4.heap.size, 0, none⟩ (.string (g 1))).setCell ⟨w4.heap.size, 1, none⟩ (.string (g 3))).setCell ⟨w4.heap.size, 2, none⟩ (.string (g 2))).setCell ⟨w4.heap.size, 3, none⟩ (.string (g 4))).heap.size = w7.heap.size := by simp
                    go_wp2_with fail
                    go_meet
                    case rel => exact ⟨⟨_, _, _, _, ⟨hs _, hs _, hs _, hs _⟩, HF8⟩, hb8, by have h1 := hs8; have h2 := hs7; omega⟩
                  case false.true =>
                    go_wp2_with fail
                    go_meet
                    case rel => exact ⟨⟨_, _, _, _, ⟨hs _, hs _, hs _, hs _⟩, HF6⟩, hb6, by omega⟩
                  case true.false =>
                    go_wp2_with fail
                    go_meet
                    case rel => exact ⟨⟨_, _, _, _, ⟨hs _, hs _, hs _, hs _⟩, HF6⟩, hb6, by omega⟩
                  case true.true =>
                    go_wp2_with fail
                    go_meet
                    case rel => exact ⟨⟨_, _, _, _, ⟨hs _, hs _, hs _, hs _⟩, HF6⟩, hb6, by omega⟩
                case rest =>
                  obtain ⟨⟨fn, fa, fb, fs, ⟨hzfn, hzfa, hzfb, hzfs⟩, HF8⟩, hb8, hfb⟩ := hcut
                  obtain ⟨W8, e8⟩ : ∃ x, x = wc := ⟨_, rfl⟩
                  rw [← e8] at HF8 hb8 hfb ⊢
                  clear e8 F0 F1 F2 F3 HF6 hb6 hs6 HF5 hb5
                  have hs8 : W.heap.size ≤ W8.heap.size := hb8.out.size
                  have hbW8 : Hid (Below w.heap.size w W8) := hbW.out.trans (hb8.out.mono (by omega))
                  have HP8 : Hid (W8.heap[w.heap.size]? = some (.cells #[.slice o0 n0 c0, .slice o1 n1 c1, .slice o2 n2 c2, .slice o3 n3 c3] 28 (0, 0))) := (hb8.out.block _ (by omega)).trans HP.out
                  have HR8 : Hid (W8.heap[w.heap.size + 1]? = some (.cells #[.slice none 0 0, .slice none 0 0, .slice none 0 0, .slice none 0 0] 28 (0, 0))) := (hb8.out.block _ (by omega)).trans HR.out
                  have HW8 : Hid (PlR B W8 (.slice o0 n0 c0) (.slice o1 n1 c1) (.slice o2 n2 c2) (.slice o3 n3 c3) X) := HW.out.below hb8.out
                  have HB8 : Hid (Below W8.heap.size W8 W8) := Below.refl _ _
                  go_upto_block 0 with fail
                  go_cut [7] from 8 (fun v wr => (∃ k : Nat, k ≤ n3 ∧ v = .int .i64 k) ∧ Hid (Below W8.heap.size W8 wr))
                  case first =>
                    go_wp2_with fail
                    go_loopw [7] (fun i wr => ∃ k : Nat, k ≤ n3 ∧ i = .int .i64 k ∧ Hid (Below W8.heap.size W8 wr)) (fun i _ => n3 - (intOf i).toNat)
                    case atStart => exact ⟨0, Nat.zero_le _, rfl, HB8⟩
                    case round =>
                      obtain ⟨k, hk, rfl, hbel⟩ := hrel
                      have hsr : W8.heap.size ≤ wr.heap.size := hbel.out.size
                      obtain ⟨x0, y0⟩ := cell_row ((hbel.out.block _ (by omega)).trans HP8.out) 3 _ rfl
                      obtain ⟨f0, _⟩ := cell_row ((hbel.out.block _ (by omega)).trans HF8.out) 0 _ rfl
                      simp only [List.getElem_toArray, List.getElem_cons_zero, List.getElem_cons_succ] at x0 f0
                      have q_x := fun d os => cell_regrown x0 d os
                      have q_f0 := fun d os => cell_regrown f0 d os
                      by_cases hlt : k < n3
                      · obtain ⟨g, cap', e', _, hgW, hcell⟩ := Row.cell HW8.out.v (i := k) (by omega)
                        injection e' with e1 e2 e3
                        subst e1
                        obtain ⟨y0, ey0⟩ : ∃ y, (X.vv[k]'(by omega)).1 = y := ⟨_, rfl⟩
                        have e00 : wr.cell? ⟨g, k * 4, none⟩ = some (.string y0) := (hbel.out.cell (p := ⟨g, k * 4, none⟩) (by show g < _; omega)).trans (by have := (hcell 0 (by omega)).1; rw [← ey0]; exact this)
                        clear e2 e3 hcell
                        have q_e0 := fun d os => cell_regrown e00 d os
                        have hlt' : ((k : Int) < (n3 : Int)) := by omega
                        cases hlb : Op.bytesLess y0.toList fn.toList
                        · go_wp2_with fail
                          refine wp_region_quiet_below (by kernel_rfl) (by kernel_rfl) ?_
                          repeat (first | go_big_quiet_step (fail) | quiet_step (fail))
                          refine wpQuiet_nil ?_
                          intro _ hw'
                          obtain ⟨⟨dq, osq⟩, hw''⟩ := hw'
                          subst hw''
                          have hb3 : Hid (Below W8.heap.size W8 (grow (redrawn wr dq) osq)) := hbel.out.trans ((below_regrown _ dq osq).mono hbel.out.size)
                          generalize grow (redrawn wr dq) osq = u at hb3 ⊢
                          go_wp2_with fail
                          go_meet
                          case rel => exact ⟨⟨k, hk, rfl⟩, hb3⟩
                        · go_wp2_with fail
                          refine wp_region_quiet_below (by kernel_rfl) (by kernel_rfl) ?_
                          repeat (first | go_big_quiet_step (fail) | quiet_step (fail))
                          refine wpQuiet_nil ?_
                          intro _ hw'
                          obtain ⟨⟨dq, osq⟩, hw''⟩ := hw'
                          subst hw''
                          have hb3 : Hid (Below W8.heap.size W8 (grow (redrawn wr dq) osq)) := hbel.out.trans ((below_regrown _ dq osq).mono hbel.out.size)
                          generalize grow (redrawn wr dq) osq = u at hb3 ⊢
                          go_wp2_with fail
                          go_roundw
                          case rel => exact ⟨k + 1, by omega, by go_num, hb3⟩
                          case measure => simp [intOf]; omega
                      · have hge : decide ((k : Int) < (n3 : Int)) = false := by simp; omega
                        go_wp2_with fail
                        refine wp_region_quiet_below (by kernel_rfl) (by kernel_rfl) ?_
                        repeat (first | go_big_quiet_step (fail) | quiet_step (fail))
                        refine wpQuiet_nil ?_
                        intro _ hw'
                        obtain ⟨⟨dq, osq⟩, hw''⟩ := hw'
                        subst hw''
                        have hb3 : Hid (Below W8.heap.size W8 (grow (redrawn wr dq) osq)) := hbel.out.trans ((below_regrown _ dq osq).mono hbel.out.size)
                        generalize grow (redrawn wr dq) osq = u at hb3 ⊢
                        go_wp2_with fail
                        go_meet
                        case rel => exact ⟨⟨k, hk, rfl⟩, hb3⟩
                  case rest =>
                    obtain ⟨⟨k, hk, rfl⟩, hb3⟩ := hcut
                    obtain ⟨u, eu⟩ : ∃ x, x = wc := ⟨_, rfl⟩
                    rw [← eu] at hb3 ⊢
                    clear eu
                    rcases Go.Joins.ownsRow_forms HW8.out.v with ⟨e', hn0⟩ | ⟨g, cap', e'⟩
                    · injection e' with e1 e2 e3
                      subst e1
                      obtain rfl : n3 = 0 := e2
                      obtain rfl : c3 = 0 := e3
                      obtain rfl : k = 0 := by omega
                      have hsu : W8.heap.size ≤ u.heap.size := hb3.out.size
                      obtain ⟨xu2, yu2⟩ := cell_row ((hb3.out.block _ (by omega)).trans HP8.out) 3 _ rfl
                      obtain ⟨gu0, _⟩ := cell_row ((hb3.out.block _ (by omega)).trans HF8.out) 0 _ rfl
                      obtain ⟨gu1, _⟩ := cell_row ((hb3.out.block _ (by omega)).trans HF8.out) 1 _ rfl
                      obtain ⟨gu2, _⟩ := cell_row ((hb3.out.block _ (by omega)).trans HF8.out) 2 _ rfl
                      obtain ⟨gu3, _⟩ := cell_row ((hb3.out.block _ (by omega)).trans HF8.out) 3 _ rfl
                      simp only [List.getElem_toArray, List.getElem_cons_zero, List.getElem_cons_succ] at xu2 gu0 gu1 gu2 gu3
                      have q_xu := fun d os => cell_regrown xu2 d os
                      have q_gu0 := fun d os => cell_regrown gu0 d os
                      have q_gu1 := fun d os => cell_regrown gu1 d os
                      have q_gu2 := fun d os => cell_regrown gu2 d os
                      have q_gu3 := fun d os => cell_regrown gu3 d os
                      have SR : Src u (.slice none 0 0) 0 4 (enc 4 e4V X.vv) := by have := row_src (HW8.out.v.below hb3.out); rw [en3] at this; exact this
                      have hnil : X.vv = [] := List.eq_nil_of_length_eq_zero en3
                      have s1 : Src u (.slice none 0 0) 0 4 (enc 4 e4V (X.vv.take 0)) := by rw [hnil]; exact Src.none_ u 4
                      have s2 : Src u (.slice none 0 0) 0 4 (enc 4 e4V (X.vv.drop 0)) := by rw [hnil]; exact Src.none_ u 4
                      clear SR
                      go_wp2_with fail
                      refine wp_region_mix 14 [1, 2, 3, 4, 6, 9, 10, 11, 12] (by kernel_rfl) (by kernel_rfl) ?_
                      simp only [List.filterMap_cons, List.filterMap_nil, List.getElem?_cons_succ, List.getElem?_cons_zero]
                      repeat (first | go_big_quiet_step (fail) | quiet_step (fail))
                      refine wpQuiet_nil ?_
                      refine ins3 (md := .any) (i0 := 0) (i1 := 5) (i2 := 7) (i3 := 8) (i4 := 13) (d0 := 125) (d1 := 130) (d2 := 132) (d3 := 133) (d4 := 138) (k1 := 129) (k2 := 137) (kx := 131) (X := .agg #[.string fn, .string fa, .string fb, .string fs]) (t := 26) (e := 53)
                        ⟨_, _, _, _, _, ⟨rfl, rfl, rfl, by decide⟩, ⟨rfl, rfl, rfl, by decide⟩, ⟨rfl, rfl, rfl, by decide⟩, ⟨rfl, rfl, rfl, by decide⟩, ⟨rfl, rfl, rfl, by decide⟩, rfl, rfl, rfl, ?run0, ?run2, by decide, by decide, by kernel_rfl, by kernel_rfl, by kernel_rfl, by kernel_rfl, by kernel_rfl, by kernel_rfl, by kernel_rfl⟩
                        elV4 (W := u) ⟨by simp, by simp, by simp, by simp, by simp⟩ rfl rfl rfl s1 s2 rfl (enc_one' one_V _) (enc_one' one_V _) ?ux (by omega) (by unfold maxLen; omega) ?K
                      case run0 => intro bb ww; go_simp
                      case run2 =>
                        intro bb hx ww
                        have hx' : bb.tmps[131]?.getD undef = .agg #[.string fn, .string fa, .string fb, .string fs] := by simpa [Act.eval] using hx
                        clear hx
                        go_simp
                      case ux => intro v hv; simp [Value.cells] at hv; rcases hv with rfl | rfl | rfl | rfl <;> rfl
                      case K =>
                        intro r0 r1 r2 r3 r4 w4 hown hb4
                        refine ⟨by kernel_rfl, ?_⟩
                        simp only [List.drop_succ_cons, List.drop_zero]
                        have HOW : Hid (Row w4 u.heap.size 53 4 e4V r4 (X.vv.take 0 ++ (fn, fa, fb, fs) :: X.vv.drop 0)) := ins_rowP (n := 0) en3 (by omega) (m := 0) (by omega) rfl (x := (fn, fa, fb, fs)) rfl hown
                        have hbw : Hid (Below W8.heap.size W8 w4) := hb3.out.trans (hb4.mono hsu)
                        have hs4 : u.heap.size ≤ w4.heap.size := hb4.size
                        have HLN : Hid ((X.vv.take 0 ++ (fn, fa, fb, fs) :: X.vv.drop 0).length = 0 + 1) := by show _ = _; simp; omega
                        obtain ⟨nl, hnl⟩ : ∃ n, (X.vv.take 0 ++ (fn, fa, fb, fs) :: X.vv.drop 0).length = n := ⟨_, rfl⟩
                        obtain ⟨r, c4, cur4, e4, hr1, hr2, _⟩ : ∃ g c cur, r4 = .slice (some ⟨g, 0, none⟩) (X.vv.take 0 ++ (fn, fa, fb, fs) :: X.vv.drop 0).length c ∧ u.heap.size ≤ g ∧ w4.heap[g]? = some (.cells cur 53 (0, 0)) ∧ True := by
                          rcases HOW.out.2 with ⟨_, e⟩ | ⟨g, c, cur, e, hg, hr, _⟩
                          · have := HLN.out; omega
                          · exact ⟨g, c, cur, e, hg, hr, trivial⟩
                        rw [hnl] at e4
                        have H4 : Hid (r4 = .slice (some ⟨r, 0, none⟩) nl c4) := e4
                        subst e4
                        obtain ⟨p2, r_2⟩ := cell_row ((hbw.out.block _ (by omega)).trans HP8.out) 3 _ rfl
                        simp only [List.getElem_toArray, List.getElem_cons_zero, List.getElem_cons_succ] at p2
                        have HP5 : Hid ((w4.setCell ⟨w.heap.size, 3, none⟩ (.slice (some ⟨r, 0, none⟩) nl c4)).heap[w.heap.size]? = some (.cells #[.slice o0 n0 c0, .slice o1 n1 c1, .slice o2 n2 c2, .slice (some ⟨r, 0, none⟩) nl c4] 28 (0, 0))) := set_row ((hbw.out.block w.heap.size (by omega)).trans HP8.out) 3 (.slice (some ⟨r, 0, none⟩) nl c4)
                        have HR5 : Hid ((w4.setCell ⟨w.heap.size, 3, none⟩ (.slice (some ⟨r, 0, none⟩) nl c4)).heap[w.heap.size + 1]? = some (.cells #[.slice none 0 0, .slice none 0 0, .slice none 0 0, .slice none 0 0] 28 (0, 0))) := (Below.heap_setCell _ ⟨w.heap.size, 3, none⟩ _ _ (by show _ ≠ w.heap.size; omega)).trans ((hbw.out.block (w.heap.size + 1) (by omega)).trans HR8.out)
                        have hB5 : Hid (Below w.heap.size w (w4.setCell ⟨w.heap.size, 3, none⟩ (.slice (some ⟨r, 0, none⟩) nl c4))) := (hbW8.out.trans (hbw.out.mono (by omega))).setCell (p := ⟨w.heap.size, 3, none⟩) (by show w.heap.size ≤ w.heap.size; omega) (.slice (some ⟨r, 0, none⟩) nl c4)
                        have HO5 : Hid (Row (w4.setCell ⟨w.heap.size, 3, none⟩ (.slice (some ⟨r, 0, none⟩) nl c4)) u.heap.size 53 4 e4V (.slice (some ⟨r, 0, none⟩) nl c4) (X.vv.take 0 ++ (fn, fa, fb, fs) :: X.vv.drop 0)) := HOW.out.block (fun q hq => Below.heap_setCell _ ⟨w.heap.size, 3, none⟩ _ q (by cases hq; show r ≠ w.heap.size; omega))
                        have hru : Hid (u.heap.size ≤ r) := hr1
                        clear hr2 xu2 yu2 hb4 hown s1 s2 q_gu0 gu0 q_gu1 gu1 q_gu2 gu2 q_gu3 gu3 q_xu 
                        simp only [Act.put, List.setIfInBounds_toArray, List.set_cons_zero, List.set_cons_succ]
                        go_upto_region 16 with fail
                        generalize (w4.setCell ⟨w.heap.size, 3, none⟩ (.slice (some ⟨r, 0, none⟩) nl c4)) = w5 at HP5 HR5 hB5 HO5 ⊢
                        clear p2 r_2
                        have HOK : Hid (PlL.Ok { X with vv := X.vv.take 0 ++ (fn, fa, fb, fs) :: X.vv.drop 0 }) := ⟨hX.ns, hX.nf, hX.np, by show (X.vv.take 0 ++ (fn, fa, fb, fs) :: X.vv.drop 0).length ≤ 18; have := HLN.out; omega, hX.s, hX.f, hX.p, fun y hy => by
                            rcases List.mem_append.1 hy with hy | hy
                            · exact hX.v _ (List.mem_of_mem_take hy)
                            · rcases List.mem_cons.1 hy with rfl | hy
                              · exact ⟨hzfn, hzfa, hzfb, hzfs⟩
                              · exact hX.v _ (List.mem_of_mem_drop hy)⟩
                        have hru2 := hru.out
                        obtain ⟨xr0, _⟩ := cell_row (HP5.out) 0 _ rfl
                        obtain ⟨xr1, _⟩ := cell_row (HP5.out) 1 _ rfl
                        obtain ⟨xr2, _⟩ := cell_row (HP5.out) 2 _ rfl
                        obtain ⟨xr3, _⟩ := cell_row (HP5.out) 3 _ rfl
                        simp only [List.getElem_toArray, List.getElem_cons_zero, List.getElem_cons_succ] at xr0 xr1 xr2 xr3
                        obtain ⟨zr0, tzr0⟩ := cell_row (HR5.out) 0 _ rfl
                        obtain ⟨zr1, tzr1⟩ := cell_row (HR5.out) 1 _ rfl
                        obtain ⟨zr2, tzr2⟩ := cell_row (HR5.out) 2 _ rfl
                        obtain ⟨zr3, tzr3⟩ := cell_row (HR5.out) 3 _ rfl
                        simp only [List.getElem_toArray, List.getElem_cons_zero, List.getElem_cons_succ] at zr0 zr1 zr2 zr3
                        have R4 := hidZ (ret4 (HR5.out) (.slice o0 n0 c0) (.slice o1 n1 c1) (.slice o2 n2 c2) (.slice (some ⟨r, 0, none⟩) nl c4))
                        have ff0 := hidZ (cell_row R4.out.1 0 _ rfl).1
                        have ff1 := hidZ (cell_row R4.out.1 1 _ rfl).1
                        have ff2 := hidZ (cell_row R4.out.1 2 _ rfl).1
                        have ff3 := hidZ (cell_row R4.out.1 3 _ rfl).1
                        have hF := hidZ (hB5.out.trans (R4.out.2.2.2.mono (by omega)))
                        go_wp2_with fail
                        all_goals exact bodyPost_ret (v := .tuple #[.agg #[.slice o0 n0 c0, .slice o1 n1 c1, .slice o2 n2 c2, .slice (some ⟨r, 0, none⟩) nl c4], .int .i64 0]) (by simp [results, Try.results81, go_sem, ff0.out, ff1.out, ff2.out, ff3.out]) rfl (putP (X := { X with vv := X.vv.take 0 ++ (fn, fa, fb, fs) :: X.vv.drop 0 }) ⟨HH.out.s.below hF.out, HH.out.f.below hF.out, HH.out.p.below hF.out, (HO5.out.block (fun q hq => R4.out.2.1 q (by cases hq; show r ≠ _; omega))).low (by omega)⟩ HOK.out hF.out)
                    · injection e' with e1 e2 e3
                      subst e1
                      clear e2 e3
                      have hsu : W8.heap.size ≤ u.heap.size := hb3.out.size
                      obtain ⟨xu2, yu2⟩ := cell_row ((hb3.out.block _ (by omega)).trans HP8.out) 3 _ rfl
                      obtain ⟨gu0, _⟩ := cell_row ((hb3.out.block _ (by omega)).trans HF8.out) 0 _ rfl
                      obtain ⟨gu1, _⟩ := cell_row ((hb3.out.block _ (by omega)).trans HF8.out) 1 _ rfl
                      obtain ⟨gu2, _⟩ := cell_row ((hb3.out.block _ (by omega)).trans HF8.out) 2 _ rfl
                      obtain ⟨gu3, _⟩ := cell_row ((hb3.out.block _ (by omega)).trans HF8.out) 3 _ rfl
                      simp only [List.getElem_toArray, List.getElem_cons_zero, List.getElem_cons_succ] at xu2 gu0 gu1 gu2 gu3
                      have q_xu := fun d os => cell_regrown xu2 d os
                      have q_gu0 := fun d os => cell_regrown gu0 d os
                      have q_gu1 := fun d os => cell_regrown gu1 d os
                      have q_gu2 := fun d os => cell_regrown gu2 d os
                      have q_gu3 := fun d os => cell_regrown gu3 d os
                      have SR : Src u (.slice (some ⟨g, 0, none⟩) n3 c3) n3 4 (enc 4 e4V X.vv) := by have := row_src (HW8.out.v.below hb3.out); rw [en3] at this; exact this
                      have hcap : n3 ≤ c3 := by
                        rcases HW8.out.v.2 with ⟨e, _⟩ | ⟨_, _, cur, e, _, _, hc, _⟩
                        · cases e
                        · injection e with _ _ e; omega
                      have s1 : Src u (.slice (some ⟨g, 0, none⟩) k c3) k 4 (enc 4 e4V (X.vv.take k)) := by
                        have := Src.take_ SR hk c3
                        rwa [enc_take] at this
                      have s2 : Src u (.slice (if c3 = k then some ⟨g, 0, none⟩ else some ⟨g, k * 4, none⟩) (n3 - k) (c3 - k)) (n3 - k) 4 (enc 4 e4V (X.vv.drop k)) := by
                        have := Src.drop_ SR hk hcap
                        rw [enc_drop, Nat.zero_add] at this
                        exact this
                      have hkc : (k : Int) ≤ (c3 : Int) := by omega
                      have hkn : (k : Int) ≤ (n3 : Int) := by omega
                      clear SR
                      go_wp2_with fail
                      refine wp_region_mix 14 [1, 2, 3, 4, 6, 9, 10, 11, 12] (by kernel_rfl) (by kernel_rfl) ?_
                      simp only [List.filterMap_cons, List.filterMap_nil, List.getElem?_cons_succ, List.getElem?_cons_zero]
                      repeat (first | go_big_quiet_step (fail) | quiet_step (fail))
                      refine wpQuiet_nil ?_
                      refine ins3 (md := .any) (i0 := 0) (i1 := 5) (i2 := 7) (i3 := 8) (i4 := 13) (d0 := 125) (d1 := 130) (d2 := 132) (d3 := 133) (d4 := 138) (k1 := 129) (k2 := 137) (kx := 131) (X := .agg #[.string fn, .string fa, .string fb, .string fs]) (t := 26) (e := 53)
                        ⟨_, _, _, _, _, ⟨rfl, rfl, rfl, by decide⟩, ⟨rfl, rfl, rfl, by decide⟩, ⟨rfl, rfl, rfl, by decide⟩, ⟨rfl, rfl, rfl, by decide⟩, ⟨rfl, rfl, rfl, by decide⟩, rfl, rfl, rfl, ?run0, ?run2, by decide, by decide, by kernel_rfl, by kernel_rfl, by kernel_rfl, by kernel_rfl, by kernel_rfl, by kernel_rfl, by kernel_rfl⟩
                        elV4 (W := u) ⟨by simp, by simp, by simp, by simp, by simp⟩ rfl rfl rfl s1 s2 rfl (enc_one' one_V _) (enc_one' one_V _) ?ux (by omega) (by unfold maxLen; omega) ?K
                      case run0 => intro bb ww; go_simp
                      case run2 =>
                        intro bb hx ww
                        have hx' : bb.tmps[131]?.getD undef = .agg #[.string fn, .string fa, .string fb, .string fs] := by simpa [Act.eval] using hx
                        clear hx
                        go_simp
                      case ux => intro v hv; simp [Value.cells] at hv; rcases hv with rfl | rfl | rfl | rfl <;> rfl
                      case K =>
                        intro r0 r1 r2 r3 r4 w4 hown hb4
                        refine ⟨by kernel_rfl, ?_⟩
                        simp only [List.drop_succ_cons, List.drop_zero]
                        have HOW : Hid (Row w4 u.heap.size 53 4 e4V r4 (X.vv.take k ++ (fn, fa, fb, fs) :: X.vv.drop k)) := ins_rowP (n := n3) en3 (by omega) (m := (n3 - k)) (by omega) rfl (x := (fn, fa, fb, fs)) rfl hown
                        have hbw : Hid (Below W8.heap.size W8 w4) := hb3.out.trans (hb4.mono hsu)
                        have hs4 : u.heap.size ≤ w4.heap.size := hb4.size
                        have HLN : Hid ((X.vv.take k ++ (fn, fa, fb, fs) :: X.vv.drop k).length = n3 + 1) := by show _ = _; simp; omega
                        obtain ⟨nl, hnl⟩ : ∃ n, (X.vv.take k ++ (fn, fa, fb, fs) :: X.vv.drop k).length = n := ⟨_, rfl⟩
                        obtain ⟨r, c4, cur4, e4, hr1, hr2, _⟩ : ∃ g c cur, r4 = .slice (some ⟨g, 0, none⟩) (X.vv.take k ++ (fn, fa, fb, fs) :: X.vv.drop k).length c ∧ u.heap.size ≤ g ∧ w4.heap[g]? = some (.cells cur 53 (0, 0)) ∧ True := by
                          rcases HOW.out.2 with ⟨_, e⟩ | ⟨g, c, cur, e, hg, hr, _⟩
                          · have := HLN.out; omega
                          · exact ⟨g, c, cur, e, hg, hr, trivial⟩
                        rw [hnl] at e4
                        have H4 : Hid (r4 = .slice (some ⟨r, 0, none⟩) nl c4) := e4
                        subst e4
                        obtain ⟨p2, r_2⟩ := cell_row ((hbw.out.block _ (by omega)).trans HP8.out) 3 _ rfl
                        simp only [List.getElem_toArray, List.getElem_cons_zero, List.getElem_cons_succ] at p2
                        have HP5 : Hid ((w4.setCell ⟨w.heap.size, 3, none⟩ (.slice (some ⟨r, 0, none⟩) nl c4)).heap[w.heap.size]? = some (.cells #[.slice o0 n0 c0, .slice o1 n1 c1, .slice o2 n2 c2, .slice (some ⟨r, 0, none⟩) nl c4] 28 (0, 0))) := set_row ((hbw.out.block w.heap.size (by omega)).trans HP8.out) 3 (.slice (some ⟨r, 0, none⟩) nl c4)
                        have HR5 : Hid ((w4.setCell ⟨w.heap.size, 3, none⟩ (.slice (some ⟨r, 0, none⟩) nl c4)).heap[w.heap.size + 1]? = some (.cells #[.slice none 0 0, .slice none 0 0, .slice none 0 0, .slice none 0 0] 28 (0, 0))) := (Below.heap_setCell _ ⟨w.heap.size, 3, none⟩ _ _ (by show _ ≠ w.heap.size; omega)).trans ((hbw.out.block (w.heap.size + 1) (by omega)).trans HR8.out)
                        have hB5 : Hid (Below w.heap.size w (w4.setCell ⟨w.heap.size, 3, none⟩ (.slice (some ⟨r, 0, none⟩) nl c4))) := (hbW8.out.trans (hbw.out.mono (by omega))).setCell (p := ⟨w.heap.size, 3, none⟩) (by show w.heap.size ≤ w.heap.size; omega) (.slice (some ⟨r, 0, none⟩) nl c4)
                        have HO5 : Hid (Row (w4.setCell ⟨w.heap.size, 3, none⟩ (.slice (some ⟨r, 0, none⟩) nl c4)) u.heap.size 53 4 e4V (.slice (some ⟨r, 0, none⟩) nl c4) (X.vv.take k ++ (fn, fa, fb, fs) :: X.vv.drop k)) := HOW.out.block (fun q hq => Below.heap_setCell _ ⟨w.heap.size, 3, none⟩ _ q (by cases hq; show r ≠ w.heap.size; omega))
                        have hru : Hid (u.heap.size ≤ r) := hr1
                        clear hr2 xu2 yu2 hb4 hown s1 s2 q_gu0 gu0 q_gu1 gu1 q_gu2 gu2 q_gu3 gu3 q_xu hkc hkn 
                        simp only [Act.put, List.setIfInBounds_toArray, List.set_cons_zero, List.set_cons_succ]
                        go_upto_region 16 with fail
                        generalize (w4.setCell ⟨w.heap.size, 3, none⟩ (.slice (some ⟨r, 0, none⟩) nl c4)) = w5 at HP5 HR5 hB5 HO5 ⊢
                        clear p2 r_2
                        have HOK : Hid (PlL.Ok { X with vv := X.vv.take k ++ (fn, fa, fb, fs) :: X.vv.drop k }) := ⟨hX.ns, hX.nf, hX.np, by show (X.vv.take k ++ (fn, fa, fb, fs) :: X.vv.drop k).length ≤ 18; have := HLN.out; omega, hX.s, hX.f, hX.p, fun y hy => by
                            rcases List.mem_append.1 hy with hy | hy
                            · exact hX.v _ (List.mem_of_mem_take hy)
                            · rcases List.mem_cons.1 hy with rfl | hy
                              · exact ⟨hzfn, hzfa, hzfb, hzfs⟩
                              · exact hX.v _ (List.mem_of_mem_drop hy)⟩
                        have hru2 := hru.out
                        obtain ⟨xr0, _⟩ := cell_row (HP5.out) 0 _ rfl
                        obtain ⟨xr1, _⟩ := cell_row (HP5.out) 1 _ rfl
                        obtain ⟨xr2, _⟩ := cell_row (HP5.out) 2 _ rfl
                        obtain ⟨xr3, _⟩ := cell_row (HP5.out) 3 _ rfl
                        simp only [List.getElem_toArray, List.getElem_cons_zero, List.getElem_cons_succ] at xr0 xr1 xr2 xr3
                        obtain ⟨zr0, tzr0⟩ := cell_row (HR5.out) 0 _ rfl
                        obtain ⟨zr1, tzr1⟩ := cell_row (HR5.out) 1 _ rfl
                        obtain ⟨zr2, tzr2⟩ := cell_row (HR5.out) 2 _ rfl
                        obtain ⟨zr3, tzr3⟩ := cell_row (HR5.out) 3 _ rfl
                        simp only [List.getElem_toArray, List.getElem_cons_zero, List.getElem_cons_succ] at zr0 zr1 zr2 zr3
                        have R4 := hidZ (ret4 (HR5.out) (.slice o0 n0 c0) (.slice o1 n1 c1) (.slice o2 n2 c2) (.slice (some ⟨r, 0, none⟩) nl c4))
                        have ff0 := hidZ (cell_row R4.out.1 0 _ rfl).1
                        have ff1 := hidZ (cell_row R4.out.1 1 _ rfl).1
                        have ff2 := hidZ (cell_row R4.out.1 2 _ rfl).1
                        have ff3 := hidZ (cell_row R4.out.1 3 _ rfl).1
                        have hF := hidZ (hB5.out.trans (R4.out.2.2.2.mono (by omega)))
                        go_wp2_with fail
                        all_goals exact bodyPost_ret (v := .tuple #[.agg #[.slice o0 n0 c0, .slice o1 n1 c1, .slice o2 n2 c2, .slice (some ⟨r, 0, none⟩) nl c4], .int .i64 0]) (by simp [results, Try.results81, go_sem, ff0.out, ff1.out, ff2.out, ff3.out]) rfl (putP (X := { X with vv := X.vv.take k ++ (fn, fa, fb, fs) :: X.vv.drop k }) ⟨HH.out.s.below hF.out, HH.out.f.below hF.out, HH.out.p.below hF.out, (HO5.out.block (fun q hq => R4.out.2.1 q (by cases hq; show r ≠ _; omega))).low (by omega)⟩ HOK.out hF.out)
end Go.Proofs.Ytgjcppdeljoimaa
