/-
  A contract of the program's test of a word in a plant that has these stations.
-/
import Derived.Test.YtciembgenlcogaeGreatBw
namespace Go.Proofs.YtciembgenlcogaeGreat
open Go.RowKit

/-- What is asked of a word's station, by its kind. -/
def sOk (k : Int) (m : Nat) (f : Nat → ByteArray) (st : ByteArray) : Bool := if 1 ≤ k ∧ k ≤ 8 then hasB m f st else if k = 9 ∨ k = 10 then st.toList.isEmpty else false
/-- A word that is ok where these are the stations. -/
noncomputable def isB (k n : Int) (st : ByteArray) (a : C.DClaimWant) (mv : Int) (dn : Bool) (m : Nat) (f : Nat → ByteArray) : Bool := !(decide (n < 1)) && !(decide (1000000 < n)) && (sOk k m f st && wOk k n a && mOk k mv && dOk k dn)

set_option maxRecDepth 100000 in
set_option maxHeartbeats 4000000 in
theorem mayA_any (B : Nat) (v : Value) (m : Nat) (f : Nat → ByteArray) (st : ByteArray) (w : World) (h : Lst B w v m 1 (cS f)) (hB : B ≤ w.heap.size) :
    Calls Tryz.prog 152 #[.agg #[], .string st, v] w fun e w' => e = .returned (.bool (hasB m f st)) ∧ Below w.heap.size w w' := by
  have HL : Hid (Lst B (w.alloc (.cells #[] 119)) v m 1 (cS f)) := h.kept ((Below.refl _ _).alloc (Nat.le_refl _) _) hB
  clear h
  go_enter Tryz.func152, Tryz.ntmps152
  go_wp2_with fail
  refine (hasI_any B _ m f _ _ HL.out).mono ?_; rintro e w0 ⟨rfl, rfl⟩
  go_wp2_with fail
  go_ret
  exact ⟨rfl, (Below.refl _ _).alloc (Nat.le_refl _) _⟩

set_option maxRecDepth 100000 in
set_option maxHeartbeats 4000000 in
theorem mayB_any (v : Value) (st : ByteArray) (w : World) :
    Calls Tryz.prog 154 #[.agg #[], .string st, v] w fun e w' => e = .returned (.bool (st.toList.isEmpty)) ∧ Below w.heap.size w w' := by
  go_enter Tryz.func154, Tryz.ntmps154
  go_wp2
  go_ret
  exact ⟨rfl, (Below.refl _ _).alloc (Nat.le_refl _) _⟩

set_option maxRecDepth 100000 in
set_option maxHeartbeats 4000000 in
theorem mayC_any (v : Value) (st : ByteArray) (w : World) :
    Calls Tryz.prog 155 #[.agg #[], .string st, v] w fun e w' => e = .returned (.bool false) ∧ Below w.heap.size w w' := by
  go_enter Tryz.func155, Tryz.ntmps155
  go_wp2
  go_ret
  exact ⟨rfl, (Below.refl _ _).alloc (Nat.le_refl _) _⟩
theorem mm_1 (p q : Int) (o2 o3 o4 o5 : Option Addr) (n2 n3 n4 n5 k2 k3 k4 k5 : Nat) (W : World) : (Go.method 310 121 (.agg #[.int .i64 p, .int .i64 q, .slice o2 n2 k2, .slice o3 n3 k3, .slice o4 n4 k4, .slice o5 n5 k5]) "loop.example/malthouse/impl.mayBeOf").run Tryz.prog W = .ok (152, .agg #[]) W := by kernel_rfl
theorem mm_2 (W : World) : (Go.method 310 123 (.agg #[]) "loop.example/malthouse/impl.mayBeOf").run Tryz.prog W = .ok (152, .agg #[]) W := by kernel_rfl
theorem mm_3 (W : World) : (Go.method 310 124 (.agg #[]) "loop.example/malthouse/impl.mayBeOf").run Tryz.prog W = .ok (152, .agg #[]) W := by kernel_rfl
theorem mm_4 (W : World) : (Go.method 310 125 (.agg #[]) "loop.example/malthouse/impl.mayBeOf").run Tryz.prog W = .ok (152, .agg #[]) W := by kernel_rfl
theorem mm_5 (W : World) : (Go.method 310 126 (.agg #[]) "loop.example/malthouse/impl.mayBeOf").run Tryz.prog W = .ok (152, .agg #[]) W := by kernel_rfl
theorem mm_6 (mv : Int) (W : World) : (Go.method 310 130 (.agg #[.int .i64 mv]) "loop.example/malthouse/impl.mayBeOf").run Tryz.prog W = .ok (152, .agg #[]) W := by kernel_rfl
theorem mm_7 (mv : Int) (W : World) : (Go.method 310 131 (.agg #[.int .i64 mv]) "loop.example/malthouse/impl.mayBeOf").run Tryz.prog W = .ok (152, .agg #[]) W := by kernel_rfl
theorem mm_8 (W : World) : (Go.method 310 132 (.agg #[]) "loop.example/malthouse/impl.mayBeOf").run Tryz.prog W = .ok (152, .agg #[]) W := by kernel_rfl
theorem mm_9 (W : World) : (Go.method 310 135 (.agg #[]) "loop.example/malthouse/impl.mayBeOf").run Tryz.prog W = .ok (154, .agg #[]) W := by kernel_rfl
theorem mm_10 (W : World) : (Go.method 310 136 (.agg #[]) "loop.example/malthouse/impl.mayBeOf").run Tryz.prog W = .ok (154, .agg #[]) W := by kernel_rfl
theorem mm_0 (W : World) : (Go.method 310 137 (.agg #[]) "loop.example/malthouse/impl.mayBeOf").run Tryz.prog W = .ok (155, .agg #[]) W := by kernel_rfl

set_option maxRecDepth 100000 in
set_option maxHeartbeats 4000000 in
theorem isOk_any (B : Nat) (vs : Value) (m : Nat) (f : Nat → ByteArray) (S : Nat → Prop) (a : C.DClaimWant) (n mv k : Int) (st : ByteArray) (dn : Bool) (o2 o3 o4 o5 : Option Addr) (n2 n3 n4 n5 k2 k3 k4 k5 : Nat) (w : World) (h2 : C.AtL S w a.2.2.1 (.slice o2 n2 k2)) (h3 : C.AtL S w a.2.2.2.1 (.slice o3 n3 k3)) (h4 : C.AtL S w a.2.2.2.2.1 (.slice o4 n4 k4)) (h5 : C.AtL S w a.2.2.2.2.2 (.slice o5 n5 k5)) (hS : ∀ b, S b → b < w.heap.size) (m2 : a.2.2.1.length = n2) (m3 : a.2.2.2.1.length = n3) (m4 : a.2.2.2.2.1.length = n4) (m5 : a.2.2.2.2.2.length = n5) (b2 : n2 ≤ maxLen) (b3 : n3 ≤ maxLen) (b4 : n4 ≤ maxLen) (b5 : n5 ≤ maxLen) (hst : Lst B w vs m 1 (cS f)) (hB : B ≤ w.heap.size) :
    Calls Tryz.prog 29 #[.agg #[.int .i64 k, .string st, .int .i64 n, .int .i64 a.1, .int .i64 a.2.1, .slice o2 n2 k2, .slice o3 n3 k3, .slice o4 n4 k4, .slice o5 n5 k5, .int .i64 mv, .bool dn], vs] w fun e w' => e = .returned (.bool (isB k n st a mv dn m f)) ∧ Below w.heap.size w w' := by
  have HA : Hid (∀ w', Below w.heap.size w w' → C.AtL S w' a.2.2.1 (.slice o2 n2 k2) ∧ C.AtL S w' a.2.2.2.1 (.slice o3 n3 k3) ∧ C.AtL S w' a.2.2.2.2.1 (.slice o4 n4 k4) ∧ C.AtL S w' a.2.2.2.2.2 (.slice o5 n5 k5)) := fun w' hb => ⟨h2.same (C.Same.of_below hb hS), h3.same (C.Same.of_below hb hS), h4.same (C.Same.of_below hb hS), h5.same (C.Same.of_below hb hS)⟩
  have HS : Hid _ := hS
  have M2 : Hid (a.2.2.1.length = n2) := m2
  have M3 : Hid (a.2.2.2.1.length = n3) := m3
  have M4 : Hid (a.2.2.2.2.1.length = n4) := m4
  have M5 : Hid (a.2.2.2.2.2.length = n5) := m5
  clear h2 h3 h4 h5 hS m2 m3 m4 m5
  have HT : Hid (∀ w', Below w.heap.size w w' → Lst B w' vs m 1 (cS f)) := fun w' hb => hst.kept hb hB
  clear hst
  obtain ⟨W, hW⟩ : ∃ W, W = w.alloc (.cells #[.int .i64 k, .string st, .int .i64 n, .int .i64 a.1, .int .i64 a.2.1, .slice o2 n2 k2, .slice o3 n3 k3, .slice o4 n4 k4, .slice o5 n5 k5, .int .i64 mv, .bool dn] 46) := ⟨_, rfl⟩
  have EW : Hid (W = w.alloc (.cells #[.int .i64 k, .string st, .int .i64 n, .int .i64 a.1, .int .i64 a.2.1, .slice o2 n2 k2, .slice o3 n3 k3, .slice o4 n4 k4, .slice o5 n5 k5, .int .i64 mv, .bool dn] 46)) := hW
  have kW : Hid (Below (w.heap.size + 1) W W) := Below.refl _ _
  have sW : w.heap.size + 1 ≤ W.heap.size := by rw [hW]; simp
  have bx : Hid (∀ w', Below (w.heap.size + 1) W w' → w'.cell? ⟨w.heap.size, 0, none⟩ = some (.int .i64 k) ∧ w'.cell? ⟨w.heap.size, 1, none⟩ = some (.string st) ∧ w'.cell? ⟨w.heap.size, 2, none⟩ = some (.int .i64 n) ∧ w'.cell? ⟨w.heap.size, 3, none⟩ = some (.int .i64 a.1) ∧ w'.cell? ⟨w.heap.size, 4, none⟩ = some (.int .i64 a.2.1) ∧ w'.cell? ⟨w.heap.size, 5, none⟩ = some (.slice o2 n2 k2) ∧ w'.cell? ⟨w.heap.size, 6, none⟩ = some (.slice o3 n3 k3) ∧ w'.cell? ⟨w.heap.size, 7, none⟩ = some (.slice o4 n4 k4) ∧ w'.cell? ⟨w.heap.size, 8, none⟩ = some (.slice o5 n5 k5) ∧ w'.cell? ⟨w.heap.size, 9, none⟩ = some (.int .i64 mv) ∧ w'.cell? ⟨w.heap.size, 10, none⟩ = some (.bool dn)) := fun w' hb => by
    rw [hW] at hb
    exact ⟨box_in hb 0 _ rfl, box_in hb 1 _ rfl, box_in hb 2 _ rfl, box_in hb 3 _ rfl, box_in hb 4 _ rfl, box_in hb 5 _ rfl, box_in hb 6 _ rfl, box_in hb 7 _ rfl, box_in hb 8 _ rfl, box_in hb 9 _ rfl, box_in hb 10 _ rfl⟩
  have be : Hid (∀ w', Below (w.heap.size + 1) W w' → Below w.heap.size w w') := fun w' hb => by
    rw [hW] at hb
    exact below_end hb
  clear hW
  cases hn1 : (decide (n < 1))
  · cases hn2 : (decide (1000000 < n))
    · by_cases hA : 1 ≤ k ∧ k ≤ 8
      · have HK : Hid (k = 1 ∨ k = 2 ∨ k = 3 ∨ k = 4 ∨ k = 5 ∨ k = 6 ∨ k = 7 ∨ k = 8) := by show _ ∨ _; omega
        have hs : sOk k m f st = hasB m f st := if_pos hA
        have EB : Hid (isB k n st a mv dn m f = (hasB m f st && wOk k n a && mOk k mv && dOk k dn)) := by show _ = _; unfold isB; rw [hn1, hn2, hs]; rfl
        rw [EB.out]
        go_enter Tryz.func29, Tryz.ntmps29
        go_upto_region 1 with fail
        rw [← EW.out]
        obtain ⟨x0, x1, x2, x3, x4, x5, x6, x7, x8, x9, x10⟩ := bx.out W kW.out
        go_upto_region 3 with fail
        have hdr : Hid (Below (w.heap.size + 1) W W.drew) := kW.out.drew
        have qx0 := fun d os => cell_regrown x0 d os
        have qx1 := fun d os => cell_regrown x1 d os
        have qx2 := fun d os => cell_regrown x2 d os
        have qx3 := fun d os => cell_regrown x3 d os
        have qx4 := fun d os => cell_regrown x4 d os
        have qx5 := fun d os => cell_regrown x5 d os
        have qx6 := fun d os => cell_regrown x6 d os
        have qx7 := fun d os => cell_regrown x7 d os
        have qx8 := fun d os => cell_regrown x8 d os
        have qx9 := fun d os => cell_regrown x9 d os
        have qx10 := fun d os => cell_regrown x10 d os
        refine wp_region_mix 6 [0, 2, 3, 4] (by kernel_rfl) (by kernel_rfl) ?_
        simp only [List.filterMap_cons, List.filterMap_nil, List.getElem?_cons_succ, List.getElem?_cons_zero]
        repeat (first | go_big_quiet_step (fail) | quiet_step (fail))
        refine wpQuiet_nil ?_
        clear qx0 qx1 qx2 qx3 qx4 qx5 qx6 qx7 qx8 qx9 qx10
        refine call1 (md := .any) (f := 1) (i := 1) (dc := 14) (fn := 56) ⟨rfl, rfl, rfl, by decide⟩ (by kernel_rfl) ?run ((saying_any k n a.1 a.2.1 mv st dn o2 o3 o4 o5 n2 n3 n4 n5 k2 k3 k4 k5 W.drew).mono ?_)
        case run => go_simp
        rintro e w1 ⟨rfl, hb1⟩
        have K1 : Hid (Below (w.heap.size + 1) W w1) := hdr.out.trans (hb1.mono sW)
        have r1 : Hid (Below W.heap.size W w1) := (Below.refl W.heap.size W).drew.trans hb1
        have s1 := K1.out.size
        clear hb1
        refine ⟨_, rfl, regrown_of_below r1.out, ?_⟩
        refine call1 (md := .any) (f := 0) (i := 5) (dc := 18) (fn := 152) (args := #[.agg #[], .string st, vs]) ⟨rfl, rfl, rfl, by decide⟩ (by kernel_rfl) ?run5 ((mayA_any B vs m f st w1 (HT.out _ (be.out _ K1.out)) (by have := (be.out _ K1.out).size; omega)).mono ?_)
        case run5 =>
          rcases HK.out with rfl | rfl | rfl | rfl | rfl | rfl | rfl | rfl
          · have hm := mm_1 a.1 a.2.1 o2 o3 o4 o5 n2 n3 n4 n5 k2 k3 k4 k5
            simp only [say_1]
            go_simp
          · have hm := mm_2
            simp only [say_2]
            go_simp
          · have hm := mm_3
            simp only [say_3]
            go_simp
          · have hm := mm_4
            simp only [say_4]
            go_simp
          · have hm := mm_5
            simp only [say_5]
            go_simp
          · have hm := mm_6 mv
            simp only [say_6]
            go_simp
          · have hm := mm_7 mv
            simp only [say_7]
            go_simp
          · have hm := mm_8
            simp only [say_8]
            go_simp
        rintro e w2 ⟨rfl, hb2⟩
        have k2' : Hid (Below (w.heap.size + 1) W w2) := K1.out.trans (hb2.mono (by omega))
        have r2 : Hid (Below W.heap.size W w2) := r1.out.trans (hb2.mono r1.out.size)
        clear hb2
        refine ⟨_, rfl, regrown_of_below r2.out, ?_⟩
        refine ⟨by kernel_rfl, ?_⟩
        simp only [List.drop_succ_cons, List.drop_zero, Act.put, List.setIfInBounds_toArray, List.set_cons_zero, List.set_cons_succ]
        clear x0 x1 x2 x3 x4 x5 x6 x7 x8 x9 x10
        obtain ⟨x0, x1, x2, x3, x4, x5, x6, x7, x8, x9, x10⟩ := bx.out w2 k2'.out
        cases cs : (hasB m f st)
        · go_wp2_with fail
          go_ret
          exact ⟨by rw [cs]; rfl, be.out _ k2'.out⟩
        · go_wp2_with fail
          obtain ⟨A2, A3, A4, A5⟩ := HA.out _ (be.out _ k2'.out)
          refine (wantOk_any S a n mv k st dn o2 o3 o4 o5 n2 n3 n4 n5 k2 k3 k4 k5 _ A2 A3 A4 A5 (fun b hb => by have := HS.out b hb; have := (be.out _ k2'.out).size; omega) M2.out M3.out M4.out M5.out b2 b3 b4 b5).mono ?_; rintro e w3 ⟨rfl, hb3⟩
          have k3' : Hid (Below (w.heap.size + 1) W w3) := k2'.out.trans (hb3.mono (by have := k2'.out.size; omega))
          clear A2 A3 A4 A5 hb3
          clear x0 x1 x2 x3 x4 x5 x6 x7 x8 x9 x10
          obtain ⟨x0, x1, x2, x3, x4, x5, x6, x7, x8, x9, x10⟩ := bx.out w3 k3'.out
          cases cw : (wOk k n a)
          · go_wp2_with fail
            go_ret
            exact ⟨by rw [cs, cw]; rfl, be.out _ k3'.out⟩
          · go_wp2_with fail
            refine (movedOk_any k n a.1 a.2.1 mv st dn o2 o3 o4 o5 n2 n3 n4 n5 k2 k3 k4 k5 _).mono ?_; rintro e w4 ⟨rfl, hb4⟩
            have k4' : Hid (Below (w.heap.size + 1) W w4) := k3'.out.trans (hb4.mono (by have := k3'.out.size; omega))
            clear hb4
            clear x0 x1 x2 x3 x4 x5 x6 x7 x8 x9 x10
            obtain ⟨x0, x1, x2, x3, x4, x5, x6, x7, x8, x9, x10⟩ := bx.out w4 k4'.out
            cases cm : (mOk k mv)
            · go_wp2_with fail
              go_ret
              exact ⟨by rw [cs, cw, cm]; rfl, be.out _ k4'.out⟩
            · go_wp2_with fail
              refine (doneOk_any k n a.1 a.2.1 mv st dn o2 o3 o4 o5 n2 n3 n4 n5 k2 k3 k4 k5 _).mono ?_; rintro e w5 ⟨rfl, hb5⟩
              have k5' : Hid (Below (w.heap.size + 1) W w5) := k4'.out.trans (hb5.mono (by have := k4'.out.size; omega))
              clear hb5
              go_wp2_with fail
              go_ret
              exact ⟨by rw [cs, cw, cm]; rfl, be.out _ k5'.out⟩
      · by_cases hB9 : k = 9 ∨ k = 10
        · have HK : Hid (k = 9 ∨ k = 10) := hB9
          have hs : sOk k m f st = st.toList.isEmpty := (if_neg hA).trans (if_pos hB9)
          have EB : Hid (isB k n st a mv dn m f = (st.toList.isEmpty && wOk k n a && mOk k mv && dOk k dn)) := by show _ = _; unfold isB; rw [hn1, hn2, hs]; rfl
          rw [EB.out]
          go_enter Tryz.func29, Tryz.ntmps29
          go_upto_region 1 with fail
          rw [← EW.out]
          obtain ⟨x0, x1, x2, x3, x4, x5, x6, x7, x8, x9, x10⟩ := bx.out W kW.out
          go_upto_region 3 with fail
          have hdr : Hid (Below (w.heap.size + 1) W W.drew) := kW.out.drew
          have qx0 := fun d os => cell_regrown x0 d os
          have qx1 := fun d os => cell_regrown x1 d os
          have qx2 := fun d os => cell_regrown x2 d os
          have qx3 := fun d os => cell_regrown x3 d os
          have qx4 := fun d os => cell_regrown x4 d os
          have qx5 := fun d os => cell_regrown x5 d os
          have qx6 := fun d os => cell_regrown x6 d os
          have qx7 := fun d os => cell_regrown x7 d os
          have qx8 := fun d os => cell_regrown x8 d os
          have qx9 := fun d os => cell_regrown x9 d os
          have qx10 := fun d os => cell_regrown x10 d os
          refine wp_region_mix 6 [0, 2, 3, 4] (by kernel_rfl) (by kernel_rfl) ?_
          simp only [List.filterMap_cons, List.filterMap_nil, List.getElem?_cons_succ, List.getElem?_cons_zero]
          repeat (first | go_big_quiet_step (fail) | quiet_step (fail))
          refine wpQuiet_nil ?_
          clear qx0 qx1 qx2 qx3 qx4 qx5 qx6 qx7 qx8 qx9 qx10
          refine call1 (md := .any) (f := 1) (i := 1) (dc := 14) (fn := 56) ⟨rfl, rfl, rfl, by decide⟩ (by kernel_rfl) ?run ((saying_any k n a.1 a.2.1 mv st dn o2 o3 o4 o5 n2 n3 n4 n5 k2 k3 k4 k5 W.drew).mono ?_)
          case run => go_simp
          rintro e w1 ⟨rfl, hb1⟩
          have K1 : Hid (Below (w.heap.size + 1) W w1) := hdr.out.trans (hb1.mono sW)
          have r1 : Hid (Below W.heap.size W w1) := (Below.refl W.heap.size W).drew.trans hb1
          have s1 := K1.out.size
          clear hb1
          refine ⟨_, rfl, regrown_of_below r1.out, ?_⟩
          refine call1 (md := .any) (f := 0) (i := 5) (dc := 18) (fn := 154) (args := #[.agg #[], .string st, vs]) ⟨rfl, rfl, rfl, by decide⟩ (by kernel_rfl) ?run5 ((mayB_any vs st w1).mono ?_)
          case run5 =>
            rcases HK.out with rfl | rfl
            · have hm := mm_9
              simp only [say_9]
              go_simp
            · have hm := mm_10
              simp only [say_10]
              go_simp
          rintro e w2 ⟨rfl, hb2⟩
          have k2' : Hid (Below (w.heap.size + 1) W w2) := K1.out.trans (hb2.mono (by omega))
          have r2 : Hid (Below W.heap.size W w2) := r1.out.trans (hb2.mono r1.out.size)
          clear hb2
          refine ⟨_, rfl, regrown_of_below r2.out, ?_⟩
          refine ⟨by kernel_rfl, ?_⟩
          simp only [List.drop_succ_cons, List.drop_zero, Act.put, List.setIfInBounds_toArray, List.set_cons_zero, List.set_cons_succ]
          clear x0 x1 x2 x3 x4 x5 x6 x7 x8 x9 x10
          obtain ⟨x0, x1, x2, x3, x4, x5, x6, x7, x8, x9, x10⟩ := bx.out w2 k2'.out
          cases cs : (st.toList.isEmpty)
          · go_wp2_with fail
            go_ret
            exact ⟨by rw [cs]; rfl, be.out _ k2'.out⟩
          · go_wp2_with fail
            obtain ⟨A2, A3, A4, A5⟩ := HA.out _ (be.out _ k2'.out)
            refine (wantOk_any S a n mv k st dn o2 o3 o4 o5 n2 n3 n4 n5 k2 k3 k4 k5 _ A2 A3 A4 A5 (fun b hb => by have := HS.out b hb; have := (be.out _ k2'.out).size; omega) M2.out M3.out M4.out M5.out b2 b3 b4 b5).mono ?_; rintro e w3 ⟨rfl, hb3⟩
            have k3' : Hid (Below (w.heap.size + 1) W w3) := k2'.out.trans (hb3.mono (by have := k2'.out.size; omega))
            clear A2 A3 A4 A5 hb3
            clear x0 x1 x2 x3 x4 x5 x6 x7 x8 x9 x10
            obtain ⟨x0, x1, x2, x3, x4, x5, x6, x7, x8, x9, x10⟩ := bx.out w3 k3'.out
            cases cw : (wOk k n a)
            · go_wp2_with fail
              go_ret
              exact ⟨by rw [cs, cw]; rfl, be.out _ k3'.out⟩
            · go_wp2_with fail
              refine (movedOk_any k n a.1 a.2.1 mv st dn o2 o3 o4 o5 n2 n3 n4 n5 k2 k3 k4 k5 _).mono ?_; rintro e w4 ⟨rfl, hb4⟩
              have k4' : Hid (Below (w.heap.size + 1) W w4) := k3'.out.trans (hb4.mono (by have := k3'.out.size; omega))
              clear hb4
              clear x0 x1 x2 x3 x4 x5 x6 x7 x8 x9 x10
              obtain ⟨x0, x1, x2, x3, x4, x5, x6, x7, x8, x9, x10⟩ := bx.out w4 k4'.out
              cases cm : (mOk k mv)
              · go_wp2_with fail
                go_ret
                exact ⟨by rw [cs, cw, cm]; rfl, be.out _ k4'.out⟩
              · go_wp2_with fail
                refine (doneOk_any k n a.1 a.2.1 mv st dn o2 o3 o4 o5 n2 n3 n4 n5 k2 k3 k4 k5 _).mono ?_; rintro e w5 ⟨rfl, hb5⟩
                have k5' : Hid (Below (w.heap.size + 1) W w5) := k4'.out.trans (hb5.mono (by have := k4'.out.size; omega))
                clear hb5
                go_wp2_with fail
                go_ret
                exact ⟨by rw [cs, cw, cm]; rfl, be.out _ k5'.out⟩
        · have SN : Hid (sayV k (.agg #[.int .i64 a.1, .int .i64 a.2.1, .slice o2 n2 k2, .slice o3 n3 k3, .slice o4 n4 k4, .slice o5 n5 k5]) mv = .iface 137 (.agg #[])) := say_no _ mv (by omega) (by omega) (by omega) (by omega) (by omega) (by omega) (by omega) (by omega) (by omega) (by omega)
          have hs : sOk k m f st = false := (if_neg hA).trans (if_neg hB9)
          have EB : Hid (isB k n st a mv dn m f = (false && wOk k n a && mOk k mv && dOk k dn)) := by show _ = _; unfold isB; rw [hn1, hn2, hs]; rfl
          rw [EB.out]
          go_enter Tryz.func29, Tryz.ntmps29
          go_upto_region 1 with fail
          rw [← EW.out]
          obtain ⟨x0, x1, x2, x3, x4, x5, x6, x7, x8, x9, x10⟩ := bx.out W kW.out
          go_upto_region 3 with fail
          have hdr : Hid (Below (w.heap.size + 1) W W.drew) := kW.out.drew
          have qx0 := fun d os => cell_regrown x0 d os
          have qx1 := fun d os => cell_regrown x1 d os
          have qx2 := fun d os => cell_regrown x2 d os
          have qx3 := fun d os => cell_regrown x3 d os
          have qx4 := fun d os => cell_regrown x4 d os
          have qx5 := fun d os => cell_regrown x5 d os
          have qx6 := fun d os => cell_regrown x6 d os
          have qx7 := fun d os => cell_regrown x7 d os
          have qx8 := fun d os => cell_regrown x8 d os
          have qx9 := fun d os => cell_regrown x9 d os
          have qx10 := fun d os => cell_regrown x10 d os
          refine wp_region_mix 6 [0, 2, 3, 4] (by kernel_rfl) (by kernel_rfl) ?_
          simp only [List.filterMap_cons, List.filterMap_nil, List.getElem?_cons_succ, List.getElem?_cons_zero]
          repeat (first | go_big_quiet_step (fail) | quiet_step (fail))
          refine wpQuiet_nil ?_
          clear qx0 qx1 qx2 qx3 qx4 qx5 qx6 qx7 qx8 qx9 qx10
          refine call1 (md := .any) (f := 1) (i := 1) (dc := 14) (fn := 56) ⟨rfl, rfl, rfl, by decide⟩ (by kernel_rfl) ?run ((saying_any k n a.1 a.2.1 mv st dn o2 o3 o4 o5 n2 n3 n4 n5 k2 k3 k4 k5 W.drew).mono ?_)
          case run => go_simp
          rintro e w1 ⟨rfl, hb1⟩
          have K1 : Hid (Below (w.heap.size + 1) W w1) := hdr.out.trans (hb1.mono sW)
          have r1 : Hid (Below W.heap.size W w1) := (Below.refl W.heap.size W).drew.trans hb1
          have s1 := K1.out.size
          clear hb1
          refine ⟨_, rfl, regrown_of_below r1.out, ?_⟩
          refine call1 (md := .any) (f := 0) (i := 5) (dc := 18) (fn := 155) (args := #[.agg #[], .string st, vs]) ⟨rfl, rfl, rfl, by decide⟩ (by kernel_rfl) ?run5 ((mayC_any vs st w1).mono ?_)
          case run5 =>
            have hm := mm_0
            simp only [SN.out]
            go_simp
          rintro e w2 ⟨rfl, hb2⟩
          have k2' : Hid (Below (w.heap.size + 1) W w2) := K1.out.trans (hb2.mono (by omega))
          have r2 : Hid (Below W.heap.size W w2) := r1.out.trans (hb2.mono r1.out.size)
          clear hb2
          refine ⟨_, rfl, regrown_of_below r2.out, ?_⟩
          refine ⟨by kernel_rfl, ?_⟩
          simp only [List.drop_succ_cons, List.drop_zero, Act.put, List.setIfInBounds_toArray, List.set_cons_zero, List.set_cons_succ]
          clear x0 x1 x2 x3 x4 x5 x6 x7 x8 x9 x10
          obtain ⟨x0, x1, x2, x3, x4, x5, x6, x7, x8, x9, x10⟩ := bx.out w2 k2'.out
          go_wp2_with fail
          go_ret
          exact ⟨rfl, be.out _ k2'.out⟩
    · have EB : Hid (isB k n st a mv dn m f = false) := by show _ = _; unfold isB; rw [hn1, hn2]; rfl
      rw [EB.out]
      go_enter Tryz.func29, Tryz.ntmps29
      go_upto_region 1 with fail
      rw [← EW.out]
      obtain ⟨x0, x1, x2, x3, x4, x5, x6, x7, x8, x9, x10⟩ := bx.out W kW.out
      go_wp2_with fail
      go_ret
      exact ⟨rfl, be.out _ kW.out⟩
  · have EB : Hid (isB k n st a mv dn m f = false) := by show _ = _; unfold isB; rw [hn1]; rfl
    rw [EB.out]
    go_enter Tryz.func29, Tryz.ntmps29
    go_upto_region 1 with fail
    rw [← EW.out]
    obtain ⟨x0, x1, x2, x3, x4, x5, x6, x7, x8, x9, x10⟩ := bx.out W kW.out
    go_wp2_with fail
    go_ret
    exact ⟨rfl, be.out _ kW.out⟩

end Go.Proofs.YtciembgenlcogaeGreat
