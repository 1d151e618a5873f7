/-
  The law FnRecPhase, walked: whatever the code, the call returns true, and nothing that was there before has turned.
-/
import Derived.Test.YtmccbkmfcldbgaaXde
import Derived.Test.YtmccbkmfcldbgaaXpo
namespace Go.Proofs.Ytmccbkmfcldbgaa
open Go.RowKit

theorem end_rangeP (x : ByteArray) : endI x = 0 ∨ endI x = 1 ∨ endI x = 2 ∨ endI x = 3 := by
  unfold endI
  repeat' split
  all_goals simp
theorem one_rec (P : DRecPhase) : recB [P] = (phaseB P && !(endI P.2.2.2.2.2.2.1 == 0) && !(endI P.2.2.2.2.2.2.2 == 0)) := by
  have hat : ∀ x, atI [P] x ≤ 0 := fun x => by
    rcases at_cases [P] x with e | ⟨k, hk, e, _⟩
    · omega
    · have : k = 0 := by simpa using hk
      omega
  have hgo : ∀ x, goesB [P] 0 x = !(endI x == 0) := fun x => by
    have h := hat x
    have hd : decide (((0 : Nat) : Int) < atI [P] x) = false := decide_eq_false (by simpa using h)
    unfold goesB
    rw [hd, Bool.or_false]
  have hself : atI [P] P.1 = 0 := by
    obtain ⟨k, hk, e, _, _⟩ := at_yes (r := [P]) (x := P.1) (j := 0) (by simp) (eqB_refl _)
    have : k = 0 := by simpa using hk
    subst this; exact e
  have hst : stepB [P] 0 P = (phaseB P && !(endI P.2.2.2.2.2.2.1 == 0) && !(endI P.2.2.2.2.2.2.2 == 0)) := by
    unfold stepB
    rw [hself, hgo, hgo]
    simp
  rw [← hst]
  cases h : stepB [P] 0 P
  · exact rec_bad (r := [P]) (k := 0) (by simp) h
  · refine rec_yes ⟨by simp, fun i hi => ?_⟩
    have : i = 0 := by simpa using hi
    subst this; exact h
theorem one_at (t : TypeId) (W : World) (nm a b th el : ByteArray) (kd m wi : Int) (hz : Pz 2000 nm a b th el kd m wi) : AtL (fun q => q = W.heap.size) (W.alloc (.cells #[.string nm, .int .i64 kd, .string a, .string b, .int .i64 m, .int .i64 wi, .string th, .string el] t)) ([(nm, kd, a, b, m, wi, th, el)] : List DRecPhase) (.slice (some ⟨W.heap.size, 0, none⟩) 1 1) := by
  obtain ⟨z1, z2, z3, z4, z5, z6, z7, z8⟩ := hz
  have h2 := heap_alloc_new W (.cells #[.string nm, .int .i64 kd, .string a, .string b, .int .i64 m, .int .i64 wi, .string th, .string el] t)
  refine ⟨_, _, rfl, ⟨by unfold maxLen; simp, by simp, fun h => by cases h⟩, fun i hi => ⟨_, _, rfl, rfl, cs [.string nm, .int .i64 kd, .string a, .string b, .int .i64 m, .int .i64 wi, .string th, .string el], fun j hj => ?_, ?_⟩⟩
  · have hi0 : i = 0 := by simpa using hi
    subst hi0
    rw [width_DRecPhase] at hj
    rw [Nat.zero_mul, Nat.add_zero, Nat.zero_add]
    rcases (show j = 0 ∨ j = 1 ∨ j = 2 ∨ j = 3 ∨ j = 4 ∨ j = 5 ∨ j = 6 ∨ j = 7 by omega) with rfl | rfl | rfl | rfl | rfl | rfl | rfl | rfl
    all_goals exact (cell_row h2 _ _ rfl).1
  · have hi0 : i = 0 := by simpa using hi
    subst hi0
    have hm : ∀ s : ByteArray, s.size ≤ 16 → s.size ≤ maxLen := fun s h => by unfold maxLen; omega
    exact at_DRecPhase.2 ⟨⟨rfl, hm _ z1⟩, ⟨rfl, by show _ ≤ kd; omega, by show kd ≤ _; omega⟩, ⟨rfl, hm _ z2⟩, ⟨rfl, hm _ z3⟩, ⟨rfl, by show _ ≤ m; omega, by show m ≤ _; omega⟩, ⟨rfl, by show _ ≤ wi; omega, by show wi ≤ _; omega⟩, ⟨rfl, hm _ z4⟩, ⟨rfl, hm _ z5⟩⟩

set_option maxRecDepth 100000 in
set_option maxHeartbeats 4000000 in
theorem lawP_any (ob : Option Addr) (n cb : Nat) (f : Nat → Int) (w : World) (hn : n ≤ maxLen) (hnc : n ≤ cb) (fb : ∀ i, 0 ≤ f i ∧ f i ≤ 255)
    (ce : ∀ i, i < n → ∃ b off, ob = some ⟨b, off, none⟩ ∧ b < w.heap.size ∧ w.cell? ⟨b, off + i, none⟩ = some (.int .u8 (f i))) :
    Calls Try.prog 3 #[.slice ob n cb] w fun e w' => e = .returned (.bool true) ∧ Below w.heap.size w w' := by
  have hn' := hn
  unfold maxLen at hn'
  by_cases hbig : (1048576 : Int) < (n : Int)
  · go_enter Try.func3, Try.ntmps3
    go_wp2_with fail
    go_ret
    exact ⟨rfl, Below.refl _ _⟩
  have CD : Hid _ := drawP_any ob n cb f w hn hnc fb ce
  clear fb ce hn hnc
  go_enter Try.func3, Try.ntmps3
  go_wp2_with fail
  refine Calls.mono CD.out ?_
  rintro e w1 ⟨nm, kd, a, b, m, wi, th, el, rfl, pz, hb1⟩
  have PZ : Hid (Pz 2000 nm a b th el kd m wi) := pz
  have B1 : Hid (Below w.heap.size w w1) := hb1
  clear CD hb1
  obtain ⟨z1, z2, z3, z4, z5, z6, z7, z8⟩ := pz
  have HT : Hid (totL ([(nm, kd, a, b, m, wi, th, el)] : List DRecPhase) ≤ 1048576) := by
    show totL ([(nm, kd, a, b, m, wi, th, el)] : List DRecPhase) ≤ _
    simp only [totL, sumTo, List.length_singleton, List.take_succ_cons, List.take_zero, List.map_cons, List.map_nil, List.sum_cons, List.sum_nil, tot_DRecPhase]
    omega
  have hn1 : nm.size ≤ maxLen := by unfold maxLen; omega
  have hn2 : a.size ≤ maxLen := by unfold maxLen; omega
  have hn3 : b.size ≤ maxLen := by unfold maxLen; omega
  have hn4 : th.size ≤ maxLen := by unfold maxLen; omega
  have hn5 : el.size ≤ maxLen := by unfold maxLen; omega
  have hk1 : OkN kd := ⟨by omega, by omega⟩
  have hk2 : OkN m := ⟨by omega, by omega⟩
  have hk3 : OkN wi := ⟨by omega, by omega⟩
  have HREC : Hid (recB [(nm, kd, a, b, m, wi, th, el)] = (phaseB (nm, kd, a, b, m, wi, th, el) && !(endI th == 0) && !(endI el == 0))) := one_rec (nm, kd, a, b, m, wi, th, el)
  have HNM : Hid (phaseB (nm, kd, a, b, m, wi, th, el) = true → endI nm = 0) := fun h => (ph_name h).2.1
  have HR1 : Hid (endI th = 0 ∨ endI th = 1 ∨ endI th = 2 ∨ endI th = 3) := end_rangeP th
  have HR2 : Hid (endI el = 0 ∨ endI el = 1 ∨ endI el = 2 ∨ endI el = 3) := end_rangeP el
  obtain ⟨u1, hu1⟩ : ∃ u, u = w1.alloc (.cells #[.string nm, .int .i64 kd, .string a, .string b, .int .i64 m, .int .i64 wi, .string th, .string el] 24) := ⟨_, rfl⟩
  have HU1 : Hid (u1 = w1.alloc (.cells #[.string nm, .int .i64 kd, .string a, .string b, .int .i64 m, .int .i64 wi, .string th, .string el] 24)) := hu1
  have K1 : Hid (Below (w1.heap.size + 1) (w1.alloc (.cells #[.string nm, .int .i64 kd, .string a, .string b, .int .i64 m, .int .i64 wi, .string th, .string el] 24)) u1) := by rw [hu1]; exact Below.refl _ _
  clear hu1 z1 z2 z3 z4 z5 z6 z7 z8
  go_upto_region 4 with fail
  rw [← HU1.out]
  clear HU1
  have x0 := box_at _ _ K1.out 0 (.string nm) rfl
  have x1 := box_at _ _ K1.out 1 (.int .i64 kd) rfl
  have x2 := box_at _ _ K1.out 2 (.string a) rfl
  have x3 := box_at _ _ K1.out 3 (.string b) rfl
  have x4 := box_at _ _ K1.out 4 (.int .i64 m) rfl
  have x5 := box_at _ _ K1.out 5 (.int .i64 wi) rfl
  have x6 := box_at _ _ K1.out 6 (.string th) rfl
  have x7 := box_at _ _ K1.out 7 (.string el) rfl
  cases OK : phaseB (nm, kd, a, b, m, wi, th, el)
  · have RC : recB [(nm, kd, a, b, m, wi, th, el)] = false := by rw [HREC.out, OK]; rfl
    have C : Hid _ := phaseI_any nm a b th el kd m wi u1 hn1 hn2 hn3 hn4 hn5 hk1 hk2 hk3
    go_wp2_with fail
    refine Calls.mono C.out ?_
    clear C x0 x1 x2 x3 x4 x5 x6 x7
    rintro e u2 ⟨rfl, hb⟩
    rw [OK]
    have K2 : Hid (Below (w1.heap.size + 1) (w1.alloc (.cells #[.string nm, .int .i64 kd, .string a, .string b, .int .i64 m, .int .i64 wi, .string th, .string el] 24)) u2) := below_of K1.out hb
    clear hb K1
    have x0 := box_at _ _ K2.out 0 (.string nm) rfl
    have x1 := box_at _ _ K2.out 1 (.int .i64 kd) rfl
    have x2 := box_at _ _ K2.out 2 (.string a) rfl
    have x3 := box_at _ _ K2.out 3 (.string b) rfl
    have x4 := box_at _ _ K2.out 4 (.int .i64 m) rfl
    have x5 := box_at _ _ K2.out 5 (.int .i64 wi) rfl
    have x6 := box_at _ _ K2.out 6 (.string th) rfl
    have x7 := box_at _ _ K2.out 7 (.string el) rfl
    have C : Hid _ := okI_any (fun q => q = u2.heap.size) [(nm, kd, a, b, m, wi, th, el)] (.slice (some ⟨u2.heap.size, 0, none⟩) 1 1) (u2.alloc (.cells #[.string nm, .int .i64 kd, .string a, .string b, .int .i64 m, .int .i64 wi, .string th, .string el] 24)) (one_at 24 u2 nm a b th el kd m wi PZ.out) (fun q hq => by subst hq; simp) HT.out
    go_wp2_with fail
    refine Calls.mono C.out ?_
    clear C x0 x1 x2 x3 x4 x5 x6 x7
    rintro e u3 ⟨rfl, hb⟩
    rw [RC]
    have K3 : Hid (Below (w1.heap.size + 1) (w1.alloc (.cells #[.string nm, .int .i64 kd, .string a, .string b, .int .i64 m, .int .i64 wi, .string th, .string el] 24)) u3) := below_of (K2.out.alloc (by have := K2.out.size; simpa using this) _) hb
    clear hb K2
    have x0 := box_at _ _ K3.out 0 (.string nm) rfl
    have x1 := box_at _ _ K3.out 1 (.int .i64 kd) rfl
    have x2 := box_at _ _ K3.out 2 (.string a) rfl
    have x3 := box_at _ _ K3.out 3 (.string b) rfl
    have x4 := box_at _ _ K3.out 4 (.int .i64 m) rfl
    have x5 := box_at _ _ K3.out 5 (.int .i64 wi) rfl
    have x6 := box_at _ _ K3.out 6 (.string th) rfl
    have x7 := box_at _ _ K3.out 7 (.string el) rfl
    have C : Hid _ := phaseX_any nm a b th el kd m wi u3 hn1 hn2 hn3 hn4 hn5
    go_wp2_with fail
    refine Calls.mono C.out ?_
    clear C x0 x1 x2 x3 x4 x5 x6 x7
    rintro e u4 ⟨rfl, hb⟩
    rw [OK]
    have K4 : Hid (Below (w1.heap.size + 1) (w1.alloc (.cells #[.string nm, .int .i64 kd, .string a, .string b, .int .i64 m, .int .i64 wi, .string th, .string el] 24)) u4) := below_of K3.out hb
    clear hb K3
    have x0 := box_at _ _ K4.out 0 (.string nm) rfl
    have x1 := box_at _ _ K4.out 1 (.int .i64 kd) rfl
    have x2 := box_at _ _ K4.out 2 (.string a) rfl
    have x3 := box_at _ _ K4.out 3 (.string b) rfl
    have x4 := box_at _ _ K4.out 4 (.int .i64 m) rfl
    have x5 := box_at _ _ K4.out 5 (.int .i64 wi) rfl
    have x6 := box_at _ _ K4.out 6 (.string th) rfl
    have x7 := box_at _ _ K4.out 7 (.string el) rfl
    have C : Hid _ := okX_any (fun q => q = u4.heap.size) [(nm, kd, a, b, m, wi, th, el)] (.slice (some ⟨u4.heap.size, 0, none⟩) 1 1) (u4.alloc (.cells #[.string nm, .int .i64 kd, .string a, .string b, .int .i64 m, .int .i64 wi, .string th, .string el] 24)) (one_at 24 u4 nm a b th el kd m wi PZ.out) (fun q hq => by subst hq; simp)
    go_wp2_with fail
    refine Calls.mono C.out ?_
    clear C x0 x1 x2 x3 x4 x5 x6 x7
    rintro e u5 ⟨rfl, hb⟩
    rw [RC]
    have K5 : Hid (Below (w1.heap.size + 1) (w1.alloc (.cells #[.string nm, .int .i64 kd, .string a, .string b, .int .i64 m, .int .i64 wi, .string th, .string el] 24)) u5) := below_of (K4.out.alloc (by have := K4.out.size; simpa using this) _) hb
    clear hb K4
    have x0 := box_at _ _ K5.out 0 (.string nm) rfl
    have x1 := box_at _ _ K5.out 1 (.int .i64 kd) rfl
    have x2 := box_at _ _ K5.out 2 (.string a) rfl
    have x3 := box_at _ _ K5.out 3 (.string b) rfl
    have x4 := box_at _ _ K5.out 4 (.int .i64 m) rfl
    have x5 := box_at _ _ K5.out 5 (.int .i64 wi) rfl
    have x6 := box_at _ _ K5.out 6 (.string th) rfl
    have x7 := box_at _ _ K5.out 7 (.string el) rfl
    go_wp2_with fail
    go_ret
    exact ⟨rfl, B1.out.trans ((below_end K5.out).mono B1.out.size)⟩
  · have NM := HNM.out OK
    rcases HR1.out with TH | TH | TH | TH
    · have RC : recB [(nm, kd, a, b, m, wi, th, el)] = false := by rw [HREC.out, OK, TH]; rfl
      have C : Hid _ := phaseI_any nm a b th el kd m wi u1 hn1 hn2 hn3 hn4 hn5 hk1 hk2 hk3
      go_wp2_with fail
      refine Calls.mono C.out ?_
      clear C x0 x1 x2 x3 x4 x5 x6 x7
      rintro e u2 ⟨rfl, hb⟩
      rw [OK]
      have K2 : Hid (Below (w1.heap.size + 1) (w1.alloc (.cells #[.string nm, .int .i64 kd, .string a, .string b, .int .i64 m, .int .i64 wi, .string th, .string el] 24)) u2) := below_of K1.out hb
      clear hb K1
      have x0 := box_at _ _ K2.out 0 (.string nm) rfl
      have x1 := box_at _ _ K2.out 1 (.int .i64 kd) rfl
      have x2 := box_at _ _ K2.out 2 (.string a) rfl
      have x3 := box_at _ _ K2.out 3 (.string b) rfl
      have x4 := box_at _ _ K2.out 4 (.int .i64 m) rfl
      have x5 := box_at _ _ K2.out 5 (.int .i64 wi) rfl
      have x6 := box_at _ _ K2.out 6 (.string th) rfl
      have x7 := box_at _ _ K2.out 7 (.string el) rfl
      have C : Hid _ := okI_any (fun q => q = u2.heap.size) [(nm, kd, a, b, m, wi, th, el)] (.slice (some ⟨u2.heap.size, 0, none⟩) 1 1) (u2.alloc (.cells #[.string nm, .int .i64 kd, .string a, .string b, .int .i64 m, .int .i64 wi, .string th, .string el] 24)) (one_at 24 u2 nm a b th el kd m wi PZ.out) (fun q hq => by subst hq; simp) HT.out
      go_wp2_with fail
      refine Calls.mono C.out ?_
      clear C x0 x1 x2 x3 x4 x5 x6 x7
      rintro e u3 ⟨rfl, hb⟩
      rw [RC]
      have K3 : Hid (Below (w1.heap.size + 1) (w1.alloc (.cells #[.string nm, .int .i64 kd, .string a, .string b, .int .i64 m, .int .i64 wi, .string th, .string el] 24)) u3) := below_of (K2.out.alloc (by have := K2.out.size; simpa using this) _) hb
      clear hb K2
      have x0 := box_at _ _ K3.out 0 (.string nm) rfl
      have x1 := box_at _ _ K3.out 1 (.int .i64 kd) rfl
      have x2 := box_at _ _ K3.out 2 (.string a) rfl
      have x3 := box_at _ _ K3.out 3 (.string b) rfl
      have x4 := box_at _ _ K3.out 4 (.int .i64 m) rfl
      have x5 := box_at _ _ K3.out 5 (.int .i64 wi) rfl
      have x6 := box_at _ _ K3.out 6 (.string th) rfl
      have x7 := box_at _ _ K3.out 7 (.string el) rfl
      have C : Hid _ := phaseX_any nm a b th el kd m wi u3 hn1 hn2 hn3 hn4 hn5
      go_wp2_with fail
      refine Calls.mono C.out ?_
      clear C x0 x1 x2 x3 x4 x5 x6 x7
      rintro e u4 ⟨rfl, hb⟩
      rw [OK]
      have K4 : Hid (Below (w1.heap.size + 1) (w1.alloc (.cells #[.string nm, .int .i64 kd, .string a, .string b, .int .i64 m, .int .i64 wi, .string th, .string el] 24)) u4) := below_of K3.out hb
      clear hb K3
      have x0 := box_at _ _ K4.out 0 (.string nm) rfl
      have x1 := box_at _ _ K4.out 1 (.int .i64 kd) rfl
      have x2 := box_at _ _ K4.out 2 (.string a) rfl
      have x3 := box_at _ _ K4.out 3 (.string b) rfl
      have x4 := box_at _ _ K4.out 4 (.int .i64 m) rfl
      have x5 := box_at _ _ K4.out 5 (.int .i64 wi) rfl
      have x6 := box_at _ _ K4.out 6 (.string th) rfl
      have x7 := box_at _ _ K4.out 7 (.string el) rfl
      have C : Hid _ := okX_any (fun q => q = u4.heap.size) [(nm, kd, a, b, m, wi, th, el)] (.slice (some ⟨u4.heap.size, 0, none⟩) 1 1) (u4.alloc (.cells #[.string nm, .int .i64 kd, .string a, .string b, .int .i64 m, .int .i64 wi, .string th, .string el] 24)) (one_at 24 u4 nm a b th el kd m wi PZ.out) (fun q hq => by subst hq; simp)
      go_wp2_with fail
      refine Calls.mono C.out ?_
      clear C x0 x1 x2 x3 x4 x5 x6 x7
      rintro e u5 ⟨rfl, hb⟩
      rw [RC]
      have K5 : Hid (Below (w1.heap.size + 1) (w1.alloc (.cells #[.string nm, .int .i64 kd, .string a, .string b, .int .i64 m, .int .i64 wi, .string th, .string el] 24)) u5) := below_of (K4.out.alloc (by have := K4.out.size; simpa using this) _) hb
      clear hb K4
      have x0 := box_at _ _ K5.out 0 (.string nm) rfl
      have x1 := box_at _ _ K5.out 1 (.int .i64 kd) rfl
      have x2 := box_at _ _ K5.out 2 (.string a) rfl
      have x3 := box_at _ _ K5.out 3 (.string b) rfl
      have x4 := box_at _ _ K5.out 4 (.int .i64 m) rfl
      have x5 := box_at _ _ K5.out 5 (.int .i64 wi) rfl
      have x6 := box_at _ _ K5.out 6 (.string th) rfl
      have x7 := box_at _ _ K5.out 7 (.string el) rfl
      go_wp2_with fail
      refine (endP_any th _).mono ?_; rintro e u6 ⟨rfl, hu6⟩
      have hu6' := hu6.symm
      subst hu6'
      rw [TH]
      go_wp2_with fail
      refine (endP_any nm _).mono ?_; rintro e u8 ⟨rfl, hu8⟩
      have hu8' := hu8.symm
      subst hu8'
      rw [NM]
      go_wp2_with fail
      go_ret
      exact ⟨rfl, B1.out.trans ((below_end K5.out).mono B1.out.size)⟩
    · rcases HR2.out with EL | EL | EL | EL
      · have RC : recB [(nm, kd, a, b, m, wi, th, el)] = false := by rw [HREC.out, OK, TH, EL]; rfl
        have C : Hid _ := phaseI_any nm a b th el kd m wi u1 hn1 hn2 hn3 hn4 hn5 hk1 hk2 hk3
        go_wp2_with fail
        refine Calls.mono C.out ?_
        clear C x0 x1 x2 x3 x4 x5 x6 x7
        rintro e u2 ⟨rfl, hb⟩
        rw [OK]
        have K2 : Hid (Below (w1.heap.size + 1) (w1.alloc (.cells #[.string nm, .int .i64 kd, .string a, .string b, .int .i64 m, .int .i64 wi, .string th, .string el] 24)) u2) := below_of K1.out hb
        clear hb K1
        have x0 := box_at _ _ K2.out 0 (.string nm) rfl
        have x1 := box_at _ _ K2.out 1 (.int .i64 kd) rfl
        have x2 := box_at _ _ K2.out 2 (.string a) rfl
        have x3 := box_at _ _ K2.out 3 (.string b) rfl
        have x4 := box_at _ _ K2.out 4 (.int .i64 m) rfl
        have x5 := box_at _ _ K2.out 5 (.int .i64 wi) rfl
        have x6 := box_at _ _ K2.out 6 (.string th) rfl
        have x7 := box_at _ _ K2.out 7 (.string el) rfl
        have C : Hid _ := okI_any (fun q => q = u2.heap.size) [(nm, kd, a, b, m, wi, th, el)] (.slice (some ⟨u2.heap.size, 0, none⟩) 1 1) (u2.alloc (.cells #[.string nm, .int .i64 kd, .string a, .string b, .int .i64 m, .int .i64 wi, .string th, .string el] 24)) (one_at 24 u2 nm a b th el kd m wi PZ.out) (fun q hq => by subst hq; simp) HT.out
        go_wp2_with fail
        refine Calls.mono C.out ?_
        clear C x0 x1 x2 x3 x4 x5 x6 x7
        rintro e u3 ⟨rfl, hb⟩
        rw [RC]
        have K3 : Hid (Below (w1.heap.size + 1) (w1.alloc (.cells #[.string nm, .int .i64 kd, .string a, .string b, .int .i64 m, .int .i64 wi, .string th, .string el] 24)) u3) := below_of (K2.out.alloc (by have := K2.out.size; simpa using this) _) hb
        clear hb K2
        have x0 := box_at _ _ K3.out 0 (.string nm) rfl
        have x1 := box_at _ _ K3.out 1 (.int .i64 kd) rfl
        have x2 := box_at _ _ K3.out 2 (.string a) rfl
        have x3 := box_at _ _ K3.out 3 (.string b) rfl
        have x4 := box_at _ _ K3.out 4 (.int .i64 m) rfl
        have x5 := box_at _ _ K3.out 5 (.int .i64 wi) rfl
        have x6 := box_at _ _ K3.out 6 (.string th) rfl
        have x7 := box_at _ _ K3.out 7 (.string el) rfl
        have C : Hid _ := phaseX_any nm a b th el kd m wi u3 hn1 hn2 hn3 hn4 hn5
        go_wp2_with fail
        refine Calls.mono C.out ?_
        clear C x0 x1 x2 x3 x4 x5 x6 x7
        rintro e u4 ⟨rfl, hb⟩
        rw [OK]
        have K4 : Hid (Below (w1.heap.size + 1) (w1.alloc (.cells #[.string nm, .int .i64 kd, .string a, .string b, .int .i64 m, .int .i64 wi, .string th, .string el] 24)) u4) := below_of K3.out hb
        clear hb K3
        have x0 := box_at _ _ K4.out 0 (.string nm) rfl
        have x1 := box_at _ _ K4.out 1 (.int .i64 kd) rfl
        have x2 := box_at _ _ K4.out 2 (.string a) rfl
        have x3 := box_at _ _ K4.out 3 (.string b) rfl
        have x4 := box_at _ _ K4.out 4 (.int .i64 m) rfl
        have x5 := box_at _ _ K4.out 5 (.int .i64 wi) rfl
        have x6 := box_at _ _ K4.out 6 (.string th) rfl
        have x7 := box_at _ _ K4.out 7 (.string el) rfl
        have C : Hid _ := okX_any (fun q => q = u4.heap.size) [(nm, kd, a, b, m, wi, th, el)] (.slice (some ⟨u4.heap.size, 0, none⟩) 1 1) (u4.alloc (.cells #[.string nm, .int .i64 kd, .string a, .string b, .int .i64 m, .int .i64 wi, .string th, .string el] 24)) (one_at 24 u4 nm a b th el kd m wi PZ.out) (fun q hq => by subst hq; simp)
        go_wp2_with fail
        refine Calls.mono C.out ?_
        clear C x0 x1 x2 x3 x4 x5 x6 x7
        rintro e u5 ⟨rfl, hb⟩
        rw [RC]
        have K5 : Hid (Below (w1.heap.size + 1) (w1.alloc (.cells #[.string nm, .int .i64 kd, .string a, .string b, .int .i64 m, .int .i64 wi, .string th, .string el] 24)) u5) := below_of (K4.out.alloc (by have := K4.out.size; simpa using this) _) hb
        clear hb K4
        have x0 := box_at _ _ K5.out 0 (.string nm) rfl
        have x1 := box_at _ _ K5.out 1 (.int .i64 kd) rfl
        have x2 := box_at _ _ K5.out 2 (.string a) rfl
        have x3 := box_at _ _ K5.out 3 (.string b) rfl
        have x4 := box_at _ _ K5.out 4 (.int .i64 m) rfl
        have x5 := box_at _ _ K5.out 5 (.int .i64 wi) rfl
        have x6 := box_at _ _ K5.out 6 (.string th) rfl
        have x7 := box_at _ _ K5.out 7 (.string el) rfl
        go_wp2_with fail
        refine (endP_any th _).mono ?_; rintro e u6 ⟨rfl, hu6⟩
        have hu6' := hu6.symm
        subst hu6'
        rw [TH]
        go_wp2_with fail
        refine (endP_any el _).mono ?_; rintro e u7 ⟨rfl, hu7⟩
        have hu7' := hu7.symm
        subst hu7'
        rw [EL]
        go_wp2_with fail
        refine (endP_any nm _).mono ?_; rintro e u8 ⟨rfl, hu8⟩
        have hu8' := hu8.symm
        subst hu8'
        rw [NM]
        go_wp2_with fail
        go_ret
        exact ⟨rfl, B1.out.trans ((below_end K5.out).mono B1.out.size)⟩
      · have RC : recB [(nm, kd, a, b, m, wi, th, el)] = true := by rw [HREC.out, OK, TH, EL]; rfl
        have C : Hid _ := phaseI_any nm a b th el kd m wi u1 hn1 hn2 hn3 hn4 hn5 hk1 hk2 hk3
        go_wp2_with fail
        refine Calls.mono C.out ?_
        clear C x0 x1 x2 x3 x4 x5 x6 x7
        rintro e u2 ⟨rfl, hb⟩
        rw [OK]
        have K2 : Hid (Below (w1.heap.size + 1) (w1.alloc (.cells #[.string nm, .int .i64 kd, .string a, .string b, .int .i64 m, .int .i64 wi, .string th, .string el] 24)) u2) := below_of K1.out hb
        clear hb K1
        have x0 := box_at _ _ K2.out 0 (.string nm) rfl
        have x1 := box_at _ _ K2.out 1 (.int .i64 kd) rfl
        have x2 := box_at _ _ K2.out 2 (.string a) rfl
        have x3 := box_at _ _ K2.out 3 (.string b) rfl
        have x4 := box_at _ _ K2.out 4 (.int .i64 m) rfl
        have x5 := box_at _ _ K2.out 5 (.int .i64 wi) rfl
        have x6 := box_at _ _ K2.out 6 (.string th) rfl
        have x7 := box_at _ _ K2.out 7 (.string el) rfl
        have C : Hid _ := okI_any (fun q => q = u2.heap.size) [(nm, kd, a, b, m, wi, th, el)] (.slice (some ⟨u2.heap.size, 0, none⟩) 1 1) (u2.alloc (.cells #[.string nm, .int .i64 kd, .string a, .string b, .int .i64 m, .int .i64 wi, .string th, .string el] 24)) (one_at 24 u2 nm a b th el kd m wi PZ.out) (fun q hq => by subst hq; simp) HT.out
        go_wp2_with fail
        refine Calls.mono C.out ?_
        clear C x0 x1 x2 x3 x4 x5 x6 x7
        rintro e u3 ⟨rfl, hb⟩
        rw [RC]
        have K3 : Hid (Below (w1.heap.size + 1) (w1.alloc (.cells #[.string nm, .int .i64 kd, .string a, .string b, .int .i64 m, .int .i64 wi, .string th, .string el] 24)) u3) := below_of (K2.out.alloc (by have := K2.out.size; simpa using this) _) hb
        clear hb K2
        have x0 := box_at _ _ K3.out 0 (.string nm) rfl
        have x1 := box_at _ _ K3.out 1 (.int .i64 kd) rfl
        have x2 := box_at _ _ K3.out 2 (.string a) rfl
        have x3 := box_at _ _ K3.out 3 (.string b) rfl
        have x4 := box_at _ _ K3.out 4 (.int .i64 m) rfl
        have x5 := box_at _ _ K3.out 5 (.int .i64 wi) rfl
        have x6 := box_at _ _ K3.out 6 (.string th) rfl
        have x7 := box_at _ _ K3.out 7 (.string el) rfl
        have C : Hid _ := phaseX_any nm a b th el kd m wi u3 hn1 hn2 hn3 hn4 hn5
        go_wp2_with fail
        refine Calls.mono C.out ?_
        clear C x0 x1 x2 x3 x4 x5 x6 x7
        rintro e u4 ⟨rfl, hb⟩
        rw [OK]
        have K4 : Hid (Below (w1.heap.size + 1) (w1.alloc (.cells #[.string nm, .int .i64 kd, .string a, .string b, .int .i64 m, .int .i64 wi, .string th, .string el] 24)) u4) := below_of K3.out hb
        clear hb K3
        have x0 := box_at _ _ K4.out 0 (.string nm) rfl
        have x1 := box_at _ _ K4.out 1 (.int .i64 kd) rfl
        have x2 := box_at _ _ K4.out 2 (.string a) rfl
        have x3 := box_at _ _ K4.out 3 (.string b) rfl
        have x4 := box_at _ _ K4.out 4 (.int .i64 m) rfl
        have x5 := box_at _ _ K4.out 5 (.int .i64 wi) rfl
        have x6 := box_at _ _ K4.out 6 (.string th) rfl
        have x7 := box_at _ _ K4.out 7 (.string el) rfl
        have C : Hid _ := okX_any (fun q => q = u4.heap.size) [(nm, kd, a, b, m, wi, th, el)] (.slice (some ⟨u4.heap.size, 0, none⟩) 1 1) (u4.alloc (.cells #[.string nm, .int .i64 kd, .string a, .string b, .int .i64 m, .int .i64 wi, .string th, .string el] 24)) (one_at 24 u4 nm a b th el kd m wi PZ.out) (fun q hq => by subst hq; simp)
        go_wp2_with fail
        refine Calls.mono C.out ?_
        clear C x0 x1 x2 x3 x4 x5 x6 x7
        rintro e u5 ⟨rfl, hb⟩
        rw [RC]
        have K5 : Hid (Below (w1.heap.size + 1) (w1.alloc (.cells #[.string nm, .int .i64 kd, .string a, .string b, .int .i64 m, .int .i64 wi, .string th, .string el] 24)) u5) := below_of (K4.out.alloc (by have := K4.out.size; simpa using this) _) hb
        clear hb K4
        have x0 := box_at _ _ K5.out 0 (.string nm) rfl
        have x1 := box_at _ _ K5.out 1 (.int .i64 kd) rfl
        have x2 := box_at _ _ K5.out 2 (.string a) rfl
        have x3 := box_at _ _ K5.out 3 (.string b) rfl
        have x4 := box_at _ _ K5.out 4 (.int .i64 m) rfl
        have x5 := box_at _ _ K5.out 5 (.int .i64 wi) rfl
        have x6 := box_at _ _ K5.out 6 (.string th) rfl
        have x7 := box_at _ _ K5.out 7 (.string el) rfl
        go_wp2_with fail
        refine (endP_any th _).mono ?_; rintro e u6 ⟨rfl, hu6⟩
        have hu6' := hu6.symm
        subst hu6'
        rw [TH]
        go_wp2_with fail
        refine (endP_any el _).mono ?_; rintro e u7 ⟨rfl, hu7⟩
        have hu7' := hu7.symm
        subst hu7'
        rw [EL]
        go_wp2_with fail
        refine (endP_any nm _).mono ?_; rintro e u8 ⟨rfl, hu8⟩
        have hu8' := hu8.symm
        subst hu8'
        rw [NM]
        go_wp2_with fail
        go_ret
        exact ⟨rfl, B1.out.trans ((below_end K5.out).mono B1.out.size)⟩
      · have RC : recB [(nm, kd, a, b, m, wi, th, el)] = true := by rw [HREC.out, OK, TH, EL]; rfl
        have C : Hid _ := phaseI_any nm a b th el kd m wi u1 hn1 hn2 hn3 hn4 hn5 hk1 hk2 hk3
        go_wp2_with fail
        refine Calls.mono C.out ?_
        clear C x0 x1 x2 x3 x4 x5 x6 x7
        rintro e u2 ⟨rfl, hb⟩
        rw [OK]
        have K2 : Hid (Below (w1.heap.size + 1) (w1.alloc (.cells #[.string nm, .int .i64 kd, .string a, .string b, .int .i64 m, .int .i64 wi, .string th, .string el] 24)) u2) := below_of K1.out hb
        clear hb K1
        have x0 := box_at _ _ K2.out 0 (.string nm) rfl
        have x1 := box_at _ _ K2.out 1 (.int .i64 kd) rfl
        have x2 := box_at _ _ K2.out 2 (.string a) rfl
        have x3 := box_at _ _ K2.out 3 (.string b) rfl
        have x4 := box_at _ _ K2.out 4 (.int .i64 m) rfl
        have x5 := box_at _ _ K2.out 5 (.int .i64 wi) rfl
        have x6 := box_at _ _ K2.out 6 (.string th) rfl
        have x7 := box_at _ _ K2.out 7 (.string el) rfl
        have C : Hid _ := okI_any (fun q => q = u2.heap.size) [(nm, kd, a, b, m, wi, th, el)] (.slice (some ⟨u2.heap.size, 0, none⟩) 1 1) (u2.alloc (.cells #[.string nm, .int .i64 kd, .string a, .string b, .int .i64 m, .int .i64 wi, .string th, .string el] 24)) (one_at 24 u2 nm a b th el kd m wi PZ.out) (fun q hq => by subst hq; simp) HT.out
        go_wp2_with fail
        refine Calls.mono C.out ?_
        clear C x0 x1 x2 x3 x4 x5 x6 x7
        rintro e u3 ⟨rfl, hb⟩
        rw [RC]
        have K3 : Hid (Below (w1.heap.size + 1) (w1.alloc (.cells #[.string nm, .int .i64 kd, .string a, .string b, .int .i64 m, .int .i64 wi, .string th, .string el] 24)) u3) := below_of (K2.out.alloc (by have := K2.out.size; simpa using this) _) hb
        clear hb K2
        have x0 := box_at _ _ K3.out 0 (.string nm) rfl
        have x1 := box_at _ _ K3.out 1 (.int .i64 kd) rfl
        have x2 := box_at _ _ K3.out 2 (.string a) rfl
        have x3 := box_at _ _ K3.out 3 (.string b) rfl
        have x4 := box_at _ _ K3.out 4 (.int .i64 m) rfl
        have x5 := box_at _ _ K3.out 5 (.int .i64 wi) rfl
        have x6 := box_at _ _ K3.out 6 (.string th) rfl
        have x7 := box_at _ _ K3.out 7 (.string el) rfl
        have C : Hid _ := phaseX_any nm a b th el kd m wi u3 hn1 hn2 hn3 hn4 hn5
        go_wp2_with fail
        refine Calls.mono C.out ?_
        clear C x0 x1 x2 x3 x4 x5 x6 x7
        rintro e u4 ⟨rfl, hb⟩
        rw [OK]
        have K4 : Hid (Below (w1.heap.size + 1) (w1.alloc (.cells #[.string nm, .int .i64 kd, .string a, .string b, .int .i64 m, .int .i64 wi, .string th, .string el] 24)) u4) := below_of K3.out hb
        clear hb K3
        have x0 := box_at _ _ K4.out 0 (.string nm) rfl
        have x1 := box_at _ _ K4.out 1 (.int .i64 kd) rfl
        have x2 := box_at _ _ K4.out 2 (.string a) rfl
        have x3 := box_at _ _ K4.out 3 (.string b) rfl
        have x4 := box_at _ _ K4.out 4 (.int .i64 m) rfl
        have x5 := box_at _ _ K4.out 5 (.int .i64 wi) rfl
        have x6 := box_at _ _ K4.out 6 (.string th) rfl
        have x7 := box_at _ _ K4.out 7 (.string el) rfl
        have C : Hid _ := okX_any (fun q => q = u4.heap.size) [(nm, kd, a, b, m, wi, th, el)] (.slice (some ⟨u4.heap.size, 0, none⟩) 1 1) (u4.alloc (.cells #[.string nm, .int .i64 kd, .string a, .string b, .int .i64 m, .int .i64 wi, .string th, .string el] 24)) (one_at 24 u4 nm a b th el kd m wi PZ.out) (fun q hq => by subst hq; simp)
        go_wp2_with fail
        refine Calls.mono C.out ?_
        clear C x0 x1 x2 x3 x4 x5 x6 x7
        rintro e u5 ⟨rfl, hb⟩
        rw [RC]
        have K5 : Hid (Below (w1.heap.size + 1) (w1.alloc (.cells #[.string nm, .int .i64 kd, .string a, .string b, .int .i64 m, .int .i64 wi, .string th, .string el] 24)) u5) := below_of (K4.out.alloc (by have := K4.out.size; simpa using this) _) hb
        clear hb K4
        have x0 := box_at _ _ K5.out 0 (.string nm) rfl
        have x1 := box_at _ _ K5.out 1 (.int .i64 kd) rfl
        have x2 := box_at _ _ K5.out 2 (.string a) rfl
        have x3 := box_at _ _ K5.out 3 (.string b) rfl
        have x4 := box_at _ _ K5.out 4 (.int .i64 m) rfl
        have x5 := box_at _ _ K5.out 5 (.int .i64 wi) rfl
        have x6 := box_at _ _ K5.out 6 (.string th) rfl
        have x7 := box_at _ _ K5.out 7 (.string el) rfl
        go_wp2_with fail
        refine (endP_any th _).mono ?_; rintro e u6 ⟨rfl, hu6⟩
        have hu6' := hu6.symm
        subst hu6'
        rw [TH]
        go_wp2_with fail
        refine (endP_any el _).mono ?_; rintro e u7 ⟨rfl, hu7⟩
        have hu7' := hu7.symm
        subst hu7'
        rw [EL]
        go_wp2_with fail
        refine (endP_any nm _).mono ?_; rintro e u8 ⟨rfl, hu8⟩
        have hu8' := hu8.symm
        subst hu8'
        rw [NM]
        go_wp2_with fail
        go_ret
        exact ⟨rfl, B1.out.trans ((below_end K5.out).mono B1.out.size)⟩
      · have RC : recB [(nm, kd, a, b, m, wi, th, el)] = true := by rw [HREC.out, OK, TH, EL]; rfl
        have C : Hid _ := phaseI_any nm a b th el kd m wi u1 hn1 hn2 hn3 hn4 hn5 hk1 hk2 hk3
        go_wp2_with fail
        refine Calls.mono C.out ?_
        clear C x0 x1 x2 x3 x4 x5 x6 x7
        rintro e u2 ⟨rfl, hb⟩
        rw [OK]
        have K2 : Hid (Below (w1.heap.size + 1) (w1.alloc (.cells #[.string nm, .int .i64 kd, .string a, .string b, .int .i64 m, .int .i64 wi, .string th, .string el] 24)) u2) := below_of K1.out hb
        clear hb K1
        have x0 := box_at _ _ K2.out 0 (.string nm) rfl
        have x1 := box_at _ _ K2.out 1 (.int .i64 kd) rfl
        have x2 := box_at _ _ K2.out 2 (.string a) rfl
        have x3 := box_at _ _ K2.out 3 (.string b) rfl
        have x4 := box_at _ _ K2.out 4 (.int .i64 m) rfl
        have x5 := box_at _ _ K2.out 5 (.int .i64 wi) rfl
        have x6 := box_at _ _ K2.out 6 (.string th) rfl
        have x7 := box_at _ _ K2.out 7 (.string el) rfl
        have C : Hid _ := okI_any (fun q => q = u2.heap.size) [(nm, kd, a, b, m, wi, th, el)] (.slice (some ⟨u2.heap.size, 0, none⟩) 1 1) (u2.alloc (.cells #[.string nm, .int .i64 kd, .string a, .string b, .int .i64 m, .int .i64 wi, .string th, .string el] 24)) (one_at 24 u2 nm a b th el kd m wi PZ.out) (fun q hq => by subst hq; simp) HT.out
        go_wp2_with fail
        refine Calls.mono C.out ?_
        clear C x0 x1 x2 x3 x4 x5 x6 x7
        rintro e u3 ⟨rfl, hb⟩
        rw [RC]
        have K3 : Hid (Below (w1.heap.size + 1) (w1.alloc (.cells #[.string nm, .int .i64 kd, .string a, .string b, .int .i64 m, .int .i64 wi, .string th, .string el] 24)) u3) := below_of (K2.out.alloc (by have := K2.out.size; simpa using this) _) hb
        clear hb K2
        have x0 := box_at _ _ K3.out 0 (.string nm) rfl
        have x1 := box_at _ _ K3.out 1 (.int .i64 kd) rfl
        have x2 := box_at _ _ K3.out 2 (.string a) rfl
        have x3 := box_at _ _ K3.out 3 (.string b) rfl
        have x4 := box_at _ _ K3.out 4 (.int .i64 m) rfl
        have x5 := box_at _ _ K3.out 5 (.int .i64 wi) rfl
        have x6 := box_at _ _ K3.out 6 (.string th) rfl
        have x7 := box_at _ _ K3.out 7 (.string el) rfl
        have C : Hid _ := phaseX_any nm a b th el kd m wi u3 hn1 hn2 hn3 hn4 hn5
        go_wp2_with fail
        refine Calls.mono C.out ?_
        clear C x0 x1 x2 x3 x4 x5 x6 x7
        rintro e u4 ⟨rfl, hb⟩
        rw [OK]
        have K4 : Hid (Below (w1.heap.size + 1) (w1.alloc (.cells #[.string nm, .int .i64 kd, .string a, .string b, .int .i64 m, .int .i64 wi, .string th, .string el] 24)) u4) := below_of K3.out hb
        clear hb K3
        have x0 := box_at _ _ K4.out 0 (.string nm) rfl
        have x1 := box_at _ _ K4.out 1 (.int .i64 kd) rfl
        have x2 := box_at _ _ K4.out 2 (.string a) rfl
        have x3 := box_at _ _ K4.out 3 (.string b) rfl
        have x4 := box_at _ _ K4.out 4 (.int .i64 m) rfl
        have x5 := box_at _ _ K4.out 5 (.int .i64 wi) rfl
        have x6 := box_at _ _ K4.out 6 (.string th) rfl
        have x7 := box_at _ _ K4.out 7 (.string el) rfl
        have C : Hid _ := okX_any (fun q => q = u4.heap.size) [(nm, kd, a, b, m, wi, th, el)] (.slice (some ⟨u4.heap.size, 0, none⟩) 1 1) (u4.alloc (.cells #[.string nm, .int .i64 kd, .string a, .string b, .int .i64 m, .int .i64 wi, .string th, .string el] 24)) (one_at 24 u4 nm a b th el kd m wi PZ.out) (fun q hq => by subst hq; simp)
        go_wp2_with fail
        refine Calls.mono C.out ?_
        clear C x0 x1 x2 x3 x4 x5 x6 x7
        rintro e u5 ⟨rfl, hb⟩
        rw [RC]
        have K5 : Hid (Below (w1.heap.size + 1) (w1.alloc (.cells #[.string nm, .int .i64 kd, .string a, .string b, .int .i64 m, .int .i64 wi, .string th, .string el] 24)) u5) := below_of (K4.out.alloc (by have := K4.out.size; simpa using this) _) hb
        clear hb K4
        have x0 := box_at _ _ K5.out 0 (.string nm) rfl
        have x1 := box_at _ _ K5.out 1 (.int .i64 kd) rfl
        have x2 := box_at _ _ K5.out 2 (.string a) rfl
        have x3 := box_at _ _ K5.out 3 (.string b) rfl
        have x4 := box_at _ _ K5.out 4 (.int .i64 m) rfl
        have x5 := box_at _ _ K5.out 5 (.int .i64 wi) rfl
        have x6 := box_at _ _ K5.out 6 (.string th) rfl
        have x7 := box_at _ _ K5.out 7 (.string el) rfl
        go_wp2_with fail
        refine (endP_any th _).mono ?_; rintro e u6 ⟨rfl, hu6⟩
        have hu6' := hu6.symm
        subst hu6'
        rw [TH]
        go_wp2_with fail
        refine (endP_any el _).mono ?_; rintro e u7 ⟨rfl, hu7⟩
        have hu7' := hu7.symm
        subst hu7'
        rw [EL]
        go_wp2_with fail
        refine (endP_any nm _).mono ?_; rintro e u8 ⟨rfl, hu8⟩
        have hu8' := hu8.symm
        subst hu8'
        rw [NM]
        go_wp2_with fail
        go_ret
        exact ⟨rfl, B1.out.trans ((below_end K5.out).mono B1.out.size)⟩
    · rcases HR2.out with EL | EL | EL | EL
      · have RC : recB [(nm, kd, a, b, m, wi, th, el)] = false := by rw [HREC.out, OK, TH, EL]; rfl
        have C : Hid _ := phaseI_any nm a b th el kd m wi u1 hn1 hn2 hn3 hn4 hn5 hk1 hk2 hk3
        go_wp2_with fail
        refine Calls.mono C.out ?_
        clear C x0 x1 x2 x3 x4 x5 x6 x7
        rintro e u2 ⟨rfl, hb⟩
        rw [OK]
        have K2 : Hid (Below (w1.heap.size + 1) (w1.alloc (.cells #[.string nm, .int .i64 kd, .string a, .string b, .int .i64 m, .int .i64 wi, .string th, .string el] 24)) u2) := below_of K1.out hb
        clear hb K1
        have x0 := box_at _ _ K2.out 0 (.string nm) rfl
        have x1 := box_at _ _ K2.out 1 (.int .i64 kd) rfl
        have x2 := box_at _ _ K2.out 2 (.string a) rfl
        have x3 := box_at _ _ K2.out 3 (.string b) rfl
        have x4 := box_at _ _ K2.out 4 (.int .i64 m) rfl
        have x5 := box_at _ _ K2.out 5 (.int .i64 wi) rfl
        have x6 := box_at _ _ K2.out 6 (.string th) rfl
        have x7 := box_at _ _ K2.out 7 (.string el) rfl
        have C : Hid _ := okI_any (fun q => q = u2.heap.size) [(nm, kd, a, b, m, wi, th, el)] (.slice (some ⟨u2.heap.size, 0, none⟩) 1 1) (u2.alloc (.cells #[.string nm, .int .i64 kd, .string a, .string b, .int .i64 m, .int .i64 wi, .string th, .string el] 24)) (one_at 24 u2 nm a b th el kd m wi PZ.out) (fun q hq => by subst hq; simp) HT.out
        go_wp2_with fail
        refine Calls.mono C.out ?_
        clear C x0 x1 x2 x3 x4 x5 x6 x7
        rintro e u3 ⟨rfl, hb⟩
        rw [RC]
        have K3 : Hid (Below (w1.heap.size + 1) (w1.alloc (.cells #[.string nm, .int .i64 kd, .string a, .string b, .int .i64 m, .int .i64 wi, .string th, .string el] 24)) u3) := below_of (K2.out.alloc (by have := K2.out.size; simpa using this) _) hb
        clear hb K2
        have x0 := box_at _ _ K3.out 0 (.string nm) rfl
        have x1 := box_at _ _ K3.out 1 (.int .i64 kd) rfl
        have x2 := box_at _ _ K3.out 2 (.string a) rfl
        have x3 := box_at _ _ K3.out 3 (.string b) rfl
        have x4 := box_at _ _ K3.out 4 (.int .i64 m) rfl
        have x5 := box_at _ _ K3.out 5 (.int .i64 wi) rfl
        have x6 := box_at _ _ K3.out 6 (.string th) rfl
        have x7 := box_at _ _ K3.out 7 (.string el) rfl
        have C : Hid _ := phaseX_any nm a b th el kd m wi u3 hn1 hn2 hn3 hn4 hn5
        go_wp2_with fail
        refine Calls.mono C.out ?_
        clear C x0 x1 x2 x3 x4 x5 x6 x7
        rintro e u4 ⟨rfl, hb⟩
        rw [OK]
        have K4 : Hid (Below (w1.heap.size + 1) (w1.alloc (.cells #[.string nm, .int .i64 kd, .string a, .string b, .int .i64 m, .int .i64 wi, .string th, .string el] 24)) u4) := below_of K3.out hb
        clear hb K3
        have x0 := box_at _ _ K4.out 0 (.string nm) rfl
        have x1 := box_at _ _ K4.out 1 (.int .i64 kd) rfl
        have x2 := box_at _ _ K4.out 2 (.string a) rfl
        have x3 := box_at _ _ K4.out 3 (.string b) rfl
        have x4 := box_at _ _ K4.out 4 (.int .i64 m) rfl
        have x5 := box_at _ _ K4.out 5 (.int .i64 wi) rfl
        have x6 := box_at _ _ K4.out 6 (.string th) rfl
        have x7 := box_at _ _ K4.out 7 (.string el) rfl
        have C : Hid _ := okX_any (fun q => q = u4.heap.size) [(nm, kd, a, b, m, wi, th, el)] (.slice (some ⟨u4.heap.size, 0, none⟩) 1 1) (u4.alloc (.cells #[.string nm, .int .i64 kd, .string a, .string b, .int .i64 m, .int .i64 wi, .string th, .string el] 24)) (one_at 24 u4 nm a b th el kd m wi PZ.out) (fun q hq => by subst hq; simp)
        go_wp2_with fail
        refine Calls.mono C.out ?_
        clear C x0 x1 x2 x3 x4 x5 x6 x7
        rintro e u5 ⟨rfl, hb⟩
        rw [RC]
        have K5 : Hid (Below (w1.heap.size + 1) (w1.alloc (.cells #[.string nm, .int .i64 kd, .string a, .string b, .int .i64 m, .int .i64 wi, .string th, .string el] 24)) u5) := below_of (K4.out.alloc (by have := K4.out.size; simpa using this) _) hb
        clear hb K4
        have x0 := box_at _ _ K5.out 0 (.string nm) rfl
        have x1 := box_at _ _ K5.out 1 (.int .i64 kd) rfl
        have x2 := box_at _ _ K5.out 2 (.string a) rfl
        have x3 := box_at _ _ K5.out 3 (.string b) rfl
        have x4 := box_at _ _ K5.out 4 (.int .i64 m) rfl
        have x5 := box_at _ _ K5.out 5 (.int .i64 wi) rfl
        have x6 := box_at _ _ K5.out 6 (.string th) rfl
        have x7 := box_at _ _ K5.out 7 (.string el) rfl
        go_wp2_with fail
        refine (endP_any th _).mono ?_; rintro e u6 ⟨rfl, hu6⟩
        have hu6' := hu6.symm
        subst hu6'
        rw [TH]
        go_wp2_with fail
        refine (endP_any el _).mono ?_; rintro e u7 ⟨rfl, hu7⟩
        have hu7' := hu7.symm
        subst hu7'
        rw [EL]
        go_wp2_with fail
        refine (endP_any nm _).mono ?_; rintro e u8 ⟨rfl, hu8⟩
        have hu8' := hu8.symm
        subst hu8'
        rw [NM]
        go_wp2_with fail
        go_ret
        exact ⟨rfl, B1.out.trans ((below_end K5.out).mono B1.out.size)⟩
      · have RC : recB [(nm, kd, a, b, m, wi, th, el)] = true := by rw [HREC.out, OK, TH, EL]; rfl
        have C : Hid _ := phaseI_any nm a b th el kd m wi u1 hn1 hn2 hn3 hn4 hn5 hk1 hk2 hk3
        go_wp2_with fail
        refine Calls.mono C.out ?_
        clear C x0 x1 x2 x3 x4 x5 x6 x7
        rintro e u2 ⟨rfl, hb⟩
        rw [OK]
        have K2 : Hid (Below (w1.heap.size + 1) (w1.alloc (.cells #[.string nm, .int .i64 kd, .string a, .string b, .int .i64 m, .int .i64 wi, .string th, .string el] 24)) u2) := below_of K1.out hb
        clear hb K1
        have x0 := box_at _ _ K2.out 0 (.string nm) rfl
        have x1 := box_at _ _ K2.out 1 (.int .i64 kd) rfl
        have x2 := box_at _ _ K2.out 2 (.string a) rfl
        have x3 := box_at _ _ K2.out 3 (.string b) rfl
        have x4 := box_at _ _ K2.out 4 (.int .i64 m) rfl
        have x5 := box_at _ _ K2.out 5 (.int .i64 wi) rfl
        have x6 := box_at _ _ K2.out 6 (.string th) rfl
        have x7 := box_at _ _ K2.out 7 (.string el) rfl
        have C : Hid _ := okI_any (fun q => q = u2.heap.size) [(nm, kd, a, b, m, wi, th, el)] (.slice (some ⟨u2.heap.size, 0, none⟩) 1 1) (u2.alloc (.cells #[.string nm, .int .i64 kd, .string a, .string b, .int .i64 m, .int .i64 wi, .string th, .string el] 24)) (one_at 24 u2 nm a b th el kd m wi PZ.out) (fun q hq => by subst hq; simp) HT.out
        go_wp2_with fail
        refine Calls.mono C.out ?_
        clear C x0 x1 x2 x3 x4 x5 x6 x7
        rintro e u3 ⟨rfl, hb⟩
        rw [RC]
        have K3 : Hid (Below (w1.heap.size + 1) (w1.alloc (.cells #[.string nm, .int .i64 kd, .string a, .string b, .int .i64 m, .int .i64 wi, .string th, .string el] 24)) u3) := below_of (K2.out.alloc (by have := K2.out.size; simpa using this) _) hb
        clear hb K2
        have x0 := box_at _ _ K3.out 0 (.string nm) rfl
        have x1 := box_at _ _ K3.out 1 (.int .i64 kd) rfl
        have x2 := box_at _ _ K3.out 2 (.string a) rfl
        have x3 := box_at _ _ K3.out 3 (.string b) rfl
        have x4 := box_at _ _ K3.out 4 (.int .i64 m) rfl
        have x5 := box_at _ _ K3.out 5 (.int .i64 wi) rfl
        have x6 := box_at _ _ K3.out 6 (.string th) rfl
        have x7 := box_at _ _ K3.out 7 (.string el) rfl
        have C : Hid _ := phaseX_any nm a b th el kd m wi u3 hn1 hn2 hn3 hn4 hn5
        go_wp2_with fail
        refine Calls.mono C.out ?_
        clear C x0 x1 x2 x3 x4 x5 x6 x7
        rintro e u4 ⟨rfl, hb⟩
        rw [OK]
        have K4 : Hid (Below (w1.heap.size + 1) (w1.alloc (.cells #[.string nm, .int .i64 kd, .string a, .string b, .int .i64 m, .int .i64 wi, .string th, .string el] 24)) u4) := below_of K3.out hb
        clear hb K3
        have x0 := box_at _ _ K4.out 0 (.string nm) rfl
        have x1 := box_at _ _ K4.out 1 (.int .i64 kd) rfl
        have x2 := box_at _ _ K4.out 2 (.string a) rfl
        have x3 := box_at _ _ K4.out 3 (.string b) rfl
        have x4 := box_at _ _ K4.out 4 (.int .i64 m) rfl
        have x5 := box_at _ _ K4.out 5 (.int .i64 wi) rfl
        have x6 := box_at _ _ K4.out 6 (.string th) rfl
        have x7 := box_at _ _ K4.out 7 (.string el) rfl
        have C : Hid _ := okX_any (fun q => q = u4.heap.size) [(nm, kd, a, b, m, wi, th, el)] (.slice (some ⟨u4.heap.size, 0, none⟩) 1 1) (u4.alloc (.cells #[.string nm, .int .i64 kd, .string a, .string b, .int .i64 m, .int .i64 wi, .string th, .string el] 24)) (one_at 24 u4 nm a b th el kd m wi PZ.out) (fun q hq => by subst hq; simp)
        go_wp2_with fail
        refine Calls.mono C.out ?_
        clear C x0 x1 x2 x3 x4 x5 x6 x7
        rintro e u5 ⟨rfl, hb⟩
        rw [RC]
        have K5 : Hid (Below (w1.heap.size + 1) (w1.alloc (.cells #[.string nm, .int .i64 kd, .string a, .string b, .int .i64 m, .int .i64 wi, .string th, .string el] 24)) u5) := below_of (K4.out.alloc (by have := K4.out.size; simpa using this) _) hb
        clear hb K4
        have x0 := box_at _ _ K5.out 0 (.string nm) rfl
        have x1 := box_at _ _ K5.out 1 (.int .i64 kd) rfl
        have x2 := box_at _ _ K5.out 2 (.string a) rfl
        have x3 := box_at _ _ K5.out 3 (.string b) rfl
        have x4 := box_at _ _ K5.out 4 (.int .i64 m) rfl
        have x5 := box_at _ _ K5.out 5 (.int .i64 wi) rfl
        have x6 := box_at _ _ K5.out 6 (.string th) rfl
        have x7 := box_at _ _ K5.out 7 (.string el) rfl
        go_wp2_with fail
        refine (endP_any th _).mono ?_; rintro e u6 ⟨rfl, hu6⟩
        have hu6' := hu6.symm
        subst hu6'
        rw [TH]
        go_wp2_with fail
        refine (endP_any el _).mono ?_; rintro e u7 ⟨rfl, hu7⟩
        have hu7' := hu7.symm
        subst hu7'
        rw [EL]
        go_wp2_with fail
        refine (endP_any nm _).mono ?_; rintro e u8 ⟨rfl, hu8⟩
        have hu8' := hu8.symm
        subst hu8'
        rw [NM]
        go_wp2_with fail
        go_ret
        exact ⟨rfl, B1.out.trans ((below_end K5.out).mono B1.out.size)⟩
      · have RC : recB [(nm, kd, a, b, m, wi, th, el)] = true := by rw [HREC.out, OK, TH, EL]; rfl
        have C : Hid _ := phaseI_any nm a b th el kd m wi u1 hn1 hn2 hn3 hn4 hn5 hk1 hk2 hk3
        go_wp2_with fail
        refine Calls.mono C.out ?_
        clear C x0 x1 x2 x3 x4 x5 x6 x7
        rintro e u2 ⟨rfl, hb⟩
        rw [OK]
        have K2 : Hid (Below (w1.heap.size + 1) (w1.alloc (.cells #[.string nm, .int .i64 kd, .string a, .string b, .int .i64 m, .int .i64 wi, .string th, .string el] 24)) u2) := below_of K1.out hb
        clear hb K1
        have x0 := box_at _ _ K2.out 0 (.string nm) rfl
        have x1 := box_at _ _ K2.out 1 (.int .i64 kd) rfl
        have x2 := box_at _ _ K2.out 2 (.string a) rfl
        have x3 := box_at _ _ K2.out 3 (.string b) rfl
        have x4 := box_at _ _ K2.out 4 (.int .i64 m) rfl
        have x5 := box_at _ _ K2.out 5 (.int .i64 wi) rfl
        have x6 := box_at _ _ K2.out 6 (.string th) rfl
        have x7 := box_at _ _ K2.out 7 (.string el) rfl
        have C : Hid _ := okI_any (fun q => q = u2.heap.size) [(nm, kd, a, b, m, wi, th, el)] (.slice (some ⟨u2.heap.size, 0, none⟩) 1 1) (u2.alloc (.cells #[.string nm, .int .i64 kd, .string a, .string b, .int .i64 m, .int .i64 wi, .string th, .string el] 24)) (one_at 24 u2 nm a b th el kd m wi PZ.out) (fun q hq => by subst hq; simp) HT.out
        go_wp2_with fail
        refine Calls.mono C.out ?_
        clear C x0 x1 x2 x3 x4 x5 x6 x7
        rintro e u3 ⟨rfl, hb⟩
        rw [RC]
        have K3 : Hid (Below (w1.heap.size + 1) (w1.alloc (.cells #[.string nm, .int .i64 kd, .string a, .string b, .int .i64 m, .int .i64 wi, .string th, .string el] 24)) u3) := below_of (K2.out.alloc (by have := K2.out.size; simpa using this) _) hb
        clear hb K2
        have x0 := box_at _ _ K3.out 0 (.string nm) rfl
        have x1 := box_at _ _ K3.out 1 (.int .i64 kd) rfl
        have x2 := box_at _ _ K3.out 2 (.string a) rfl
        have x3 := box_at _ _ K3.out 3 (.string b) rfl
        have x4 := box_at _ _ K3.out 4 (.int .i64 m) rfl
        have x5 := box_at _ _ K3.out 5 (.int .i64 wi) rfl
        have x6 := box_at _ _ K3.out 6 (.string th) rfl
        have x7 := box_at _ _ K3.out 7 (.string el) rfl
        have C : Hid _ := phaseX_any nm a b th el kd m wi u3 hn1 hn2 hn3 hn4 hn5
        go_wp2_with fail
        refine Calls.mono C.out ?_
        clear C x0 x1 x2 x3 x4 x5 x6 x7
        rintro e u4 ⟨rfl, hb⟩
        rw [OK]
        have K4 : Hid (Below (w1.heap.size + 1) (w1.alloc (.cells #[.string nm, .int .i64 kd, .string a, .string b, .int .i64 m, .int .i64 wi, .string th, .string el] 24)) u4) := below_of K3.out hb
        clear hb K3
        have x0 := box_at _ _ K4.out 0 (.string nm) rfl
        have x1 := box_at _ _ K4.out 1 (.int .i64 kd) rfl
        have x2 := box_at _ _ K4.out 2 (.string a) rfl
        have x3 := box_at _ _ K4.out 3 (.string b) rfl
        have x4 := box_at _ _ K4.out 4 (.int .i64 m) rfl
        have x5 := box_at _ _ K4.out 5 (.int .i64 wi) rfl
        have x6 := box_at _ _ K4.out 6 (.string th) rfl
        have x7 := box_at _ _ K4.out 7 (.string el) rfl
        have C : Hid _ := okX_any (fun q => q = u4.heap.size) [(nm, kd, a, b, m, wi, th, el)] (.slice (some ⟨u4.heap.size, 0, none⟩) 1 1) (u4.alloc (.cells #[.string nm, .int .i64 kd, .string a, .string b, .int .i64 m, .int .i64 wi, .string th, .string el] 24)) (one_at 24 u4 nm a b th el kd m wi PZ.out) (fun q hq => by subst hq; simp)
        go_wp2_with fail
        refine Calls.mono C.out ?_
        clear C x0 x1 x2 x3 x4 x5 x6 x7
        rintro e u5 ⟨rfl, hb⟩
        rw [RC]
        have K5 : Hid (Below (w1.heap.size + 1) (w1.alloc (.cells #[.string nm, .int .i64 kd, .string a, .string b, .int .i64 m, .int .i64 wi, .string th, .string el] 24)) u5) := below_of (K4.out.alloc (by have := K4.out.size; simpa using this) _) hb
        clear hb K4
        have x0 := box_at _ _ K5.out 0 (.string nm) rfl
        have x1 := box_at _ _ K5.out 1 (.int .i64 kd) rfl
        have x2 := box_at _ _ K5.out 2 (.string a) rfl
        have x3 := box_at _ _ K5.out 3 (.string b) rfl
        have x4 := box_at _ _ K5.out 4 (.int .i64 m) rfl
        have x5 := box_at _ _ K5.out 5 (.int .i64 wi) rfl
        have x6 := box_at _ _ K5.out 6 (.string th) rfl
        have x7 := box_at _ _ K5.out 7 (.string el) rfl
        go_wp2_with fail
        refine (endP_any th _).mono ?_; rintro e u6 ⟨rfl, hu6⟩
        have hu6' := hu6.symm
        subst hu6'
        rw [TH]
        go_wp2_with fail
        refine (endP_any el _).mono ?_; rintro e u7 ⟨rfl, hu7⟩
        have hu7' := hu7.symm
        subst hu7'
        rw [EL]
        go_wp2_with fail
        refine (endP_any nm _).mono ?_; rintro e u8 ⟨rfl, hu8⟩
        have hu8' := hu8.symm
        subst hu8'
        rw [NM]
        go_wp2_with fail
        go_ret
        exact ⟨rfl, B1.out.trans ((below_end K5.out).mono B1.out.size)⟩
      · have RC : recB [(nm, kd, a, b, m, wi, th, el)] = true := by rw [HREC.out, OK, TH, EL]; rfl
        have C : Hid _ := phaseI_any nm a b th el kd m wi u1 hn1 hn2 hn3 hn4 hn5 hk1 hk2 hk3
        go_wp2_with fail
        refine Calls.mono C.out ?_
        clear C x0 x1 x2 x3 x4 x5 x6 x7
        rintro e u2 ⟨rfl, hb⟩
        rw [OK]
        have K2 : Hid (Below (w1.heap.size + 1) (w1.alloc (.cells #[.string nm, .int .i64 kd, .string a, .string b, .int .i64 m, .int .i64 wi, .string th, .string el] 24)) u2) := below_of K1.out hb
        clear hb K1
        have x0 := box_at _ _ K2.out 0 (.string nm) rfl
        have x1 := box_at _ _ K2.out 1 (.int .i64 kd) rfl
        have x2 := box_at _ _ K2.out 2 (.string a) rfl
        have x3 := box_at _ _ K2.out 3 (.string b) rfl
        have x4 := box_at _ _ K2.out 4 (.int .i64 m) rfl
        have x5 := box_at _ _ K2.out 5 (.int .i64 wi) rfl
        have x6 := box_at _ _ K2.out 6 (.string th) rfl
        have x7 := box_at _ _ K2.out 7 (.string el) rfl
        have C : Hid _ := okI_any (fun q => q = u2.heap.size) [(nm, kd, a, b, m, wi, th, el)] (.slice (some ⟨u2.heap.size, 0, none⟩) 1 1) (u2.alloc (.cells #[.string nm, .int .i64 kd, .string a, .string b, .int .i64 m, .int .i64 wi, .string th, .string el] 24)) (one_at 24 u2 nm a b th el kd m wi PZ.out) (fun q hq => by subst hq; simp) HT.out
        go_wp2_with fail
        refine Calls.mono C.out ?_
        clear C x0 x1 x2 x3 x4 x5 x6 x7
        rintro e u3 ⟨rfl, hb⟩
        rw [RC]
        have K3 : Hid (Below (w1.heap.size + 1) (w1.alloc (.cells #[.string nm, .int .i64 kd, .string a, .string b, .int .i64 m, .int .i64 wi, .string th, .string el] 24)) u3) := below_of (K2.out.alloc (by have := K2.out.size; simpa using this) _) hb
        clear hb K2
        have x0 := box_at _ _ K3.out 0 (.string nm) rfl
        have x1 := box_at _ _ K3.out 1 (.int .i64 kd) rfl
        have x2 := box_at _ _ K3.out 2 (.string a) rfl
        have x3 := box_at _ _ K3.out 3 (.string b) rfl
        have x4 := box_at _ _ K3.out 4 (.int .i64 m) rfl
        have x5 := box_at _ _ K3.out 5 (.int .i64 wi) rfl
        have x6 := box_at _ _ K3.out 6 (.string th) rfl
        have x7 := box_at _ _ K3.out 7 (.string el) rfl
        have C : Hid _ := phaseX_any nm a b th el kd m wi u3 hn1 hn2 hn3 hn4 hn5
        go_wp2_with fail
        refine Calls.mono C.out ?_
        clear C x0 x1 x2 x3 x4 x5 x6 x7
        rintro e u4 ⟨rfl, hb⟩
        rw [OK]
        have K4 : Hid (Below (w1.heap.size + 1) (w1.alloc (.cells #[.string nm, .int .i64 kd, .string a, .string b, .int .i64 m, .int .i64 wi, .string th, .string el] 24)) u4) := below_of K3.out hb
        clear hb K3
        have x0 := box_at _ _ K4.out 0 (.string nm) rfl
        have x1 := box_at _ _ K4.out 1 (.int .i64 kd) rfl
        have x2 := box_at _ _ K4.out 2 (.string a) rfl
        have x3 := box_at _ _ K4.out 3 (.string b) rfl
        have x4 := box_at _ _ K4.out 4 (.int .i64 m) rfl
        have x5 := box_at _ _ K4.out 5 (.int .i64 wi) rfl
        have x6 := box_at _ _ K4.out 6 (.string th) rfl
        have x7 := box_at _ _ K4.out 7 (.string el) rfl
        have C : Hid _ := okX_any (fun q => q = u4.heap.size) [(nm, kd, a, b, m, wi, th, el)] (.slice (some ⟨u4.heap.size, 0, none⟩) 1 1) (u4.alloc (.cells #[.string nm, .int .i64 kd, .string a, .string b, .int .i64 m, .int .i64 wi, .string th, .string el] 24)) (one_at 24 u4 nm a b th el kd m wi PZ.out) (fun q hq => by subst hq; simp)
        go_wp2_with fail
        refine Calls.mono C.out ?_
        clear C x0 x1 x2 x3 x4 x5 x6 x7
        rintro e u5 ⟨rfl, hb⟩
        rw [RC]
        have K5 : Hid (Below (w1.heap.size + 1) (w1.alloc (.cells #[.string nm, .int .i64 kd, .string a, .string b, .int .i64 m, .int .i64 wi, .string th, .string el] 24)) u5) := below_of (K4.out.alloc (by have := K4.out.size; simpa using this) _) hb
        clear hb K4
        have x0 := box_at _ _ K5.out 0 (.string nm) rfl
        have x1 := box_at _ _ K5.out 1 (.int .i64 kd) rfl
        have x2 := box_at _ _ K5.out 2 (.string a) rfl
        have x3 := box_at _ _ K5.out 3 (.string b) rfl
        have x4 := box_at _ _ K5.out 4 (.int .i64 m) rfl
        have x5 := box_at _ _ K5.out 5 (.int .i64 wi) rfl
        have x6 := box_at _ _ K5.out 6 (.string th) rfl
        have x7 := box_at _ _ K5.out 7 (.string el) rfl
        go_wp2_with fail
        refine (endP_any th _).mono ?_; rintro e u6 ⟨rfl, hu6⟩
        have hu6' := hu6.symm
        subst hu6'
        rw [TH]
        go_wp2_with fail
        refine (endP_any el _).mono ?_; rintro e u7 ⟨rfl, hu7⟩
        have hu7' := hu7.symm
        subst hu7'
        rw [EL]
        go_wp2_with fail
        refine (endP_any nm _).mono ?_; rintro e u8 ⟨rfl, hu8⟩
        have hu8' := hu8.symm
        subst hu8'
        rw [NM]
        go_wp2_with fail
        go_ret
        exact ⟨rfl, B1.out.trans ((below_end K5.out).mono B1.out.size)⟩
    · rcases HR2.out with EL | EL | EL | EL
      · have RC : recB [(nm, kd, a, b, m, wi, th, el)] = false := by rw [HREC.out, OK, TH, EL]; rfl
        have C : Hid _ := phaseI_any nm a b th el kd m wi u1 hn1 hn2 hn3 hn4 hn5 hk1 hk2 hk3
        go_wp2_with fail
        refine Calls.mono C.out ?_
        clear C x0 x1 x2 x3 x4 x5 x6 x7
        rintro e u2 ⟨rfl, hb⟩
        rw [OK]
        have K2 : Hid (Below (w1.heap.size + 1) (w1.alloc (.cells #[.string nm, .int .i64 kd, .string a, .string b, .int .i64 m, .int .i64 wi, .string th, .string el] 24)) u2) := below_of K1.out hb
        clear hb K1
        have x0 := box_at _ _ K2.out 0 (.string nm) rfl
        have x1 := box_at _ _ K2.out 1 (.int .i64 kd) rfl
        have x2 := box_at _ _ K2.out 2 (.string a) rfl
        have x3 := box_at _ _ K2.out 3 (.string b) rfl
        have x4 := box_at _ _ K2.out 4 (.int .i64 m) rfl
        have x5 := box_at _ _ K2.out 5 (.int .i64 wi) rfl
        have x6 := box_at _ _ K2.out 6 (.string th) rfl
        have x7 := box_at _ _ K2.out 7 (.string el) rfl
        have C : Hid _ := okI_any (fun q => q = u2.heap.size) [(nm, kd, a, b, m, wi, th, el)] (.slice (some ⟨u2.heap.size, 0, none⟩) 1 1) (u2.alloc (.cells #[.string nm, .int .i64 kd, .string a, .string b, .int .i64 m, .int .i64 wi, .string th, .string el] 24)) (one_at 24 u2 nm a b th el kd m wi PZ.out) (fun q hq => by subst hq; simp) HT.out
        go_wp2_with fail
        refine Calls.mono C.out ?_
        clear C x0 x1 x2 x3 x4 x5 x6 x7
        rintro e u3 ⟨rfl, hb⟩
        rw [RC]
        have K3 : Hid (Below (w1.heap.size + 1) (w1.alloc (.cells #[.string nm, .int .i64 kd, .string a, .string b, .int .i64 m, .int .i64 wi, .string th, .string el] 24)) u3) := below_of (K2.out.alloc (by have := K2.out.size; simpa using this) _) hb
        clear hb K2
        have x0 := box_at _ _ K3.out 0 (.string nm) rfl
        have x1 := box_at _ _ K3.out 1 (.int .i64 kd) rfl
        have x2 := box_at _ _ K3.out 2 (.string a) rfl
        have x3 := box_at _ _ K3.out 3 (.string b) rfl
        have x4 := box_at _ _ K3.out 4 (.int .i64 m) rfl
        have x5 := box_at _ _ K3.out 5 (.int .i64 wi) rfl
        have x6 := box_at _ _ K3.out 6 (.string th) rfl
        have x7 := box_at _ _ K3.out 7 (.string el) rfl
        have C : Hid _ := phaseX_any nm a b th el kd m wi u3 hn1 hn2 hn3 hn4 hn5
        go_wp2_with fail
        refine Calls.mono C.out ?_
        clear C x0 x1 x2 x3 x4 x5 x6 x7
        rintro e u4 ⟨rfl, hb⟩
        rw [OK]
        have K4 : Hid (Below (w1.heap.size + 1) (w1.alloc (.cells #[.string nm, .int .i64 kd, .string a, .string b, .int .i64 m, .int .i64 wi, .string th, .string el] 24)) u4) := below_of K3.out hb
        clear hb K3
        have x0 := box_at _ _ K4.out 0 (.string nm) rfl
        have x1 := box_at _ _ K4.out 1 (.int .i64 kd) rfl
        have x2 := box_at _ _ K4.out 2 (.string a) rfl
        have x3 := box_at _ _ K4.out 3 (.string b) rfl
        have x4 := box_at _ _ K4.out 4 (.int .i64 m) rfl
        have x5 := box_at _ _ K4.out 5 (.int .i64 wi) rfl
        have x6 := box_at _ _ K4.out 6 (.string th) rfl
        have x7 := box_at _ _ K4.out 7 (.string el) rfl
        have C : Hid _ := okX_any (fun q => q = u4.heap.size) [(nm, kd, a, b, m, wi, th, el)] (.slice (some ⟨u4.heap.size, 0, none⟩) 1 1) (u4.alloc (.cells #[.string nm, .int .i64 kd, .string a, .string b, .int .i64 m, .int .i64 wi, .string th, .string el] 24)) (one_at 24 u4 nm a b th el kd m wi PZ.out) (fun q hq => by subst hq; simp)
        go_wp2_with fail
        refine Calls.mono C.out ?_
        clear C x0 x1 x2 x3 x4 x5 x6 x7
        rintro e u5 ⟨rfl, hb⟩
        rw [RC]
        have K5 : Hid (Below (w1.heap.size + 1) (w1.alloc (.cells #[.string nm, .int .i64 kd, .string a, .string b, .int .i64 m, .int .i64 wi, .string th, .string el] 24)) u5) := below_of (K4.out.alloc (by have := K4.out.size; simpa using this) _) hb
        clear hb K4
        have x0 := box_at _ _ K5.out 0 (.string nm) rfl
        have x1 := box_at _ _ K5.out 1 (.int .i64 kd) rfl
        have x2 := box_at _ _ K5.out 2 (.string a) rfl
        have x3 := box_at _ _ K5.out 3 (.string b) rfl
        have x4 := box_at _ _ K5.out 4 (.int .i64 m) rfl
        have x5 := box_at _ _ K5.out 5 (.int .i64 wi) rfl
        have x6 := box_at _ _ K5.out 6 (.string th) rfl
        have x7 := box_at _ _ K5.out 7 (.string el) rfl
        go_wp2_with fail
        refine (endP_any th _).mono ?_; rintro e u6 ⟨rfl, hu6⟩
        have hu6' := hu6.symm
        subst hu6'
        rw [TH]
        go_wp2_with fail
        refine (endP_any el _).mono ?_; rintro e u7 ⟨rfl, hu7⟩
        have hu7' := hu7.symm
        subst hu7'
        rw [EL]
        go_wp2_with fail
        refine (endP_any nm _).mono ?_; rintro e u8 ⟨rfl, hu8⟩
        have hu8' := hu8.symm
        subst hu8'
        rw [NM]
        go_wp2_with fail
        go_ret
        exact ⟨rfl, B1.out.trans ((below_end K5.out).mono B1.out.size)⟩
      · have RC : recB [(nm, kd, a, b, m, wi, th, el)] = true := by rw [HREC.out, OK, TH, EL]; rfl
        have C : Hid _ := phaseI_any nm a b th el kd m wi u1 hn1 hn2 hn3 hn4 hn5 hk1 hk2 hk3
        go_wp2_with fail
        refine Calls.mono C.out ?_
        clear C x0 x1 x2 x3 x4 x5 x6 x7
        rintro e u2 ⟨rfl, hb⟩
        rw [OK]
        have K2 : Hid (Below (w1.heap.size + 1) (w1.alloc (.cells #[.string nm, .int .i64 kd, .string a, .string b, .int .i64 m, .int .i64 wi, .string th, .string el] 24)) u2) := below_of K1.out hb
        clear hb K1
        have x0 := box_at _ _ K2.out 0 (.string nm) rfl
        have x1 := box_at _ _ K2.out 1 (.int .i64 kd) rfl
        have x2 := box_at _ _ K2.out 2 (.string a) rfl
        have x3 := box_at _ _ K2.out 3 (.string b) rfl
        have x4 := box_at _ _ K2.out 4 (.int .i64 m) rfl
        have x5 := box_at _ _ K2.out 5 (.int .i64 wi) rfl
        have x6 := box_at _ _ K2.out 6 (.string th) rfl
        have x7 := box_at _ _ K2.out 7 (.string el) rfl
        have C : Hid _ := okI_any (fun q => q = u2.heap.size) [(nm, kd, a, b, m, wi, th, el)] (.slice (some ⟨u2.heap.size, 0, none⟩) 1 1) (u2.alloc (.cells #[.string nm, .int .i64 kd, .string a, .string b, .int .i64 m, .int .i64 wi, .string th, .string el] 24)) (one_at 24 u2 nm a b th el kd m wi PZ.out) (fun q hq => by subst hq; simp) HT.out
        go_wp2_with fail
        refine Calls.mono C.out ?_
        clear C x0 x1 x2 x3 x4 x5 x6 x7
        rintro e u3 ⟨rfl, hb⟩
        rw [RC]
        have K3 : Hid (Below (w1.heap.size + 1) (w1.alloc (.cells #[.string nm, .int .i64 kd, .string a, .string b, .int .i64 m, .int .i64 wi, .string th, .string el] 24)) u3) := below_of (K2.out.alloc (by have := K2.out.size; simpa using this) _) hb
        clear hb K2
        have x0 := box_at _ _ K3.out 0 (.string nm) rfl
        have x1 := box_at _ _ K3.out 1 (.int .i64 kd) rfl
        have x2 := box_at _ _ K3.out 2 (.string a) rfl
        have x3 := box_at _ _ K3.out 3 (.string b) rfl
        have x4 := box_at _ _ K3.out 4 (.int .i64 m) rfl
        have x5 := box_at _ _ K3.out 5 (.int .i64 wi) rfl
        have x6 := box_at _ _ K3.out 6 (.string th) rfl
        have x7 := box_at _ _ K3.out 7 (.string el) rfl
        have C : Hid _ := phaseX_any nm a b th el kd m wi u3 hn1 hn2 hn3 hn4 hn5
        go_wp2_with fail
        refine Calls.mono C.out ?_
        clear C x0 x1 x2 x3 x4 x5 x6 x7
        rintro e u4 ⟨rfl, hb⟩
        rw [OK]
        have K4 : Hid (Below (w1.heap.size + 1) (w1.alloc (.cells #[.string nm, .int .i64 kd, .string a, .string b, .int .i64 m, .int .i64 wi, .string th, .string el] 24)) u4) := below_of K3.out hb
        clear hb K3
        have x0 := box_at _ _ K4.out 0 (.string nm) rfl
        have x1 := box_at _ _ K4.out 1 (.int .i64 kd) rfl
        have x2 := box_at _ _ K4.out 2 (.string a) rfl
        have x3 := box_at _ _ K4.out 3 (.string b) rfl
        have x4 := box_at _ _ K4.out 4 (.int .i64 m) rfl
        have x5 := box_at _ _ K4.out 5 (.int .i64 wi) rfl
        have x6 := box_at _ _ K4.out 6 (.string th) rfl
        have x7 := box_at _ _ K4.out 7 (.string el) rfl
        have C : Hid _ := okX_any (fun q => q = u4.heap.size) [(nm, kd, a, b, m, wi, th, el)] (.slice (some ⟨u4.heap.size, 0, none⟩) 1 1) (u4.alloc (.cells #[.string nm, .int .i64 kd, .string a, .string b, .int .i64 m, .int .i64 wi, .string th, .string el] 24)) (one_at 24 u4 nm a b th el kd m wi PZ.out) (fun q hq => by subst hq; simp)
        go_wp2_with fail
        refine Calls.mono C.out ?_
        clear C x0 x1 x2 x3 x4 x5 x6 x7
        rintro e u5 ⟨rfl, hb⟩
        rw [RC]
        have K5 : Hid (Below (w1.heap.size + 1) (w1.alloc (.cells #[.string nm, .int .i64 kd, .string a, .string b, .int .i64 m, .int .i64 wi, .string th, .string el] 24)) u5) := below_of (K4.out.alloc (by have := K4.out.size; simpa using this) _) hb
        clear hb K4
        have x0 := box_at _ _ K5.out 0 (.string nm) rfl
        have x1 := box_at _ _ K5.out 1 (.int .i64 kd) rfl
        have x2 := box_at _ _ K5.out 2 (.string a) rfl
        have x3 := box_at _ _ K5.out 3 (.string b) rfl
        have x4 := box_at _ _ K5.out 4 (.int .i64 m) rfl
        have x5 := box_at _ _ K5.out 5 (.int .i64 wi) rfl
        have x6 := box_at _ _ K5.out 6 (.string th) rfl
        have x7 := box_at _ _ K5.out 7 (.string el) rfl
        go_wp2_with fail
        refine (endP_any th _).mono ?_; rintro e u6 ⟨rfl, hu6⟩
        have hu6' := hu6.symm
        subst hu6'
        rw [TH]
        go_wp2_with fail
        refine (endP_any el _).mono ?_; rintro e u7 ⟨rfl, hu7⟩
        have hu7' := hu7.symm
        subst hu7'
        rw [EL]
        go_wp2_with fail
        refine (endP_any nm _).mono ?_; rintro e u8 ⟨rfl, hu8⟩
        have hu8' := hu8.symm
        subst hu8'
        rw [NM]
        go_wp2_with fail
        go_ret
        exact ⟨rfl, B1.out.trans ((below_end K5.out).mono B1.out.size)⟩
      · have RC : recB [(nm, kd, a, b, m, wi, th, el)] = true := by rw [HREC.out, OK, TH, EL]; rfl
        have C : Hid _ := phaseI_any nm a b th el kd m wi u1 hn1 hn2 hn3 hn4 hn5 hk1 hk2 hk3
        go_wp2_with fail
        refine Calls.mono C.out ?_
        clear C x0 x1 x2 x3 x4 x5 x6 x7
        rintro e u2 ⟨rfl, hb⟩
        rw [OK]
        have K2 : Hid (Below (w1.heap.size + 1) (w1.alloc (.cells #[.string nm, .int .i64 kd, .string a, .string b, .int .i64 m, .int .i64 wi, .string th, .string el] 24)) u2) := below_of K1.out hb
        clear hb K1
        have x0 := box_at _ _ K2.out 0 (.string nm) rfl
        have x1 := box_at _ _ K2.out 1 (.int .i64 kd) rfl
        have x2 := box_at _ _ K2.out 2 (.string a) rfl
        have x3 := box_at _ _ K2.out 3 (.string b) rfl
        have x4 := box_at _ _ K2.out 4 (.int .i64 m) rfl
        have x5 := box_at _ _ K2.out 5 (.int .i64 wi) rfl
        have x6 := box_at _ _ K2.out 6 (.string th) rfl
        have x7 := box_at _ _ K2.out 7 (.string el) rfl
        have C : Hid _ := okI_any (fun q => q = u2.heap.size) [(nm, kd, a, b, m, wi, th, el)] (.slice (some ⟨u2.heap.size, 0, none⟩) 1 1) (u2.alloc (.cells #[.string nm, .int .i64 kd, .string a, .string b, .int .i64 m, .int .i64 wi, .string th, .string el] 24)) (one_at 24 u2 nm a b th el kd m wi PZ.out) (fun q hq => by subst hq; simp) HT.out
        go_wp2_with fail
        refine Calls.mono C.out ?_
        clear C x0 x1 x2 x3 x4 x5 x6 x7
        rintro e u3 ⟨rfl, hb⟩
        rw [RC]
        have K3 : Hid (Below (w1.heap.size + 1) (w1.alloc (.cells #[.string nm, .int .i64 kd, .string a, .string b, .int .i64 m, .int .i64 wi, .string th, .string el] 24)) u3) := below_of (K2.out.alloc (by have := K2.out.size; simpa using this) _) hb
        clear hb K2
        have x0 := box_at _ _ K3.out 0 (.string nm) rfl
        have x1 := box_at _ _ K3.out 1 (.int .i64 kd) rfl
        have x2 := box_at _ _ K3.out 2 (.string a) rfl
        have x3 := box_at _ _ K3.out 3 (.string b) rfl
        have x4 := box_at _ _ K3.out 4 (.int .i64 m) rfl
        have x5 := box_at _ _ K3.out 5 (.int .i64 wi) rfl
        have x6 := box_at _ _ K3.out 6 (.string th) rfl
        have x7 := box_at _ _ K3.out 7 (.string el) rfl
        have C : Hid _ := phaseX_any nm a b th el kd m wi u3 hn1 hn2 hn3 hn4 hn5
        go_wp2_with fail
        refine Calls.mono C.out ?_
        clear C x0 x1 x2 x3 x4 x5 x6 x7
        rintro e u4 ⟨rfl, hb⟩
        rw [OK]
        have K4 : Hid (Below (w1.heap.size + 1) (w1.alloc (.cells #[.string nm, .int .i64 kd, .string a, .string b, .int .i64 m, .int .i64 wi, .string th, .string el] 24)) u4) := below_of K3.out hb
        clear hb K3
        have x0 := box_at _ _ K4.out 0 (.string nm) rfl
        have x1 := box_at _ _ K4.out 1 (.int .i64 kd) rfl
        have x2 := box_at _ _ K4.out 2 (.string a) rfl
        have x3 := box_at _ _ K4.out 3 (.string b) rfl
        have x4 := box_at _ _ K4.out 4 (.int .i64 m) rfl
        have x5 := box_at _ _ K4.out 5 (.int .i64 wi) rfl
        have x6 := box_at _ _ K4.out 6 (.string th) rfl
        have x7 := box_at _ _ K4.out 7 (.string el) rfl
        have C : Hid _ := okX_any (fun q => q = u4.heap.size) [(nm, kd, a, b, m, wi, th, el)] (.slice (some ⟨u4.heap.size, 0, none⟩) 1 1) (u4.alloc (.cells #[.string nm, .int .i64 kd, .string a, .string b, .int .i64 m, .int .i64 wi, .string th, .string el] 24)) (one_at 24 u4 nm a b th el kd m wi PZ.out) (fun q hq => by subst hq; simp)
        go_wp2_with fail
        refine Calls.mono C.out ?_
        clear C x0 x1 x2 x3 x4 x5 x6 x7
        rintro e u5 ⟨rfl, hb⟩
        rw [RC]
        have K5 : Hid (Below (w1.heap.size + 1) (w1.alloc (.cells #[.string nm, .int .i64 kd, .string a, .string b, .int .i64 m, .int .i64 wi, .string th, .string el] 24)) u5) := below_of (K4.out.alloc (by have := K4.out.size; simpa using this) _) hb
        clear hb K4
        have x0 := box_at _ _ K5.out 0 (.string nm) rfl
        have x1 := box_at _ _ K5.out 1 (.int .i64 kd) rfl
        have x2 := box_at _ _ K5.out 2 (.string a) rfl
        have x3 := box_at _ _ K5.out 3 (.string b) rfl
        have x4 := box_at _ _ K5.out 4 (.int .i64 m) rfl
        have x5 := box_at _ _ K5.out 5 (.int .i64 wi) rfl
        have x6 := box_at _ _ K5.out 6 (.string th) rfl
        have x7 := box_at _ _ K5.out 7 (.string el) rfl
        go_wp2_with fail
        refine (endP_any th _).mono ?_; rintro e u6 ⟨rfl, hu6⟩
        have hu6' := hu6.symm
        subst hu6'
        rw [TH]
        go_wp2_with fail
        refine (endP_any el _).mono ?_; rintro e u7 ⟨rfl, hu7⟩
        have hu7' := hu7.symm
        subst hu7'
        rw [EL]
        go_wp2_with fail
        refine (endP_any nm _).mono ?_; rintro e u8 ⟨rfl, hu8⟩
        have hu8' := hu8.symm
        subst hu8'
        rw [NM]
        go_wp2_with fail
        go_ret
        exact ⟨rfl, B1.out.trans ((below_end K5.out).mono B1.out.size)⟩
      · have RC : recB [(nm, kd, a, b, m, wi, th, el)] = true := by rw [HREC.out, OK, TH, EL]; rfl
        have C : Hid _ := phaseI_any nm a b th el kd m wi u1 hn1 hn2 hn3 hn4 hn5 hk1 hk2 hk3
        go_wp2_with fail
        refine Calls.mono C.out ?_
        clear C x0 x1 x2 x3 x4 x5 x6 x7
        rintro e u2 ⟨rfl, hb⟩
        rw [OK]
        have K2 : Hid (Below (w1.heap.size + 1) (w1.alloc (.cells #[.string nm, .int .i64 kd, .string a, .string b, .int .i64 m, .int .i64 wi, .string th, .string el] 24)) u2) := below_of K1.out hb
        clear hb K1
        have x0 := box_at _ _ K2.out 0 (.string nm) rfl
        have x1 := box_at _ _ K2.out 1 (.int .i64 kd) rfl
        have x2 := box_at _ _ K2.out 2 (.string a) rfl
        have x3 := box_at _ _ K2.out 3 (.string b) rfl
        have x4 := box_at _ _ K2.out 4 (.int .i64 m) rfl
        have x5 := box_at _ _ K2.out 5 (.int .i64 wi) rfl
        have x6 := box_at _ _ K2.out 6 (.string th) rfl
        have x7 := box_at _ _ K2.out 7 (.string el) rfl
        have C : Hid _ := okI_any (fun q => q = u2.heap.size) [(nm, kd, a, b, m, wi, th, el)] (.slice (some ⟨u2.heap.size, 0, none⟩) 1 1) (u2.alloc (.cells #[.string nm, .int .i64 kd, .string a, .string b, .int .i64 m, .int .i64 wi, .string th, .string el] 24)) (one_at 24 u2 nm a b th el kd m wi PZ.out) (fun q hq => by subst hq; simp) HT.out
        go_wp2_with fail
        refine Calls.mono C.out ?_
        clear C x0 x1 x2 x3 x4 x5 x6 x7
        rintro e u3 ⟨rfl, hb⟩
        rw [RC]
        have K3 : Hid (Below (w1.heap.size + 1) (w1.alloc (.cells #[.string nm, .int .i64 kd, .string a, .string b, .int .i64 m, .int .i64 wi, .string th, .string el] 24)) u3) := below_of (K2.out.alloc (by have := K2.out.size; simpa using this) _) hb
        clear hb K2
        have x0 := box_at _ _ K3.out 0 (.string nm) rfl
        have x1 := box_at _ _ K3.out 1 (.int .i64 kd) rfl
        have x2 := box_at _ _ K3.out 2 (.string a) rfl
        have x3 := box_at _ _ K3.out 3 (.string b) rfl
        have x4 := box_at _ _ K3.out 4 (.int .i64 m) rfl
        have x5 := box_at _ _ K3.out 5 (.int .i64 wi) rfl
        have x6 := box_at _ _ K3.out 6 (.string th) rfl
        have x7 := box_at _ _ K3.out 7 (.string el) rfl
        have C : Hid _ := phaseX_any nm a b th el kd m wi u3 hn1 hn2 hn3 hn4 hn5
        go_wp2_with fail
        refine Calls.mono C.out ?_
        clear C x0 x1 x2 x3 x4 x5 x6 x7
        rintro e u4 ⟨rfl, hb⟩
        rw [OK]
        have K4 : Hid (Below (w1.heap.size + 1) (w1.alloc (.cells #[.string nm, .int .i64 kd, .string a, .string b, .int .i64 m, .int .i64 wi, .string th, .string el] 24)) u4) := below_of K3.out hb
        clear hb K3
        have x0 := box_at _ _ K4.out 0 (.string nm) rfl
        have x1 := box_at _ _ K4.out 1 (.int .i64 kd) rfl
        have x2 := box_at _ _ K4.out 2 (.string a) rfl
        have x3 := box_at _ _ K4.out 3 (.string b) rfl
        have x4 := box_at _ _ K4.out 4 (.int .i64 m) rfl
        have x5 := box_at _ _ K4.out 5 (.int .i64 wi) rfl
        have x6 := box_at _ _ K4.out 6 (.string th) rfl
        have x7 := box_at _ _ K4.out 7 (.string el) rfl
        have C : Hid _ := okX_any (fun q => q = u4.heap.size) [(nm, kd, a, b, m, wi, th, el)] (.slice (some ⟨u4.heap.size, 0, none⟩) 1 1) (u4.alloc (.cells #[.string nm, .int .i64 kd, .string a, .string b, .int .i64 m, .int .i64 wi, .string th, .string el] 24)) (one_at 24 u4 nm a b th el kd m wi PZ.out) (fun q hq => by subst hq; simp)
        go_wp2_with fail
        refine Calls.mono C.out ?_
        clear C x0 x1 x2 x3 x4 x5 x6 x7
        rintro e u5 ⟨rfl, hb⟩
        rw [RC]
        have K5 : Hid (Below (w1.heap.size + 1) (w1.alloc (.cells #[.string nm, .int .i64 kd, .string a, .string b, .int .i64 m, .int .i64 wi, .string th, .string el] 24)) u5) := below_of (K4.out.alloc (by have := K4.out.size; simpa using this) _) hb
        clear hb K4
        have x0 := box_at _ _ K5.out 0 (.string nm) rfl
        have x1 := box_at _ _ K5.out 1 (.int .i64 kd) rfl
        have x2 := box_at _ _ K5.out 2 (.string a) rfl
        have x3 := box_at _ _ K5.out 3 (.string b) rfl
        have x4 := box_at _ _ K5.out 4 (.int .i64 m) rfl
        have x5 := box_at _ _ K5.out 5 (.int .i64 wi) rfl
        have x6 := box_at _ _ K5.out 6 (.string th) rfl
        have x7 := box_at _ _ K5.out 7 (.string el) rfl
        go_wp2_with fail
        refine (endP_any th _).mono ?_; rintro e u6 ⟨rfl, hu6⟩
        have hu6' := hu6.symm
        subst hu6'
        rw [TH]
        go_wp2_with fail
        refine (endP_any el _).mono ?_; rintro e u7 ⟨rfl, hu7⟩
        have hu7' := hu7.symm
        subst hu7'
        rw [EL]
        go_wp2_with fail
        refine (endP_any nm _).mono ?_; rintro e u8 ⟨rfl, hu8⟩
        have hu8' := hu8.symm
        subst hu8'
        rw [NM]
        go_wp2_with fail
        go_ret
        exact ⟨rfl, B1.out.trans ((below_end K5.out).mono B1.out.size)⟩

end Go.Proofs.Ytmccbkmfcldbgaa
