/-
  Several texts in one.
-/
import Derived.Test.YtobchllaopdchabGreatM19
import Derived.Test.YtobchllaopdchabGreatM20
import Derived.Test.YtobchllaopdchabGreatM17
namespace Go.Proofs.YtobchllaopdchabGreat
open Go.RowKit Go.Sort
theorem runX_q (S : Nat → Prop) (nm : ByteArray) (r : List DRecPhase) (sl : List DRunSlot) (at_ : ByteArray) (si st : Int) (o1 o2 : Option Addr) (n1 k1 n2 k2 : Nat) (wr : World) (hn : nm.size ≤ maxLen) (hr : AtL S wr r (.slice o1 n1 k1)) (h : AtL S wr sl (.slice o2 n2 k2)) (hS : ∀ b, S b → b < wr.heap.size) (R : Bool) (hR : runB (nm, r, sl, at_, si, st) = R) (d : Nat) (os : Array Obj) :
    Calls Tryz.prog 15 #[.agg #[.string nm, .slice o1 n1 k1, .slice o2 n2 k2, .string at_, .int .i64 si, .int .i64 st]] (grow (redrawn wr d) os) fun e w'' => e = .returned (.bool R) ∧ ∃ p : Regrown, w'' = grow (redrawn wr p.d) p.os :=
  Calls.regrown_of ((runX_any S nm r sl at_ si st o1 o2 n1 k1 n2 k2 _ hn (hr.same (Same.of_below (below_regrown wr d os) hS)) (h.same (Same.of_below (below_regrown wr d os) hS)) (fun b hb => Nat.lt_of_lt_of_le (hS b hb) (below_regrown wr d os).size)).mono fun _ _ ⟨he, hw⟩ => ⟨by subst hR; exact he, hw⟩)
theorem ofX2_q (S : Nat → Prop) (now last : Int) (v2 v3 v5 : Value) (Ba : List DRunBatch) (oa : Option Addr) (nb kb : Nat) (x : ByteArray) (wr : World) (h : AtL S wr Ba (.slice oa nb kb)) (hS : ∀ b, S b → b < wr.heap.size) (R : Int) (hR : ofI Ba x = R) (d : Nat) (os : Array Obj) :
    Calls Tryz.prog 16 #[.agg #[.int .i64 now, .int .i64 last, v2, v3, .slice oa nb kb, v5], .string x] (grow (redrawn wr d) os) fun e w'' => e = .returned (.int .i64 R) ∧ ∃ p : Regrown, w'' = grow (redrawn wr p.d) p.os :=
  Calls.regrown_of ((ofX2_any S now last v2 v3 v5 Ba oa nb kb x _ (h.same (Same.of_below (below_regrown wr d os) hS)) (fun b hb => Nat.lt_of_lt_of_le (hS b hb) (below_regrown wr d os).size)).mono fun _ _ ⟨he, hw⟩ => ⟨by subst hR; exact he, hw⟩)
structure BatR (last : Int) (Ba : List DRunBatch) (i : Nat) (h : i < Ba.length) : Prop where
  run : runB Ba[i] = true
  start : Ba[i].2.2.2.2.2 ≤ last
  asc : ∀ m (hm : m < Ba.length), i = m + 1 → Ba[m].2.2.2.2.2 < Ba[i].2.2.2.2.2
  one : ofI Ba Ba[i].1 = (i : Int)
structure HouP (now last : Int) (T : List ByteArray) (Bs : List DShareBatch) (Ba : List DRunBatch) (Do : List DRunDone) : Prop where
  now_ : inB now 0 100000 = true
  last_ : inB last 0 1000000 = true
  safe : (ordS (T, Bs)).2 = true
  dones : donB now Do = true
  row : ∀ i (h : i < Ba.length), BatR last Ba i h
  shares : shaB Bs Ba = true
noncomputable def houB (now last : Int) (T : List ByteArray) (Bs : List DShareBatch) (Ba : List DRunBatch) (Do : List DRunDone) : Bool := @decide (HouP now last T Bs Ba Do) (Classical.propDecidable _)
theorem hou_yes {now last : Int} {T : List ByteArray} {Bs : List DShareBatch} {Ba : List DRunBatch} {Do : List DRunDone} (h : HouP now last T Bs Ba Do) : houB now last T Bs Ba Do = true := by unfold houB; exact @decide_eq_true _ (Classical.propDecidable _) h
theorem hou_no {now last : Int} {T : List ByteArray} {Bs : List DShareBatch} {Ba : List DRunBatch} {Do : List DRunDone} (h : ¬ HouP now last T Bs Ba Do) : houB now last T Bs Ba Do = false := by unfold houB; exact @decide_eq_false _ (Classical.propDecidable _) h
theorem hou_iff {now last : Int} {T : List ByteArray} {Bs : List DShareBatch} {Ba : List DRunBatch} {Do : List DRunDone} : houB now last T Bs Ba Do = true ↔ HouP now last T Bs Ba Do := by unfold houB; exact @decide_eq_true_iff _ (Classical.propDecidable _)
set_option maxRecDepth 100000 in
set_option maxHeartbeats 16000000 in
theorem houX_any (S : Nat → Prop) (now last : Int) (o2 o3 o4 o5 : Option Addr) (n2 k2 n3 k3 n4 k4 n5 k5 : Nat) (T : List ByteArray) (Bs : List DShareBatch) (Ba : List DRunBatch) (Do : List DRunDone) (w : World) (hT : AtL S w T (.slice o2 n2 k2)) (hB : AtL S w Bs (.slice o3 n3 k3)) (h : AtL S w Ba (.slice o4 n4 k4)) (hD : AtL S w Do (.slice o5 n5 k5)) (hS : ∀ b, S b → b < w.heap.size) :
    Calls Tryz.prog 5 #[.agg #[.int .i64 now, .int .i64 last, .slice o2 n2 k2, .slice o3 n3 k3, .slice o4 n4 k4, .slice o5 n5 k5]] w fun e w' => e = .returned (.bool (houB now last T Bs Ba Do)) ∧ Below w.heap.size w w' := by
  have en4 : Ba.length = n4 := by obtain ⟨_, _, e, _⟩ := h; cases e; rfl
  have hm4 : n4 ≤ 9223372036854775807 := by obtain ⟨_, _, e, hf, _⟩ := id h; cases e; have := hf.1; unfold maxLen at this; omega
  have EN : Hid (Ba.length ≤ n4 ∧ n4 ≤ Ba.length) := ⟨by omega, by omega⟩
  have H2 : Hid _ := hT.ups hS
  have H3 : Hid _ := hB.ups hS
  have H4 : Hid _ := h.ups hS
  have H5 : Hid _ := hD.ups hS
  have HS : Hid _ := lt_up hS
  obtain ⟨W, EW, BW, RW, sW⟩ := box_new w #[.int .i64 now, .int .i64 last, .slice o2 n2 k2, .slice o3 n3 k3, .slice o4 n4 k4, .slice o5 n5 k5] 38
  have BOX : Hid (∀ u, Below W.heap.size W u → u.heap[w.heap.size]? = some (.cells #[.int .i64 now, .int .i64 last, .slice o2 n2 k2, .slice o3 n3 k3, .slice o4 n4 k4, .slice o5 n5 k5] 38 (0, 0)) ∧ Below w.heap.size w u) := fun u hu => ⟨(hu.block _ (by omega)).trans RW.out, BW.out.trans (hu.mono (by omega))⟩
  clear h hT hB hD hS en4
  have h0 := fun u (hu : Below W.heap.size W u) => cell_row (BOX.out u hu).1
  have Y : Hid (∀ u, Below W.heap.size W u → u.cell? ⟨w.heap.size, 0, none⟩ = some (.int .i64 now) ∧ u.cell? ⟨w.heap.size, 1, none⟩ = some (.int .i64 last) ∧ u.cell? ⟨w.heap.size, 2, none⟩ = some (.slice o2 n2 k2) ∧ u.cell? ⟨w.heap.size, 3, none⟩ = some (.slice o3 n3 k3) ∧ u.cell? ⟨w.heap.size, 4, none⟩ = some (.slice o4 n4 k4) ∧ u.cell? ⟨w.heap.size, 5, none⟩ = some (.slice o5 n5 k5)) := fun u hu =>
    ⟨(h0 u hu 0 _ rfl).1, (h0 u hu 1 _ rfl).1, (h0 u hu 2 _ rfl).1, (h0 u hu 3 _ rfl).1, (h0 u hu 4 _ rfl).1, (h0 u hu 5 _ rfl).1⟩
  clear h0
  obtain ⟨V, hV⟩ : ∃ V, V = houB now last T Bs Ba Do := ⟨_, rfl⟩
  have YES : Hid (HouP now last T Bs Ba Do → V = true) := fun h => by rw [hV]; exact hou_yes h
  have NO : Hid (¬ HouP now last T Bs Ba Do → V = false) := fun h => by rw [hV]; exact hou_no h
  rw [← hV]
  clear hV
  obtain ⟨y0, y1, y2, y3, y4, y5⟩ := Y.out W (Below.refl _ _)
  go_enter Tryz.func5, Tryz.ntmps5
  go_upto_region 1 with fail
  rw [← EW.out]
  go_wp2_with fail
  refine (inX_any _ _ _ _).mono ?_; rintro e w1 ⟨rfl, rfl⟩
  cases c0 : inB now 0 100000
  · have er : V = false := NO.out (fun h => by have := h.now_; rw [c0] at this; cases this)
    clear y1 y2 y3 y4 y5
    go_wp2_with fail
    go_ret
    rw [er]
    exact ⟨rfl, BW.out⟩
  go_wp2_with fail
  refine (inX_any _ _ _ _).mono ?_; rintro e w2 ⟨rfl, rfl⟩
  cases c1 : inB last 0 1000000
  · have er : V = false := NO.out (fun h => by have := h.last_; rw [c1] at this; cases this)
    clear y2 y3 y4 y5
    go_wp2_with fail
    go_ret
    rw [er]
    exact ⟨rfl, BW.out⟩
  go_wp2_with fail
  refine (safeZ_any S T Bs o2 o3 n2 k2 n3 k3 w2 (H2.out _ BW.out) (H3.out _ BW.out) (HS.out _ BW.out)).mono ?_; rintro e w3 ⟨rfl, hb3⟩
  have B3 : Hid (Below w2.heap.size w2 w3) := hb3
  have BW3 : Hid (Below w.heap.size w w3) := (BOX.out w3 hb3).2
  clear y0 y1 y2 y3 y4 y5 hb3
  obtain ⟨y0, y1, y2, y3, y4, y5⟩ := Y.out w3 B3.out
  cases c2 : (ordS (T, Bs)).2
  · have er : V = false := NO.out (fun h => by have := h.safe; rw [c2] at this; cases this)
    clear y0 y1 y2 y3 y4 y5
    go_wp2_with fail
    go_ret
    rw [er]
    exact ⟨rfl, BW3.out⟩
  go_wp2_with fail
  refine (donX_any S now last o2 o3 o4 o5 n2 k2 n3 k3 n4 k4 n5 k5 Do w3 (H5.out _ BW3.out) (HS.out _ BW3.out)).mono ?_; rintro e w4 ⟨rfl, hb4⟩
  have B4 : Hid (Below w2.heap.size w2 w4) := B3.out.trans (hb4.mono B3.out.size)
  have BW4 : Hid (Below w.heap.size w w4) := (BOX.out w4 B4.out).2
  clear y0 y1 y2 y3 y4 y5 hb4
  cases c3 : donB now Do
  · have er : V = false := NO.out (fun h => by have := h.dones; rw [c3] at this; cases this)
    go_wp2_with fail
    go_ret
    rw [er]
    exact ⟨rfl, BW4.out⟩
  have TOP : Hid (inB now 0 100000 = true ∧ inB last 0 1000000 = true ∧ (ordS (T, Bs)).2 = true ∧ donB now Do = true) := ⟨c0, c1, c2, c3⟩
  clear c0 c1 c2 c3
  go_wp2_with fail
  go_loopw [3] (fun i wr => ∃ k : Nat, k ≤ n4 ∧ i = .int .i64 k ∧ Hid (∀ j (hj : j < Ba.length), j < k → BatR last Ba j hj) ∧ Hid (Below w2.heap.size w2 wr)) (fun i _ => n4 - (intOf i).toNat)
  case atStart => exact ⟨0, Nat.zero_le _, rfl, fun _ _ h => by omega, B4.out⟩
  case round =>
    obtain ⟨k, hk, rfl, hall, hbel⟩ := hrel
    have hs := hbel.out.size
    have BWR : Hid (Below w.heap.size w wr) := (BOX.out wr hbel.out).2
    obtain ⟨y0, y1, y2, y3, y4, y5⟩ := Y.out wr hbel.out
    by_cases hlt : k < n4
    case neg =>
      go_wp2_with fail
      refine (shaX_any S now last o2 o3 o4 o5 n2 k2 n3 k3 n4 k4 n5 k5 T Bs Ba wr (H2.out wr BWR.out) (H3.out wr BWR.out) (H4.out wr BWR.out) (HS.out wr BWR.out)).mono ?_; rintro e w9 ⟨rfl, hb9⟩
      have B9 : Hid (Below w.heap.size w w9) := BWR.out.trans (hb9.mono BWR.out.size)
      have er : V = shaB Bs Ba := by
        obtain ⟨t0, t1, t2, t3⟩ := TOP.out
        cases c : shaB Bs Ba with
        | false => exact NO.out (fun h => by have := h.shares; rw [c] at this; cases this)
        | true => exact YES.out ⟨t0, t1, t2, t3, fun i hi => hall.out i hi (by have := EN.out; omega), c⟩
      clear hb9 y0 y1 y2 y3 y4 y5
      go_wp2_with fail
      go_ret
      rw [er]
      exact ⟨rfl, B9.out⟩
    have hks : k < Ba.length := by have := EN.out; omega
    obtain ⟨b, off, p1, p2, m1, j1, m2, j2, rfl, hbS, e0, e1, e2, e3, e4, e5, z0, hr, hsl⟩ := rb_at (H4.out wr BWR.out) k hks
    have hbw := HS.out wr BWR.out b hbS
    obtain ⟨f, ef⟩ : ∃ f, Ba[k] = f := ⟨_, rfl⟩
    rw [ef] at e0 e3 e4 e5 z0 hr hsl
    obtain ⟨nm, r, sl, at_, si, st⟩ := f
    simp only at e0 e3 e4 e5 z0 hr hsl
    have EF : Hid (Ba[k] = (nm, r, sl, at_, si, st)) := ef
    have HZ : Hid (nm.size ≤ maxLen) := z0
    obtain ⟨X, hX⟩ : ∃ X, X = wr.alloc (.cells #[.string nm, .slice p1 m1 j1, .slice p2 m2 j2, .string at_, .int .i64 si, .int .i64 st] 50) := ⟨_, rfl⟩
    have EX : Hid (X = wr.alloc (.cells #[.string nm, .slice p1 m1 j1, .slice p2 m2 j2, .string at_, .int .i64 si, .int .i64 st] 50)) := hX
    have CX : Hid (Below wr.heap.size wr X) := by rw [hX]; exact (Below.refl _ _).alloc (Nat.le_refl _) _
    have BXX : Hid (Below w2.heap.size w2 X) := hbel.out.trans (CX.out.mono hs)
    have RX : Hid (X.heap[wr.heap.size]? = some (.cells #[.string nm, .slice p1 m1 j1, .slice p2 m2 j2, .string at_, .int .i64 si, .int .i64 st] 50 (0, 0))) := by rw [hX]; exact heap_alloc_new wr _
    have BDX : Hid (Below w.heap.size w X) := (BOX.out X BXX.out).2
    have HRX : Hid (AtL S X r (.slice p1 m1 j1)) := hr.same (Same.of_below CX.out (HS.out wr BWR.out))
    have HLX : Hid (AtL S X sl (.slice p2 m2 j2)) := hsl.same (Same.of_below CX.out (HS.out wr BWR.out))
    have HBX : Hid (AtL S X Ba (.slice (some ⟨b, off, none⟩) n4 k4)) := H4.out X BDX.out
    have HSX : Hid (∀ b, S b → b < X.heap.size) := HS.out X BDX.out
    clear ef z0 hr hsl hbS hX
    obtain ⟨x0, x1, x2, x3, x4, x5⟩ := Y.out X BXX.out
    have qh0 := fun d os => cell_regrown x0 d os
    have qh1 := fun d os => cell_regrown x1 d os
    have qh2 := fun d os => cell_regrown x2 d os
    have qh3 := fun d os => cell_regrown x3 d os
    have qh4 := fun d os => cell_regrown x4 d os
    have qh5 := fun d os => cell_regrown x5 d os
    have qb0 := fun d os => cell_regrown (cell_row RX.out 0 _ rfl).1 d os
    have qb1 := fun d os => cell_regrown (cell_row RX.out 1 _ rfl).1 d os
    have qb2 := fun d os => cell_regrown (cell_row RX.out 2 _ rfl).1 d os
    have qb3 := fun d os => cell_regrown (cell_row RX.out 3 _ rfl).1 d os
    have qb4 := fun d os => cell_regrown (cell_row RX.out 4 _ rfl).1 d os
    have qb5 := fun d os => cell_regrown (cell_row RX.out 5 _ rfl).1 d os
    go_upto_region 7 with fail
    rw [← EX.out]
    clear e0 e1 e2 e3 e4 e5 y0 y1 y2 y3 y4 y5 x0 x1 x2 x3 x4 x5
    cases c0 : runB (nm, r, sl, at_, si, st)
    · have er : V = false := NO.out (fun h => by
        have := (h.row k hks).run
        rw [EF.out, c0] at this
        cases this)
      go_wp2_with fail
      refine wp_region_quiet_below (by kernel_rfl) (by kernel_rfl) ?_
      repeat (first | go_big_quiet_step (first | (with_reducible exact runX_q S _ _ _ _ _ _ _ _ _ _ _ _ _ HZ.out HRX.out HLX.out HSX.out _ c0 _ _)) | quiet_step (first | (with_reducible exact runX_q S _ _ _ _ _ _ _ _ _ _ _ _ _ HZ.out HRX.out HLX.out HSX.out _ c0 _ _)))
      refine wpQuiet_nil ?_
      intro _ hw'
      obtain ⟨⟨dq, osq⟩, hw''⟩ := hw'
      subst hw''
      go_wp2_with fail
      go_ret
      rw [er]
      exact ⟨rfl, BDX.out.trans ((below_regrown X dq osq).mono BDX.out.size)⟩
    by_cases c1 : last < st
    · have er : V = false := NO.out (fun h => by
        have := (h.row k hks).start
        rw [EF.out] at this
        exact absurd (show st ≤ last from this) (by omega))
      go_wp2_with fail
      refine wp_region_quiet_below (by kernel_rfl) (by kernel_rfl) ?_
      repeat (first | go_big_quiet_step (first | (with_reducible exact runX_q S _ _ _ _ _ _ _ _ _ _ _ _ _ HZ.out HRX.out HLX.out HSX.out _ c0 _ _)) | quiet_step (first | (with_reducible exact runX_q S _ _ _ _ _ _ _ _ _ _ _ _ _ HZ.out HRX.out HLX.out HSX.out _ c0 _ _)))
      refine wpQuiet_nil ?_
      intro _ hw'
      obtain ⟨⟨dq, osq⟩, hw''⟩ := hw'
      subst hw''
      go_wp2_with fail
      go_ret
      rw [er]
      exact ⟨rfl, BDX.out.trans ((below_regrown X dq osq).mono BDX.out.size)⟩
    rcases Nat.eq_zero_or_pos k with rfl | hpos
    · obtain ⟨ov, cO⟩ : ∃ o, ofI Ba nm = o := ⟨_, rfl⟩
      by_cases c4 : ov = ((0 : Nat) : Int)
      · have cO : ofI Ba nm = ((0 : Nat) : Int) := cO.trans c4
        have HD : Hid (BatR last Ba (0) hks) := ⟨by rw [EF.out]; exact c0, by rw [EF.out]; show st ≤ last; omega, fun m hm e => by omega, by rw [EF.out]; exact cO⟩
        clear c4
        go_wp2_with fail
        refine wp_region_quiet_below (by kernel_rfl) (by kernel_rfl) ?_
        repeat (first | go_big_quiet_step (first | (with_reducible exact runX_q S _ _ _ _ _ _ _ _ _ _ _ _ _ HZ.out HRX.out HLX.out HSX.out _ c0 _ _) | (with_reducible exact ofX2_q S _ _ _ _ _ _ _ _ _ _ _ HBX.out HSX.out _ cO _ _)) | quiet_step (first | (with_reducible exact runX_q S _ _ _ _ _ _ _ _ _ _ _ _ _ HZ.out HRX.out HLX.out HSX.out _ c0 _ _) | (with_reducible exact ofX2_q S _ _ _ _ _ _ _ _ _ _ _ HBX.out HSX.out _ cO _ _)))
        refine wpQuiet_nil ?_
        intro _ hw'
        obtain ⟨⟨dq, osq⟩, hw''⟩ := hw'
        subst hw''
        go_wp2_with fail
        go_roundw
        case rel => exact ⟨0 + 1, by omega, by go_num, fun j hj hjk => by
          by_cases e : j = 0
          · subst e; exact HD.out
          · exact hall.out j hj (by omega), BXX.out.trans ((below_regrown X dq osq).mono BXX.out.size)⟩
        case measure => simp [intOf]; omega
      · have er : V = false := NO.out (fun h => by
          have := (h.row (0) hks).one
          rw [EF.out] at this
          exact c4 (cO.symm.trans this))
        have bn : (ov != 0) = true := by rw [bne_iff_ne]; intro e; exact c4 (by rw [e]; simp)
        have bn2 : (ov != ((0 : Nat) : Int)) = true := by rw [bne_iff_ne]; exact c4
        go_wp2_with fail
        refine wp_region_quiet_below (by kernel_rfl) (by kernel_rfl) ?_
        repeat (first | go_big_quiet_step (first | (with_reducible exact runX_q S _ _ _ _ _ _ _ _ _ _ _ _ _ HZ.out HRX.out HLX.out HSX.out _ c0 _ _) | (with_reducible exact ofX2_q S _ _ _ _ _ _ _ _ _ _ _ HBX.out HSX.out _ cO _ _)) | quiet_step (first | (with_reducible exact runX_q S _ _ _ _ _ _ _ _ _ _ _ _ _ HZ.out HRX.out HLX.out HSX.out _ c0 _ _) | (with_reducible exact ofX2_q S _ _ _ _ _ _ _ _ _ _ _ HBX.out HSX.out _ cO _ _)))
        refine wpQuiet_nil ?_
        intro _ hw'
        obtain ⟨⟨dq, osq⟩, hw''⟩ := hw'
        subst hw''
        go_wp2_with fail
        go_ret
        rw [er]
        exact ⟨rfl, BDX.out.trans ((below_regrown X dq osq).mono BDX.out.size)⟩
    · obtain ⟨m, rfl⟩ : ∃ m, k = m + 1 := ⟨k - 1, by omega⟩
      have hms : m < Ba.length := by omega
      obtain ⟨_, _, _, _, _, _, _, _, eo, _, _, _, _, _, _, d5, _⟩ := rb_at HBX.out m hms
      cases eo
      obtain ⟨pt, ept⟩ : ∃ p, Ba[m].2.2.2.2.2 = p := ⟨_, rfl⟩
      rw [ept] at d5
      have EP : Hid (Ba[m].2.2.2.2.2 = pt) := ept
      have qp := fun d os => cell_regrown d5 d os
      have gt0 : decide ((0 : Int) < ((m : Int) + 1)) = true := by rw [decide_eq_true_eq]; omega
      clear d5 ept
      by_cases c3 : st ≤ pt
      · have er : V = false := NO.out (fun h => by
          have := (h.row (m + 1) hks).asc m hms rfl
          rw [EF.out, EP.out] at this
          exact absurd (show pt < st from this) (by omega))
        go_wp2_with fail
        refine wp_region_quiet_below (by kernel_rfl) (by kernel_rfl) ?_
        repeat (first | go_big_quiet_step (first | (with_reducible exact runX_q S _ _ _ _ _ _ _ _ _ _ _ _ _ HZ.out HRX.out HLX.out HSX.out _ c0 _ _)) | quiet_step (first | (with_reducible exact runX_q S _ _ _ _ _ _ _ _ _ _ _ _ _ HZ.out HRX.out HLX.out HSX.out _ c0 _ _)))
        refine wpQuiet_nil ?_
        intro _ hw'
        obtain ⟨⟨dq, osq⟩, hw''⟩ := hw'
        subst hw''
        go_wp2_with fail
        go_ret
        rw [er]
        exact ⟨rfl, BDX.out.trans ((below_regrown X dq osq).mono BDX.out.size)⟩
      · obtain ⟨ov, cO⟩ : ∃ o, ofI Ba nm = o := ⟨_, rfl⟩
        by_cases c4 : ov = ((m + 1 : Nat) : Int)
        · have cO : ofI Ba nm = ((m + 1 : Nat) : Int) := cO.trans c4
          have HD : Hid (BatR last Ba (m + 1) hks) := ⟨by rw [EF.out]; exact c0, by rw [EF.out]; show st ≤ last; omega, fun m' hm e => by
              obtain rfl : m' = m := by omega
              rw [EF.out, EP.out]; show pt < st; omega, by rw [EF.out]; exact cO⟩
          clear c4
          go_wp2_with fail
          refine wp_region_quiet_below (by kernel_rfl) (by kernel_rfl) ?_
          repeat (first | go_big_quiet_step (first | (with_reducible exact runX_q S _ _ _ _ _ _ _ _ _ _ _ _ _ HZ.out HRX.out HLX.out HSX.out _ c0 _ _) | (with_reducible exact ofX2_q S _ _ _ _ _ _ _ _ _ _ _ HBX.out HSX.out _ cO _ _)) | quiet_step (first | (with_reducible exact runX_q S _ _ _ _ _ _ _ _ _ _ _ _ _ HZ.out HRX.out HLX.out HSX.out _ c0 _ _) | (with_reducible exact ofX2_q S _ _ _ _ _ _ _ _ _ _ _ HBX.out HSX.out _ cO _ _)))
          refine wpQuiet_nil ?_
          intro _ hw'
          obtain ⟨⟨dq, osq⟩, hw''⟩ := hw'
          subst hw''
          go_wp2_with fail
          go_roundw
          case rel => exact ⟨m + 1 + 1, by omega, by go_num, fun j hj hjk => by
            by_cases e : j = m + 1
            · subst e; exact HD.out
            · exact hall.out j hj (by omega), BXX.out.trans ((below_regrown X dq osq).mono BXX.out.size)⟩
          case measure => simp [intOf]; omega
        · have er : V = false := NO.out (fun h => by
            have := (h.row (m + 1) hks).one
            rw [EF.out] at this
            exact c4 (cO.symm.trans this))
          have bn : (ov != ((m : Int) + 1)) = true := by rw [bne_iff_ne]; intro e; exact c4 (by rw [e]; simp)
          have bn2 : (ov != ((m + 1 : Nat) : Int)) = true := by rw [bne_iff_ne]; exact c4
          go_wp2_with fail
          refine wp_region_quiet_below (by kernel_rfl) (by kernel_rfl) ?_
          repeat (first | go_big_quiet_step (first | (with_reducible exact runX_q S _ _ _ _ _ _ _ _ _ _ _ _ _ HZ.out HRX.out HLX.out HSX.out _ c0 _ _) | (with_reducible exact ofX2_q S _ _ _ _ _ _ _ _ _ _ _ HBX.out HSX.out _ cO _ _)) | quiet_step (first | (with_reducible exact runX_q S _ _ _ _ _ _ _ _ _ _ _ _ _ HZ.out HRX.out HLX.out HSX.out _ c0 _ _) | (with_reducible exact ofX2_q S _ _ _ _ _ _ _ _ _ _ _ HBX.out HSX.out _ cO _ _)))
          refine wpQuiet_nil ?_
          intro _ hw'
          obtain ⟨⟨dq, osq⟩, hw''⟩ := hw'
          subst hw''
          go_wp2_with fail
          go_ret
          rw [er]
          exact ⟨rfl, BDX.out.trans ((below_regrown X dq osq).mono BDX.out.size)⟩
end Go.Proofs.YtobchllaopdchabGreat

namespace Go.Proofs.YtobchllaopdchabGreat
open Go.RowKit Go.Sort
set_option maxRecDepth 100000 in
set_option maxHeartbeats 8000000 in
theorem namOne_any (B : Nat) (v : Value) (L : List ByteArray) (nm at_ : ByteArray) (si st : Int) (o1 o2 : Option Addr) (n1 k1 n2 k2 : Nat) (w : World) (h : Row w B 9 1 eS v L) (hB : B ≤ w.heap.size) (hl : L.length ≤ 5) :
    Calls Tryz.prog 59 #[v, .agg #[.string nm, .slice o1 n1 k1, .slice o2 n2 k2, .string at_, .int .i64 si, .int .i64 st]] w fun e w' => ∃ v', e = .returned v' ∧ Row w' B 9 1 eS v' (L ++ [nm]) ∧ Below B w w' := by
  obtain ⟨W, hW⟩ : ∃ W, W = w.alloc (.cells #[.string nm, .slice o1 n1 k1, .slice o2 n2 k2, .string at_, .int .i64 si, .int .i64 st] 50) := ⟨_, rfl⟩
  have EW : Hid (W = w.alloc (.cells #[.string nm, .slice o1 n1 k1, .slice o2 n2 k2, .string at_, .int .i64 si, .int .i64 st] 50)) := hW
  have BW : Hid (Below w.heap.size w W) := by rw [hW]; exact (Below.refl _ _).alloc (Nat.le_refl _) _
  have RW : Hid (W.heap[w.heap.size]? = some (.cells #[.string nm, .slice o1 n1 k1, .slice o2 n2 k2, .string at_, .int .i64 si, .int .i64 st] 50 (0, 0))) := by rw [hW]; exact heap_alloc_new w _
  have sW : w.heap.size + 1 ≤ W.heap.size := by rw [hW]; simp
  have BB : Hid (Below B w W) := by rw [hW]; exact (Below.refl _ _).alloc hB _
  clear hW
  have HR : Hid (Row W B 9 1 eS v L) := Row.below h BW.out
  clear h
  have y0 := (cell_row RW.out 0 _ rfl).1
  have hsr : Hid (Src (W.alloc (.cells #[.string nm] 9)) (.slice (some ⟨W.heap.size, 0, none⟩) 1 1) 1 1 (enc 1 eS [nm])) := ⟨rfl, .inr ⟨_, _, rfl, by exact cell_one_new _ _ _⟩⟩
  go_enter Tryz.func59, Tryz.ntmps59
  go_upto_region 1 with fail
  rw [← EW.out]
  go_wp2_with (first
    | (at_builtin; refine wpList_app elS rfl _ _ rfl rfl rfl (HR.out.alloc _) hsr.out (flatS.enc_one _) (by unfold maxLen; omega) (by omega) (by simp; omega) ?_; intro v' w3 hown hg hbk))
  go_ret
  refine ⟨v', rfl, ?_, (BB.out.alloc (by omega) _).grown hg (by simp; omega) (fun p hp => (World.ownsRow.lt HR.out p hp).1)⟩
  show World.ownsRow _ _ _ _ _ _ _
  rw [List.length_append, enc_append]
  exact hown
set_option maxRecDepth 100000 in
set_option maxHeartbeats 8000000 in
theorem foldN_any (S : Nat → Prop) (Ba : List DRunBatch) (oa : Option Addr) (n cap : Nat) (w : World) (h : AtL S w Ba (.slice oa n cap)) (hS : ∀ b, S b → b < w.heap.size) (hl : n ≤ 5) :
    Calls Tryz.prog 58 #[.slice oa n cap, .slice none 0 0, .func (.func 59) #[] #[]] w fun e w' => ∃ v, e = .returned v ∧ Row w' w.heap.size 9 1 eS v (Ba.map fun b => b.1) ∧ Below w.heap.size w w' := by
  have en : Ba.length = n := by obtain ⟨_, _, e, _⟩ := h; cases e; rfl
  have EN : Hid (Ba.length ≤ n ∧ n ≤ Ba.length) := ⟨by omega, by omega⟩
  have H : Hid _ := h.ups hS
  clear h hS en
  go_enter Tryz.func58, Tryz.ntmps58
  go_wp2_with fail
  go_loopw [1, 11] (fun v i wr => ∃ q : Nat, q ≤ n ∧ i = .int .i64 q ∧ Hid (Row wr w.heap.size 9 1 eS v ((Ba.take q).map fun b => b.1)) ∧ Hid (Below w.heap.size w wr)) (fun _ i _ => n - (intOf i).toNat)
  case atStart => exact ⟨0, Nat.zero_le _, rfl, by simpa [Hid, Row, enc_nil] using World.ownsRow_nil w w.heap.size 9 1, Below.refl _ _⟩
  case round =>
    obtain ⟨k, hk, rfl, hown, hbel⟩ := hrel
    have hs := hbel.out.size
    by_cases hlt : k < n
    case neg =>
      obtain rfl : n = k := by omega
      have htk : Hid (Ba.take n = Ba) := by show _ = _; rw [List.take_of_length_le (by have := EN.out; omega)]
      go_wp2_with fail
      go_ret
      refine ⟨_, rfl, ?_, hbel.out⟩
      have := hown.out
      rw [htk.out] at this
      exact this
    have hks : k < Ba.length := by have := EN.out; omega
    obtain ⟨b, off, o1, o2, n1, k1, n2, k2, rfl, hbS, c0, c1, c2, c3, c4, c5, z0, _⟩ := rb_at (H.out wr hbel.out) k hks
    obtain ⟨f, ef⟩ : ∃ f, Ba[k] = f := ⟨_, rfl⟩
    have htk : Hid ((Ba.take (k + 1)).map (fun b : DRunBatch => b.1) = (Ba.take k).map (fun b : DRunBatch => b.1) ++ [f.1]) := by
      show _ = _
      rw [List.take_add_one, List.getElem?_eq_getElem hks, ef, List.map_append]; rfl
    rw [ef] at c0 c3 c4 c5 z0
    obtain ⟨nm, r, sl, at_, si, st⟩ := f
    simp only at c0 c3 c4 c5 z0 htk
    have hlk : ((Ba.take k).map fun b : DRunBatch => b.1).length ≤ 5 := by rw [List.length_map, List.length_take]; omega
    have CW : Hid (∀ W', Below wr.heap.size wr W' → Calls Tryz.prog 59 #[u1, .agg #[.string nm, .slice o1 n1 k1, .slice o2 n2 k2, .string at_, .int .i64 si, .int .i64 st]] W' fun e w' => ∃ v', e = .returned v' ∧ Row w' w.heap.size 9 1 eS v' ((Ba.take k).map (fun b : DRunBatch => b.1) ++ [nm]) ∧ Below w.heap.size W' w') := fun W' hW' =>
      namOne_any w.heap.size u1 _ nm at_ si st o1 o2 n1 k1 n2 k2 W' (Row.below hown.out hW') (by have := hW'.size; omega) hlk
    have BXX : Hid (∀ o, Below w.heap.size w (wr.alloc o)) := fun o => hbel.out.alloc hs o
    clear z0 ef hlk
    go_wp2_with fail
    refine Calls.mono (CW.out _ ((Below.refl _ _).alloc (Nat.le_refl _) _)) ?_; rintro e w1 ⟨v', rfl, hrow, hb1⟩
    have B1 : Hid (Below w.heap.size w w1) := (BXX.out _).trans hb1
    have R1 : Hid (Row w1 w.heap.size 9 1 eS v' ((Ba.take (k + 1)).map fun b => b.1)) := by show Row _ _ _ _ _ _ _; rw [htk.out]; exact hrow
    clear hb1 hrow
    go_wp2_with fail
    go_roundw
    case rel => exact ⟨k + 1, by omega, by go_num, R1.out, B1.out⟩
    case measure => simp [intOf]; omega
theorem isNam_any (a y : ByteArray) (o1 o2 : Option Addr) (n1 k1 n2 k2 : Nat) (w : World) :
    Calls Tryz.prog 61 #[.agg #[.string a, .slice o1 n1 k1, .slice o2 n2 k2], .string y] w fun e w' => e = .returned (.bool (eqB a y)) ∧ Below w.heap.size w w' := by
  go_enter Tryz.func61, Tryz.ntmps61
  go_wp2
  go_ret
  exact ⟨rfl, (Below.refl _ _).alloc (Nat.le_refl _) _⟩
noncomputable def nmeB (Bs : List DShareBatch) (L : List ByteArray) : Bool := @decide ((Bs.map fun b => b.1) = L) (Classical.propDecidable _)
theorem nme_iff {Bs : List DShareBatch} {L : List ByteArray} : nmeB Bs L = true ↔ (Bs.map fun b => b.1) = L := by unfold nmeB; exact @decide_eq_true_iff _ (Classical.propDecidable _)
theorem nme_len {Bs : List DShareBatch} {L : List ByteArray} (h : ¬ Bs.length = L.length) : nmeB Bs L = false := by
  rw [Bool.eq_false_iff]; intro hh; exact h (by rw [← nme_iff.1 hh, List.length_map])
theorem nme_at {Bs : List DShareBatch} {L : List ByteArray} {i : Nat} (hi : i < Bs.length) (h : eqB Bs[i].1 (nthB L i) = false) : nmeB Bs L = false := by
  rw [Bool.eq_false_iff]; intro hh
  have e := nme_iff.1 hh
  have : nthB L i = Bs[i].1 := by rw [← e]; simp [nthB, hi]
  rw [this] at h
  rw [(eqB_iff _ _).2 rfl] at h; cases h
theorem nme_yes {Bs : List DShareBatch} {L : List ByteArray} (h : Bs.length = L.length) (h2 : ∀ i (hi : i < Bs.length), eqB Bs[i].1 (nthB L i) = true) : nmeB Bs L = true := by
  rw [nme_iff]
  apply List.ext_getElem (by rw [List.length_map]; exact h)
  intro i h1 h3
  rw [List.getElem_map, (eqB_iff _ _).1 (h2 i (by first | exact h1 | (simp; done) | simpa using h1))]
  simp [nthB, h3]
set_option maxRecDepth 100000 in
set_option maxHeartbeats 8000000 in
theorem eqn_any (S S' : Nat → Prop) (Bs : List DShareBatch) (L : List ByteArray) (oa ob : Option Addr) (n ka m kb : Nat) (w : World) (h : AtL S w Bs (.slice oa n ka)) (hL : AtL S' w L (.slice ob m kb)) (hS : ∀ b, S b → b < w.heap.size) (hS' : ∀ b, S' b → b < w.heap.size) :
    Calls Tryz.prog 62 #[.slice oa n ka, .slice ob m kb, .func (.func 61) #[] #[]] w fun e w' => e = .returned (.bool (nmeB Bs L)) ∧ Below w.heap.size w w' := by
  have en : Bs.length = n := by obtain ⟨_, _, e, _⟩ := h; cases e; rfl
  have em : L.length = m := by obtain ⟨_, _, e, _⟩ := hL; cases e; rfl
  have hmx : n ≤ 9223372036854775807 := by obtain ⟨_, _, e, hf, _⟩ := id h; cases e; have := hf.1; unfold maxLen at this; omega
  have hmb : m ≤ 9223372036854775807 := by obtain ⟨_, _, e, hf, _⟩ := id hL; cases e; have := hf.1; unfold maxLen at this; omega
  have EN : Hid (Bs.length ≤ n ∧ n ≤ Bs.length) := ⟨by omega, by omega⟩
  have EM : Hid (L.length ≤ m ∧ m ≤ L.length) := ⟨by omega, by omega⟩
  have ROW : Hid (∀ i (hi : i < Bs.length), ∃ (b off : Nat) (o1 : Option Addr) (n1 k1 : Nat) (o2 : Option Addr) (n2 k2 : Nat), oa = some ⟨b, off, none⟩ ∧ b < w.heap.size ∧ w.cell? ⟨b, off + i * 3, none⟩ = some (.string Bs[i].1) ∧ w.cell? ⟨b, off + i * 3 + 1, none⟩ = some (.slice o1 n1 k1) ∧ w.cell? ⟨b, off + i * 3 + 2, none⟩ = some (.slice o2 n2 k2)) := fun i hi => by
    obtain ⟨b, off, o1, n1, k1, o2, n2, k2, e, hb, e0, e1, e2, _⟩ := bat_at h i hi
    exact ⟨b, off, o1, n1, k1, o2, n2, k2, e, hS b hb, e0, e1, e2⟩
  have LAT : Hid (∀ i (hi : i < L.length), ∃ b off, ob = some ⟨b, off, none⟩ ∧ b < w.heap.size ∧ w.cell? ⟨b, off + i, none⟩ = some (.string (nthB L i))) := fun i hi => by
    obtain ⟨b, off, eo, hb, e0⟩ := tx_at hL i hi
    exact ⟨b, off, eo, hS' b hb, by rw [e0]; simp [nthB, hi]⟩
  clear h hL hS hS' en em
  go_enter Tryz.func62, Tryz.ntmps62
  by_cases hlen : n = m
  case neg =>
    go_wp2_with fail
    go_ret
    rw [nme_len (fun h => hlen (by have := EN.out; have := EM.out; omega))]
    exact ⟨rfl, Below.refl _ _⟩
  subst hlen
  go_wp2_with fail
  go_loopw [17] (fun i wr => ∃ k : Nat, k ≤ n ∧ i = .int .i64 k ∧ Hid (∀ j (hj : j < Bs.length), j < k → eqB Bs[j].1 (nthB L j) = true) ∧ Hid (Below w.heap.size w wr)) (fun i _ => n - (intOf i).toNat)
  case atStart => exact ⟨0, Nat.zero_le _, rfl, fun _ _ h => by omega, Below.refl _ _⟩
  case round =>
    obtain ⟨k, hk, rfl, hall, hbel⟩ := hrel
    have hs := hbel.out.size
    by_cases hlt : k < n
    case neg =>
      go_wp2_with fail
      go_ret
      rw [nme_yes (by have := EN.out; have := EM.out; omega) fun i hi => hall.out i hi (by have := EN.out; omega)]
      exact ⟨rfl, hbel.out⟩
    have hks : k < Bs.length := by have := EN.out; omega
    obtain ⟨b, off, o1, n1, k1, o2, n2, k2, rfl, hb, c0, c1, c2⟩ := ROW.out k hks
    obtain ⟨g, of2, rfl, hg, cg⟩ := LAT.out k (by have := EM.out; omega)
    obtain ⟨x, ex⟩ : ∃ x, Bs[k].1 = x := ⟨_, rfl⟩
    rw [ex] at c0
    obtain ⟨y, ey⟩ : ∃ y, nthB L k = y := ⟨_, rfl⟩
    rw [ey] at cg
    obtain ⟨X, hX⟩ : ∃ X, X = wr.alloc (.cells #[.string x, .slice o1 n1 k1, .slice o2 n2 k2] 82) := ⟨_, rfl⟩
    have EX : Hid (X = wr.alloc (.cells #[.string x, .slice o1 n1 k1, .slice o2 n2 k2] 82)) := hX
    have BX : Hid (Below w.heap.size w X) := by rw [hX]; exact hbel.out.alloc hs _
    have RX : Hid (X.heap[wr.heap.size]? = some (.cells #[.string x, .slice o1 n1 k1, .slice o2 n2 k2] 82 (0, 0))) := by rw [hX]; exact heap_alloc_new wr _
    have r0 := (cell_row RX.out 0 _ rfl).1
    have r1 := (cell_row RX.out 1 _ rfl).1
    have r2 := (cell_row RX.out 2 _ rfl).1
    have e0 := (hbel.out.cell (p := ⟨b, off + k * 3, none⟩) hb).trans c0
    have e1 := (hbel.out.cell (p := ⟨b, off + k * 3 + 1, none⟩) hb).trans c1
    have e2 := (hbel.out.cell (p := ⟨b, off + k * 3 + 2, none⟩) hb).trans c2
    have eg := (BX.out.cell (p := ⟨g, of2 + k, none⟩) hg).trans cg
    have EQ : Hid (∀ R, eqB x y = R → eqB Bs[k].1 (nthB L k) = R) := fun R h => by rw [ex, ey]; exact h
    clear c0 c1 c2 cg hX ex ey
    go_upto_region 6 with fail
    rw [← EX.out]
    cases c : eqB x y
    · have HP : Hid (nmeB Bs L = false) := nme_at hks (EQ.out _ c)
      go_wp2_with fail
      refine (isNam_any x y _ _ _ _ _ _ _).mono ?_; rintro e u ⟨rfl, hb1⟩
      rw [c]
      have HB : Hid (Below w.heap.size w u) := BX.out.trans (hb1.mono BX.out.size)
      clear hb1
      go_wp2_with fail
      go_ret
      rw [HP.out]
      exact ⟨rfl, HB.out⟩
    · have HP : Hid (eqB Bs[k].1 (nthB L k) = true) := EQ.out _ c
      go_wp2_with fail
      refine (isNam_any x y _ _ _ _ _ _ _).mono ?_; rintro e u ⟨rfl, hb1⟩
      rw [c]
      have HB : Hid (Below w.heap.size w u) := BX.out.trans (hb1.mono BX.out.size)
      clear hb1
      go_wp2_with fail
      go_roundw
      case rel => exact ⟨k + 1, by omega, by go_num, fun j hj hjk => by
        by_cases e : j = k
        · subst e; exact HP.out
        · exact hall.out j hj (by omega), HB.out⟩
      case measure => simp [intOf]; omega
set_option maxRecDepth 100000 in
set_option maxHeartbeats 8000000 in
theorem namesP_any (S : Nat → Prop) (now last : Int) (o2 o3 o4 o5 : Option Addr) (n2 k2 n3 k3 n4 k4 n5 k5 : Nat) (Bs : List DShareBatch) (Ba : List DRunBatch) (w : World) (hB : AtL S w Bs (.slice o3 n3 k3)) (h : AtL S w Ba (.slice o4 n4 k4)) (hS : ∀ b, S b → b < w.heap.size) (hl : n4 ≤ 5) :
    Calls Tryz.prog 25 #[.agg #[.int .i64 now, .int .i64 last, .slice o2 n2 k2, .slice o3 n3 k3, .slice o4 n4 k4, .slice o5 n5 k5]] w fun e w' => e = .returned (.bool (nmeB Bs (sortL (Ba.map fun b => b.1)))) ∧ Below w.heap.size w w' := by
  have hmf : ∀ (fn : Fn) (first cap : Array Value) (w : World), (Instr.makeFunc fn first cap).run Tryz.prog w = .ok (.func fn first cap) w := fun _ _ _ _ => rfl
  have HZ : Hid (∀ y ∈ sortL (Ba.map fun b => b.1), OkS y) := fun y hy => by
    obtain ⟨b, hb, rfl⟩ := List.mem_map.1 ((sort_mem _ _).1 hy)
    obtain ⟨i, hi, rfl⟩ := List.getElem_of_mem hb
    obtain ⟨_, _, _, _, _, _, _, _, _, _, _, _, _, _, _, _, z0, _⟩ := rb_at h i hi
    exact z0
  have HLN : Hid ((Ba.map fun b : DRunBatch => b.1).length ≤ 1048576) := by
    have en : Ba.length = n4 := by obtain ⟨_, _, e, _⟩ := h; cases e; rfl
    show _ ≤ _
    rw [List.length_map]; omega
  obtain ⟨W, EW, BW, RW, sW⟩ := box_new w #[.int .i64 now, .int .i64 last, .slice o2 n2 k2, .slice o3 n3 k3, .slice o4 n4 k4, .slice o5 n5 k5] 38
  have BOX : Hid (∀ u, Below W.heap.size W u → u.heap[w.heap.size]? = some (.cells #[.int .i64 now, .int .i64 last, .slice o2 n2 k2, .slice o3 n3 k3, .slice o4 n4 k4, .slice o5 n5 k5] 38 (0, 0)) ∧ Below w.heap.size w u) := fun u hu => ⟨(hu.block _ (by omega)).trans RW.out, BW.out.trans (hu.mono (by omega))⟩
  have H3 : Hid _ := hB.ups hS
  have HS : Hid _ := lt_up hS
  have C : Hid _ := foldN_any S Ba o4 n4 k4 W (h.same (Same.of_below BW.out hS)) (HS.out W BW.out) hl
  clear h hB hS
  have y4 := (cell_row RW.out 4 _ rfl).1
  go_enter Tryz.func25, Tryz.ntmps25
  go_upto_region 1 with fail
  rw [← EW.out]
  go_wp2_with fail
  refine Calls.mono C.out ?_; rintro e w1 ⟨v, rfl, hrow, hb1⟩
  have R1 : Hid _ := hrow
  have B1 : Hid (Below W.heap.size W w1) := hb1
  clear hb1 hrow y4 C
  go_wp2_with fail
  refine (sortR_any W.heap.size v _ w1 R1.out HLN.out B1.out.size).mono ?_; rintro e u2 ⟨rfl, hrow, hb2⟩
  have B2 : Hid (Below W.heap.size W u2) := B1.out.trans hb2
  have BX2 := BOX.out u2 B2.out
  have BX2' : Hid (Below w.heap.size w u2) := BX2.2
  have y3 := (cell_row BX2.1 3 _ rfl).1
  obtain ⟨ov, kv, hv⟩ := Row.form hrow
  have AL : Hid (AtL (fun b => W.heap.size ≤ b ∧ b < u2.heap.size) u2 (sortL (Ba.map fun b => b.1)) v) := flatS.row_at hrow (fun g hg => World.ownsRow.lt hrow g hg) HZ.out
  clear hb2 hrow BX2 R1
  subst hv
  go_wp2_with fail
  refine (eqn_any S _ Bs _ o3 ov n3 k3 _ kv u2 (H3.out u2 BX2'.out) AL.out (HS.out u2 BX2'.out) (fun b hb => hb.2)).mono ?_; rintro e u3 ⟨rfl, hb3⟩
  have B3 : Hid (Below w.heap.size w u3) := BX2'.out.trans (hb3.mono BX2'.out.size)
  clear hb3 y3
  go_wp2_with fail
  go_ret
  exact ⟨rfl, B3.out⟩
end Go.Proofs.YtobchllaopdchabGreat
