/-
  Several texts in one.
-/
import Derived.Test.YtobchllaopdchacGreatM18
import Derived.Test.YtobchllaopdchacGreatM19
import Derived.Test.YtobchllaopdchacGreatM2
import Derived.Test.YtobchllaopdchacGreatM0
import Derived.Deep.Cut
namespace Go.Proofs.YtobchllaopdchacGreat
open Go.RowKit Go.Sort
theorem runX_q (S : Nat → Prop) (nm : ByteArray) (r : List DRecPhase) (sl : List DRunSlot) (at_ : ByteArray) (si st : Int) (o1 o2 : Option Addr) (n1 k1 n2 k2 : Nat) (wr : World) (hn : nm.size ≤ maxLen) (hr : AtL S wr r (.slice o1 n1 k1)) (h : AtL S wr sl (.slice o2 n2 k2)) (hS : ∀ b, S b → b < wr.heap.size) (R : Bool) (hR : runB (nm, r, sl, at_, si, st) = R) (d : Nat) (os : Array Obj) :
    Calls Tryz.prog 31 #[.agg #[.string nm, .slice o1 n1 k1, .slice o2 n2 k2, .string at_, .int .i64 si, .int .i64 st]] (grow (redrawn wr d) os) fun e w'' => e = .returned (.bool R) ∧ ∃ p : Regrown, w'' = grow (redrawn wr p.d) p.os :=
  Calls.regrown_of ((runX_any S nm r sl at_ si st o1 o2 n1 k1 n2 k2 _ hn (hr.same (Same.of_below (below_regrown wr d os) hS)) (h.same (Same.of_below (below_regrown wr d os) hS)) (fun b hb => Nat.lt_of_lt_of_le (hS b hb) (below_regrown wr d os).size)).mono fun _ _ ⟨he, hw⟩ => ⟨by subst hR; exact he, hw⟩)
theorem ofX2_q (S : Nat → Prop) (now last : Int) (v2 v3 v5 : Value) (Ba : List DRunBatch) (oa : Option Addr) (nb kb : Nat) (x : ByteArray) (wr : World) (h : AtL S wr Ba (.slice oa nb kb)) (hS : ∀ b, S b → b < wr.heap.size) (R : Int) (hR : ofI Ba x = R) (d : Nat) (os : Array Obj) :
    Calls Tryz.prog 32 #[.agg #[.int .i64 now, .int .i64 last, v2, v3, .slice oa nb kb, v5], .string x] (grow (redrawn wr d) os) fun e w'' => e = .returned (.int .i64 R) ∧ ∃ p : Regrown, w'' = grow (redrawn wr p.d) p.os :=
  Calls.regrown_of ((ofX2_any S now last v2 v3 v5 Ba oa nb kb x _ (h.same (Same.of_below (below_regrown wr d os) hS)) (fun b hb => Nat.lt_of_lt_of_le (hS b hb) (below_regrown wr d os).size)).mono fun _ _ ⟨he, hw⟩ => ⟨by subst hR; exact he, hw⟩)
structure BatR (last : Int) (Ba : List DRunBatch) (i : Nat) (h : i < Ba.length) : Prop where
  run : runB Ba[i] = true
  start : Ba[i].2.2.2.2.2 ≤ last
  asc : ∀ m (hm : m < Ba.length), i = m + 1 → Ba[m].2.2.2.2.2 < Ba[i].2.2.2.2.2
  one : ofI Ba Ba[i].1 = (i : Int)
structure HouP (now last : Int) (T : List ByteArray) (Bs : List DShareBatch) (Ba : List DRunBatch) (Do : List DRunDone) : Prop where
  now_ : inB now 0 100000 = true
  last_ : inB last 0 1000000 = true
  safe : (ordS (T, Bs)).2 = true
  dones : donB now Do = true
  row : ∀ i (h : i < Ba.length), BatR last Ba i h
  shares : shaB Bs Ba = true
noncomputable def houB (now last : Int) (T : List ByteArray) (Bs : List DShareBatch) (Ba : List DRunBatch) (Do : List DRunDone) : Bool := @decide (HouP now last T Bs Ba Do) (Classical.propDecidable _)
theorem hou_yes {now last : Int} {T : List ByteArray} {Bs : List DShareBatch} {Ba : List DRunBatch} {Do : List DRunDone} (h : HouP now last T Bs Ba Do) : houB now last T Bs Ba Do = true := by unfold houB; exact @decide_eq_true _ (Classical.propDecidable _) h
theorem hou_no {now last : Int} {T : List ByteArray} {Bs : List DShareBatch} {Ba : List DRunBatch} {Do : List DRunDone} (h : ¬ HouP now last T Bs Ba Do) : houB now last T Bs Ba Do = false := by unfold houB; exact @decide_eq_false _ (Classical.propDecidable _) h
theorem hou_iff {now last : Int} {T : List ByteArray} {Bs : List DShareBatch} {Ba : List DRunBatch} {Do : List DRunDone} : houB now last T Bs Ba Do = true ↔ HouP now last T Bs Ba Do := by unfold houB; exact @decide_eq_true_iff _ (Classical.propDecidable _)
set_option maxRecDepth 100000 in
set_option maxHeartbeats 16000000 in
theorem houX_any (S : Nat → Prop) (now last : Int) (o2 o3 o4 o5 : Option Addr) (n2 k2 n3 k3 n4 k4 n5 k5 : Nat) (T : List ByteArray) (Bs : List DShareBatch) (Ba : List DRunBatch) (Do : List DRunDone) (w : World) (hT : AtL S w T (.slice o2 n2 k2)) (hB : AtL S w Bs (.slice o3 n3 k3)) (h : AtL S w Ba (.slice o4 n4 k4)) (hD : AtL S w Do (.slice o5 n5 k5)) (hS : ∀ b, S b → b < w.heap.size) :
    Calls Tryz.prog 12 #[.agg #[.int .i64 now, .int .i64 last, .slice o2 n2 k2, .slice o3 n3 k3, .slice o4 n4 k4, .slice o5 n5 k5]] w fun e w' => e = .returned (.bool (houB now last T Bs Ba Do)) ∧ Below w.heap.size w w' := by
  have en4 : Ba.length = n4 := by obtain ⟨_, _, e, _⟩ := h; cases e; rfl
  have hm4 : n4 ≤ 9223372036854775807 := by obtain ⟨_, _, e, hf, _⟩ := id h; cases e; have := hf.1; unfold maxLen at this; omega
  have EN : Hid (Ba.length ≤ n4 ∧ n4 ≤ Ba.length) := ⟨by omega, by omega⟩
  have H2 : Hid _ := hT.ups hS
  have H3 : Hid _ := hB.ups hS
  have H4 : Hid _ := h.ups hS
  have H5 : Hid _ := hD.ups hS
  have HS : Hid _ := lt_up hS
  obtain ⟨W, EW, BW, RW, sW⟩ := box_new w #[.int .i64 now, .int .i64 last, .slice o2 n2 k2, .slice o3 n3 k3, .slice o4 n4 k4, .slice o5 n5 k5] 38
  have BOX : Hid (∀ u, Below W.heap.size W u → u.heap[w.heap.size]? = some (.cells #[.int .i64 now, .int .i64 last, .slice o2 n2 k2, .slice o3 n3 k3, .slice o4 n4 k4, .slice o5 n5 k5] 38 (0, 0)) ∧ Below w.heap.size w u) := fun u hu => ⟨(hu.block _ (by omega)).trans RW.out, BW.out.trans (hu.mono (by omega))⟩
  clear h hT hB hD hS en4
  have h0 := fun u (hu : Below W.heap.size W u) => cell_row (BOX.out u hu).1
  have Y : Hid (∀ u, Below W.heap.size W u → u.cell? ⟨w.heap.size, 0, none⟩ = some (.int .i64 now) ∧ u.cell? ⟨w.heap.size, 1, none⟩ = some (.int .i64 last) ∧ u.cell? ⟨w.heap.size, 2, none⟩ = some (.slice o2 n2 k2) ∧ u.cell? ⟨w.heap.size, 3, none⟩ = some (.slice o3 n3 k3) ∧ u.cell? ⟨w.heap.size, 4, none⟩ = some (.slice o4 n4 k4) ∧ u.cell? ⟨w.heap.size, 5, none⟩ = some (.slice o5 n5 k5)) := fun u hu =>
    ⟨(h0 u hu 0 _ rfl).1, (h0 u hu 1 _ rfl).1, (h0 u hu 2 _ rfl).1, (h0 u hu 3 _ rfl).1, (h0 u hu 4 _ rfl).1, (h0 u hu 5 _ rfl).1⟩
  clear h0
  obtain ⟨V, hV⟩ : ∃ V, V = houB now last T Bs Ba Do := ⟨_, rfl⟩
  have YES : Hid (HouP now last T Bs Ba Do → V = true) := fun h => by rw [hV]; exact hou_yes h
  have NO : Hid (¬ HouP now last T Bs Ba Do → V = false) := fun h => by rw [hV]; exact hou_no h
  rw [← hV]
  clear hV
  obtain ⟨y0, y1, y2, y3, y4, y5⟩ := Y.out W (Below.refl _ _)
  go_enter Tryz.func12, Tryz.ntmps12
  go_upto_region 1 with fail
  rw [← EW.out]
  go_wp2_with fail
  refine (inX_any _ _ _ _).mono ?_; rintro e w1 ⟨rfl, rfl⟩
  cases c0 : inB now 0 100000
  · have er : V = false := NO.out (fun h => by have := h.now_; rw [c0] at this; cases this)
    clear y1 y2 y3 y4 y5
    go_wp2_with fail
    go_ret
    rw [er]
    exact ⟨rfl, BW.out⟩
  go_wp2_with fail
  refine (inX_any _ _ _ _).mono ?_; rintro e w2 ⟨rfl, rfl⟩
  cases c1 : inB last 0 1000000
  · have er : V = false := NO.out (fun h => by have := h.last_; rw [c1] at this; cases this)
    clear y2 y3 y4 y5
    go_wp2_with fail
    go_ret
    rw [er]
    exact ⟨rfl, BW.out⟩
  go_wp2_with fail
  refine (safeZ_any S T Bs o2 o3 n2 k2 n3 k3 w2 (H2.out _ BW.out) (H3.out _ BW.out) (HS.out _ BW.out)).mono ?_; rintro e w3 ⟨rfl, hb3⟩
  have B3 : Hid (Below w2.heap.size w2 w3) := hb3
  have BW3 : Hid (Below w.heap.size w w3) := (BOX.out w3 hb3).2
  clear y0 y1 y2 y3 y4 y5 hb3
  obtain ⟨y0, y1, y2, y3, y4, y5⟩ := Y.out w3 B3.out
  cases c2 : (ordS (T, Bs)).2
  · have er : V = false := NO.out (fun h => by have := h.safe; rw [c2] at this; cases this)
    clear y0 y1 y2 y3 y4 y5
    go_wp2_with fail
    go_ret
    rw [er]
    exact ⟨rfl, BW3.out⟩
  go_wp2_with fail
  refine (donX_any S now last o2 o3 o4 o5 n2 k2 n3 k3 n4 k4 n5 k5 Do w3 (H5.out _ BW3.out) (HS.out _ BW3.out)).mono ?_; rintro e w4 ⟨rfl, hb4⟩
  have B4 : Hid (Below w2.heap.size w2 w4) := B3.out.trans (hb4.mono B3.out.size)
  have BW4 : Hid (Below w.heap.size w w4) := (BOX.out w4 B4.out).2
  clear y0 y1 y2 y3 y4 y5 hb4
  cases c3 : donB now Do
  · have er : V = false := NO.out (fun h => by have := h.dones; rw [c3] at this; cases this)
    go_wp2_with fail
    go_ret
    rw [er]
    exact ⟨rfl, BW4.out⟩
  have TOP : Hid (inB now 0 100000 = true ∧ inB last 0 1000000 = true ∧ (ordS (T, Bs)).2 = true ∧ donB now Do = true) := ⟨c0, c1, c2, c3⟩
  clear c0 c1 c2 c3
  go_wp2_with fail
  go_loopw [3] (fun i wr => ∃ k : Nat, k ≤ n4 ∧ i = .int .i64 k ∧ Hid (∀ j (hj : j < Ba.length), j < k → BatR last Ba j hj) ∧ Hid (Below w2.heap.size w2 wr)) (fun i _ => n4 - (intOf i).toNat)
  case atStart => exact ⟨0, Nat.zero_le _, rfl, fun _ _ h => by omega, B4.out⟩
  case round =>
    obtain ⟨k, hk, rfl, hall, hbel⟩ := hrel
    have hs := hbel.out.size
    have BWR : Hid (Below w.heap.size w wr) := (BOX.out wr hbel.out).2
    obtain ⟨y0, y1, y2, y3, y4, y5⟩ := Y.out wr hbel.out
    by_cases hlt : k < n4
    case neg =>
      go_wp2_with fail
      refine (shaX_any S now last o2 o3 o4 o5 n2 k2 n3 k3 n4 k4 n5 k5 T Bs Ba wr (H2.out wr BWR.out) (H3.out wr BWR.out) (H4.out wr BWR.out) (HS.out wr BWR.out)).mono ?_; rintro e w9 ⟨rfl, hb9⟩
      have B9 : Hid (Below w.heap.size w w9) := BWR.out.trans (hb9.mono BWR.out.size)
      have er : V = shaB Bs Ba := by
        obtain ⟨t0, t1, t2, t3⟩ := TOP.out
        cases c : shaB Bs Ba with
        | false => exact NO.out (fun h => by have := h.shares; rw [c] at this; cases this)
        | true => exact YES.out ⟨t0, t1, t2, t3, fun i hi => hall.out i hi (by have := EN.out; omega), c⟩
      clear hb9 y0 y1 y2 y3 y4 y5
      go_wp2_with fail
      go_ret
      rw [er]
      exact ⟨rfl, B9.out⟩
    have hks : k < Ba.length := by have := EN.out; omega
    obtain ⟨b, off, p1, p2, m1, j1, m2, j2, rfl, hbS, e0, e1, e2, e3, e4, e5, z0, hr, hsl⟩ := rb_at (H4.out wr BWR.out) k hks
    have hbw := HS.out wr BWR.out b hbS
    obtain ⟨f, ef⟩ : ∃ f, Ba[k] = f := ⟨_, rfl⟩
    rw [ef] at e0 e3 e4 e5 z0 hr hsl
    obtain ⟨nm, r, sl, at_, si, st⟩ := f
    simp only at e0 e3 e4 e5 z0 hr hsl
    have EF : Hid (Ba[k] = (nm, r, sl, at_, si, st)) := ef
    have HZ : Hid (nm.size ≤ maxLen) := z0
    obtain ⟨X, hX⟩ : ∃ X, X = wr.alloc (.cells #[.string nm, .slice p1 m1 j1, .slice p2 m2 j2, .string at_, .int .i64 si, .int .i64 st] 49) := ⟨_, rfl⟩
    have EX : Hid (X = wr.alloc (.cells #[.string nm, .slice p1 m1 j1, .slice p2 m2 j2, .string at_, .int .i64 si, .int .i64 st] 49)) := hX
    have CX : Hid (Below wr.heap.size wr X) := by rw [hX]; exact (Below.refl _ _).alloc (Nat.le_refl _) _
    have BXX : Hid (Below w2.heap.size w2 X) := hbel.out.trans (CX.out.mono hs)
    have RX : Hid (X.heap[wr.heap.size]? = some (.cells #[.string nm, .slice p1 m1 j1, .slice p2 m2 j2, .string at_, .int .i64 si, .int .i64 st] 49 (0, 0))) := by rw [hX]; exact heap_alloc_new wr _
    have BDX : Hid (Below w.heap.size w X) := (BOX.out X BXX.out).2
    have HRX : Hid (AtL S X r (.slice p1 m1 j1)) := hr.same (Same.of_below CX.out (HS.out wr BWR.out))
    have HLX : Hid (AtL S X sl (.slice p2 m2 j2)) := hsl.same (Same.of_below CX.out (HS.out wr BWR.out))
    have HBX : Hid (AtL S X Ba (.slice (some ⟨b, off, none⟩) n4 k4)) := H4.out X BDX.out
    have HSX : Hid (∀ b, S b → b < X.heap.size) := HS.out X BDX.out
    clear ef z0 hr hsl hbS hX
    obtain ⟨x0, x1, x2, x3, x4, x5⟩ := Y.out X BXX.out
    have qh0 := fun d os => cell_regrown x0 d os
    have qh1 := fun d os => cell_regrown x1 d os
    have qh2 := fun d os => cell_regrown x2 d os
    have qh3 := fun d os => cell_regrown x3 d os
    have qh4 := fun d os => cell_regrown x4 d os
    have qh5 := fun d os => cell_regrown x5 d os
    have qb0 := fun d os => cell_regrown (cell_row RX.out 0 _ rfl).1 d os
    have qb1 := fun d os => cell_regrown (cell_row RX.out 1 _ rfl).1 d os
    have qb2 := fun d os => cell_regrown (cell_row RX.out 2 _ rfl).1 d os
    have qb3 := fun d os => cell_regrown (cell_row RX.out 3 _ rfl).1 d os
    have qb4 := fun d os => cell_regrown (cell_row RX.out 4 _ rfl).1 d os
    have qb5 := fun d os => cell_regrown (cell_row RX.out 5 _ rfl).1 d os
    go_upto_region 7 with fail
    rw [← EX.out]
    clear e0 e1 e2 e3 e4 e5 y0 y1 y2 y3 y4 y5 x0 x1 x2 x3 x4 x5
    cases c0 : runB (nm, r, sl, at_, si, st)
    · have er : V = false := NO.out (fun h => by
        have := (h.row k hks).run
        rw [EF.out, c0] at this
        cases this)
      go_wp2_with fail
      refine wp_region_quiet_below (by kernel_rfl) (by kernel_rfl) ?_
      repeat (first | go_big_quiet_step (first | (with_reducible exact runX_q S _ _ _ _ _ _ _ _ _ _ _ _ _ HZ.out HRX.out HLX.out HSX.out _ c0 _ _)) | quiet_step (first | (with_reducible exact runX_q S _ _ _ _ _ _ _ _ _ _ _ _ _ HZ.out HRX.out HLX.out HSX.out _ c0 _ _)))
      refine wpQuiet_nil ?_
      intro _ hw'
      obtain ⟨⟨dq, osq⟩, hw''⟩ := hw'
      subst hw''
      go_wp2_with fail
      go_ret
      rw [er]
      exact ⟨rfl, BDX.out.trans ((below_regrown X dq osq).mono BDX.out.size)⟩
    by_cases c1 : last < st
    · have er : V = false := NO.out (fun h => by
        have := (h.row k hks).start
        rw [EF.out] at this
        exact absurd (show st ≤ last from this) (by omega))
      go_wp2_with fail
      refine wp_region_quiet_below (by kernel_rfl) (by kernel_rfl) ?_
      repeat (first | go_big_quiet_step (first | (with_reducible exact runX_q S _ _ _ _ _ _ _ _ _ _ _ _ _ HZ.out HRX.out HLX.out HSX.out _ c0 _ _)) | quiet_step (first | (with_reducible exact runX_q S _ _ _ _ _ _ _ _ _ _ _ _ _ HZ.out HRX.out HLX.out HSX.out _ c0 _ _)))
      refine wpQuiet_nil ?_
      intro _ hw'
      obtain ⟨⟨dq, osq⟩, hw''⟩ := hw'
      subst hw''
      go_wp2_with fail
      go_ret
      rw [er]
      exact ⟨rfl, BDX.out.trans ((below_regrown X dq osq).mono BDX.out.size)⟩
    rcases Nat.eq_zero_or_pos k with rfl | hpos
    · obtain ⟨ov, cO⟩ : ∃ o, ofI Ba nm = o := ⟨_, rfl⟩
      by_cases c4 : ov = ((0 : Nat) : Int)
      · have cO : ofI Ba nm = ((0 : Nat) : Int) := cO.trans c4
        have HD : Hid (BatR last Ba (0) hks) := ⟨by rw [EF.out]; exact c0, by rw [EF.out]; show st ≤ last; omega, fun m hm e => by omega, by rw [EF.out]; exact cO⟩
        clear c4
        go_wp2_with fail
        refine wp_region_quiet_below (by kernel_rfl) (by kernel_rfl) ?_
        repeat (first | go_big_quiet_step (first | (with_reducible exact runX_q S _ _ _ _ _ _ _ _ _ _ _ _ _ HZ.out HRX.out HLX.out HSX.out _ c0 _ _) | (with_reducible exact ofX2_q S _ _ _ _ _ _ _ _ _ _ _ HBX.out HSX.out _ cO _ _)) | quiet_step (first | (with_reducible exact runX_q S _ _ _ _ _ _ _ _ _ _ _ _ _ HZ.out HRX.out HLX.out HSX.out _ c0 _ _) | (with_reducible exact ofX2_q S _ _ _ _ _ _ _ _ _ _ _ HBX.out HSX.out _ cO _ _)))
        refine wpQuiet_nil ?_
        intro _ hw'
        obtain ⟨⟨dq, osq⟩, hw''⟩ := hw'
        subst hw''
        go_wp2_with fail
        go_roundw
        case rel => exact ⟨0 + 1, by omega, by go_num, fun j hj hjk => by
          by_cases e : j = 0
          · subst e; exact HD.out
          · exact hall.out j hj (by omega), BXX.out.trans ((below_regrown X dq osq).mono BXX.out.size)⟩
        case measure => simp [intOf]; omega
      · have er : V = false := NO.out (fun h => by
          have := (h.row (0) hks).one
          rw [EF.out] at this
          exact c4 (cO.symm.trans this))
        have bn : (ov != 0) = true := by rw [bne_iff_ne]; intro e; exact c4 (by rw [e]; simp)
        have bn2 : (ov != ((0 : Nat) : Int)) = true := by rw [bne_iff_ne]; exact c4
        go_wp2_with fail
        refine wp_region_quiet_below (by kernel_rfl) (by kernel_rfl) ?_
        repeat (first | go_big_quiet_step (first | (with_reducible exact runX_q S _ _ _ _ _ _ _ _ _ _ _ _ _ HZ.out HRX.out HLX.out HSX.out _ c0 _ _) | (with_reducible exact ofX2_q S _ _ _ _ _ _ _ _ _ _ _ HBX.out HSX.out _ cO _ _)) | quiet_step (first | (with_reducible exact runX_q S _ _ _ _ _ _ _ _ _ _ _ _ _ HZ.out HRX.out HLX.out HSX.out _ c0 _ _) | (with_reducible exact ofX2_q S _ _ _ _ _ _ _ _ _ _ _ HBX.out HSX.out _ cO _ _)))
        refine wpQuiet_nil ?_
        intro _ hw'
        obtain ⟨⟨dq, osq⟩, hw''⟩ := hw'
        subst hw''
        go_wp2_with fail
        go_ret
        rw [er]
        exact ⟨rfl, BDX.out.trans ((below_regrown X dq osq).mono BDX.out.size)⟩
    · obtain ⟨m, rfl⟩ : ∃ m, k = m + 1 := ⟨k - 1, by omega⟩
      have hms : m < Ba.length := by omega
      obtain ⟨_, _, _, _, _, _, _, _, eo, _, _, _, _, _, _, d5, _⟩ := rb_at HBX.out m hms
      cases eo
      obtain ⟨pt, ept⟩ : ∃ p, Ba[m].2.2.2.2.2 = p := ⟨_, rfl⟩
      rw [ept] at d5
      have EP : Hid (Ba[m].2.2.2.2.2 = pt) := ept
      have qp := fun d os => cell_regrown d5 d os
      have gt0 : decide ((0 : Int) < ((m : Int) + 1)) = true := by rw [decide_eq_true_eq]; omega
      clear d5 ept
      by_cases c3 : st ≤ pt
      · have er : V = false := NO.out (fun h => by
          have := (h.row (m + 1) hks).asc m hms rfl
          rw [EF.out, EP.out] at this
          exact absurd (show pt < st from this) (by omega))
        go_wp2_with fail
        refine wp_region_quiet_below (by kernel_rfl) (by kernel_rfl) ?_
        repeat (first | go_big_quiet_step (first | (with_reducible exact runX_q S _ _ _ _ _ _ _ _ _ _ _ _ _ HZ.out HRX.out HLX.out HSX.out _ c0 _ _)) | quiet_step (first | (with_reducible exact runX_q S _ _ _ _ _ _ _ _ _ _ _ _ _ HZ.out HRX.out HLX.out HSX.out _ c0 _ _)))
        refine wpQuiet_nil ?_
        intro _ hw'
        obtain ⟨⟨dq, osq⟩, hw''⟩ := hw'
        subst hw''
        go_wp2_with fail
        go_ret
        rw [er]
        exact ⟨rfl, BDX.out.trans ((below_regrown X dq osq).mono BDX.out.size)⟩
      · obtain ⟨ov, cO⟩ : ∃ o, ofI Ba nm = o := ⟨_, rfl⟩
        by_cases c4 : ov = ((m + 1 : Nat) : Int)
        · have cO : ofI Ba nm = ((m + 1 : Nat) : Int) := cO.trans c4
          have HD : Hid (BatR last Ba (m + 1) hks) := ⟨by rw [EF.out]; exact c0, by rw [EF.out]; show st ≤ last; omega, fun m' hm e => by
              obtain rfl : m' = m := by omega
              rw [EF.out, EP.out]; show pt < st; omega, by rw [EF.out]; exact cO⟩
          clear c4
          go_wp2_with fail
          refine wp_region_quiet_below (by kernel_rfl) (by kernel_rfl) ?_
          repeat (first | go_big_quiet_step (first | (with_reducible exact runX_q S _ _ _ _ _ _ _ _ _ _ _ _ _ HZ.out HRX.out HLX.out HSX.out _ c0 _ _) | (with_reducible exact ofX2_q S _ _ _ _ _ _ _ _ _ _ _ HBX.out HSX.out _ cO _ _)) | quiet_step (first | (with_reducible exact runX_q S _ _ _ _ _ _ _ _ _ _ _ _ _ HZ.out HRX.out HLX.out HSX.out _ c0 _ _) | (with_reducible exact ofX2_q S _ _ _ _ _ _ _ _ _ _ _ HBX.out HSX.out _ cO _ _)))
          refine wpQuiet_nil ?_
          intro _ hw'
          obtain ⟨⟨dq, osq⟩, hw''⟩ := hw'
          subst hw''
          go_wp2_with fail
          go_roundw
          case rel => exact ⟨m + 1 + 1, by omega, by go_num, fun j hj hjk => by
            by_cases e : j = m + 1
            · subst e; exact HD.out
            · exact hall.out j hj (by omega), BXX.out.trans ((below_regrown X dq osq).mono BXX.out.size)⟩
          case measure => simp [intOf]; omega
        · have er : V = false := NO.out (fun h => by
            have := (h.row (m + 1) hks).one
            rw [EF.out] at this
            exact c4 (cO.symm.trans this))
          have bn : (ov != ((m : Int) + 1)) = true := by rw [bne_iff_ne]; intro e; exact c4 (by rw [e]; simp)
          have bn2 : (ov != ((m + 1 : Nat) : Int)) = true := by rw [bne_iff_ne]; exact c4
          go_wp2_with fail
          refine wp_region_quiet_below (by kernel_rfl) (by kernel_rfl) ?_
          repeat (first | go_big_quiet_step (first | (with_reducible exact runX_q S _ _ _ _ _ _ _ _ _ _ _ _ _ HZ.out HRX.out HLX.out HSX.out _ c0 _ _) | (with_reducible exact ofX2_q S _ _ _ _ _ _ _ _ _ _ _ HBX.out HSX.out _ cO _ _)) | quiet_step (first | (with_reducible exact runX_q S _ _ _ _ _ _ _ _ _ _ _ _ _ HZ.out HRX.out HLX.out HSX.out _ c0 _ _) | (with_reducible exact ofX2_q S _ _ _ _ _ _ _ _ _ _ _ HBX.out HSX.out _ cO _ _)))
          refine wpQuiet_nil ?_
          intro _ hw'
          obtain ⟨⟨dq, osq⟩, hw''⟩ := hw'
          subst hw''
          go_wp2_with fail
          go_ret
          rw [er]
          exact ⟨rfl, BDX.out.trans ((below_regrown X dq osq).mono BDX.out.size)⟩
end Go.Proofs.YtobchllaopdchacGreat

namespace Go.Proofs.YtobchllaopdchacGreat
open Go.RowKit
set_option maxRecDepth 100000 in
set_option maxHeartbeats 4000000 in
theorem bndX_any (S : Nat → Prop) (r : List DRecPhase) (hR : RecP r) : ∀ (n : Nat) (v : Value) (x : ByteArray) (w : World), n ≤ 12 → AtL S w r v → (∀ k : Nat, atI r x = (k : Int) → r.length ≤ k + n) → Calls Tryz.prog 13 #[v, .string x] w fun e w' => e = .returned (.int .i64 (bndF n r x)) ∧ w' = w := by
  intro n
  induction n with
  | zero =>
    intro v x w _ h hd
    have e : atI r x = -1 := by
      rcases at_cases r x with e | ⟨k, hk, e, _⟩
      · exact e
      · have := hd k e; omega
    go_enter Tryz.func13, Tryz.ntmps13
    go_wp2_with fail
    refine (atX_any S r v x w h).mono ?_; rintro e' w1 ⟨rfl, rfl⟩; rw [e]
    go_wp2_with fail
    go_ret
    exact ⟨rfl, rfl⟩
  | succ n IH =>
    intro v x w hn12 h hd
    rcases at_cases r x with e | ⟨k, hk, e, _⟩
    · have hr : bndF (n + 1) r x = 0 := by simp [bndF, e]
      rw [hr]
      go_enter Tryz.func13, Tryz.ntmps13
      go_wp2_with fail
      refine (atX_any S r v x w h).mono ?_; rintro e' w1 ⟨rfl, rfl⟩; rw [e]
      go_wp2_with fail
      go_ret
      exact ⟨rfl, rfl⟩
    obtain ⟨oa, cap, ev, hx⟩ := id h
    subst ev
    obtain ⟨b, off, rfl, hbS, cc, hcell, hat⟩ := hx.2 k hk
    clear hx
    have hph := ph_at hk e
    rw [width_DRecPhase] at hcell
    rw [at_DRecPhase] at hat
    obtain ⟨nl, en⟩ : ∃ n, r.length = n := ⟨_, rfl⟩
    obtain ⟨f, ef⟩ : ∃ f, r[k] = f := ⟨_, rfl⟩
    have hst := step_of hR hk
    have hin := (ph_name hst.1).2.2.1
    rw [ef] at hph hst hin hat
    obtain ⟨nm, kd, a, b', n', wi, th, el⟩ := f
    obtain ⟨_, _, _, _, _, ⟨q5, _, _⟩, ⟨q6, _⟩, ⟨q7, _⟩⟩ := hat
    have e5 : w.cell? ⟨b, off + k * 8 + 5, none⟩ = some (.int .i64 wi) := (hcell 5 (by omega)).trans (by rw [q5])
    have e6 : w.cell? ⟨b, off + k * 8 + 6, none⟩ = some (.string th) := (hcell 6 (by omega)).trans (by rw [q6])
    have e7 : w.cell? ⟨b, off + k * 8 + 7, none⟩ = some (.string el) := (hcell 7 (by omega)).trans (by rw [q7])
    clear hcell q5 q6 q7
    have HT : Hid (∀ j : Nat, atI r th = (j : Int) → r.length ≤ j + n) := fun j hj => by have := go_next hR hst.2.1 j hj; have := hd k e; omega
    have HE : Hid (∀ j : Nat, atI r el = (j : Int) → r.length ≤ j + n) := fun j hj => by have := go_next hR hst.2.2 j hj; have := hd k e; omega
    simp only at hin
    rw [en] at h
    rw [en]
    have H : Hid (AtL S w r (.slice (some ⟨b, off, none⟩) nl cap)) := h
    have hkn : k < nl := by omega
    have hnl : nl ≤ 12 := by have := hR.1; omega
    have hnx : ¬ (atI r x < 0) := by omega
    have hr : Hid (bndF (n + 1) r x = max (bndF n r th) (bndF n r el) + wi) := by show _ = _; simp only [bndF, if_neg hnx, hph]
    obtain ⟨A, hA⟩ : ∃ A, A = bndF n r th := ⟨_, rfl⟩
    obtain ⟨B, hB⟩ : ∃ B, B = bndF n r el := ⟨_, rfl⟩
    have bA := bnd_le hR n th
    have bB := bnd_le hR n el
    rw [← hA] at bA
    rw [← hB] at bB
    have CT : Hid (Calls Tryz.prog 13 #[.slice (some ⟨b, off, none⟩) nl cap, .string th] w fun e w' => e = .returned (.int .i64 A) ∧ w' = w) := by rw [hA]; exact IH _ th w (by omega) H.out HT.out
    have CE : Hid (Calls Tryz.prog 13 #[.slice (some ⟨b, off, none⟩) nl cap, .string el] w fun e w' => e = .returned (.int .i64 B) ∧ w' = w) := by rw [hB]; exact IH _ el w (by omega) H.out HE.out
    have HR2 : Hid (bndF (n + 1) r x = max A B + wi) := by rw [hA, hB]; exact hr.out
    clear hA hB IH hd hst hph hr HT HE h hR en ef
    rw [HR2.out]
    go_enter Tryz.func13, Tryz.ntmps13
    go_wp2_with fail
    refine (atX_any S r _ x w H.out).mono ?_; rintro e' w1 ⟨rfl, rfl⟩; rw [e]
    clear e
    go_wp2_with fail
    refine CT.out.mono ?_; rintro e' w2 ⟨rfl, rfl⟩
    go_wp2_with fail
    refine CE.out.mono ?_; rintro e' w3 ⟨rfl, rfl⟩
    by_cases c : A < B
    · have hm : Hid (max A B = B) := by show _ = _; omega
      go_wp2_with fail
      go_ret
      exact ⟨by rw [hm.out]; rfl, rfl⟩
    · have hm : Hid (max A B = A) := by show _ = _; omega
      go_wp2_with fail
      go_ret
      exact ⟨by rw [hm.out]; rfl, rfl⟩
end Go.Proofs.YtobchllaopdchacGreat

namespace Go.Proofs.YtobchllaopdchacGreat
open Go.RowKit Go.Sort
def lefI (b : DRunBatch) : Int := bndF 12 b.2.1 b.2.2.2.1 - (if 0 < b.2.2.2.2.1 then b.2.2.2.2.1 else 0)
def lefS : List DRunBatch → Int
  | [] => 0
  | b :: l => lefI b + lefS l
theorem lef_one (l : List DRunBatch) (b : DRunBatch) : lefS (l ++ [b]) = lefS l + lefI b := by
  induction l with
  | nil => simp [lefS]
  | cons a l ih => simp only [List.cons_append, lefS, ih]; omega
theorem lef_take {l : List DRunBatch} {k : Nat} (h : k < l.length) : lefS (l.take (k + 1)) = lefS (l.take k) + lefI l[k] := by
  rw [List.take_add_one, List.getElem?_eq_getElem h]
  exact lef_one _ _
theorem run_left {b : DRunBatch} (h : runB b = true) : recB b.2.1 = true ∧ (-1 ≤ b.2.2.2.2.1 ∧ b.2.2.2.2.1 ≤ 999) ∧ (0 ≤ bndF 12 b.2.1 b.2.2.2.1 ∧ bndF 12 b.2.1 b.2.2.2.1 ≤ 12000) := by
  have hr := run_rec h
  unfold runB at h
  unfold inB wiX at h
  simp only [Bool.and_eq_true, decide_eq_true_eq] at h
  have h1 := bnd_le hr.1 12 b.2.2.2.1
  refine ⟨h.1.1.1.1.2, ⟨h.2.1, ?_⟩, by omega, by omega⟩
  rcases at_cases b.2.1 b.2.2.2.1 with e | ⟨k, hk, e, _⟩
  · have := h.1.2; omega
  · have h2 := (ph_name (step_of hr.1 hk).1).2.2.1.2
    rw [← ph_at hk e] at h2
    have := h.2.2
    omega
theorem lefI_bd {b : DRunBatch} (h : runB b = true) : -1000 ≤ lefI b ∧ lefI b ≤ 12000 := by
  obtain ⟨_, h1, h2⟩ := run_left h
  unfold lefI
  split <;> omega
theorem lefS_bd {l : List DRunBatch} (h : ∀ i (hi : i < l.length), runB l[i] = true) : ∀ k, k ≤ l.length → -1000 * (k : Int) ≤ lefS (l.take k) ∧ lefS (l.take k) ≤ 12000 * (k : Int)
  | 0, _ => by simp [lefS]
  | k + 1, hk => by
    have h1 := lefS_bd h k (by omega)
    have h2 := lefI_bd (h k (by omega))
    rw [lef_take (show k < l.length by omega)]
    omega
noncomputable def lefH (now last : Int) (T : List ByteArray) (Bs : List DShareBatch) (Ba : List DRunBatch) (Do : List DRunDone) : Int := if houB now last T Bs Ba Do = true then lefS Ba else 0
theorem lefH_no {now last : Int} {T : List ByteArray} {Bs : List DShareBatch} {Ba : List DRunBatch} {Do : List DRunDone} (h : houB now last T Bs Ba Do = false) : lefH now last T Bs Ba Do = 0 := by unfold lefH; rw [h]; rfl
theorem lefH_yes {now last : Int} {T : List ByteArray} {Bs : List DShareBatch} {Ba : List DRunBatch} {Do : List DRunDone} (h : houB now last T Bs Ba Do = true) : lefH now last T Bs Ba Do = lefS Ba := by unfold lefH; rw [h]; rfl
theorem hou_run {now last : Int} {T : List ByteArray} {Bs : List DShareBatch} {Ba : List DRunBatch} {Do : List DRunDone} (h : houB now last T Bs Ba Do = true) : ∀ i (hi : i < Ba.length), runB Ba[i] = true := fun i hi => ((hou_iff.1 h).row i hi).run
theorem hou_five {now last : Int} {T : List ByteArray} {Bs : List DShareBatch} {Ba : List DRunBatch} {Do : List DRunDone} (h : houB now last T Bs Ba Do = true) : Ba.length ≤ 5 := by
  have P := hou_iff.1 h
  have h1 := (sha_iff.1 P.shares).len
  have h2 : bokB (T, Bs) = true := by
    have hs := P.safe
    unfold ordS at hs
    cases c : bokB (T, Bs) with
    | true => rfl
    | false => rw [c] at hs; cases hs
  have h3 : Bs.length ≤ 5 := (bok_iff.1 h2).len
  omega
end Go.Proofs.YtobchllaopdchacGreat

namespace Go.Proofs.YtobchllaopdchacGreat
open Go.RowKit Go.Sort
theorem wrap_l (n : Int) (h0 : -1000000000000000000 ≤ n) (h1 : n ≤ 2000000000000000000) : IntKind.i64.wrap n = n := by
  unfold IntKind.wrap
  simp only [IntKind.signed, IntKind.bits]
  simp
  omega
set_option maxRecDepth 100000 in
set_option maxHeartbeats 8000000 in
theorem leftX_any (S : Nat → Prop) (now last : Int) (o2 o3 o4 o5 : Option Addr) (n2 k2 n3 k3 n4 k4 n5 k5 : Nat) (T : List ByteArray) (Bs : List DShareBatch) (Ba : List DRunBatch) (Do : List DRunDone) (w : World) (hT : AtL S w T (.slice o2 n2 k2)) (hB : AtL S w Bs (.slice o3 n3 k3)) (h : AtL S w Ba (.slice o4 n4 k4)) (hD : AtL S w Do (.slice o5 n5 k5)) (hS : ∀ b, S b → b < w.heap.size) :
    Calls Tryz.prog 5 #[.agg #[.int .i64 now, .int .i64 last, .slice o2 n2 k2, .slice o3 n3 k3, .slice o4 n4 k4, .slice o5 n5 k5]] w fun e w' => e = .returned (.int .i64 (lefH now last T Bs Ba Do)) ∧ Below w.heap.size w w' := by
  have en4 : Ba.length = n4 := by obtain ⟨_, _, e, _⟩ := h; cases e; rfl
  have hmx : n4 ≤ 9223372036854775807 := by obtain ⟨_, _, e, hf, _⟩ := id h; cases e; have := hf.1; unfold maxLen at this; omega
  have EN : Hid (Ba.length ≤ n4 ∧ n4 ≤ Ba.length) := ⟨by omega, by omega⟩
  have H2 : Hid _ := hT.ups hS
  have H3 : Hid _ := hB.ups hS
  have H4 : Hid _ := h.ups hS
  have H5 : Hid _ := hD.ups hS
  have HS : Hid _ := lt_up hS
  obtain ⟨W, EW, BW, RW, sW⟩ := box_new w #[.int .i64 now, .int .i64 last, .slice o2 n2 k2, .slice o3 n3 k3, .slice o4 n4 k4, .slice o5 n5 k5] 38
  have BOX : Hid (∀ u, Below W.heap.size W u → u.heap[w.heap.size]? = some (.cells #[.int .i64 now, .int .i64 last, .slice o2 n2 k2, .slice o3 n3 k3, .slice o4 n4 k4, .slice o5 n5 k5] 38 (0, 0)) ∧ Below w.heap.size w u) := fun u hu => ⟨(hu.block _ (by omega)).trans RW.out, BW.out.trans (hu.mono (by omega))⟩
  clear h hT hB hD hS en4
  have h0 := fun u (hu : Below W.heap.size W u) => cell_row (BOX.out u hu).1
  have Y : Hid (∀ u, Below W.heap.size W u → u.cell? ⟨w.heap.size, 0, none⟩ = some (.int .i64 now) ∧ u.cell? ⟨w.heap.size, 1, none⟩ = some (.int .i64 last) ∧ u.cell? ⟨w.heap.size, 2, none⟩ = some (.slice o2 n2 k2) ∧ u.cell? ⟨w.heap.size, 3, none⟩ = some (.slice o3 n3 k3) ∧ u.cell? ⟨w.heap.size, 4, none⟩ = some (.slice o4 n4 k4) ∧ u.cell? ⟨w.heap.size, 5, none⟩ = some (.slice o5 n5 k5)) := fun u hu =>
    ⟨(h0 u hu 0 _ rfl).1, (h0 u hu 1 _ rfl).1, (h0 u hu 2 _ rfl).1, (h0 u hu 3 _ rfl).1, (h0 u hu 4 _ rfl).1, (h0 u hu 5 _ rfl).1⟩
  clear h0
  have CO : Hid (∀ u, Below w.heap.size w u → ∀ R, houB now last T Bs Ba Do = R → Calls Tryz.prog 12 #[.agg #[.int .i64 now, .int .i64 last, .slice o2 n2 k2, .slice o3 n3 k3, .slice o4 n4 k4, .slice o5 n5 k5]] u fun e w' => e = .returned (.bool R) ∧ Below u.heap.size u w') := fun u hu R hR => by
    subst hR
    exact houX_any S now last o2 o3 o4 o5 n2 k2 n3 k3 n4 k4 n5 k5 T Bs Ba Do u (H2.out u hu) (H3.out u hu) (H4.out u hu) (H5.out u hu) (HS.out u hu)
  cases c : houB now last T Bs Ba Do
  · have er : Hid (lefH now last T Bs Ba Do = 0) := lefH_no c
    have C0 := CO.out W BW.out _ c
    obtain ⟨y0, y1, y2, y3, y4, y5⟩ := Y.out W (Below.refl _ _)
    clear c
    rw [er.out]
    by_cases hn : 0 < n4
    case neg =>
      go_enter Tryz.func5, Tryz.ntmps5
      go_upto_region 1 with fail
      rw [← EW.out]
      go_wp2_with fail
      go_loopw [3, 4] (fun v i wr => v = .int .i64 0 ∧ i = .int .i64 0 ∧ Hid (wr = W)) (fun _ _ _ => 0)
      case atStart => exact ⟨rfl, rfl, rfl⟩
      case round =>
        obtain ⟨rfl, rfl, e⟩ := hrel
        obtain rfl := e.out
        go_wp2_with fail
        go_ret
        exact ⟨rfl, BW.out⟩
    go_enter Tryz.func5, Tryz.ntmps5
    go_upto_region 1 with fail
    rw [← EW.out]
    go_wp2_with fail
    go_loopw [3, 4] (fun v i wr => v = .int .i64 0 ∧ i = .int .i64 0 ∧ Hid (wr = W)) (fun _ _ _ => 0)
    case atStart => exact ⟨rfl, rfl, rfl⟩
    case round =>
      obtain ⟨rfl, rfl, e⟩ := hrel
      obtain rfl := e.out
      go_wp2_with fail
      refine C0.mono ?_; rintro e w2 ⟨rfl, hb2⟩
      have B2 : Hid (Below w.heap.size w w2) := BW.out.trans (hb2.mono BW.out.size)
      clear hb2 C0 y0 y1 y2 y3 y4 y5
      go_wp2_with fail
      go_ret
      exact ⟨rfl, B2.out⟩
  have er : Hid (lefH now last T Bs Ba Do = lefS Ba) := lefH_yes c
  have HR : Hid (∀ i (hi : i < Ba.length), runB Ba[i] = true) := hou_run c
  have hm4 : n4 ≤ 5 := by have := EN.out; have := hou_five c; omega
  have CK : Hid (∀ u, Below w.heap.size w u → Calls Tryz.prog 12 #[.agg #[.int .i64 now, .int .i64 last, .slice o2 n2 k2, .slice o3 n3 k3, .slice o4 n4 k4, .slice o5 n5 k5]] u fun e w' => e = .returned (.bool true) ∧ Below u.heap.size u w') := fun u hu => CO.out u hu true c
  clear c CO
  rw [er.out]
  obtain ⟨y0, y1, y2, y3, y4, y5⟩ := Y.out W (Below.refl _ _)
  go_enter Tryz.func5, Tryz.ntmps5
  go_upto_region 1 with fail
  rw [← EW.out]
  go_wp2_with fail
  clear y0 y1 y2 y3 y4 y5
  go_loopw [3, 4] (fun v i wr => ∃ (k : Nat) (s : Int), k ≤ n4 ∧ v = .int .i64 s ∧ i = .int .i64 k ∧ Hid (s = lefS (Ba.take k)) ∧ Hid (Below W.heap.size W wr)) (fun _ i _ => n4 - (intOf i).toNat)
  case atStart => exact ⟨0, 0, Nat.zero_le _, rfl, rfl, by simp [Hid, lefS], Below.refl _ _⟩
  case round =>
    obtain ⟨k, s, hk, rfl, rfl, hsum, hbel⟩ := hrel
    have hs := hbel.out.size
    have BWR : Hid (Below w.heap.size w wr) := (BOX.out wr hbel.out).2
    obtain ⟨y0, y1, y2, y3, y4, y5⟩ := Y.out wr hbel.out
    by_cases hlt : k < n4
    case neg =>
      have ev : Hid (lefS Ba = s) := by show _ = _; rw [hsum.out, List.take_of_length_le (by have := EN.out; omega)]
      go_wp2_with fail
      go_ret
      rw [ev.out]
      exact ⟨rfl, BWR.out⟩
    have hks : k < Ba.length := by have := EN.out; omega
    go_wp2_with fail
    refine (CK.out wr BWR.out).mono ?_; rintro e w2 ⟨rfl, hb2⟩
    have B2 : Hid (Below W.heap.size W w2) := hbel.out.trans (hb2.mono hs)
    have BW2 : Hid (Below w.heap.size w w2) := (BOX.out w2 B2.out).2
    clear hb2 y0 y1 y2 y3 y4 y5
    obtain ⟨y0, y1, y2, y3, y4, y5⟩ := Y.out w2 B2.out
    obtain ⟨b, off, p1, p2, m1, j1, m2, j2, rfl, hbS, e0, e1, e2, e3, e4, e5, z0, hr, hsl⟩ := rb_at (H4.out w2 BW2.out) k hks
    have hbw := HS.out w2 BW2.out b hbS
    obtain ⟨f, ef⟩ : ∃ f, Ba[k] = f := ⟨_, rfl⟩
    have bd0 := lefS_bd HR.out k (by omega)
    rw [← hsum.out] at bd0
    have rl := run_left (HR.out k hks)
    have rr := run_rec (HR.out k hks)
    have tk := lef_take hks
    rw [← hsum.out] at tk
    rw [ef] at e0 e3 e4 e5 hr hsl rl rr tk
    obtain ⟨nm, r, sl, at_, si, st⟩ := f
    simp only at e0 e3 e4 e5 hr hsl rl rr tk
    obtain ⟨D, hD⟩ : ∃ D, bndF 12 r at_ = D := ⟨_, rfl⟩
    unfold lefI at tk
    simp only at tk
    rw [hD] at rl tk
    have TK : Hid (lefS (Ba.take (k + 1)) = s + (D - if 0 < si then si else 0)) := tk
    obtain ⟨_, ⟨l1, l2⟩, l3, l4⟩ := rl
    obtain ⟨bd1, bd2⟩ := bd0
    have bd1' : -200000000000000000 ≤ s := by omega
    have bd2' : s ≤ 1800000000000000000 := by omega
    have RR : Hid (RecP r) := rr.1
    have HRr : Hid (AtL S w2 r (.slice p1 m1 j1)) := hr
    have CB : Hid (∀ u, Below w2.heap.size w2 u → Calls Tryz.prog 13 #[.slice p1 m1 j1, .string at_] u fun e w' => e = .returned (.int .i64 D) ∧ w' = u) := fun u hu => by
      subst hD
      exact bndX_any S r RR.out 12 _ at_ u (Nat.le_refl _) (HRr.out.same (Same.of_below hu (HS.out w2 BW2.out))) (fun k _ => by have := RR.out.1; omega)
    clear tk hr hsl rr z0 hbS ef hD bd1 bd2 RR HRr
    go_upto_region 6 with fail
    obtain ⟨X, hX⟩ : ∃ X, X = w2.alloc (.cells #[.string nm, .slice p1 m1 j1, .slice p2 m2 j2, .string at_, .int .i64 si, .int .i64 st] 49) := ⟨_, rfl⟩
    have CX : Hid (Below w2.heap.size w2 X) := by rw [hX]; exact (Below.refl _ _).alloc (Nat.le_refl _) _
    have BXX : Hid (Below W.heap.size W X) := B2.out.trans (CX.out.mono B2.out.size)
    have RX : Hid (X.heap[w2.heap.size]? = some (.cells #[.string nm, .slice p1 m1 j1, .slice p2 m2 j2, .string at_, .int .i64 si, .int .i64 st] 49 (0, 0))) := by rw [hX]; exact heap_alloc_new w2 _
    rw [← hX]
    clear hX e0 e1 e2 e3 e4 e5 y0 y1 y2 y3 y4 y5
    have b1 := (cell_row RX.out 1 _ rfl).1
    have b3 := (cell_row RX.out 3 _ rfl).1
    have b4 := (cell_row RX.out 4 _ rfl).1
    have C6 := CB.out X CX.out
    clear CB
    have wp1 : IntKind.i64.wrap (s + D) = s + D := wrap_l _ (by omega) (by omega)
    have wp2 : IntKind.i64.wrap (s + D - si) = s + D - si := wrap_l _ (by omega) (by omega)
    by_cases hsi : 0 < si
    · have TK2 : Hid (s + D - si = lefS (Ba.take (k + 1))) := by have := TK.out; rw [if_pos hsi] at this; show _ = _; omega
      go_wp2_with fail
      refine C6.mono ?_; rintro e w3 ⟨rfl, rfl⟩
      go_wp2_with fail
      go_roundw
      case rel => exact ⟨k + 1, s + D - si, by omega, rfl, by go_num, TK2.out, BXX.out⟩
      case measure => simp [intOf]; omega
    · have TK2 : Hid (s + D = lefS (Ba.take (k + 1))) := by have := TK.out; rw [if_neg hsi] at this; show _ = _; omega
      go_wp2_with fail
      refine C6.mono ?_; rintro e w3 ⟨rfl, rfl⟩
      go_wp2_with fail
      go_roundw
      case rel => exact ⟨k + 1, s + D, by omega, rfl, by go_num, TK2.out, BXX.out⟩
      case measure => simp [intOf]; omega
end Go.Proofs.YtobchllaopdchacGreat

namespace Go.Proofs.YtobchllaopdchacGreat
open Go.RowKit Go.Sort
def cmpI (a b : Int) : Int := if a < b then -1 else if b < a then 1 else 0
theorem cmpI_ge (a b : Int) : decide (0 ≤ cmpI a b) = !decide (a < b) := by
  unfold cmpI
  by_cases h : a < b
  · rw [if_pos h]; simp [h]
  · rw [if_neg h]; split <;> simp [h]
theorem isNaN_any (a : Int) (w : World) : Calls Tryz.prog 142 #[.int .i64 a] w fun e w' => e = .returned (.bool false) ∧ w' = w := by
  have h0 : (a == a) = true := by simp
  go_enter Tryz.func142, Tryz.ntmps142
  go_wp2
  go_ret
  exact ⟨by simp, rfl⟩
set_option maxRecDepth 100000 in
set_option maxHeartbeats 4000000 in
theorem cmpN_any (a b : Int) (w : World) : Calls Tryz.prog 108 #[.int .i64 a, .int .i64 b] w fun e w' => e = .returned (.int .i64 (cmpI a b)) ∧ w' = w := by
  by_cases h1 : a < b
  · have d1 : decide (a < b) = true := by simpa using h1
    rw [show cmpI a b = -1 from if_pos h1]
    go_enter Tryz.func108, Tryz.ntmps108
    go_wp2_with (go_at_call 142; refine (isNaN_any _ _).mono ?_; rintro e w1 ⟨rfl, rfl⟩)
    go_ret
    exact ⟨rfl, rfl⟩
  · have d1 : decide (a < b) = false := by simpa using h1
    by_cases h2 : b < a
    · have d2 : decide (b < a) = true := by simpa using h2
      rw [show cmpI a b = 1 from by unfold cmpI; rw [if_neg h1, if_pos h2]]
      go_enter Tryz.func108, Tryz.ntmps108
      go_wp2_with (go_at_call 142; refine (isNaN_any _ _).mono ?_; rintro e w1 ⟨rfl, rfl⟩)
      go_ret
      exact ⟨rfl, rfl⟩
    · have d2 : decide (b < a) = false := by simpa using h2
      rw [show cmpI a b = 0 from by unfold cmpI; rw [if_neg h1, if_neg h2]]
      go_enter Tryz.func108, Tryz.ntmps108
      go_wp2_with (go_at_call 142; refine (isNaN_any _ _).mono ?_; rintro e w1 ⟨rfl, rfl⟩)
      go_ret
      exact ⟨rfl, rfl⟩
end Go.Proofs.YtobchllaopdchacGreat
