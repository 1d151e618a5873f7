/-
  Several texts in one.
-/
import Derived.Test.YtffmfomonmhkcaaGreatBs
import Derived.Test.YtffmfomonmhkcaaGreatM45
import Derived.Test.YtffmfomonmhkcaaGreatM9
import Derived.Test.YtffmfomonmhkcaaGreatM16
import Derived.Deep.Cut
import Derived.Test.YtffmfomonmhkcaaGreatM21
/-
  A contract of the program's CtlPlaceAsks.
-/
namespace Go.Proofs.YtffmfomonmhkcaaGreat
open Go.RowKit

attribute [local go_sem] Oper.semAt_some
/-- What the program asks of stations to clean places, or for a permit to work on them. -/
def PsIs (D : PD) (num kind : Int) (l : List ByteArray) (q : List DCtlAsk) : Prop := (D.V ∧ itsP D l ∧ (kind = 2 ∨ kind = 3) → q = shrL D (num, kind, [], useL l, [], shI D l D.nv) (stnL D)) ∧ (¬ (D.V ∧ itsP D l ∧ (kind = 2 ∨ kind = 3)) → q = [])
def PsE (D : PD) (num kind : Int) (l : List ByteArray) (S : Nat → Prop) (w' : World) (e : Ending) : Prop := ∃ r q, e = .returned r ∧ PsIs D num kind l q ∧ OnL S w' q r
theorem okP3 : OkI 3 := ⟨by decide, by decide⟩
theorem okP0 : OkI 0 := ⟨by decide, by decide⟩
theorem none_onA {S : Nat → Prop} {w : World} : OnL S w ([] : List DCtlAsk) (.slice none 0 0) := ⟨none, 0, rfl, ⟨Nat.zero_le _, Nat.le_refl 0, fun _ => rfl⟩, .inl rfl⟩
set_option maxRecDepth 100000 in
set_option maxHeartbeats 16000000 in
theorem placeAsksI_any (B : Nat) (S : Nat → Prop) (v0 v1 v2 v3 : Value) (D : PD) (num kind : Int) (l : List ByteArray) (v : Value) (w : World) (h : PAt B w v0 v1 v2 v3 D) (hB : B ≤ w.heap.size) (hz : D.Sz) (hl : AtL S w l v) (hS : ∀ b, S b → b < w.heap.size) (hn : OkI num) (hk : OkI kind) (hsl : D.V → (stnL D).length ≤ 1048576) :
    Calls Tryz.prog 9 #[.agg #[v0, v1, v2, v3], .int .i64 num, .int .i64 kind, v] w fun e w' => PsE D num kind l (fun b => w.heap.size ≤ b ∧ b < w'.heap.size) w' e ∧ Below w.heap.size w w' := by
  have H : Hid (∀ w', Below w.heap.size w w' → PAt B w' v0 v1 v2 v3 D) := fun w' hb => h.kept hb hB
  have HL : Hid (∀ w', Below w.heap.size w w' → AtL S w' l v) := fun w' hb => hl.same (Same.of_below hb hS)
  obtain ⟨oa, cap, ev, hx⟩ := id hl
  clear hx hl h
  obtain ⟨n, en⟩ : ∃ n, l.length = n := ⟨_, rfl⟩
  rw [en] at ev
  subst ev
  have EN : Hid (l.length = n) := en
  clear en
  obtain ⟨W, hW⟩ : ∃ W, W = w.alloc (.cells #[v0, v1, v2, v3] 36) := ⟨_, rfl⟩
  have EW : Hid (W = w.alloc (.cells #[v0, v1, v2, v3] 36)) := hW
  have BW : Hid (Below w.heap.size w W) := by rw [hW]; exact (Below.refl _ _).alloc (Nat.le_refl _) _
  have X0 : Hid (W.heap[w.heap.size]? = some (.cells #[v0, v1, v2, v3] 36 (0, 0))) := by rw [hW]; exact heap_alloc_new w _
  clear hW
  have y0 := (cell_row X0.out 0 (v0) rfl).1
  have y1 := (cell_row X0.out 1 (v1) rfl).1
  have y2 := (cell_row X0.out 2 (v2) rfl).1
  have y3 := (cell_row X0.out 3 (v3) rfl).1
  have HVA : Hid (Calls Tryz.prog 28 #[.agg #[v0, v1, v2, v3]] W fun e w' => ∃ b, e = .returned (.bool b) ∧ (b = true ↔ D.V) ∧ Below W.heap.size W w') := validI_any B _ _ _ _ D W (H.out W BW.out) (by have := BW.out.size; omega) hz
  have HIT : Hid (∀ w', Below w.heap.size w w' → Calls Tryz.prog 29 #[.agg #[v0, v1, v2, v3], .slice oa n cap] w' fun e w'' => IsB (itsP D l) e ∧ Below w'.heap.size w' w'') := fun w' hb => itsI_any B S v0 v1 v2 v3 D l _ w' (H.out w' hb) (Nat.le_trans hB hb.size) (HL.out w' hb) (fun b hs => Nat.lt_of_lt_of_le (hS b hs) hb.size)
  go_enter Tryz.func9, Tryz.ntmps9
  go_upto_region 1 with fail
  rw [← EW.out]
  by_cases hkd : kind = 2 ∨ kind = 3
  · rcases hkd with hk2 | hk2
    · have g2 : (kind == 2) = true := by rw [hk2]; rfl
      have d2 : decide (kind = 2) = true := by simpa using hk2
      have HKD : Hid (kind = 2 ∨ kind = 3) := .inl hk2
      clear hk2
      go_upto_region 2 with fail
      go_wp2_with fail
      refine (HVA.out).mono ?_
      rintro e w1 ⟨b, rfl, is, hb1⟩
      have IS : Hid _ := is
      have B1 : Hid (Below w.heap.size w w1) := BW.out.trans (hb1.mono BW.out.size)
      have X1 : Hid (w1.heap[w.heap.size]? = some (.cells #[v0, v1, v2, v3] 36 (0, 0))) := box_stable hb1 X0.out
      clear is hb1 y0 y1 y2 y3
      cases b
      · go_wp2_with fail
        go_ret
        exact ⟨⟨_, [], rfl, ⟨fun h => absurd (IS.out.2 h.1) (by decide), fun _ => rfl⟩, none_onA⟩, B1.out⟩
      · have y0 := (cell_row X1.out 0 (v0) rfl).1
        have y1 := (cell_row X1.out 1 (v1) rfl).1
        have y2 := (cell_row X1.out 2 (v2) rfl).1
        have y3 := (cell_row X1.out 3 (v3) rfl).1
        have HV : Hid D.V := IS.out.1 rfl
        have HI1 : Hid _ := HIT.out w1 B1.out
        go_wp2_with fail
        refine Calls.mono HI1.out ?_
        rintro e w2 ⟨⟨b, rfl, is⟩, hb2⟩
        have IT : Hid _ := is
        have B2 : Hid (Below w.heap.size w w2) := B1.out.trans (hb2.mono B1.out.size)
        have X2 : Hid (w2.heap[w.heap.size]? = some (.cells #[v0, v1, v2, v3] 36 (0, 0))) := box_stable hb2 X1.out
        clear is hb2 y0 y1 y2 y3
        cases b
        · go_wp2_with fail
          go_ret
          exact ⟨⟨_, [], rfl, ⟨fun h => absurd (IT.out.2 h.2.1) (by decide), fun _ => rfl⟩, none_onA⟩, B2.out⟩
        · have y0 := (cell_row X2.out 0 (v0) rfl).1
          have y1 := (cell_row X2.out 1 (v1) rfl).1
          have y2 := (cell_row X2.out 2 (v2) rfl).1
          have y3 := (cell_row X2.out 3 (v3) rfl).1
          have HI : Hid (itsP D l) := IT.out.1 rfl
          go_upto_region 4 with fail
          have q0 := fun d os => cell_regrown y0 d os
          have q1 := fun d os => cell_regrown y1 d os
          have q2 := fun d os => cell_regrown y2 d os
          have q3 := fun d os => cell_regrown y3 d os
          have hdr : Hid (Below w2.heap.size w2 w2.drew) := (Below.refl _ _).drew
          have BD : Hid (Below w.heap.size w w2.drew) := B2.out.trans (hdr.out.mono B2.out.size)
          have hl8 : l.length ≤ 8 := HI.out.2.1
          have HZL : Hid (∀ x ∈ l, x.size ≤ 1048576) := fun x hx => by have := its_size HV.out HI.out hx; omega
          refine wp_region_mix 7 [0, 1, 2, 3, 4] (by kernel_rfl) (by kernel_rfl) ?_
          simp only [List.filterMap_cons, List.filterMap_nil, List.getElem?_cons_succ, List.getElem?_cons_zero]
          repeat (first | go_big_quiet_step (fail) | quiet_step (fail))
          refine wpQuiet_nil ?_
          clear y0 q0 y1 q1 y2 q2 y3 q3
          refine call1 (md := .any) (f := 1) (i := 5) (dc := 34) (fn := 31) ⟨rfl, rfl, rfl, by decide⟩ (by kernel_rfl) ?run5 ((wantAt_any B S v0 v1 v2 v3 D num kind l (.slice oa n cap) w2.drew (H.out _ BD.out) (Nat.le_trans hB BD.out.size) HV.out (HL.out _ BD.out) (fun b hs => Nat.lt_of_lt_of_le (hS b hs) BD.out.size) hl8 HZL.out).mono ?_)
          case run5 => go_simp
          rintro e w3 ⟨r2, k2, r3, k3, r5, k5, rfl, K2, K3, K5, hb3⟩
          have B3 : Hid (Below w2.heap.size w2 w3) := hdr.out.trans (hb3.mono hdr.out.size)
          have BW3 : Hid (Below w.heap.size w w3) := B2.out.trans (B3.out.mono B2.out.size)
          refine ⟨_, rfl, regrown_of_below B3.out, ?_⟩
          simp only [Act.put, List.setIfInBounds_toArray, List.set_cons_zero, List.set_cons_succ]
          have A2 : AtL (fun b => b < w3.heap.size) w3 ([] : List ByteArray) (.slice r2 ([] : List ByteArray).length k2) := (onS_row (l := []) K2 (fun g hg => (World.ownsRow.lt K2 g hg).2) (fun _ h => nomatch h)).at_
          have A3 : AtL (fun b => b < w3.heap.size) w3 (useL l) (.slice r3 (useL l).length k3) := by
            have e : (useL l).length = l.length := by simp [useL]
            rw [e]
            exact (onU_row (l := useL l) (by show World.ownsRow _ _ _ _ _ _ _; rw [e]; exact K3) (fun g hg => (World.ownsRow.lt K3 g hg).2) (fun x hx => by
              obtain ⟨y, hy, rfl⟩ := List.mem_map.1 hx
              exact ⟨by have := HZL.out y hy; show y.size ≤ maxLen; unfold maxLen; omega, okP3, okP0⟩)).at_
          have A4 : AtL (fun b => b < w3.heap.size) w3 ([] : List ByteArray) (.slice none ([] : List ByteArray).length 0) := ⟨none, 0, rfl, ⟨Nat.zero_le _, Nat.le_refl 0, fun _ => rfl⟩, fun _ hi => absurd hi (Nat.not_lt_zero _)⟩
          have A5 : AtL (fun b => b < w3.heap.size) w3 (shI D l D.nv) (.slice r5 (shI D l D.nv).length k5) := (onS_row K5 (fun g hg => (World.ownsRow.lt K5 g hg).2) (fun x hx => by
              obtain ⟨i, hi, rfl⟩ := List.mem_map.1 hx
              have := name_size (HV.out.2.2.2 i (List.mem_range.1 (List.mem_filter.1 hi).1)).1
              show _ ≤ maxLen
              unfold maxLen; omega)).at_
          have SO : Hid _ := shareOut_any B (fun b => b < w3.heap.size) v0 v1 v2 v3 D num kind [] [] (shI D l D.nv) (useL l) r2 r3 none r5 k2 k3 0 k5 w3 (H.out w3 BW3.out) (Nat.le_trans hB BW3.out.size) HV.out A2 A3 A4 A5 (fun _ h => h) hn hk (by simp) (by simp [useL]; omega) (fun _ h => nomatch h) (fun x hx => by
              obtain ⟨y, hy, rfl⟩ := List.mem_map.1 hx
              exact ⟨HZL.out y hy, okP3, okP0⟩) (hsl HV.out)
          have eul : (useL l).length = l.length := by simp [useL]
          rw [eul] at SO
          clear eul A2 A3 A4 A5 K2 K3 K5
          refine call1 (md := .any) (f := 0) (i := 6) (dc := 35) (fn := 30) ⟨rfl, rfl, rfl, by decide⟩ (by kernel_rfl) ?run6 (Calls.mono SO.out ?_)
          case run6 => go_simp
          rintro e w4 ⟨rv, rfl, hon, hb4⟩
          have B4 : Hid (Below w2.heap.size w2 w4) := B3.out.trans (hb4.mono B3.out.size)
          have BW4 : Hid (Below w.heap.size w w4) := B2.out.trans (B4.out.mono B2.out.size)
          have ON : Hid (OnL (fun b => w.heap.size ≤ b ∧ b < w4.heap.size) w4 (shrL D (num, kind, [], useL l, [], shI D l D.nv) (stnL D)) rv) := hon.up (fun b hb => ⟨Nat.le_trans BW3.out.size hb.1, hb.2⟩)
          clear hon hb4
          refine ⟨_, rfl, regrown_of_below B4.out, ?_⟩
          simp only [Act.put, List.setIfInBounds_toArray, List.set_cons_zero, List.set_cons_succ]
          refine ⟨by kernel_rfl, ?_⟩
          simp only [List.drop_succ_cons, List.drop_zero]
          go_wp2_with fail
          go_ret
          exact ⟨⟨_, _, rfl, ⟨fun _ => rfl, fun h => absurd ⟨HV.out, HI.out, HKD.out⟩ h⟩, ON.out⟩, BW4.out⟩
    · have g2 : (kind == 2) = false := by rw [hk2]; rfl
      have g3 : (kind == 3) = true := by rw [hk2]; rfl
      have d2 : decide (kind = 2) = false := by rw [hk2]; rfl
      have d3 : decide (kind = 3) = true := by simpa using hk2
      have HKD : Hid (kind = 2 ∨ kind = 3) := .inr hk2
      clear hk2
      go_upto_region 2 with fail
      go_wp2_with fail
      refine (HVA.out).mono ?_
      rintro e w1 ⟨b, rfl, is, hb1⟩
      have IS : Hid _ := is
      have B1 : Hid (Below w.heap.size w w1) := BW.out.trans (hb1.mono BW.out.size)
      have X1 : Hid (w1.heap[w.heap.size]? = some (.cells #[v0, v1, v2, v3] 36 (0, 0))) := box_stable hb1 X0.out
      clear is hb1 y0 y1 y2 y3
      cases b
      · go_wp2_with fail
        go_ret
        exact ⟨⟨_, [], rfl, ⟨fun h => absurd (IS.out.2 h.1) (by decide), fun _ => rfl⟩, none_onA⟩, B1.out⟩
      · have y0 := (cell_row X1.out 0 (v0) rfl).1
        have y1 := (cell_row X1.out 1 (v1) rfl).1
        have y2 := (cell_row X1.out 2 (v2) rfl).1
        have y3 := (cell_row X1.out 3 (v3) rfl).1
        have HV : Hid D.V := IS.out.1 rfl
        have HI1 : Hid _ := HIT.out w1 B1.out
        go_wp2_with fail
        refine Calls.mono HI1.out ?_
        rintro e w2 ⟨⟨b, rfl, is⟩, hb2⟩
        have IT : Hid _ := is
        have B2 : Hid (Below w.heap.size w w2) := B1.out.trans (hb2.mono B1.out.size)
        have X2 : Hid (w2.heap[w.heap.size]? = some (.cells #[v0, v1, v2, v3] 36 (0, 0))) := box_stable hb2 X1.out
        clear is hb2 y0 y1 y2 y3
        cases b
        · go_wp2_with fail
          go_ret
          exact ⟨⟨_, [], rfl, ⟨fun h => absurd (IT.out.2 h.2.1) (by decide), fun _ => rfl⟩, none_onA⟩, B2.out⟩
        · have y0 := (cell_row X2.out 0 (v0) rfl).1
          have y1 := (cell_row X2.out 1 (v1) rfl).1
          have y2 := (cell_row X2.out 2 (v2) rfl).1
          have y3 := (cell_row X2.out 3 (v3) rfl).1
          have HI : Hid (itsP D l) := IT.out.1 rfl
          go_upto_region 4 with fail
          have q0 := fun d os => cell_regrown y0 d os
          have q1 := fun d os => cell_regrown y1 d os
          have q2 := fun d os => cell_regrown y2 d os
          have q3 := fun d os => cell_regrown y3 d os
          have hdr : Hid (Below w2.heap.size w2 w2.drew) := (Below.refl _ _).drew
          have BD : Hid (Below w.heap.size w w2.drew) := B2.out.trans (hdr.out.mono B2.out.size)
          have hl8 : l.length ≤ 8 := HI.out.2.1
          have HZL : Hid (∀ x ∈ l, x.size ≤ 1048576) := fun x hx => by have := its_size HV.out HI.out hx; omega
          refine wp_region_mix 7 [0, 1, 2, 3, 4] (by kernel_rfl) (by kernel_rfl) ?_
          simp only [List.filterMap_cons, List.filterMap_nil, List.getElem?_cons_succ, List.getElem?_cons_zero]
          repeat (first | go_big_quiet_step (fail) | quiet_step (fail))
          refine wpQuiet_nil ?_
          clear y0 q0 y1 q1 y2 q2 y3 q3
          refine call1 (md := .any) (f := 1) (i := 5) (dc := 34) (fn := 31) ⟨rfl, rfl, rfl, by decide⟩ (by kernel_rfl) ?run5 ((wantAt_any B S v0 v1 v2 v3 D num kind l (.slice oa n cap) w2.drew (H.out _ BD.out) (Nat.le_trans hB BD.out.size) HV.out (HL.out _ BD.out) (fun b hs => Nat.lt_of_lt_of_le (hS b hs) BD.out.size) hl8 HZL.out).mono ?_)
          case run5 => go_simp
          rintro e w3 ⟨r2, k2, r3, k3, r5, k5, rfl, K2, K3, K5, hb3⟩
          have B3 : Hid (Below w2.heap.size w2 w3) := hdr.out.trans (hb3.mono hdr.out.size)
          have BW3 : Hid (Below w.heap.size w w3) := B2.out.trans (B3.out.mono B2.out.size)
          refine ⟨_, rfl, regrown_of_below B3.out, ?_⟩
          simp only [Act.put, List.setIfInBounds_toArray, List.set_cons_zero, List.set_cons_succ]
          have A2 : AtL (fun b => b < w3.heap.size) w3 ([] : List ByteArray) (.slice r2 ([] : List ByteArray).length k2) := (onS_row (l := []) K2 (fun g hg => (World.ownsRow.lt K2 g hg).2) (fun _ h => nomatch h)).at_
          have A3 : AtL (fun b => b < w3.heap.size) w3 (useL l) (.slice r3 (useL l).length k3) := by
            have e : (useL l).length = l.length := by simp [useL]
            rw [e]
            exact (onU_row (l := useL l) (by show World.ownsRow _ _ _ _ _ _ _; rw [e]; exact K3) (fun g hg => (World.ownsRow.lt K3 g hg).2) (fun x hx => by
              obtain ⟨y, hy, rfl⟩ := List.mem_map.1 hx
              exact ⟨by have := HZL.out y hy; show y.size ≤ maxLen; unfold maxLen; omega, okP3, okP0⟩)).at_
          have A4 : AtL (fun b => b < w3.heap.size) w3 ([] : List ByteArray) (.slice none ([] : List ByteArray).length 0) := ⟨none, 0, rfl, ⟨Nat.zero_le _, Nat.le_refl 0, fun _ => rfl⟩, fun _ hi => absurd hi (Nat.not_lt_zero _)⟩
          have A5 : AtL (fun b => b < w3.heap.size) w3 (shI D l D.nv) (.slice r5 (shI D l D.nv).length k5) := (onS_row K5 (fun g hg => (World.ownsRow.lt K5 g hg).2) (fun x hx => by
              obtain ⟨i, hi, rfl⟩ := List.mem_map.1 hx
              have := name_size (HV.out.2.2.2 i (List.mem_range.1 (List.mem_filter.1 hi).1)).1
              show _ ≤ maxLen
              unfold maxLen; omega)).at_
          have SO : Hid _ := shareOut_any B (fun b => b < w3.heap.size) v0 v1 v2 v3 D num kind [] [] (shI D l D.nv) (useL l) r2 r3 none r5 k2 k3 0 k5 w3 (H.out w3 BW3.out) (Nat.le_trans hB BW3.out.size) HV.out A2 A3 A4 A5 (fun _ h => h) hn hk (by simp) (by simp [useL]; omega) (fun _ h => nomatch h) (fun x hx => by
              obtain ⟨y, hy, rfl⟩ := List.mem_map.1 hx
              exact ⟨HZL.out y hy, okP3, okP0⟩) (hsl HV.out)
          have eul : (useL l).length = l.length := by simp [useL]
          rw [eul] at SO
          clear eul A2 A3 A4 A5 K2 K3 K5
          refine call1 (md := .any) (f := 0) (i := 6) (dc := 35) (fn := 30) ⟨rfl, rfl, rfl, by decide⟩ (by kernel_rfl) ?run6 (Calls.mono SO.out ?_)
          case run6 => go_simp
          rintro e w4 ⟨rv, rfl, hon, hb4⟩
          have B4 : Hid (Below w2.heap.size w2 w4) := B3.out.trans (hb4.mono B3.out.size)
          have BW4 : Hid (Below w.heap.size w w4) := B2.out.trans (B4.out.mono B2.out.size)
          have ON : Hid (OnL (fun b => w.heap.size ≤ b ∧ b < w4.heap.size) w4 (shrL D (num, kind, [], useL l, [], shI D l D.nv) (stnL D)) rv) := hon.up (fun b hb => ⟨Nat.le_trans BW3.out.size hb.1, hb.2⟩)
          clear hon hb4
          refine ⟨_, rfl, regrown_of_below B4.out, ?_⟩
          simp only [Act.put, List.setIfInBounds_toArray, List.set_cons_zero, List.set_cons_succ]
          refine ⟨by kernel_rfl, ?_⟩
          simp only [List.drop_succ_cons, List.drop_zero]
          go_wp2_with fail
          go_ret
          exact ⟨⟨_, _, rfl, ⟨fun _ => rfl, fun h => absurd ⟨HV.out, HI.out, HKD.out⟩ h⟩, ON.out⟩, BW4.out⟩
  · have hk2 : ¬ kind = 2 := fun e => hkd (.inl e)
    have hk3 : ¬ kind = 3 := fun e => hkd (.inr e)
    have g2 : (kind == 2) = false := by simpa using hk2
    have g3 : (kind == 3) = false := by simpa using hk3
    have d2 : decide (kind = 2) = false := by simpa using hk2
    have d3 : decide (kind = 3) = false := by simpa using hk3
    have HKD : Hid (¬ (kind = 2 ∨ kind = 3)) := hkd
    clear hk2 hk3 hkd
    go_upto_region 2 with fail
    go_wp2_with fail
    refine (HVA.out).mono ?_
    rintro e w1 ⟨b, rfl, is, hb1⟩
    have IS : Hid _ := is
    have B1 : Hid (Below w.heap.size w w1) := BW.out.trans (hb1.mono BW.out.size)
    have X1 : Hid (w1.heap[w.heap.size]? = some (.cells #[v0, v1, v2, v3] 36 (0, 0))) := box_stable hb1 X0.out
    clear is hb1 y0 y1 y2 y3
    cases b
    · go_wp2_with fail
      go_ret
      exact ⟨⟨_, [], rfl, ⟨fun h => absurd (IS.out.2 h.1) (by decide), fun _ => rfl⟩, none_onA⟩, B1.out⟩
    · have y0 := (cell_row X1.out 0 (v0) rfl).1
      have y1 := (cell_row X1.out 1 (v1) rfl).1
      have y2 := (cell_row X1.out 2 (v2) rfl).1
      have y3 := (cell_row X1.out 3 (v3) rfl).1
      go_wp2_with fail
      go_ret
      exact ⟨⟨_, [], rfl, ⟨fun h => absurd h.2.2 HKD.out, fun _ => rfl⟩, none_onA⟩, B1.out⟩

end Go.Proofs.YtffmfomonmhkcaaGreat

/-
  What the program shares out of the want at places, by the plant's order, is what the model shares out.
-/
namespace Go.Proofs.YtffmfomonmhkcaaGreat
open Go.RowKit

theorem hasL_iff {l : List ByteArray} {x : ByteArray} : hasL l x = true ↔ x ∈ l := by
  unfold hasL
  rw [List.any_eq_true]
  constructor
  · rintro ⟨y, hy, e⟩; rw [← (eqB_iff _ _).1 e]; exact hy
  · intro h; exact ⟨x, h, (eqB_iff _ _).2 rfl⟩
theorem tkV_filter (l : List ByteArray) : ∀ pre : List ByteArray, tkV l pre = pre.filter fun x => hasL l x
  | [] => rfl
  | x :: pre => by
    have e : tkV l (x :: pre) = takV x l ++ tkV l pre := rfl
    rw [e, tkV_filter l pre]
    cases h : hasL l x <;> simp [takV, h]
theorem tkV_none (pre : List ByteArray) : tkV [] pre = [] := by
  rw [tkV_filter]
  exact List.filter_eq_nil_iff.2 (fun x _ => by simp [hasL])
theorem asc_filter {l : List ByteArray} (h : AscL l) (p : ByteArray → Bool) : AscL (l.filter p) := List.Pairwise.sublist List.filter_sublist h
theorem asc_ix {n : Nat} {f : Nat → ByteArray} (h : ascB n f) (p : Nat → Bool) : AscL (((List.range n).filter p).map f) := by
  unfold AscL
  rw [List.pairwise_map]
  refine (List.Pairwise.sublist List.filter_sublist List.pairwise_lt_range).imp_of_mem ?_
  intro a b _ hb hab
  exact h a b hab (List.mem_range.1 (List.mem_filter.1 hb).1)
theorem takV_one {l : List ByteArray} (h : AscL l) (y : ByteArray) : l.filter (fun x => eqB x y) = takV y l := by
  refine asc_unique _ _ (asc_filter h _) ?_ (fun x => ?_)
  · unfold takV
    cases hasL l y
    · exact List.Pairwise.nil
    · exact List.pairwise_singleton _ _
  · unfold takV
    rw [List.mem_filter, eqB_iff]
    cases e : hasL l y
    · have : ¬ y ∈ l := fun hy => by rw [hasL_iff.2 hy] at e; cases e
      exact ⟨fun hx => absurd (hx.2 ▸ hx.1) this, fun hx => nomatch hx⟩
    · exact ⟨fun hx => List.mem_singleton.2 hx.2, fun hx => ⟨List.mem_singleton.1 hx ▸ hasL_iff.1 e, List.mem_singleton.1 hx⟩⟩
theorem takU_useL {l : List ByteArray} (h : AscL l) (y : ByteArray) : takU y (useL l) = useL (takV y l) := by
  rw [← takV_one h]
  unfold takU useL
  rw [List.filter_map]
  rfl
theorem tkU_useL {l : List ByteArray} (h : AscL l) : ∀ pre : List (ByteArray × Int × ByteArray), tkU (useL l) pre = useL (tkV l (pre.map (·.1)))
  | [] => rfl
  | y :: pre => by
    have e : tkU (useL l) (y :: pre) = takU y.1 (useL l) ++ tkU (useL l) pre := rfl
    have e2 : tkV l ((y :: pre).map (·.1)) = takV y.1 l ++ tkV l (pre.map (·.1)) := rfl
    rw [e, e2, tkU_useL h pre, takU_useL h]
    simp [useL]
theorem plA_names (D : PD) (st : ByteArray) : (plA D st D.np).map (·.1) = ((List.range D.np).filter fun i => eqB (D.fp i).2.2 st).map fun i => (D.fp i).1 := by
  unfold plA
  rw [List.map_map]; rfl
theorem its_asc {D : PD} {l : List ByteArray} (h : itsP D l) : AscL l := by
  have ha : ascB l.length (nthB l) := ascB_of (fun i hi h0 => (h.2.2 i hi).2 h0)
  unfold AscL
  rw [List.pairwise_iff_getElem]
  intro i j hi hj hij
  have := ha i j hij hj
  rw [nthB_at hi, nthB_at hj] at this
  exact this
section
variable {D : PD} (hV : D.V)
include hV
theorem pl_asc : ascB D.np (fun i => (D.fp i).1) := ascB_of (fun i hi h0 => (hV.2.1.2 i hi).2.1 h0)
theorem va_asc : ascB D.nv (fun i => (D.fv i).1) := ascB_of (fun i hi h0 => (hV.2.2.2 i hi).2.1 h0)
theorem stP_at {i : Nat} (hi : i < D.np) : stP D (D.fp i).1 = (D.fp i).2.2 := by
  have h0 : 0 ≤ placeI D.np D.fp (D.fp i).1 := by
    unfold placeI
    cases e : (List.range D.np).find? (fun j => eqB (D.fp j).1 (D.fp i).1) with
    | none => exact absurd (List.find?_eq_none.1 e i (List.mem_range.2 hi)) (by simp [eqB])
    | some k => exact Int.natCast_nonneg k
  obtain ⟨k, hk, _, e2, e3⟩ := place_ix h0
  have : k = i := ascB_inj (pl_asc hV) hk hi ((eqB_iff _ _).1 e3)
  unfold stP
  rw [e2, this]
theorem stV_at {i : Nat} (hi : i < D.nv) : stV D (D.fv i).1 = (D.fv i).2.2.2 := by
  have h0 : 0 ≤ valI D.nv D.fv (D.fv i).1 := by
    unfold valI
    cases e : (List.range D.nv).find? (fun j => eqB (D.fv j).1 (D.fv i).1) with
    | none => exact absurd (List.find?_eq_none.1 e i (List.mem_range.2 hi)) (by simp [eqB])
    | some k => exact Int.natCast_nonneg k
  obtain ⟨k, hk, _, e2, e3⟩ := val_ix h0
  have : k = i := ascB_inj (va_asc hV) hk hi ((eqB_iff _ _).1 e3)
  unfold stV
  rw [e2, this]
theorem uses_same {l : List ByteArray} (hi : itsP D l) (st : ByteArray) : tkU (useL l) (plA D st D.np) = usL D st (useL l) := by
  have e1 : usL D st (useL l) = useL (l.filter fun x => eqB (stP D x) st) := by
    unfold usL useL
    rw [List.filter_map]
    rfl
  rw [e1, tkU_useL (its_asc hi), tkV_filter, plA_names]
  congr 1
  refine asc_unique _ _ (asc_filter (asc_ix (pl_asc hV) _) _) (asc_filter (its_asc hi) _) (fun x => ?_)
  rw [List.mem_filter, List.mem_filter, List.mem_map, hasL_iff, eqB_iff]
  constructor
  · rintro ⟨⟨i, hm, rfl⟩, hx⟩
    have hm := List.mem_filter.1 hm
    refine ⟨hx, ?_⟩
    rw [stP_at hV (List.mem_range.1 hm.1)]
    exact (eqB_iff _ _).1 hm.2
  · rintro ⟨hx, hs⟩
    refine ⟨?_, hx⟩
    obtain ⟨j, hj, rfl⟩ := List.getElem_of_mem hx
    have h0 := (hi.2.2 j hj).1
    rw [nthB_at hj] at h0
    obtain ⟨k, hk, _, _, e3⟩ := place_ix h0
    have e4 := (eqB_iff _ _).1 e3
    refine ⟨k, List.mem_filter.2 ⟨List.mem_range.2 hk, ?_⟩, e4⟩
    rw [← stP_at hV hk, e4, hs]
    exact (eqB_iff _ _).2 rfl
theorem shuts_same {l : List ByteArray} (st : ByteArray) : tkV (shI D l D.nv) (vlA D st D.nv) = opL D st (insA (besL D l)) := by
  rw [tkV_filter]
  unfold opL
  refine asc_unique _ _ (asc_filter (asc_ix (va_asc hV) _) _) (asc_filter (insA_both _).1 _) (fun x => ?_)
  rw [List.mem_filter, List.mem_filter, hasL_iff, (insA_both _).2, eqB_iff]
  have key : ∀ i, i < D.nv → ((D.fv i).1 ∈ shI D l D.nv ↔ (D.fv i).1 ∈ besL D l) := fun i hi => by
    unfold shI besL besN
    rw [List.mem_map, List.mem_flatMap]
    constructor
    · rintro ⟨j, hj, e⟩
      have hj := List.mem_filter.1 hj
      have : j = i := ascB_inj (va_asc hV) (List.mem_range.1 hj.1) hi e
      subst this
      have ha : hasL l (D.fv j).2.1 = true ∨ hasL l (D.fv j).2.2.1 = true := by have := hj.2; unfold atB at this; rwa [Bool.or_eq_true] at this
      rcases ha with ha | ha
      · exact ⟨_, hasL_iff.1 ha, List.mem_map.2 ⟨j, List.mem_filter.2 ⟨hj.1, by rw [endB_flip, (eqB_iff _ _).2 rfl, Bool.true_or]⟩, rfl⟩⟩
      · exact ⟨_, hasL_iff.1 ha, List.mem_map.2 ⟨j, List.mem_filter.2 ⟨hj.1, by rw [endB_flip, (eqB_iff (D.fv j).2.2.1 _).2 rfl, Bool.or_true]⟩, rfl⟩⟩
    · rintro ⟨y, hy, hm⟩
      obtain ⟨j, hj, e⟩ := List.mem_map.1 hm
      have hj := List.mem_filter.1 hj
      have : j = i := ascB_inj (va_asc hV) (List.mem_range.1 hj.1) hi e
      subst this
      refine ⟨j, List.mem_filter.2 ⟨hj.1, ?_⟩, rfl⟩
      have he := hj.2
      rw [endB_flip, Bool.or_eq_true, eqB_iff, eqB_iff] at he
      unfold atB
      rw [Bool.or_eq_true, hasL_iff, hasL_iff]
      rcases he with he | he
      · exact .inl (he ▸ hy)
      · exact .inr (he ▸ hy)
  constructor
  · rintro ⟨hx, hs⟩
    obtain ⟨i, hm, rfl⟩ := List.mem_map.1 hx
    have hm := List.mem_filter.1 hm
    have hi := List.mem_range.1 hm.1
    refine ⟨(key i hi).1 hs, ?_⟩
    rw [stV_at hV hi]
    exact (eqB_iff _ _).1 hm.2
  · rintro ⟨hx, hs⟩
    obtain ⟨y, hy, hm⟩ := List.mem_flatMap.1 hx
    obtain ⟨i, hm2, rfl⟩ := List.mem_map.1 hm
    have hi := List.mem_range.1 (List.mem_filter.1 hm2).1
    refine ⟨List.mem_map.2 ⟨i, List.mem_filter.2 ⟨List.mem_range.2 hi, ?_⟩, rfl⟩, (key i hi).2 hx⟩
    rw [← stV_at hV hi, hs]
    exact (eqB_iff _ _).2 rfl
theorem share_same {l : List ByteArray} (hi : itsP D l) (num kind : Int) : shrL D (num, kind, [], useL l, [], shI D l D.nv) (stnL D) = askL D (atD D num kind l) (stL true D) := by
  have e : ∀ st, shD D st (num, kind, [], useL l, [], shI D l D.nv) = ofD D st (atD D num kind l) := fun st => by
    show ((num, kind, [], tkU (useL l) (plA D st D.np), tkV [] (vlA D st D.nv), tkV (shI D l D.nv) (vlA D st D.nv)) : DClaimWant) = (num, kind, [], usL D st (useL l), opL D st [], opL D st (insA (besL D l)))
    rw [uses_same hV hi, shuts_same hV, tkV_none]
    rfl
  unfold shrL askL
  show (((stnL D).filter _).map _) = (((stnL D).filter _).map _)
  simp only [e]
end

end Go.Proofs.YtffmfomonmhkcaaGreat

/-
  What is asked of types whose lists are made.
-/
namespace Go.Proofs.YtffmfomonmhkcaaGreat
open Go.RowKit

theorem underStringS : Tryz.prog.underlying 22 = some (.slice 9) := by kernel_rfl
theorem infoStringS : (Tryz.prog.info? 9).map (fun i => (i.zero, i.size, i.bytes)) = some (some (.string ByteArray.empty), 1, 16) := by kernel_rfl
theorem underClaimUseS : Tryz.prog.underlying 50 = some (.slice 54) := by kernel_rfl
theorem infoClaimUseS : (Tryz.prog.info? 54).map (fun i => (i.zero, i.size, i.bytes)) = some (some (.agg #[.string ByteArray.empty, .int .i64 0, .int .i64 0]), 3, 32) := by kernel_rfl

end Go.Proofs.YtffmfomonmhkcaaGreat
