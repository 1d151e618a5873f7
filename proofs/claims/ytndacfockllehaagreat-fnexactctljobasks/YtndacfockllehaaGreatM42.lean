/-
  Several texts in one.
-/
import Derived.Test.YtndacfockllehaaGreatM27
import Derived.Test.YtndacfockllehaaGreatM5
import Derived.Test.YtndacfockllehaaGreatZb
import Derived.Deep.Cut
import Derived.Test.YtndacfockllehaaGreatBs
import Derived.Test.YtndacfockllehaaGreatM38
import Derived.Test.YtndacfockllehaaGreatM6
import Derived.Test.YtndacfockllehaaGreatM12
import Derived.Test.YtndacfockllehaaGreatM15
import Derived.Test.YtndacfockllehaaGreatM36
import Derived.Test.YtndacfockllehaaGreatBxs
import Derived.Test.YtndacfockllehaaGreatBo
/-
  A contract of the program's test whether places are a plant's.
-/
namespace Go.Proofs.YtndacfockllehaaGreat
open Go.RowKit

/-- A truth is answered: that of P. -/
def IsB (P : Prop) (e : Ending) : Prop := ∃ b, e = .returned (.bool b) ∧ (b = true ↔ P)

set_option maxRecDepth 100000 in
set_option maxHeartbeats 8000000 in
theorem listP_any (B : Nat) (S : Nat → Prop) (v0 v1 v2 v3 : Value) (D : PD) (l : List ByteArray) (v : Value) (w : World) (h : PAt B w v0 v1 v2 v3 D) (hB : B ≤ w.heap.size) (hl : AtL S w l v) (hS : ∀ b, S b → b < w.heap.size) :
    Calls Tryz.prog 99 #[v, .int .i64 8, .func (.func 100) #[] #[], .func (.func 101) #[.agg #[v0, v1, v2, v3]] #[]] w fun e w' => IsB (l.length ≤ 8 ∧ ∀ i, i < l.length → 0 ≤ placeI D.np D.fp (nthB l i) ∧ (0 < i → ltB (nthB l (i - 1)) (nthB l i) = true)) e ∧ Below w.heap.size w w' := by
  have H : Hid (∀ w', Below w.heap.size w w' → Lst B w' v2 D.np 3 (cP D.fp)) := fun w' hb => (h.kept hb hB).p
  have HL : Hid (∀ w', Below w.heap.size w w' → Lst w.heap.size w' v l.length 1 (cS (nthB l))) := fun w' hb => (lst_at hl hS).kept hb (Nat.le_refl _)
  obtain ⟨oa, cap, rfl, _⟩ := id hl
  clear h hl
  obtain ⟨n, en⟩ : ∃ n, l.length = n := ⟨_, rfl⟩
  rw [en] at HL
  rw [en]
  by_cases h8 : n ≤ 8
  · have dl : decide (8 < (n : Int)) = false := by simp; omega
    go_enter Tryz.func99, Tryz.ntmps99
    go_wp2_with fail
    go_loopw [17] (fun i wr => ∃ k : Nat, k ≤ n ∧ i = .int .i64 k ∧ Hid (∀ j, j < k → 0 ≤ placeI D.np D.fp (nthB l j)) ∧ Hid (Below w.heap.size w wr)) (fun i _ => n - (intOf i).toNat)
    case atStart => exact ⟨0, Nat.zero_le _, rfl, fun _ h => by omega, Below.refl _ _⟩
    case round =>
      obtain ⟨k, hk, rfl, hall, hbel⟩ := hrel
      have hs := hbel.out.size
      by_cases hlt : k < n
      · obtain ⟨oa', cap', ev, _, hc⟩ := HL.out wr hbel.out
        obtain ⟨b, off, eo, hb, hcell⟩ := hc k hlt
        have eo1 : oa = some ⟨b, off, none⟩ := by injection ev with h1 _ _; exact h1.trans eo
        subst eo1
        clear ev eo hc
        have e0 : wr.cell? ⟨b, off + k, none⟩ = some (.string (nthB l k)) := by have := hcell 0 (by omega); simpa [cS] using this
        clear hcell
        have HP : Hid (Calls Tryz.prog 101 #[.agg #[v0, v1, v2, v3], .string (nthB l k)] wr fun e w' => e = .returned (.bool (decide (0 ≤ placeI D.np D.fp (nthB l k)))) ∧ Below wr.heap.size wr w') := hasPlace_any B v0 v1 v2 v3 D.np D.fp (nthB l k) wr (H.out wr hbel.out) (by omega)
        have HB1 : Hid (Below w.heap.size w wr) := hbel
        by_cases hp : 0 ≤ placeI D.np D.fp (nthB l k)
        · rw [show decide (0 ≤ placeI D.np D.fp (nthB l k)) = true by simpa using hp] at HP
          have HP0 : Hid (0 ≤ placeI D.np D.fp (nthB l k)) := hp
          clear hp
          go_wp2_with (go_at_call 101; refine (HP.out).mono ?_; rintro e w1 ⟨rfl, hb1⟩)
          go_roundw
          case rel => exact ⟨k + 1, by omega, by go_num, fun j hj => by
            by_cases e : j = k
            · subst e; exact HP0.out
            · exact hall.out j (by omega), HB1.out.trans (hb1.mono HB1.out.size)⟩
          case measure => simp [intOf]; omega
        · rw [show decide (0 ≤ placeI D.np D.fp (nthB l k)) = false by simpa using hp] at HP
          have HP0 : Hid (¬ 0 ≤ placeI D.np D.fp (nthB l k)) := hp
          clear hp
          go_wp2_with (go_at_call 101; refine (HP.out).mono ?_; rintro e w1 ⟨rfl, hb1⟩)
          go_ret
          exact ⟨⟨_, rfl, ⟨fun h => absurd h (by decide), fun h => absurd (h.2 k hlt).1 (by have := HP0.out; omega)⟩⟩, HB1.out.trans (hb1.mono HB1.out.size)⟩
      · have hkn : k = n := by omega
        subst hkn
        have HA : Hid (Calls Tryz.prog 111 #[.slice oa k cap, .func (.func 100) #[] #[]] wr fun e w' => ∃ b, e = .returned (.bool b) ∧ (b = true ↔ ∀ i, 0 < i → i < k → ltB (nthB l (i - 1)) (nthB l i) = true) ∧ Below wr.heap.size wr w') := ascS_any w.heap.size _ k (nthB l) wr (HL.out wr hbel.out) hs
        go_wp2_with (go_at_call 111; refine (HA.out).mono ?_; rintro e w1 ⟨b, rfl, hb, hb1⟩)
        go_ret
        exact ⟨⟨_, rfl, hb.trans ⟨fun h => ⟨h8, fun i hi => ⟨hall.out i hi, fun h0 => h i h0 hi⟩⟩, fun h i h0 hi => (h.2 i hi).2 h0⟩⟩, hbel.out.trans (hb1.mono hs)⟩
  · have dl : decide (8 < (n : Int)) = true := by simp; omega
    go_enter Tryz.func99, Tryz.ntmps99
    go_wp2_with fail
    go_ret
    exact ⟨⟨_, rfl, ⟨fun h => absurd h (by decide), fun h => absurd h.1 h8⟩⟩, Below.refl _ _⟩

set_option maxRecDepth 100000 in
set_option maxHeartbeats 8000000 in
theorem itsI_any (B : Nat) (S : Nat → Prop) (v0 v1 v2 v3 : Value) (D : PD) (l : List ByteArray) (v : Value) (w : World) (h : PAt B w v0 v1 v2 v3 D) (hB : B ≤ w.heap.size) (hl : AtL S w l v) (hS : ∀ b, S b → b < w.heap.size) :
    Calls Tryz.prog 64 #[.agg #[v0, v1, v2, v3], v] w fun e w' => IsB (itsP D l) e ∧ Below w.heap.size w w' := by
  have hmf : ∀ (fn : Fn) (first cap : Array Value) (w : World), (Instr.makeFunc fn first cap).run Tryz.prog w = .ok (.func fn first cap) w := fun _ _ _ _ => rfl
  obtain ⟨W, hW⟩ : ∃ W, W = w.alloc (.cells #[v0, v1, v2, v3] 40) := ⟨_, rfl⟩
  have EW : Hid (W = w.alloc (.cells #[v0, v1, v2, v3] 40)) := hW
  have BW : Hid (Below w.heap.size w W) := by rw [hW]; exact (Below.refl _ _).alloc (Nat.le_refl _) _
  have X0 : W.heap[w.heap.size]? = some (.cells #[v0, v1, v2, v3] 40 (0, 0)) := by rw [hW]; exact heap_alloc_new w _
  clear hW
  obtain ⟨y0, _⟩ := cell_row X0 0 (v0) rfl
  obtain ⟨y1, _⟩ := cell_row X0 1 (v1) rfl
  obtain ⟨y2, _⟩ := cell_row X0 2 (v2) rfl
  obtain ⟨y3, _⟩ := cell_row X0 3 (v3) rfl
  have HC : Hid _ := listP_any B S v0 v1 v2 v3 D l v W (h.kept BW.out hB) (Nat.le_trans hB BW.out.size) (hl.same (Same.of_below BW.out hS)) (fun b hb => Nat.lt_of_lt_of_le (hS b hb) BW.out.size)
  obtain ⟨oa, cap, rfl, _⟩ := id hl
  clear h hl X0
  go_enter Tryz.func64, Tryz.ntmps64
  by_cases h1 : 1 ≤ l.length
  · have g1 : decide ((1 : Int) ≤ (l.length : Int)) = true := by simp; omega
    have H1 : Hid (1 ≤ l.length) := h1
    clear h1
    go_upto_region 1 with fail
    rw [← EW.out]
    go_wp2_with (go_at_call 99; refine Calls.mono HC.out ?_; rintro e w1 ⟨⟨b, rfl, hb⟩, hb1⟩)
    have hf : b = true ↔ itsP D l := hb.trans ⟨fun h => ⟨H1.out, h⟩, fun h => h.2⟩
    go_ret
    exact ⟨⟨_, rfl, hf⟩, BW.out.trans (hb1.mono BW.out.size)⟩
  · have g1 : decide ((1 : Int) ≤ (l.length : Int)) = false := by simp; omega
    have H1 : Hid (¬ 1 ≤ l.length) := h1
    clear h1
    go_upto_region 1 with fail
    rw [← EW.out]
    go_wp2_with fail
    go_ret
    exact ⟨⟨_, rfl, ⟨fun h => absurd h (by decide), fun h => absurd h.1 H1.out⟩⟩, BW.out⟩

end Go.Proofs.YtndacfockllehaaGreat

/-
  A contract of the program's CtlPlaceAsks.
-/
namespace Go.Proofs.YtndacfockllehaaGreat
open Go.RowKit

attribute [local go_sem] Oper.semAt_some
/-- What the program asks of stations to clean places, or for a permit to work on them. -/
def PsIs (D : PD) (num kind : Int) (l : List ByteArray) (q : List DCtlAsk) : Prop := (D.V ∧ itsP D l ∧ (kind = 2 ∨ kind = 3) → q = shrL D (num, kind, [], useL l, [], shI D l D.nv) (stnL D)) ∧ (¬ (D.V ∧ itsP D l ∧ (kind = 2 ∨ kind = 3)) → q = [])
def PsE (D : PD) (num kind : Int) (l : List ByteArray) (S : Nat → Prop) (w' : World) (e : Ending) : Prop := ∃ r q, e = .returned r ∧ PsIs D num kind l q ∧ OnL S w' q r
theorem okP3 : OkI 3 := ⟨by decide, by decide⟩
theorem okP0 : OkI 0 := ⟨by decide, by decide⟩
theorem none_onA {S : Nat → Prop} {w : World} : OnL S w ([] : List DCtlAsk) (.slice none 0 0) := ⟨none, 0, rfl, ⟨Nat.zero_le _, Nat.le_refl 0, fun _ => rfl⟩, .inl rfl⟩
set_option maxRecDepth 100000 in
set_option maxHeartbeats 16000000 in
theorem placeAsksI_any (B : Nat) (S : Nat → Prop) (v0 v1 v2 v3 : Value) (D : PD) (num kind : Int) (l : List ByteArray) (v : Value) (w : World) (h : PAt B w v0 v1 v2 v3 D) (hB : B ≤ w.heap.size) (hz : D.Sz) (hl : AtL S w l v) (hS : ∀ b, S b → b < w.heap.size) (hn : OkI num) (hk : OkI kind) (hsl : D.V → (stnL D).length ≤ 1048576) :
    Calls Tryz.prog 30 #[.agg #[v0, v1, v2, v3], .int .i64 num, .int .i64 kind, v] w fun e w' => PsE D num kind l (fun b => w.heap.size ≤ b ∧ b < w'.heap.size) w' e ∧ Below w.heap.size w w' := by
  have H : Hid (∀ w', Below w.heap.size w w' → PAt B w' v0 v1 v2 v3 D) := fun w' hb => h.kept hb hB
  have HL : Hid (∀ w', Below w.heap.size w w' → AtL S w' l v) := fun w' hb => hl.same (Same.of_below hb hS)
  obtain ⟨oa, cap, ev, hx⟩ := id hl
  clear hx hl h
  obtain ⟨n, en⟩ : ∃ n, l.length = n := ⟨_, rfl⟩
  rw [en] at ev
  subst ev
  have EN : Hid (l.length = n) := en
  clear en
  obtain ⟨W, hW⟩ : ∃ W, W = w.alloc (.cells #[v0, v1, v2, v3] 40) := ⟨_, rfl⟩
  have EW : Hid (W = w.alloc (.cells #[v0, v1, v2, v3] 40)) := hW
  have BW : Hid (Below w.heap.size w W) := by rw [hW]; exact (Below.refl _ _).alloc (Nat.le_refl _) _
  have X0 : Hid (W.heap[w.heap.size]? = some (.cells #[v0, v1, v2, v3] 40 (0, 0))) := by rw [hW]; exact heap_alloc_new w _
  clear hW
  have y0 := (cell_row X0.out 0 (v0) rfl).1
  have y1 := (cell_row X0.out 1 (v1) rfl).1
  have y2 := (cell_row X0.out 2 (v2) rfl).1
  have y3 := (cell_row X0.out 3 (v3) rfl).1
  have HVA : Hid (Calls Tryz.prog 60 #[.agg #[v0, v1, v2, v3]] W fun e w' => ∃ b, e = .returned (.bool b) ∧ (b = true ↔ D.V) ∧ Below W.heap.size W w') := validI_any B _ _ _ _ D W (H.out W BW.out) (by have := BW.out.size; omega) hz
  have HIT : Hid (∀ w', Below w.heap.size w w' → Calls Tryz.prog 64 #[.agg #[v0, v1, v2, v3], .slice oa n cap] w' fun e w'' => IsB (itsP D l) e ∧ Below w'.heap.size w' w'') := fun w' hb => itsI_any B S v0 v1 v2 v3 D l _ w' (H.out w' hb) (Nat.le_trans hB hb.size) (HL.out w' hb) (fun b hs => Nat.lt_of_lt_of_le (hS b hs) hb.size)
  go_enter Tryz.func30, Tryz.ntmps30
  go_upto_region 1 with fail
  rw [← EW.out]
  by_cases hkd : kind = 2 ∨ kind = 3
  · rcases hkd with hk2 | hk2
    · have g2 : (kind == 2) = true := by rw [hk2]; rfl
      have d2 : decide (kind = 2) = true := by simpa using hk2
      have HKD : Hid (kind = 2 ∨ kind = 3) := .inl hk2
      clear hk2
      go_upto_region 2 with fail
      go_wp2_with fail
      refine (HVA.out).mono ?_
      rintro e w1 ⟨b, rfl, is, hb1⟩
      have IS : Hid _ := is
      have B1 : Hid (Below w.heap.size w w1) := BW.out.trans (hb1.mono BW.out.size)
      have X1 : Hid (w1.heap[w.heap.size]? = some (.cells #[v0, v1, v2, v3] 40 (0, 0))) := box_stable hb1 X0.out
      clear is hb1 y0 y1 y2 y3
      cases b
      · go_wp2_with fail
        go_ret
        exact ⟨⟨_, [], rfl, ⟨fun h => absurd (IS.out.2 h.1) (by decide), fun _ => rfl⟩, none_onA⟩, B1.out⟩
      · have y0 := (cell_row X1.out 0 (v0) rfl).1
        have y1 := (cell_row X1.out 1 (v1) rfl).1
        have y2 := (cell_row X1.out 2 (v2) rfl).1
        have y3 := (cell_row X1.out 3 (v3) rfl).1
        have HV : Hid D.V := IS.out.1 rfl
        have HI1 : Hid _ := HIT.out w1 B1.out
        go_wp2_with fail
        refine Calls.mono HI1.out ?_
        rintro e w2 ⟨⟨b, rfl, is⟩, hb2⟩
        have IT : Hid _ := is
        have B2 : Hid (Below w.heap.size w w2) := B1.out.trans (hb2.mono B1.out.size)
        have X2 : Hid (w2.heap[w.heap.size]? = some (.cells #[v0, v1, v2, v3] 40 (0, 0))) := box_stable hb2 X1.out
        clear is hb2 y0 y1 y2 y3
        cases b
        · go_wp2_with fail
          go_ret
          exact ⟨⟨_, [], rfl, ⟨fun h => absurd (IT.out.2 h.2.1) (by decide), fun _ => rfl⟩, none_onA⟩, B2.out⟩
        · have y0 := (cell_row X2.out 0 (v0) rfl).1
          have y1 := (cell_row X2.out 1 (v1) rfl).1
          have y2 := (cell_row X2.out 2 (v2) rfl).1
          have y3 := (cell_row X2.out 3 (v3) rfl).1
          have HI : Hid (itsP D l) := IT.out.1 rfl
          go_upto_region 4 with fail
          have q0 := fun d os => cell_regrown y0 d os
          have q1 := fun d os => cell_regrown y1 d os
          have q2 := fun d os => cell_regrown y2 d os
          have q3 := fun d os => cell_regrown y3 d os
          have hdr : Hid (Below w2.heap.size w2 w2.drew) := (Below.refl _ _).drew
          have BD : Hid (Below w.heap.size w w2.drew) := B2.out.trans (hdr.out.mono B2.out.size)
          have hl8 : l.length ≤ 8 := HI.out.2.1
          have HZL : Hid (∀ x ∈ l, x.size ≤ 1048576) := fun x hx => by have := its_size HV.out HI.out hx; omega
          refine wp_region_mix 7 [0, 1, 2, 3, 4] (by kernel_rfl) (by kernel_rfl) ?_
          simp only [List.filterMap_cons, List.filterMap_nil, List.getElem?_cons_succ, List.getElem?_cons_zero]
          repeat (first | go_big_quiet_step (fail) | quiet_step (fail))
          refine wpQuiet_nil ?_
          clear y0 q0 y1 q1 y2 q2 y3 q3
          refine call1 (md := .any) (f := 1) (i := 5) (dc := 34) (fn := 65) ⟨rfl, rfl, rfl, by decide⟩ (by kernel_rfl) ?run5 ((wantAt_any B S v0 v1 v2 v3 D num kind l (.slice oa n cap) w2.drew (H.out _ BD.out) (Nat.le_trans hB BD.out.size) HV.out (HL.out _ BD.out) (fun b hs => Nat.lt_of_lt_of_le (hS b hs) BD.out.size) hl8 HZL.out).mono ?_)
          case run5 => go_simp
          rintro e w3 ⟨r2, k2, r3, k3, r5, k5, rfl, K2, K3, K5, hb3⟩
          have B3 : Hid (Below w2.heap.size w2 w3) := hdr.out.trans (hb3.mono hdr.out.size)
          have BW3 : Hid (Below w.heap.size w w3) := B2.out.trans (B3.out.mono B2.out.size)
          refine ⟨_, rfl, regrown_of_below B3.out, ?_⟩
          simp only [Act.put, List.setIfInBounds_toArray, List.set_cons_zero, List.set_cons_succ]
          have A2 : AtL (fun b => b < w3.heap.size) w3 ([] : List ByteArray) (.slice r2 ([] : List ByteArray).length k2) := (onS_row (l := []) K2 (fun g hg => (World.ownsRow.lt K2 g hg).2) (fun _ h => nomatch h)).at_
          have A3 : AtL (fun b => b < w3.heap.size) w3 (useL l) (.slice r3 (useL l).length k3) := by
            have e : (useL l).length = l.length := by simp [useL]
            rw [e]
            exact (onU_row (l := useL l) (by show World.ownsRow _ _ _ _ _ _ _; rw [e]; exact K3) (fun g hg => (World.ownsRow.lt K3 g hg).2) (fun x hx => by
              obtain ⟨y, hy, rfl⟩ := List.mem_map.1 hx
              exact ⟨by have := HZL.out y hy; show y.size ≤ maxLen; unfold maxLen; omega, okP3, okP0⟩)).at_
          have A4 : AtL (fun b => b < w3.heap.size) w3 ([] : List ByteArray) (.slice none ([] : List ByteArray).length 0) := ⟨none, 0, rfl, ⟨Nat.zero_le _, Nat.le_refl 0, fun _ => rfl⟩, fun _ hi => absurd hi (Nat.not_lt_zero _)⟩
          have A5 : AtL (fun b => b < w3.heap.size) w3 (shI D l D.nv) (.slice r5 (shI D l D.nv).length k5) := (onS_row K5 (fun g hg => (World.ownsRow.lt K5 g hg).2) (fun x hx => by
              obtain ⟨i, hi, rfl⟩ := List.mem_map.1 hx
              have := name_size (HV.out.2.2.2 i (List.mem_range.1 (List.mem_filter.1 hi).1)).1
              show _ ≤ maxLen
              unfold maxLen; omega)).at_
          have SO : Hid _ := shareOut_any B (fun b => b < w3.heap.size) v0 v1 v2 v3 D num kind [] [] (shI D l D.nv) (useL l) r2 r3 none r5 k2 k3 0 k5 w3 (H.out w3 BW3.out) (Nat.le_trans hB BW3.out.size) HV.out A2 A3 A4 A5 (fun _ h => h) hn hk (by simp) (by simp [useL]; omega) (fun _ h => nomatch h) (fun x hx => by
              obtain ⟨y, hy, rfl⟩ := List.mem_map.1 hx
              exact ⟨HZL.out y hy, okP3, okP0⟩) (hsl HV.out)
          have eul : (useL l).length = l.length := by simp [useL]
          rw [eul] at SO
          clear eul A2 A3 A4 A5 K2 K3 K5
          refine call1 (md := .any) (f := 0) (i := 6) (dc := 35) (fn := 62) ⟨rfl, rfl, rfl, by decide⟩ (by kernel_rfl) ?run6 (Calls.mono SO.out ?_)
          case run6 => go_simp
          rintro e w4 ⟨rv, rfl, hon, hb4⟩
          have B4 : Hid (Below w2.heap.size w2 w4) := B3.out.trans (hb4.mono B3.out.size)
          have BW4 : Hid (Below w.heap.size w w4) := B2.out.trans (B4.out.mono B2.out.size)
          have ON : Hid (OnL (fun b => w.heap.size ≤ b ∧ b < w4.heap.size) w4 (shrL D (num, kind, [], useL l, [], shI D l D.nv) (stnL D)) rv) := hon.up (fun b hb => ⟨Nat.le_trans BW3.out.size hb.1, hb.2⟩)
          clear hon hb4
          refine ⟨_, rfl, regrown_of_below B4.out, ?_⟩
          simp only [Act.put, List.setIfInBounds_toArray, List.set_cons_zero, List.set_cons_succ]
          refine ⟨by kernel_rfl, ?_⟩
          simp only [List.drop_succ_cons, List.drop_zero]
          go_wp2_with fail
          go_ret
          exact ⟨⟨_, _, rfl, ⟨fun _ => rfl, fun h => absurd ⟨HV.out, HI.out, HKD.out⟩ h⟩, ON.out⟩, BW4.out⟩
    · have g2 : (kind == 2) = false := by rw [hk2]; rfl
      have g3 : (kind == 3) = true := by rw [hk2]; rfl
      have d2 : decide (kind = 2) = false := by rw [hk2]; rfl
      have d3 : decide (kind = 3) = true := by simpa using hk2
      have HKD : Hid (kind = 2 ∨ kind = 3) := .inr hk2
      clear hk2
      go_upto_region 2 with fail
      go_wp2_with fail
      refine (HVA.out).mono ?_
      rintro e w1 ⟨b, rfl, is, hb1⟩
      have IS : Hid _ := is
      have B1 : Hid (Below w.heap.size w w1) := BW.out.trans (hb1.mono BW.out.size)
      have X1 : Hid (w1.heap[w.heap.size]? = some (.cells #[v0, v1, v2, v3] 40 (0, 0))) := box_stable hb1 X0.out
      clear is hb1 y0 y1 y2 y3
      cases b
      · go_wp2_with fail
        go_ret
        exact ⟨⟨_, [], rfl, ⟨fun h => absurd (IS.out.2 h.1) (by decide), fun _ => rfl⟩, none_onA⟩, B1.out⟩
      · have y0 := (cell_row X1.out 0 (v0) rfl).1
        have y1 := (cell_row X1.out 1 (v1) rfl).1
        have y2 := (cell_row X1.out 2 (v2) rfl).1
        have y3 := (cell_row X1.out 3 (v3) rfl).1
        have HV : Hid D.V := IS.out.1 rfl
        have HI1 : Hid _ := HIT.out w1 B1.out
        go_wp2_with fail
        refine Calls.mono HI1.out ?_
        rintro e w2 ⟨⟨b, rfl, is⟩, hb2⟩
        have IT : Hid _ := is
        have B2 : Hid (Below w.heap.size w w2) := B1.out.trans (hb2.mono B1.out.size)
        have X2 : Hid (w2.heap[w.heap.size]? = some (.cells #[v0, v1, v2, v3] 40 (0, 0))) := box_stable hb2 X1.out
        clear is hb2 y0 y1 y2 y3
        cases b
        · go_wp2_with fail
          go_ret
          exact ⟨⟨_, [], rfl, ⟨fun h => absurd (IT.out.2 h.2.1) (by decide), fun _ => rfl⟩, none_onA⟩, B2.out⟩
        · have y0 := (cell_row X2.out 0 (v0) rfl).1
          have y1 := (cell_row X2.out 1 (v1) rfl).1
          have y2 := (cell_row X2.out 2 (v2) rfl).1
          have y3 := (cell_row X2.out 3 (v3) rfl).1
          have HI : Hid (itsP D l) := IT.out.1 rfl
          go_upto_region 4 with fail
          have q0 := fun d os => cell_regrown y0 d os
          have q1 := fun d os => cell_regrown y1 d os
          have q2 := fun d os => cell_regrown y2 d os
          have q3 := fun d os => cell_regrown y3 d os
          have hdr : Hid (Below w2.heap.size w2 w2.drew) := (Below.refl _ _).drew
          have BD : Hid (Below w.heap.size w w2.drew) := B2.out.trans (hdr.out.mono B2.out.size)
          have hl8 : l.length ≤ 8 := HI.out.2.1
          have HZL : Hid (∀ x ∈ l, x.size ≤ 1048576) := fun x hx => by have := its_size HV.out HI.out hx; omega
          refine wp_region_mix 7 [0, 1, 2, 3, 4] (by kernel_rfl) (by kernel_rfl) ?_
          simp only [List.filterMap_cons, List.filterMap_nil, List.getElem?_cons_succ, List.getElem?_cons_zero]
          repeat (first | go_big_quiet_step (fail) | quiet_step (fail))
          refine wpQuiet_nil ?_
          clear y0 q0 y1 q1 y2 q2 y3 q3
          refine call1 (md := .any) (f := 1) (i := 5) (dc := 34) (fn := 65) ⟨rfl, rfl, rfl, by decide⟩ (by kernel_rfl) ?run5 ((wantAt_any B S v0 v1 v2 v3 D num kind l (.slice oa n cap) w2.drew (H.out _ BD.out) (Nat.le_trans hB BD.out.size) HV.out (HL.out _ BD.out) (fun b hs => Nat.lt_of_lt_of_le (hS b hs) BD.out.size) hl8 HZL.out).mono ?_)
          case run5 => go_simp
          rintro e w3 ⟨r2, k2, r3, k3, r5, k5, rfl, K2, K3, K5, hb3⟩
          have B3 : Hid (Below w2.heap.size w2 w3) := hdr.out.trans (hb3.mono hdr.out.size)
          have BW3 : Hid (Below w.heap.size w w3) := B2.out.trans (B3.out.mono B2.out.size)
          refine ⟨_, rfl, regrown_of_below B3.out, ?_⟩
          simp only [Act.put, List.setIfInBounds_toArray, List.set_cons_zero, List.set_cons_succ]
          have A2 : AtL (fun b => b < w3.heap.size) w3 ([] : List ByteArray) (.slice r2 ([] : List ByteArray).length k2) := (onS_row (l := []) K2 (fun g hg => (World.ownsRow.lt K2 g hg).2) (fun _ h => nomatch h)).at_
          have A3 : AtL (fun b => b < w3.heap.size) w3 (useL l) (.slice r3 (useL l).length k3) := by
            have e : (useL l).length = l.length := by simp [useL]
            rw [e]
            exact (onU_row (l := useL l) (by show World.ownsRow _ _ _ _ _ _ _; rw [e]; exact K3) (fun g hg => (World.ownsRow.lt K3 g hg).2) (fun x hx => by
              obtain ⟨y, hy, rfl⟩ := List.mem_map.1 hx
              exact ⟨by have := HZL.out y hy; show y.size ≤ maxLen; unfold maxLen; omega, okP3, okP0⟩)).at_
          have A4 : AtL (fun b => b < w3.heap.size) w3 ([] : List ByteArray) (.slice none ([] : List ByteArray).length 0) := ⟨none, 0, rfl, ⟨Nat.zero_le _, Nat.le_refl 0, fun _ => rfl⟩, fun _ hi => absurd hi (Nat.not_lt_zero _)⟩
          have A5 : AtL (fun b => b < w3.heap.size) w3 (shI D l D.nv) (.slice r5 (shI D l D.nv).length k5) := (onS_row K5 (fun g hg => (World.ownsRow.lt K5 g hg).2) (fun x hx => by
              obtain ⟨i, hi, rfl⟩ := List.mem_map.1 hx
              have := name_size (HV.out.2.2.2 i (List.mem_range.1 (List.mem_filter.1 hi).1)).1
              show _ ≤ maxLen
              unfold maxLen; omega)).at_
          have SO : Hid _ := shareOut_any B (fun b => b < w3.heap.size) v0 v1 v2 v3 D num kind [] [] (shI D l D.nv) (useL l) r2 r3 none r5 k2 k3 0 k5 w3 (H.out w3 BW3.out) (Nat.le_trans hB BW3.out.size) HV.out A2 A3 A4 A5 (fun _ h => h) hn hk (by simp) (by simp [useL]; omega) (fun _ h => nomatch h) (fun x hx => by
              obtain ⟨y, hy, rfl⟩ := List.mem_map.1 hx
              exact ⟨HZL.out y hy, okP3, okP0⟩) (hsl HV.out)
          have eul : (useL l).length = l.length := by simp [useL]
          rw [eul] at SO
          clear eul A2 A3 A4 A5 K2 K3 K5
          refine call1 (md := .any) (f := 0) (i := 6) (dc := 35) (fn := 62) ⟨rfl, rfl, rfl, by decide⟩ (by kernel_rfl) ?run6 (Calls.mono SO.out ?_)
          case run6 => go_simp
          rintro e w4 ⟨rv, rfl, hon, hb4⟩
          have B4 : Hid (Below w2.heap.size w2 w4) := B3.out.trans (hb4.mono B3.out.size)
          have BW4 : Hid (Below w.heap.size w w4) := B2.out.trans (B4.out.mono B2.out.size)
          have ON : Hid (OnL (fun b => w.heap.size ≤ b ∧ b < w4.heap.size) w4 (shrL D (num, kind, [], useL l, [], shI D l D.nv) (stnL D)) rv) := hon.up (fun b hb => ⟨Nat.le_trans BW3.out.size hb.1, hb.2⟩)
          clear hon hb4
          refine ⟨_, rfl, regrown_of_below B4.out, ?_⟩
          simp only [Act.put, List.setIfInBounds_toArray, List.set_cons_zero, List.set_cons_succ]
          refine ⟨by kernel_rfl, ?_⟩
          simp only [List.drop_succ_cons, List.drop_zero]
          go_wp2_with fail
          go_ret
          exact ⟨⟨_, _, rfl, ⟨fun _ => rfl, fun h => absurd ⟨HV.out, HI.out, HKD.out⟩ h⟩, ON.out⟩, BW4.out⟩
  · have hk2 : ¬ kind = 2 := fun e => hkd (.inl e)
    have hk3 : ¬ kind = 3 := fun e => hkd (.inr e)
    have g2 : (kind == 2) = false := by simpa using hk2
    have g3 : (kind == 3) = false := by simpa using hk3
    have d2 : decide (kind = 2) = false := by simpa using hk2
    have d3 : decide (kind = 3) = false := by simpa using hk3
    have HKD : Hid (¬ (kind = 2 ∨ kind = 3)) := hkd
    clear hk2 hk3 hkd
    go_upto_region 2 with fail
    go_wp2_with fail
    refine (HVA.out).mono ?_
    rintro e w1 ⟨b, rfl, is, hb1⟩
    have IS : Hid _ := is
    have B1 : Hid (Below w.heap.size w w1) := BW.out.trans (hb1.mono BW.out.size)
    have X1 : Hid (w1.heap[w.heap.size]? = some (.cells #[v0, v1, v2, v3] 40 (0, 0))) := box_stable hb1 X0.out
    clear is hb1 y0 y1 y2 y3
    cases b
    · go_wp2_with fail
      go_ret
      exact ⟨⟨_, [], rfl, ⟨fun h => absurd (IS.out.2 h.1) (by decide), fun _ => rfl⟩, none_onA⟩, B1.out⟩
    · have y0 := (cell_row X1.out 0 (v0) rfl).1
      have y1 := (cell_row X1.out 1 (v1) rfl).1
      have y2 := (cell_row X1.out 2 (v2) rfl).1
      have y3 := (cell_row X1.out 3 (v3) rfl).1
      go_wp2_with fail
      go_ret
      exact ⟨⟨_, [], rfl, ⟨fun h => absurd h.2.2 HKD.out, fun _ => rfl⟩, none_onA⟩, B1.out⟩

end Go.Proofs.YtndacfockllehaaGreat

/-
  Plain facts of what is asked for a job.
-/
namespace Go.Proofs.YtndacfockllehaaGreat
open Go.RowKit

theorem cntL_len {α : Type} [Own α] (K : Nat) : ∀ l : List α, (∀ x ∈ l, Own.cnt x ≤ K) → cntL l ≤ K * l.length
  | [], _ => by simp [cntL, cntTo]
  | x :: l, h => by
    have h1 := h x List.mem_cons_self
    have h2 := cntL_len K l (fun y hy => h y (List.mem_cons_of_mem _ hy))
    have e1 : cntL (x :: l) = Own.cnt x + cntL l := by simp [cntL, cntTo]
    rw [e1, List.length_cons, Nat.mul_add]
    omega
theorem ra_same {D : PD} {num am : Int} {m : Nat} {P : Nat → ByteArray} {k : Nat} {Q : Nat → ByteArray} {ts : List ByteArray} {q q1 : List DCtlAsk} (h : RaIs D num am m P k Q ts q) (h1 : RaIs D num am m P k Q ts q1) : q1 = q := by
  by_cases c : D.V ∧ RS D m P k Q
  · rw [h.1 c, h1.1 c]
  · rw [h.2 c, h1.2 c]
theorem ra_cnt {D : PD} {num am : Int} {m : Nat} {P : Nat → ByteArray} {k : Nat} {Q : Nat → ByteArray} {ts : List ByteArray} {q : List DCtlAsk} (h : RaIs D num am m P k Q ts q) (hl : ts.length ≤ 1048576) : cntL q ≤ 40000000 := by
  by_cases c : D.V ∧ RS D m P k Q
  · rw [h.1 c]
    have hv : D.nv ≤ 18 := c.1.2.2.1
    have hp : D.np ≤ 14 := c.1.2.1.1
    have hm := rt_len c.2
    have hk : k + 1 = m := c.2.1.2
    have e1 := cntL_len 1048776 (askL D (rtD D num am m P k Q ts) (stL true D)) (fun x hx => by
      obtain ⟨st, _, rfl⟩ := List.mem_map.1 hx
      have a1 : cntL (usL D st (usS m P am m)) ≤ 3 * (usL D st (usS m P am m)).length := cntL_len 3 _ (fun x _ => by rw [cnt_DClaimUse]; omega)
      have a2 : cntL (opL D st (insA ((List.range k).map Q))) ≤ 1 * (opL D st (insA ((List.range k).map Q))).length := cntL_len 1 _ (fun x _ => Nat.le_refl 1)
      have b2 : cntL (opL D st (gdN D m P k Q D.nv)) ≤ 1 * (opL D st (gdN D m P k Q D.nv)).length := cntL_len 1 _ (fun x _ => Nat.le_refl 1)
      have a3 := usL_len D st (usS m P am m)
      have a4 := opL_len D st (insA ((List.range k).map Q))
      have b4 := opL_len D st (gdN D m P k Q D.nv)
      have a5 := insA_len ((List.range k).map Q)
      simp only [List.length_map, List.length_range] at a5
      have b5 := gdN_len D m P k Q D.nv
      have a8 := usS_len m P am m
      have a9 : cntL ts ≤ 1 * ts.length := cntL_len 1 _ (fun x _ => Nat.le_refl 1)
      rw [cnt_DCtlAsk]
      show 1 + (1 + (1 + (cntL ts + (cntL (usL D st (usS m P am m)) + (cntL (opL D st (insA ((List.range k).map Q))) + cntL (opL D st (gdN D m P k Q D.nv)))))))  ≤ 1048776
      omega)
    have e2 := askL_len D (rtD D num am m P k Q ts) (stL true D)
    have e3 : (stL true D).length ≤ D.np + D.nv := stnL_len D
    omega
  · rw [h.2 c]; simp [cntL, cntTo]

theorem pa_same {D : PD} {num kind : Int} {l : List ByteArray} {q q1 : List DCtlAsk} (h : PaIs D num kind l q) (h1 : PsIs D num kind l q1) : q1 = q := by
  by_cases c : D.V ∧ itsP D l ∧ (kind = 2 ∨ kind = 3)
  · rw [h.1 c, h1.1 c]; exact share_same c.1 c.2.1 num kind
  · rw [h.2 c, h1.2 c]
theorem pa_cnt {D : PD} {num kind : Int} {l : List ByteArray} {q : List DCtlAsk} (h : PaIs D num kind l q) : cntL q ≤ 10000 := by
  by_cases c : D.V ∧ itsP D l ∧ (kind = 2 ∨ kind = 3)
  · rw [h.1 c]
    have hv : D.nv ≤ 18 := c.1.2.2.1
    have hp : D.np ≤ 14 := c.1.2.1.1
    have h8 : l.length ≤ 8 := c.2.1.2.1
    have e1 := cntL_len 200 (askL D (atD D num kind l) (stL true D)) (fun x hx => by
      obtain ⟨st, _, rfl⟩ := List.mem_map.1 hx
      have a1 : cntL (usL D st (useL l)) ≤ 3 * (usL D st (useL l)).length := cntL_len 3 _ (fun x _ => by rw [cnt_DClaimUse]; omega)
      have a2 : cntL (opL D st (insA (besL D l))) ≤ 1 * (opL D st (insA (besL D l))).length := cntL_len 1 _ (fun x _ => Nat.le_refl 1)
      have a3 := usL_len D st (useL l)
      have a4 := opL_len D st (insA (besL D l))
      have a5 := insA_len (besL D l)
      have a6 := besL_len D l
      have a7 : l.length * D.nv ≤ 8 * 18 := Nat.mul_le_mul h8 hv
      have a8 : (useL l).length = l.length := by simp [useL]
      have a9 : cntL ([] : List ByteArray) = 0 := by simp [cntL, cntTo]
      have a0 : cntL (opL D st []) = 0 := by simp [opL, cntL, cntTo]
      rw [cnt_DCtlAsk]
      show 1 + (1 + (1 + (cntL ([] : List ByteArray) + (cntL (usL D st (useL l)) + (cntL (opL D st []) + cntL (opL D st (insA (besL D l)))))))) ≤ 200
      omega)
    have e2 := askL_len D (atD D num kind l) (stL true D)
    have e3 : (stL true D).length ≤ D.np + D.nv := stnL_len D
    omega
  · rw [h.2 c]; simp [cntL, cntTo]

end Go.Proofs.YtndacfockllehaaGreat
