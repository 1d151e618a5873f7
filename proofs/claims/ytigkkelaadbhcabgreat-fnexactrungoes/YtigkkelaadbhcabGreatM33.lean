/-
  Several texts in one.
-/
import Derived.Test.YtigkkelaadbhcabGreatM21
import Derived.Test.YtigkkelaadbhcabGreatM22
import Derived.Test.YtigkkelaadbhcabGreatM23
import Derived.Test.YtigkkelaadbhcabGreatM31
import Derived.Test.YtigkkelaadbhcabGreatM32
import Derived.Deep.Cut
namespace Go.Proofs.YtigkkelaadbhcabGreat
open Go.RowKit Go.Sort
theorem sl_max {S : Nat → Prop} {w : World} {sl : List DRunSlot} {v : Value} (h : AtL S w sl v) : ∀ s ∈ sl, s.2.size ≤ maxLen := fun s hs => by
  obtain ⟨i, hi, rfl⟩ := List.getElem_of_mem hs
  obtain ⟨_, _, _, _, hc⟩ := h
  obtain ⟨_, _, _, _, _, _, hat⟩ := hc i hi
  exact (at_DRunSlot.1 hat).2.2
theorem th_max {sl : List DRunSlot} (h : ∀ s ∈ sl, s.2.size ≤ maxLen) {l : List ByteArray} {y : ByteArray} (hy : y ∈ thL sl l) : y.size ≤ maxLen := by
  rcases both_mem _ _ _ hy with h1 | h1
  · cases h1
  · obtain ⟨z, _, rfl⟩ := List.mem_map.1 h1
    exact thT_size h z
theorem tg_max {nm : ByteArray} {r : List DRecPhase} {sl : List DRunSlot} {at_ : ByteArray} {si st : Int} {x y : ByteArray} (h : ∀ s ∈ sl, s.2.size ≤ maxLen) (hy : y ∈ tgL (nm, r, sl, at_, si, st) x) : y.size ≤ maxLen := by
  unfold tgL at hy
  split at hy
  · exact th_max h hy
  · cases hy
theorem ow_max {nm : ByteArray} {r : List DRecPhase} {sl : List DRunSlot} {at_ : ByteArray} {si st : Int} {y : ByteArray} (h : ∀ s ∈ sl, s.2.size ≤ maxLen) (hy : y ∈ owL (nm, r, sl, at_, si, st)) : y.size ≤ maxLen := by
  unfold owL at hy
  split at hy
  · exact th_max h hy
  · cases hy
structure ShaR (Bs : List DShareBatch) (b : DRunBatch) : Prop where
  at_ : ¬ atZI Bs b.1 < 0
  needs : ∀ (a : Nat) (h : a < Bs.length), atZI Bs b.1 = (a : Int) → Bs[a].2.2 = tgL b b.2.2.2.1
  has : ∀ (a : Nat) (h : a < Bs.length), atZI Bs b.1 = (a : Int) → 0 ≤ b.2.2.2.2.1 → allB (owL b) Bs[a].2.1 = true
structure ShaP (Bs : List DShareBatch) (Ba : List DRunBatch) : Prop where
  len : Bs.length = Ba.length
  row : ∀ i (h : i < Ba.length), ShaR Bs Ba[i]
noncomputable def shaB (Bs : List DShareBatch) (Ba : List DRunBatch) : Bool := @decide (ShaP Bs Ba) (Classical.propDecidable _)
theorem sha_yes {Bs : List DShareBatch} {Ba : List DRunBatch} (h : ShaP Bs Ba) : shaB Bs Ba = true := by unfold shaB; exact @decide_eq_true _ (Classical.propDecidable _) h
theorem sha_no {Bs : List DShareBatch} {Ba : List DRunBatch} (h : ¬ ShaP Bs Ba) : shaB Bs Ba = false := by unfold shaB; exact @decide_eq_false _ (Classical.propDecidable _) h
theorem sha_iff {Bs : List DShareBatch} {Ba : List DRunBatch} : shaB Bs Ba = true ↔ ShaP Bs Ba := by unfold shaB; exact @decide_eq_true_iff _ (Classical.propDecidable _)
set_option maxRecDepth 100000 in
set_option maxHeartbeats 16000000 in
theorem shaX_any (S : Nat → Prop) (now last : Int) (o2 o3 o4 o5 : Option Addr) (n2 k2 n3 k3 n4 k4 n5 k5 : Nat) (T : List ByteArray) (Bs : List DShareBatch) (Ba : List DRunBatch) (w : World) (hT : AtL S w T (.slice o2 n2 k2)) (hB : AtL S w Bs (.slice o3 n3 k3)) (h : AtL S w Ba (.slice o4 n4 k4)) (hS : ∀ b, S b → b < w.heap.size) :
    Calls Tryz.prog 39 #[.agg #[.int .i64 now, .int .i64 last, .slice o2 n2 k2, .slice o3 n3 k3, .slice o4 n4 k4, .slice o5 n5 k5]] w fun e w' => e = .returned (.bool (shaB Bs Ba)) ∧ Below w.heap.size w w' := by
  have en3 : Bs.length = n3 := by obtain ⟨_, _, e, _⟩ := hB; cases e; rfl
  have en4 : Ba.length = n4 := by obtain ⟨_, _, e, _⟩ := h; cases e; rfl
  have hm3 : n3 ≤ 9223372036854775807 := by obtain ⟨_, _, e, hf, _⟩ := id hB; cases e; have := hf.1; unfold maxLen at this; omega
  have hm4 : n4 ≤ 9223372036854775807 := by obtain ⟨_, _, e, hf, _⟩ := id h; cases e; have := hf.1; unfold maxLen at this; omega
  have EN : Hid (Bs.length ≤ n3 ∧ n3 ≤ Bs.length ∧ Ba.length ≤ n4 ∧ n4 ≤ Ba.length) := ⟨by omega, by omega, by omega, by omega⟩
  have H2 : Hid _ := hT.ups hS
  have H3 : Hid _ := hB.ups hS
  have H4 : Hid _ := h.ups hS
  have HS : Hid _ := lt_up hS
  obtain ⟨W, EW, BW, RW, sW⟩ := box_new w #[.int .i64 now, .int .i64 last, .slice o2 n2 k2, .slice o3 n3 k3, .slice o4 n4 k4, .slice o5 n5 k5] 38
  have BOX : Hid (∀ u, Below W.heap.size W u → u.heap[w.heap.size]? = some (.cells #[.int .i64 now, .int .i64 last, .slice o2 n2 k2, .slice o3 n3 k3, .slice o4 n4 k4, .slice o5 n5 k5] 38 (0, 0)) ∧ Below w.heap.size w u) := fun u hu => ⟨(hu.block _ (by omega)).trans RW.out, BW.out.trans (hu.mono (by omega))⟩
  clear h hT hB hS en3 en4
  have YES : Hid (ShaP Bs Ba → shaB Bs Ba = true) := sha_yes
  have NO : Hid (¬ ShaP Bs Ba → shaB Bs Ba = false) := sha_no
  have y3 := (cell_row RW.out 3 _ rfl).1
  have y4 := (cell_row RW.out 4 _ rfl).1
  go_enter Tryz.func39, Tryz.ntmps39
  go_upto_region 1 with fail
  rw [← EW.out]
  by_cases hl : n3 = n4
  case neg =>
    have d0 : ((n3 : Int) == (n4 : Int)) = false := by rw [beq_eq_false_iff_ne]; omega
    go_wp2_with fail
    go_ret
    rw [NO.out (fun h => hl (by have := h.len; have := EN.out; omega))]
    exact ⟨rfl, BW.out⟩
  subst hl
  go_wp2_with fail
  clear y3 y4
  go_loopw [3] (fun i wr => ∃ k : Nat, k ≤ n3 ∧ i = .int .i64 k ∧ Hid (∀ j (hj : j < Ba.length), j < k → ShaR Bs Ba[j]) ∧ Hid (Below W.heap.size W wr)) (fun i _ => n3 - (intOf i).toNat)
  case atStart => exact ⟨0, Nat.zero_le _, rfl, fun _ _ h => by omega, Below.refl _ _⟩
  case round =>
    obtain ⟨k, hk, rfl, hall, hbel⟩ := hrel
    have hs := hbel.out.size
    have BX := BOX.out wr hbel.out
    have BWR : Hid (Below w.heap.size w wr) := BX.2
    have y4 := (cell_row BX.1 4 _ rfl).1
    by_cases hlt : k < n3
    case neg =>
      go_wp2_with fail
      go_ret
      rw [YES.out ⟨by have := EN.out; omega, fun i hi => hall.out i hi (by have := EN.out; omega)⟩]
      exact ⟨rfl, BWR.out⟩
    have hks : k < Ba.length := by have := EN.out; omega
    obtain ⟨b, off, p1, p2, m1, j1, m2, j2, rfl, hbS, e0, e1, e2, e3, e4, e5, z0, hr, hsl⟩ := rb_at (H4.out wr BWR.out) k hks
    have HMX : Hid (∀ s ∈ Ba[k].2.2.1, s.2.size ≤ maxLen) := sl_max hsl
    obtain ⟨f, ef⟩ : ∃ f, Ba[k] = f := ⟨_, rfl⟩
    rw [ef] at e0 e3 e4 e5 z0 hr hsl HMX
    obtain ⟨nm, r, sl, at_, si, st⟩ := f
    simp only at e0 e3 e4 e5 z0 hr hsl HMX
    have EF : Hid (Ba[k] = (nm, r, sl, at_, si, st)) := ef
    have HZ : Hid (nm.size ≤ maxLen) := z0
    have HRR : Hid (AtL S wr r (.slice p1 m1 j1)) := hr
    have HSL : Hid (AtL S wr sl (.slice p2 m2 j2)) := hsl
    clear ef z0 hr hsl hbS
    obtain ⟨X, hX⟩ : ∃ X, X = wr.alloc (.cells #[.string nm, .slice p1 m1 j1, .slice p2 m2 j2, .string at_, .int .i64 si, .int .i64 st] 52) := ⟨_, rfl⟩
    have EX : Hid (X = wr.alloc (.cells #[.string nm, .slice p1 m1 j1, .slice p2 m2 j2, .string at_, .int .i64 si, .int .i64 st] 52)) := hX
    have CX : Hid (Below wr.heap.size wr X) := by rw [hX]; exact (Below.refl _ _).alloc (Nat.le_refl _) _
    have BXX : Hid (Below W.heap.size W X) := hbel.out.trans (CX.out.mono hs)
    have RX : Hid (X.heap[wr.heap.size]? = some (.cells #[.string nm, .slice p1 m1 j1, .slice p2 m2 j2, .string at_, .int .i64 si, .int .i64 st] 52 (0, 0))) := by rw [hX]; exact heap_alloc_new wr _
    have sX : wr.heap.size + 1 ≤ X.heap.size := by rw [hX]; simp
    clear hX
    have BD := BOX.out X BXX.out
    have BDX : Hid (Below w.heap.size w X) := BD.2
    have x2 := (cell_row BD.1 2 _ rfl).1
    have x3 := (cell_row BD.1 3 _ rfl).1
    have x0 := (cell_row RX.out 0 _ rfl).1
    go_upto_region 7 with fail
    rw [← EX.out]
    clear e0 e1 e2 e3 e4 e5 y4
    go_wp2_with fail
    refine (atZ_any S T Bs o2 o3 n2 k2 n3 k3 nm X (H2.out X BDX.out) (H3.out X BDX.out) (HS.out X BDX.out)).mono ?_; rintro e w1 ⟨rfl, hb1⟩
    have C1 : Hid (Below X.heap.size X w1) := hb1
    have B1 : Hid (Below W.heap.size W w1) := BXX.out.trans (hb1.mono BXX.out.size)
    clear hb1 x0 x2 x3 BD BX
    have BH := BOX.out w1 B1.out
    have BW1 : Hid (Below w.heap.size w w1) := BH.2
    have CW : Hid (Below wr.heap.size wr w1) := CX.out.trans (C1.out.mono CX.out.size)
    have RB : Hid (w1.heap[wr.heap.size]? = some (.cells #[.string nm, .slice p1 m1 j1, .slice p2 m2 j2, .string at_, .int .i64 si, .int .i64 st] 52 (0, 0))) := (C1.out.block _ (by omega)).trans RX.out
    have HR1 : Hid (∀ u, Below w1.heap.size w1 u → AtL S u r (.slice p1 m1 j1)) := fun u hu => HRR.out.same (Same.of_below (CW.out.trans (hu.mono CW.out.size)) (HS.out wr BWR.out))
    have HL1 : Hid (∀ u, Below w1.heap.size w1 u → AtL S u sl (.slice p2 m2 j2)) := fun u hu => HSL.out.same (Same.of_below (CW.out.trans (hu.mono CW.out.size)) (HS.out wr BWR.out))
    have qh3 := fun d os => cell_regrown (cell_row BH.1 3 _ rfl).1 d os
    have qb0 := fun d os => cell_regrown (cell_row RB.out 0 _ rfl).1 d os
    have qb1 := fun d os => cell_regrown (cell_row RB.out 1 _ rfl).1 d os
    have qb2 := fun d os => cell_regrown (cell_row RB.out 2 _ rfl).1 d os
    have qb3 := fun d os => cell_regrown (cell_row RB.out 3 _ rfl).1 d os
    have qb4 := fun d os => cell_regrown (cell_row RB.out 4 _ rfl).1 d os
    have qb5 := fun d os => cell_regrown (cell_row RB.out 5 _ rfl).1 d os
    clear BH
    by_cases c4 : atZI Bs nm < 0
    · have HP : Hid (¬ ShaP Bs Ba) := fun h => by
        have := (h.row k hks).at_
        rw [EF.out] at this
        exact this c4
      obtain ⟨v, hv⟩ : ∃ v : Int, v = atZI Bs nm := ⟨_, rfl⟩
      rw [← hv] at c4 ⊢
      clear hv
      go_wp2_with fail
      refine wp_region_quiet_below (by kernel_rfl) (by kernel_rfl) ?_
      repeat (first | go_big_quiet_step (fail) | quiet_step (fail))
      refine wpQuiet_nil ?_
      intro _ hw'
      obtain ⟨⟨dq, osq⟩, hw''⟩ := hw'
      subst hw''
      go_wp2_with fail
      go_ret
      rw [NO.out HP.out]
      exact ⟨rfl, BW1.out.trans ((below_regrown w1 dq osq).mono BW1.out.size)⟩
    obtain ⟨a, ha, has⟩ := at_lt c4
    obtain ⟨bb, of3, q1, s1, t1, q2, s2, t2, rfl, hbb, _, d1, d2, A1, A2, _⟩ := bat_at (H3.out w1 BW1.out) a has
    have AH : Hid (AtL S w1 Bs[a].2.1 (.slice q1 s1 t1)) := A1
    have AN : Hid (AtL S w1 Bs[a].2.2 (.slice q2 s2 t2)) := A2
    have qd1 := fun d os => cell_regrown d1 d os
    have qd2 := fun d os => cell_regrown d2 d os
    have hav : a < n3 := by have := EN.out; omega
    have S1 : Hid (∀ b, S b → b < w1.heap.size) := HS.out w1 BW1.out
    have HATZ : Hid (atZI Bs nm = (a : Int)) := ha
    rw [ha]
    clear A1 A2 d1 d2 ha c4 hbb
    have HDR : Hid (Below w1.heap.size w1 w1.drew) := (Below.refl _ _).drew
    have TL : Hid ((tgL (nm, r, sl, at_, si, st) at_).length ≤ 8192) := tg_len _ _
    have OL : Hid ((owL (nm, r, sl, at_, si, st)).length ≤ 8192) := ow_len _
    obtain ⟨G, hG⟩ : ∃ G, G = tgL (nm, r, sl, at_, si, st) at_ := ⟨_, rfl⟩
    have HG : Hid (G = tgL (nm, r, sl, at_, si, st) at_) := hG
    have GZ : Hid (∀ y ∈ G, y.size ≤ maxLen) := fun y hy => tg_max HMX.out (by rw [← hG]; exact hy)
    rw [← hG] at TL
    have CT : Hid (∀ u, Below w1.heap.size w1 u → Calls Tryz.prog 67 #[ .agg #[.string nm, .slice p1 m1 j1, .slice p2 m2 j2, .string at_, .int .i64 si, .int .i64 st], .string at_] u fun e w' => ∃ q, e = .returned q ∧ w'.ownsRow u.heap.size 9 1 q G.length (G.map .string) ∧ Below u.heap.size u w') := fun u hu => by
      rw [hG]; exact thgX_any S nm r sl at_ si st p1 p2 m1 j1 m2 j2 at_ u HZ.out (HR1.out u hu) (HL1.out u hu) (fun b hb => Nat.lt_of_lt_of_le (S1.out b hb) hu.size)
    obtain ⟨O, hO⟩ : ∃ O, O = owL (nm, r, sl, at_, si, st) := ⟨_, rfl⟩
    have HO : Hid (O = owL (nm, r, sl, at_, si, st)) := hO
    have OZ : Hid (∀ y ∈ O, y.size ≤ maxLen) := fun y hy => ow_max HMX.out (by rw [← hO]; exact hy)
    rw [← hO] at OL
    have CO : Hid (∀ u, Below w1.heap.size w1 u → Calls Tryz.prog 69 #[ .agg #[.string nm, .slice p1 m1 j1, .slice p2 m2 j2, .string at_, .int .i64 si, .int .i64 st]] u fun e w' => ∃ q, e = .returned q ∧ w'.ownsRow u.heap.size 9 1 q O.length (O.map .string) ∧ Below u.heap.size u w') := fun u hu => by
      rw [hO]; exact ownX_any S nm r sl at_ si st p1 p2 m1 j1 m2 j2 u HZ.out (HR1.out u hu) (HL1.out u hu) (fun b hb => Nat.lt_of_lt_of_le (S1.out b hb) hu.size)
    clear hG hO
    have OKR : Hid (alkB Bs[a].2.2 G = true → (0 ≤ si → allB O Bs[a].2.1 = true) → ShaR Bs Ba[k]) := fun h1 h2 => by
      have EFO := EF.out
      have HA := HATZ.out
      refine ⟨by rw [EFO]; show ¬ atZI Bs nm < 0; omega, fun a' h' e' => ?_, fun a' h' e' h0 => ?_⟩
      · rw [EFO] at e' ⊢
        obtain rfl : a' = a := by simp only at e'; omega
        rw [alk_iff.1 h1]; exact HG.out
      · rw [EFO] at e' h0 ⊢
        obtain rfl : a' = a := by simp only at e'; omega
        have := h2 h0
        rw [HO.out] at this; exact this
    have BAD1 : Hid (alkB Bs[a].2.2 G = false → ¬ ShaP Bs Ba) := fun h1 h => by
      have := (h.row k hks).needs a has (by rw [EF.out]; exact HATZ.out)
      rw [EF.out] at this
      rw [alk_yes (this.trans HG.out.symm)] at h1
      cases h1
    have BAD2 : Hid (0 ≤ si → allB O Bs[a].2.1 = false → ¬ ShaP Bs Ba) := fun h0 h1 h => by
      have := (h.row k hks).has a has (by rw [EF.out]; exact HATZ.out) (by rw [EF.out]; exact h0)
      rw [EF.out, ← HO.out, h1] at this
      cases this
    have dneg : decide ((a : Int) < 0) = false := decide_eq_false (by omega)
    go_wp2_with fail
    refine wp_region_guarded 34 [0, 1, 2, 3, 4, 5, 6, 7, 8, 9, 10, 11, 12] (by kernel_rfl) (by kernel_rfl) ?_
    simp only [List.filterMap_cons, List.filterMap_nil, List.getElem?_cons_succ, List.getElem?_cons_zero]
    repeat (first | go_big_quiet_step (fail) | quiet_step (fail))
    refine wpQuiet_nil ?_
    refine callG (md := .any) (f := 20) (i := 13) (dc := 44) (fn := 67) ⟨rfl, rfl, by decide⟩ (by kernel_rfl) ?want ?run ((CT.out w1.drew HDR.out).mono ?_)
    case want => rfl
    case run => go_simp
    rintro e w2 ⟨qt, rfl, hq, hb2⟩
    have C2 : Hid (Below w1.heap.size w1 w2) := HDR.out.trans hb2
    have AT : Hid (AtL (fun b => w1.heap.size ≤ b ∧ b < w2.heap.size) w2 G qt) := at_rowX hq GZ.out TL.out
    obtain ⟨ot, ct, eqt, _⟩ := id AT.out
    subst eqt
    refine ⟨_, rfl, regrown_of_below C2.out, ?_⟩
    clear hq hb2
    simp only [Act.put, List.setIfInBounds_toArray, List.set_cons_zero, List.set_cons_succ]
    have AN2 : Hid (AtL S w2 Bs[a].2.2 (.slice q2 s2 t2)) := AN.out.same (Same.of_below C2.out S1.out)
    have z2 := C2.out.size
    refine callG (md := .any) (f := 19) (i := 14) (dc := 45) (fn := 66) ⟨rfl, rfl, by decide⟩ (by kernel_rfl) ?want ?run ((alkX_any S _ Bs[a].2.2 G q2 ot s2 t2 _ ct w2 AN2.out AT.out (fun b hb => by have := S1.out b hb; omega) (fun b hb => hb.2)).mono ?_)
    case want => rfl
    case run => go_simp
    rintro e w3 ⟨rfl, hb3⟩
    have C3 : Hid (Below w1.heap.size w1 w3) := C2.out.trans (hb3.mono z2)
    have z3 := C3.out.size
    refine ⟨_, rfl, regrown_of_below C3.out, ?_⟩
    clear hb3
    simp only [Act.put, List.setIfInBounds_toArray, List.set_cons_zero, List.set_cons_succ]
    cases c1 : alkB Bs[a].2.2 G
    · refine oneGX (i := 15) (dc := 46) (.bool true) ⟨rfl, rfl, by decide⟩ (by kernel_rfl) rfl ?run (regrown_of_below C3.out) ?_
      case run => go_simp
      simp only [Act.put, List.setIfInBounds_toArray, List.set_cons_zero, List.set_cons_succ]
      refine lexG (g := 4) [16, 17, 18, 19, 20, 21, 22, 24, 25, 26, 27, 28, 29, 30] (by kernel_rfl) (regrown_of_below C3.out) ?_
      simp only [List.filterMap_cons, List.filterMap_nil, List.getElem?_cons_succ, List.getElem?_cons_zero]
      show wpQuiet _ _ _ _ [_, _, _, _, _, _, _, _, _, _, _, _, _, _] _
      repeat (first | go_big_quiet_step (fail) | quiet_step (fail))
      refine wpQuiet_nil ?_
      refine callGX (i := 23) (dc := 54) ⟨rfl, rfl, by decide⟩ (by kernel_rfl) rfl (regrown_of_below C3.out) ?_
      simp only [Act.put, List.setIfInBounds_toArray, List.set_cons_zero, List.set_cons_succ]
      refine callGX (i := 31) (dc := 62) ⟨rfl, rfl, by decide⟩ (by kernel_rfl) rfl (regrown_of_below C3.out) ?_
      simp only [Act.put, List.setIfInBounds_toArray, List.set_cons_zero, List.set_cons_succ]
      refine callGX (i := 32) (dc := 63) ⟨rfl, rfl, by decide⟩ (by kernel_rfl) rfl (regrown_of_below C3.out) ?_
      simp only [Act.put, List.setIfInBounds_toArray, List.set_cons_zero, List.set_cons_succ]
      refine lexG (g := 0) [33] (by kernel_rfl) (regrown_of_below C3.out) ?_
      simp only [List.filterMap_cons, List.filterMap_nil, List.getElem?_cons_succ, List.getElem?_cons_zero]
      show wpQuiet _ _ _ _ [_] _
      repeat (first | go_big_quiet_step (fail) | quiet_step (fail))
      refine wpQuiet_nil ?_
      refine ⟨by kernel_rfl, ?_⟩
      simp only [List.drop_succ_cons, List.drop_zero]
      go_wp2_with fail
      go_ret
      rw [NO.out (BAD1.out c1)]
      exact ⟨rfl, BW1.out.trans (C3.out.mono BW1.out.size)⟩
    by_cases h0 : 0 ≤ si
    · have d5 : decide (0 ≤ si) = true := decide_eq_true h0
      refine oneGX (i := 15) (dc := 46) (.bool false) ⟨rfl, rfl, by decide⟩ (by kernel_rfl) rfl ?run (regrown_of_below C3.out) ?_
      case run => go_simp
      simp only [Act.put, List.setIfInBounds_toArray, List.set_cons_zero, List.set_cons_succ]
      refine lexG (g := 4) [16, 17, 18, 19, 20, 21, 22, 24, 25, 26, 27, 28, 29, 30] (by kernel_rfl) (regrown_of_below C3.out) ?_
      simp only [List.filterMap_cons, List.filterMap_nil, List.getElem?_cons_succ, List.getElem?_cons_zero]
      show wpQuiet _ _ _ _ [_, _, _, _, _, _, _, _, _, _, _, _, _, _] _
      repeat (first | go_big_quiet_step (fail) | quiet_step (fail))
      refine wpQuiet_nil ?_
      refine callG (md := .any) (f := 3) (i := 23) (dc := 54) (fn := 69) ⟨rfl, rfl, by decide⟩ (by kernel_rfl) ?want ?run ((CO.out w3 C3.out).mono ?_)
      case want => rfl
      case run => go_simp
      rintro e w4 ⟨qo, rfl, hq, hb4⟩
      have C4 : Hid (Below w1.heap.size w1 w4) := C3.out.trans (hb4.mono z3)
      have AO : Hid (AtL (fun b => w3.heap.size ≤ b ∧ b < w4.heap.size) w4 O qo) := at_rowX hq OZ.out OL.out
      obtain ⟨oo, co, eqo, _⟩ := id AO.out
      subst eqo
      refine ⟨_, rfl, regrown_of_below C4.out, ?_⟩
      clear hq hb4
      simp only [Act.put, List.setIfInBounds_toArray, List.set_cons_zero, List.set_cons_succ]
      have AH4 : Hid (AtL S w4 Bs[a].2.1 (.slice q1 s1 t1)) := AH.out.same (Same.of_below C4.out S1.out)
      have z4 := C4.out.size
      refine callG (md := .any) (f := 2) (i := 31) (dc := 62) (fn := 68) ⟨rfl, rfl, by decide⟩ (by kernel_rfl) ?want ?run ((allX_any _ S O Bs[a].2.1 oo q1 _ co s1 t1 w4 AO.out AH4.out (fun b hb => hb.2) (fun b hb => by have := S1.out b hb; omega)).mono ?_)
      case want => rfl
      case run => go_simp
      rintro e w5 ⟨rfl, hb5⟩
      have C5 : Hid (Below w1.heap.size w1 w5) := C4.out.trans (hb5.mono z4)
      refine ⟨_, rfl, regrown_of_below C5.out, ?_⟩
      clear hb5
      simp only [Act.put, List.setIfInBounds_toArray, List.set_cons_zero, List.set_cons_succ]
      cases c2 : allB O Bs[a].2.1
      · refine oneGX (i := 32) (dc := 63) (.bool true) ⟨rfl, rfl, by decide⟩ (by kernel_rfl) rfl ?run (regrown_of_below C5.out) ?_
        case run => go_simp
        simp only [Act.put, List.setIfInBounds_toArray, List.set_cons_zero, List.set_cons_succ]
        refine lexG (g := 0) [33] (by kernel_rfl) (regrown_of_below C5.out) ?_
        simp only [List.filterMap_cons, List.filterMap_nil, List.getElem?_cons_succ, List.getElem?_cons_zero]
        show wpQuiet _ _ _ _ [_] _
        repeat (first | go_big_quiet_step (fail) | quiet_step (fail))
        refine wpQuiet_nil ?_
        refine ⟨by kernel_rfl, ?_⟩
        simp only [List.drop_succ_cons, List.drop_zero]
        go_wp2_with fail
        go_ret
        rw [NO.out (BAD2.out h0 c2)]
        exact ⟨rfl, BW1.out.trans (C5.out.mono BW1.out.size)⟩
      · refine oneGX (i := 32) (dc := 63) (.bool false) ⟨rfl, rfl, by decide⟩ (by kernel_rfl) rfl ?run (regrown_of_below C5.out) ?_
        case run => go_simp
        simp only [Act.put, List.setIfInBounds_toArray, List.set_cons_zero, List.set_cons_succ]
        refine lexG (g := 0) [33] (by kernel_rfl) (regrown_of_below C5.out) ?_
        simp only [List.filterMap_cons, List.filterMap_nil, List.getElem?_cons_succ, List.getElem?_cons_zero]
        show wpQuiet _ _ _ _ [_] _
        repeat (first | go_big_quiet_step (fail) | quiet_step (fail))
        refine wpQuiet_nil ?_
        refine ⟨by kernel_rfl, ?_⟩
        simp only [List.drop_succ_cons, List.drop_zero]
        go_wp2_with fail
        go_roundw
        case rel => exact ⟨k + 1, by omega, by go_num, fun j hj hjk => by
          by_cases e : j = k
          · subst e; exact OKR.out c1 (fun h0 => c2)
          · exact hall.out j hj (by omega), B1.out.trans (C5.out.mono B1.out.size)⟩
        case measure => simp [intOf]; omega
    · have d5 : decide (0 ≤ si) = false := decide_eq_false h0
      refine oneGX (i := 15) (dc := 46) (.bool false) ⟨rfl, rfl, by decide⟩ (by kernel_rfl) rfl ?run (regrown_of_below C3.out) ?_
      case run => go_simp
      simp only [Act.put, List.setIfInBounds_toArray, List.set_cons_zero, List.set_cons_succ]
      refine lexG (g := 4) [16, 17, 18, 19, 20, 21, 22, 24, 25, 26, 27, 28, 29, 30] (by kernel_rfl) (regrown_of_below C3.out) ?_
      simp only [List.filterMap_cons, List.filterMap_nil, List.getElem?_cons_succ, List.getElem?_cons_zero]
      show wpQuiet _ _ _ _ [_, _, _, _, _, _, _, _, _, _, _, _, _, _] _
      repeat (first | go_big_quiet_step (fail) | quiet_step (fail))
      refine wpQuiet_nil ?_
      refine callGX (i := 23) (dc := 54) ⟨rfl, rfl, by decide⟩ (by kernel_rfl) rfl (regrown_of_below C3.out) ?_
      simp only [Act.put, List.setIfInBounds_toArray, List.set_cons_zero, List.set_cons_succ]
      refine callGX (i := 31) (dc := 62) ⟨rfl, rfl, by decide⟩ (by kernel_rfl) rfl (regrown_of_below C3.out) ?_
      simp only [Act.put, List.setIfInBounds_toArray, List.set_cons_zero, List.set_cons_succ]
      refine callGX (i := 32) (dc := 63) ⟨rfl, rfl, by decide⟩ (by kernel_rfl) rfl (regrown_of_below C3.out) ?_
      simp only [Act.put, List.setIfInBounds_toArray, List.set_cons_zero, List.set_cons_succ]
      refine lexG (g := 0) [33] (by kernel_rfl) (regrown_of_below C3.out) ?_
      simp only [List.filterMap_cons, List.filterMap_nil, List.getElem?_cons_succ, List.getElem?_cons_zero]
      show wpQuiet _ _ _ _ [_] _
      repeat (first | go_big_quiet_step (fail) | quiet_step (fail))
      refine wpQuiet_nil ?_
      refine ⟨by kernel_rfl, ?_⟩
      simp only [List.drop_succ_cons, List.drop_zero]
      go_wp2_with fail
      go_roundw
      case rel => exact ⟨k + 1, by omega, by go_num, fun j hj hjk => by
        by_cases e : j = k
        · subst e; exact OKR.out c1 (fun h0 => absurd h0 (by omega))
        · exact hall.out j hj (by omega), B1.out.trans (C3.out.mono B1.out.size)⟩
      case measure => simp [intOf]; omega
end Go.Proofs.YtigkkelaadbhcabGreat

namespace Go.Proofs.YtigkkelaadbhcabGreat
open Go.RowKit Go.Sort
set_option maxRecDepth 100000 in
set_option maxHeartbeats 8000000 in
theorem canZ_any (S : Nat → Prop) (T : List ByteArray) (Bs : List DShareBatch) (o0 oa : Option Addr) (n0 k0 nb kb : Nat) (SG : Nat → Prop) (gone : List ByteArray) (og : Option Addr) (ng kg a : Nat) (w : World) (h0 : AtL S w T (.slice o0 n0 k0)) (h1 : AtL S w Bs (.slice oa nb kb)) (hS : ∀ b, S b → b < w.heap.size) (hG : AtL SG w gone (.slice og ng kg)) (hSG : ∀ b, SG b → b < w.heap.size) (ha : a < Bs.length) :
    Calls Tryz.prog 130 #[.agg #[.slice o0 n0 k0, .slice oa nb kb], .int .i64 a, .slice og ng kg] w fun e w' => e = .returned (.bool (canB Bs a gone)) ∧ Below w.heap.size w w' := by
  have HG : Hid _ := hG.ups hSG
  have HSG : Hid _ := lt_up hSG
  have enb : Bs.length = nb := by obtain ⟨_, _, e, _⟩ := h1; cases e; rfl
  have hmx : nb ≤ 9223372036854775807 := by obtain ⟨_, _, e, hf, _⟩ := id h1; cases e; have := hf.1; unfold maxLen at this; omega
  have ENB : Hid (Bs.length ≤ nb ∧ nb ≤ Bs.length) := ⟨by omega, by omega⟩
  have H0 : Hid _ := h0.ups hS
  have H1 : Hid _ := h1.ups hS
  have HS : Hid _ := lt_up hS
  obtain ⟨W, EW, BW, RW, sW⟩ := box_new w #[.slice o0 n0 k0, .slice oa nb kb] 34
  clear enb
  have BOX : Hid (∀ u, Below W.heap.size W u → u.heap[w.heap.size]? = some (.cells #[.slice o0 n0 k0, .slice oa nb kb] 34 (0, 0)) ∧ Below w.heap.size w u) := fun u hu => ⟨(hu.block _ (by omega)).trans RW.out, BW.out.trans (hu.mono (by omega))⟩
  go_enter Tryz.func130, Tryz.ntmps130
  go_wp2_with fail
  rw [← EW.out]
  go_loopw [7] (fun i wr => ∃ q : Nat, q ≤ nb ∧ i = .int .i64 q ∧ Hid (∀ j, j < q → inWay Bs a gone j = false) ∧ Hid (Below W.heap.size W wr)) (fun i _ => nb - (intOf i).toNat)
  case atStart => exact ⟨0, Nat.zero_le _, rfl, fun _ h => by omega, Below.refl _ _⟩
  case round =>
    obtain ⟨q, hq, rfl, hall, hbel⟩ := hrel
    have HB := hbel.out
    have bwr := (BOX.out wr HB).2
    have hsz := HB.size
    have y0 := (cell_row (BOX.out wr HB).1 0 (.slice o0 n0 k0) rfl).1
    have y1 := (cell_row (BOX.out wr HB).1 1 (.slice oa nb kb) rfl).1
    by_cases hlt : q < nb
    case neg =>
      go_wp2_with fail
      go_ret
      rw [can_yes (fun i hi => hall.out i (by have := ENB.out; omega))]
      exact ⟨rfl, bwr⟩
    have han : a < nb := by have := ENB.out; omega
    have hqb : q < Bs.length := by have := ENB.out; omega
    obtain ⟨bb, off, o1, n1, k1, o2, n2, k2, rfl, hbS, e0, e1, e2, a1, a2, z0⟩ := bat_at (H1.out wr bwr) q hqb
    obtain ⟨bb', off', p1, m1, l1, p2, m2, l2, hoo, _, _, _, g2, _, b2, _⟩ := bat_at (H1.out wr bwr) a ha
    cases hoo
    obtain ⟨f, ef⟩ : ∃ f, Bs[q] = f := ⟨_, rfl⟩
    obtain ⟨g, eg⟩ : ∃ g, Bs[a] = g := ⟨_, rfl⟩
    rw [ef] at e0 a1 a2 z0
    rw [eg] at b2
    have hwa : inWay Bs a gone q = (!(q == a) && !(hasB gone f.1) && shareB f.2.1 g.2.2) := by unfold inWay; rw [btN_at hqb, btN_at ha, ef, eg]
    have qy0 := fun d os => cell_regrown y0 d os
    have qy1 := fun d os => cell_regrown y1 d os
    have qe0 := fun d os => cell_regrown e0 d os
    have qe1 := fun d os => cell_regrown e1 d os
    have qg2 := fun d os => cell_regrown g2 d os
    have A1 : Hid (AtL S wr f.2.1 (.slice o1 n1 k1)) := a1
    have A2 : Hid (AtL S wr g.2.2 (.slice p2 m2 l2)) := b2
    have AG : Hid (AtL SG wr gone (.slice og ng kg)) := HG.out wr bwr
    have SW : Hid (∀ b, S b → b < wr.heap.size) := HS.out wr bwr
    have SGW : Hid (∀ b, SG b → b < wr.heap.size) := HSG.out wr bwr
    clear y0 e0 e1 e2 g2 a1 a2 b2
    by_cases hqa : q = a
    · have hqi : ((q : Int) == (a : Int)) = true := by simp [hqa]
      have hqn : ((q : Int) != (a : Int)) = false := by simp [hqa]
      have hw0 : inWay Bs a gone q = false := by rw [hwa]; simp [hqa]
      go_wp2
      refine wp_region_quiet_below (by kernel_rfl) (by kernel_rfl) ?_
      repeat (first | go_big_quiet_step (fail) | quiet_step (fail))
      refine wpQuiet_nil ?_
      intro _ hw'
      obtain ⟨⟨dq, osq⟩, hw''⟩ := hw'
      subst hw''
      go_wp2
      go_roundw
      case rel => exact ⟨q + 1, by omega, by go_num, fun j hj => by
        by_cases e : j = q
        · subst e; exact hw0
        · exact hall.out j (by omega), HB.trans ((below_regrown _ dq osq).mono hsz)⟩
      case measure => simp [intOf]; omega
    have hqi : ((q : Int) == (a : Int)) = false := by simp; omega
    have hqn : ((q : Int) != (a : Int)) = true := by simp; omega
    have hqa' : (q == a) = false := by simpa using hqa
    cases c0 : hasB gone f.1
    case true =>
      have hw0 : inWay Bs a gone q = false := by rw [hwa, c0]; simp
      go_wp2
      refine wp_region_quiet_below (by kernel_rfl) (by kernel_rfl) ?_
      repeat (first | go_big_quiet_step (with_reducible exact hasZ_q SG _ gone _ _ AG.out SGW.out _ c0 _ _) | quiet_step (with_reducible exact hasZ_q SG _ gone _ _ AG.out SGW.out _ c0 _ _))
      refine wpQuiet_nil ?_
      intro _ hw'
      obtain ⟨⟨dq, osq⟩, hw''⟩ := hw'
      subst hw''
      go_wp2
      go_roundw
      case rel => exact ⟨q + 1, by omega, by go_num, fun j hj => by
        by_cases e : j = q
        · subst e; exact hw0
        · exact hall.out j (by omega), HB.trans ((below_regrown _ dq osq).mono hsz)⟩
      case measure => simp [intOf]; omega
    cases c1 : shareB f.2.1 g.2.2
    case false =>
      have hw0 : inWay Bs a gone q = false := by rw [hwa, c1]; simp
      go_wp2
      refine wp_region_quiet_below (by kernel_rfl) (by kernel_rfl) ?_
      repeat (first | go_big_quiet_step (first | (with_reducible exact hasZ_q SG _ gone _ _ AG.out SGW.out _ c0 _ _) | (with_reducible exact shareZ_q S _ _ f.2.1 g.2.2 _ A1.out A2.out SW.out _ c1 _ _)) | quiet_step (first | (with_reducible exact hasZ_q SG _ gone _ _ AG.out SGW.out _ c0 _ _) | (with_reducible exact shareZ_q S _ _ f.2.1 g.2.2 _ A1.out A2.out SW.out _ c1 _ _)))
      refine wpQuiet_nil ?_
      intro _ hw'
      obtain ⟨⟨dq, osq⟩, hw''⟩ := hw'
      subst hw''
      go_wp2
      go_roundw
      case rel => exact ⟨q + 1, by omega, by go_num, fun j hj => by
        by_cases e : j = q
        · subst e; exact hw0
        · exact hall.out j (by omega), HB.trans ((below_regrown _ dq osq).mono hsz)⟩
      case measure => simp [intOf]; omega
    have hw0 : inWay Bs a gone q = true := by rw [hwa, hqa', c0, c1]; rfl
    go_wp2
    refine wp_region_quiet_below (by kernel_rfl) (by kernel_rfl) ?_
    repeat (first | go_big_quiet_step (first | (with_reducible exact hasZ_q SG _ gone _ _ AG.out SGW.out _ c0 _ _) | (with_reducible exact shareZ_q S _ _ f.2.1 g.2.2 _ A1.out A2.out SW.out _ c1 _ _)) | quiet_step (first | (with_reducible exact hasZ_q SG _ gone _ _ AG.out SGW.out _ c0 _ _) | (with_reducible exact shareZ_q S _ _ f.2.1 g.2.2 _ A1.out A2.out SW.out _ c1 _ _)))
    refine wpQuiet_nil ?_
    intro _ hw'
    obtain ⟨⟨dq, osq⟩, hw''⟩ := hw'
    subst hw''
    go_wp2
    go_ret
    rw [can_no hqb hw0]
    exact ⟨rfl, bwr.trans ((below_regrown _ dq osq).mono bwr.size)⟩
end Go.Proofs.YtigkkelaadbhcabGreat

namespace Go.Proofs.YtigkkelaadbhcabGreat
open Go.RowKit Go.Sort
def freeB (Bs : List DShareBatch) (gone : List ByteArray) (i : Nat) : Bool := !(hasB gone (btN Bs i).1) && canB Bs i gone
def nxtI (Bs : List DShareBatch) (gone : List ByteArray) : Int := idxI (List.range Bs.length) (freeB Bs gone)
theorem nxt_yes {Bs : List DShareBatch} {gone : List ByteArray} {q : Nat} (hq : q < Bs.length) (h : freeB Bs gone q = true) (hno : ∀ j, j < q → freeB Bs gone j = false) : nxtI Bs gone = (q : Int) :=
  idx_yes (l := List.range Bs.length) (k := q) (by simpa using hq) (by simpa using h) (fun j hj hjq => by simpa using hno j hjq)
theorem nxt_no {Bs : List DShareBatch} {gone : List ByteArray} (h : ∀ j, j < Bs.length → freeB Bs gone j = false) : nxtI Bs gone = -1 :=
  idx_no (l := List.range Bs.length) (fun j hj => by simpa using h j (by simpa using hj))
set_option maxRecDepth 100000 in
set_option maxHeartbeats 8000000 in
theorem nextZ_any (S : Nat → Prop) (T : List ByteArray) (Bs : List DShareBatch) (o0 oa : Option Addr) (n0 k0 nb kb : Nat) (SG : Nat → Prop) (gone : List ByteArray) (og : Option Addr) (ng kg : Nat) (w : World) (h0 : AtL S w T (.slice o0 n0 k0)) (h1 : AtL S w Bs (.slice oa nb kb)) (hS : ∀ b, S b → b < w.heap.size) (hG : AtL SG w gone (.slice og ng kg)) (hSG : ∀ b, SG b → b < w.heap.size) :
    Calls Tryz.prog 98 #[.agg #[.slice o0 n0 k0, .slice oa nb kb], .slice og ng kg] w fun e w' => e = .returned (.int .i64 (nxtI Bs gone)) ∧ Below w.heap.size w w' := by
  have HG : Hid _ := hG.ups hSG
  have HSG : Hid _ := lt_up hSG
  have enb : Bs.length = nb := by obtain ⟨_, _, e, _⟩ := h1; cases e; rfl
  have hmx : nb ≤ 9223372036854775807 := by obtain ⟨_, _, e, hf, _⟩ := id h1; cases e; have := hf.1; unfold maxLen at this; omega
  have ENB : Hid (Bs.length ≤ nb ∧ nb ≤ Bs.length) := ⟨by omega, by omega⟩
  have H0 : Hid _ := h0.ups hS
  have H1 : Hid _ := h1.ups hS
  have HS : Hid _ := lt_up hS
  obtain ⟨W, EW, BW, RW, sW⟩ := box_new w #[.slice o0 n0 k0, .slice oa nb kb] 34
  clear enb
  have BOX : Hid (∀ u, Below W.heap.size W u → u.heap[w.heap.size]? = some (.cells #[.slice o0 n0 k0, .slice oa nb kb] 34 (0, 0)) ∧ Below w.heap.size w u) := fun u hu => ⟨(hu.block _ (by omega)).trans RW.out, BW.out.trans (hu.mono (by omega))⟩
  go_enter Tryz.func98, Tryz.ntmps98
  go_wp2_with fail
  rw [← EW.out]
  go_loopw [5] (fun i wr => ∃ q : Nat, q ≤ nb ∧ i = .int .i64 q ∧ Hid (∀ j, j < q → freeB Bs gone j = false) ∧ Hid (Below W.heap.size W wr)) (fun i _ => nb - (intOf i).toNat)
  case atStart => exact ⟨0, Nat.zero_le _, rfl, fun _ h => by omega, Below.refl _ _⟩
  case round =>
    obtain ⟨q, hq, rfl, hall, hbel⟩ := hrel
    have HB := hbel.out
    have bwr := (BOX.out wr HB).2
    have hsz := HB.size
    have y0 := (cell_row (BOX.out wr HB).1 0 (.slice o0 n0 k0) rfl).1
    have y1 := (cell_row (BOX.out wr HB).1 1 (.slice oa nb kb) rfl).1
    by_cases hlt : q < nb
    case neg =>
      go_wp2_with fail
      go_ret
      rw [nxt_no (fun i hi => hall.out i (by have := ENB.out; omega))]
      exact ⟨rfl, bwr⟩
    have hqb : q < Bs.length := by have := ENB.out; omega
    obtain ⟨bb, off, o1, n1, k1, o2, n2, k2, rfl, hbS, e0, _, _, _, _, _⟩ := bat_at (H1.out wr bwr) q hqb
    obtain ⟨f, ef⟩ : ∃ f, Bs[q] = f := ⟨_, rfl⟩
    rw [ef] at e0
    have hfr : freeB Bs gone q = (!(hasB gone f.1) && canB Bs q gone) := by unfold freeB; rw [btN_at hqb, ef]
    have CH : Hid (Calls Tryz.prog 103 #[.slice og ng kg, .string f.1] wr fun e w' => e = .returned (.bool (hasB gone f.1)) ∧ Below wr.heap.size wr w') := hasZ_any SG _ gone f.1 wr (HG.out wr bwr)
    go_wp2_with fail
    refine CH.out.mono ?_; rintro e u1 ⟨rfl, hb1⟩
    have HB1 : Below W.heap.size W u1 := HB.trans (hb1.mono hsz)
    have bu1 := (BOX.out u1 HB1).2
    have B1 : Hid (Below W.heap.size W u1) := HB1
    have s1 := HB1.size
    clear hb1 y0 y1 e0
    have y0 := (cell_row (BOX.out u1 HB1).1 0 (.slice o0 n0 k0) rfl).1
    have y1 := (cell_row (BOX.out u1 HB1).1 1 (.slice (some ⟨bb, off, none⟩) nb kb) rfl).1
    cases c0 : hasB gone f.1
    case true =>
      have hw0 : freeB Bs gone q = false := by rw [hfr, c0]; rfl
      go_wp2_with fail
      go_roundw
      case rel => exact ⟨q + 1, by omega, by go_num, fun j hj => by
        by_cases e : j = q
        · subst e; exact hw0
        · exact hall.out j (by omega), B1⟩
      case measure => simp [intOf]; omega
    have CC : Hid (Calls Tryz.prog 130 #[.agg #[.slice o0 n0 k0, .slice (some ⟨bb, off, none⟩) nb kb], .int .i64 q, .slice og ng kg] u1 fun e w' => e = .returned (.bool (canB Bs q gone)) ∧ Below u1.heap.size u1 w') := canZ_any S T Bs _ _ _ _ _ _ SG gone og ng kg q u1 (H0.out u1 bu1) (H1.out u1 bu1) (HS.out u1 bu1) (HG.out u1 bu1) (HSG.out u1 bu1) hqb
    go_wp2_with fail
    refine CC.out.mono ?_; rintro e u2 ⟨rfl, hb2⟩
    have B2 : Hid (Below W.heap.size W u2) := B1.out.trans (hb2.mono s1)
    have bu2 := (BOX.out u2 B2.out).2
    clear hb2 y0 y1
    cases c1 : canB Bs q gone
    · have hw0 : freeB Bs gone q = false := by rw [hfr, c1]; simp
      go_wp2_with fail
      go_roundw
      case rel => exact ⟨q + 1, by omega, by go_num, fun j hj => by
        by_cases e : j = q
        · subst e; exact hw0
        · exact hall.out j (by omega), B2⟩
      case measure => simp [intOf]; omega
    · have hw0 : freeB Bs gone q = true := by rw [hfr, c0, c1]; rfl
      go_wp2_with fail
      go_ret
      rw [nxt_yes hqb hw0 (fun j hj => hall.out j hj)]
      exact ⟨rfl, bu2⟩
end Go.Proofs.YtigkkelaadbhcabGreat
