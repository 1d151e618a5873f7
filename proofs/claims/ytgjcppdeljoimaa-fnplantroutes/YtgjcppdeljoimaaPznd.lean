import Derived.Test.YtgjcppdeljoimaaM14
import Derived.Deep.CutBlock
namespace Go.Proofs.Ytgjcppdeljoimaa
open Go.RowKit Go.Sort
set_option maxRecDepth 100000 in
set_option maxHeartbeats 4000000 in
theorem draw_l8 (R : Nat) (ob : Option Addr) (n cb : Nat) (f : Nat → Int) (p : Int) (w z9 u : World) (_hp : p ≤ 60000) (_rlt : R < w.heap.size)  {K : Act → World → Prop} {Q' : Exit → Act → World → Prop} {code : Code} (t1 t2 t4 t5 t6 t7 t8 t9 t10 t12 : Value) (xs : List Value) (hx : xs.length = 155) (H0 : Dst R (w.heap.size + 1) (w.heap.size + 1 + 1 + 1) z9 ob n cb f (p + 88) u) (hcode : code = blk 8 Try.f27)
    (hK : ∀ (y : Value) (ys : List Value) (wr : World), ys.length = 155 → Dst R (w.heap.size + 1) (w.heap.size + 1 + 1 + 1) z9 ob n cb f (p + 88) wr → K ⟨(.pointer (some ⟨R, 0, none⟩) :: t1 :: t2 :: .pointer (some ⟨w.heap.size + 1, 0, none⟩) :: t4 :: t5 :: t6 :: t7 :: t8 :: t9 :: t10 :: y :: t12 :: ys).toArray, []⟩ wr) :
    Code.wp Try.prog code (Exit.then K Q') ⟨(.pointer (some ⟨R, 0, none⟩) :: t1 :: t2 :: .pointer (some ⟨w.heap.size + 1, 0, none⟩) :: t4 :: t5 :: t6 :: t7 :: t8 :: t9 :: t10 :: .int .i64 0 :: t12 :: xs).toArray, []⟩ u := by
  obtain ⟨g, rfl⟩ := len155 hx
  dsimp only
  subst hcode
  conv => arg 2; whnf
  go_cut [] from 13 (fun wr => Hid (Dst R (w.heap.size + 1) (w.heap.size + 1 + 1 + 1) z9 ob n cb f (p + 88) wr))
  case first =>
    go_wp2_with fail
    go_loopw [11] (fun i wr => ∃ k : Nat, k ≤ 20 ∧ i = .int .i64 k ∧ Hid (Dst R (w.heap.size + 1) (w.heap.size + 1 + 1 + 1) z9 ob n cb f (p + 88) wr)) (fun i _ => 20 - (intOf i).toNat)
    case atStart => exact ⟨0, by omega, rfl, H0⟩
    case round =>
      obtain ⟨k, hk, rfl, hd⟩ := hrel
      by_cases hlt : k < 20
      case neg =>
        have hge : decide ((k : Int) < 20) = false := by simp; omega
        go_wp2_with fail
        go_meet
        case rel => exact hd.out
      have hlt' : ((k : Int) < 20) := by omega
      obtain ⟨v0, v1, v2, v3, X, D0⟩ := hd.out
      obtain ⟨o0, c0, rfl⟩ := Row.form D0.pl.s
      obtain ⟨o1, c1, rfl⟩ := Row.form D0.pl.f
      obtain ⟨o2, c2, rfl⟩ := Row.form D0.pl.p
      obtain ⟨o3, c3, rfl⟩ := Row.form D0.pl.v
      generalize en0 : X.ss.length = n0 at D0 ⊢
      generalize en1 : X.ff.length = n1 at D0 ⊢
      generalize en2 : X.pp.length = n2 at D0 ⊢
      generalize en3 : X.vv.length = n3 at D0 ⊢
      have D1 : Hid _ := D0
      clear D0
      go_upto_region 29 with fail
      refine wp_region_movesC (fun v => v.heap[w.heap.size + 1]? = some (.cells #[.slice o0 n0 c0, .slice o1 n1 c1, .slice o2 n2 c2, .slice o3 n3 c3] 28 (0, 0))) 6 [] (by kernel_rfl) (by kernel_rfl) D1.out.bx ?_
      simp only [List.filterMap_nil, movD]
      refine takeHQ (f := 5) (i := 0) (.agg #[.slice o0 n0 c0, .slice o1 n1 c1, .slice o2 n2 c2, .slice o3 n3 c3]) ⟨rfl, rfl⟩ (by kernel_rfl) rfl D1.out.bx ?ta0 ?_
      case ta0 => intro v hv; have c0_ := (cell_row hv 0 (.slice o0 n0 c0) rfl).1; have c1_ := (cell_row hv 1 (.slice o1 n1 c1) rfl).1; have c2_ := (cell_row hv 2 (.slice o2 n2 c2) rfl).1; have c3_ := (cell_row hv 3 (.slice o3 n3 c3) rfl).1; go_simp
      simp only [Act.put, List.setIfInBounds_toArray, List.set_cons_zero, List.set_cons_succ]
      refine takeHQ (f := 4) (i := 1) (.int .i64 k) ⟨rfl, rfl⟩ (by kernel_rfl) rfl D1.out.bx ?ta1 ?_
      case ta1 => intro v hv; go_simp
      simp only [Act.put, List.setIfInBounds_toArray, List.set_cons_zero, List.set_cons_succ]
      have E0 : Hid _ := D1.out.below ((Below.refl _ _).drew)
      refine callHd (f := 3) (i := 2) ⟨rfl, rfl⟩ (by decide) (by kernel_rfl) rfl ?cc ((dec_rdK k wr.drew (by omega) (by omega)).mono ?_)
      case cc => go_simp
      rintro _ V1 ⟨sd, rfl, hsd, hbd⟩
      have E1 : Hid _ := E0.out.below hbd
      have zd : Hid ((⟨#[121]⟩ ++ sd : ByteArray).size ≤ maxLen) := by show (⟨#[121]⟩ ++ sd : ByteArray).size ≤ maxLen; rw [ByteArray.size_append]; have : (⟨#[121]⟩ : ByteArray).size = 1 := rfl; unfold maxLen; omega
      refine ⟨_, rfl, E1.out.bx, ?_⟩
      simp only [Act.put, List.setIfInBounds_toArray, List.set_cons_zero, List.set_cons_succ]
      refine takeHQ (f := 2) (i := 3) (.string (⟨#[121]⟩ ++ sd)) ⟨rfl, rfl⟩ (by kernel_rfl) rfl E1.out.bx ?ta ?_
      case ta => intro v hv; have hq1 : ((⟨#[121]⟩ : ByteArray).size : Int) ≤ 8388608 := (by decide); have hq2 : (sd.size : Int) ≤ 8388608 := (by omega); have hq3 := run_string_add (P := Try.prog) (w := v) (⟨#[121]⟩ : ByteArray) sd hq1 hq2; go_simp
      simp only [Act.put, List.setIfInBounds_toArray, List.set_cons_zero, List.set_cons_succ]
      obtain ⟨V2, hV2⟩ : ∃ Z, Z = V1.alloc (.cells #[.string ⟨#[106, 111, 105, 110, 116]⟩, .string (⟨#[121]⟩ ++ sd), .string ⟨#[101, 97, 115, 116]⟩] 9) := ⟨_, rfl⟩
      have bl2 : Below V1.heap.size V1 V2 := by rw [hV2]; exact (Below.refl _ _).alloc (Nat.le_refl _) _
      have E2 : Hid _ := E1.out.below bl2
      have LL : Hid (V2.heap[V1.heap.size]? = some (.cells #[.string ⟨#[106, 111, 105, 110, 116]⟩, .string (⟨#[121]⟩ ++ sd), .string ⟨#[101, 97, 115, 116]⟩] 9 (0, 0))) := by rw [hV2]; exact heap_alloc_new _ _
      refine oneHd (f := 1) (i := 4) (.slice (some ⟨V1.heap.size, 0, none⟩) 3 3) V2 ⟨rfl, rfl⟩ (by decide) (by kernel_rfl) rfl ?cb4 E2.out.bx ?_
      case cb4 => rw [hV2]; go_simp
      clear hV2
      simp only [Act.put, List.setIfInBounds_toArray, List.set_cons_zero, List.set_cons_succ]
      have GS : Hid (∀ s ∈ ([⟨#[106, 111, 105, 110, 116]⟩, (⟨#[121]⟩ ++ sd), ⟨#[101, 97, 115, 116]⟩] : List ByteArray), s.size ≤ maxLen) := fun s hs => by
        simp only [List.mem_cons, List.not_mem_nil, or_false] at hs
        rcases hs with rfl | rfl | rfl
        · exact Nat.le_of_ble_eq_true rfl
        · exact zd.out
        · exact Nat.le_of_ble_eq_true rfl
      refine callHd (f := 0) (i := 5) ⟨rfl, rfl⟩ (by decide) (by kernel_rfl) rfl ?ct5 ((try_ex (w.heap.size + 1 + 1 + 1) _ _ _ _ (.slice (some ⟨V1.heap.size, 0, none⟩) 3 3) X V2 E2.out.pl E2.out.ok (fun U hU => put_joint (w.heap.size + 1 + 1 + 1) _ _ _ _ X V1.heap.size 3 (gl [⟨#[106, 111, 105, 110, 116]⟩, (⟨#[121]⟩ ++ sd), ⟨#[101, 97, 115, 116]⟩]) U (E2.out.pl.below hU) E2.out.ok (by omega) (gl_at (l := [⟨#[106, 111, 105, 110, 116]⟩, (⟨#[121]⟩ ++ sd), ⟨#[101, 97, 115, 116]⟩]) (box_stableP hU LL.out)) (gl_sz GS.out) (Nat.le_trans (Nat.le_trans E2.out.low.2.2 E2.out.size) hU.size) rfl)).mono ?_)
      case ct5 => go_simp
      rintro _ Vz ⟨u0', u1', u2', u3', Y, rfl, hp4, ho4, hb4⟩
      obtain ⟨p0, k0, rfl⟩ := Row.form hp4.s
      obtain ⟨p1, k1, rfl⟩ := Row.form hp4.f
      obtain ⟨p2, k2, rfl⟩ := Row.form hp4.p
      obtain ⟨p3, k3, rfl⟩ := Row.form hp4.v
      have DZ : Hid _ := E2.out.below hb4
      have D5 : Hid _ := DZ.out.store hp4 ho4
      refine ⟨_, rfl, DZ.out.bx, ?_⟩
      simp only [Act.put, List.setIfInBounds_toArray, List.set_cons_zero, List.set_cons_succ]
      refine ⟨by kernel_rfl, ?_⟩
      simp only [List.drop_succ_cons, List.drop_zero]
      obtain ⟨zr0, tzr0⟩ := cell_row (DZ.out.bx) 0 _ rfl
      obtain ⟨zr1, tzr1⟩ := cell_row (DZ.out.bx) 1 _ rfl
      obtain ⟨zr2, tzr2⟩ := cell_row (DZ.out.bx) 2 _ rfl
      obtain ⟨zr3, tzr3⟩ := cell_row (DZ.out.bx) 3 _ rfl
      simp only [List.getElem_toArray, List.getElem_cons_zero, List.getElem_cons_succ] at zr0 zr1 zr2 zr3
      go_wp2_with fail
      go_roundw
      case rel => exact ⟨k + 1, by omega, by go_num, ⟨_, _, _, _, _, D5.out.up (by omega)⟩⟩
      case measure => simp [intOf]; omega
  case rest =>
    exact hK _ _ _ (by rfl) hcut
set_option maxRecDepth 100000 in
set_option maxHeartbeats 4000000 in
theorem draw_l10 (R : Nat) (ob : Option Addr) (n cb : Nat) (f : Nat → Int) (p : Int) (w z9 u : World) (hp : p ≤ 60000) (rlt : R < w.heap.size)  {K : Act → World → Prop} {Q' : Exit → Act → World → Prop} {code : Code} (t1 t2 t4 t5 t6 t7 t8 t9 t10 t11 : Value) (xs : List Value) (hx : xs.length = 155) (H0 : Dst R (w.heap.size + 1) (w.heap.size + 1 + 1 + 1) z9 ob n cb f (p + 88) u) (hcode : code = blk 10 Try.f27)
    (hK : ∀ (y : Value) (ys : List Value) (wr : World), ys.length = 155 → Dst R (w.heap.size + 1) (w.heap.size + 1 + 1 + 1) z9 ob n cb f (p + 168) wr → K ⟨(.pointer (some ⟨R, 0, none⟩) :: t1 :: t2 :: .pointer (some ⟨w.heap.size + 1, 0, none⟩) :: t4 :: t5 :: t6 :: t7 :: t8 :: t9 :: t10 :: t11 :: y :: ys).toArray, []⟩ wr) :
    Code.wp Try.prog code (Exit.then K Q') ⟨(.pointer (some ⟨R, 0, none⟩) :: t1 :: t2 :: .pointer (some ⟨w.heap.size + 1, 0, none⟩) :: t4 :: t5 :: t6 :: t7 :: t8 :: t9 :: t10 :: t11 :: .int .i64 0 :: xs).toArray, []⟩ u := by
  obtain ⟨g, rfl⟩ := len155 hx
  dsimp only
  subst hcode
  conv => arg 2; whnf
  go_cut [] from 13 (fun wr => Hid (Dst R (w.heap.size + 1) (w.heap.size + 1 + 1 + 1) z9 ob n cb f (p + 168) wr))
  case first =>
    go_wp2_with fail
    go_loopw [12] (fun i wr => ∃ k : Nat, k ≤ 40 ∧ i = .int .i64 k ∧ Hid (Dst R (w.heap.size + 1) (w.heap.size + 1 + 1 + 1) z9 ob n cb f (p + 88 + 2 * (k : Int)) wr)) (fun i _ => 40 - (intOf i).toNat)
    case atStart => exact ⟨0, by omega, rfl, H0.up (by omega)⟩
    case round =>
      obtain ⟨k, hk, rfl, hd⟩ := hrel
      by_cases hlt : k < 40
      case neg =>
        have hge : decide ((k : Int) < 40) = false := by simp; omega
        go_wp2_with fail
        go_meet
        case rel => exact hd.out.up (by omega)
      have hlt' : ((k : Int) < 40) := by omega
      obtain ⟨v0, v1, v2, v3, X, D0⟩ := hd.out
      obtain ⟨o0, c0, rfl⟩ := Row.form D0.pl.s
      obtain ⟨o1, c1, rfl⟩ := Row.form D0.pl.f
      obtain ⟨o2, c2, rfl⟩ := Row.form D0.pl.p
      obtain ⟨o3, c3, rfl⟩ := Row.form D0.pl.v
      generalize en0 : X.ss.length = n0 at D0 ⊢
      generalize en1 : X.ff.length = n1 at D0 ⊢
      generalize en2 : X.pp.length = n2 at D0 ⊢
      generalize en3 : X.vv.length = n3 at D0 ⊢
      have D1 : Hid _ := D0
      clear D0
      have z9b : w.heap.size + 1 + 1 + 1 ≤ z9.heap.size := D1.out.low.2.2
      go_upto_region 33 with fail
      refine wp_region_movesC (fun v => v.heap[w.heap.size + 1]? = some (.cells #[.slice o0 n0 c0, .slice o1 n1 c1, .slice o2 n2 c2, .slice o3 n3 c3] 28 (0, 0))) 12 [] (by kernel_rfl) (by kernel_rfl) D1.out.bx ?_
      simp only [List.filterMap_nil, movD]
      refine takeHQ (f := 11) (i := 0) (.agg #[.slice o0 n0 c0, .slice o1 n1 c1, .slice o2 n2 c2, .slice o3 n3 c3]) ⟨rfl, rfl⟩ (by kernel_rfl) rfl D1.out.bx ?ta0 ?_
      case ta0 => intro v hv; have c0_ := (cell_row hv 0 (.slice o0 n0 c0) rfl).1; have c1_ := (cell_row hv 1 (.slice o1 n1 c1) rfl).1; have c2_ := (cell_row hv 2 (.slice o2 n2 c2) rfl).1; have c3_ := (cell_row hv 3 (.slice o3 n3 c3) rfl).1; go_simp
      simp only [Act.put, List.setIfInBounds_toArray, List.set_cons_zero, List.set_cons_succ]
      refine takeHQ (f := 10) (i := 1) (.int .i64 k) ⟨rfl, rfl⟩ (by kernel_rfl) rfl D1.out.bx ?ta1 ?_
      case ta1 => intro v hv; go_simp
      simp only [Act.put, List.setIfInBounds_toArray, List.set_cons_zero, List.set_cons_succ]
      refine takeHQ (f := 9) (i := 4) (.pointer (some ⟨R, 0, none⟩)) ⟨rfl, rfl⟩ (by kernel_rfl) rfl D1.out.bx ?ta4 ?_
      case ta4 => intro v hv; go_simp
      simp only [Act.put, List.setIfInBounds_toArray, List.set_cons_zero, List.set_cons_succ]
      refine takeHQ (f := 8) (i := 7) (.pointer (some ⟨R, 0, none⟩)) ⟨rfl, rfl⟩ (by kernel_rfl) rfl D1.out.bx ?ta7 ?_
      case ta7 => intro v hv; go_simp
      simp only [Act.put, List.setIfInBounds_toArray, List.set_cons_zero, List.set_cons_succ]
      have E0 : Hid _ := D1.out.below ((Below.refl _ _).drew)
      refine readyH [2, 5, 8] (by kernel_rfl) (by simp) (fun i hi => ?_)
      simp only [List.mem_cons, List.not_mem_nil, or_false] at hi
      rcases hi with rfl | rfl | rfl
      · refine ⟨by decide, stepHc ⟨rfl, rfl⟩ rfl ?cc ((dec_rdK k wr.drew (by omega) (by omega)).mono ?_)⟩
        case cc => go_simp
        rintro _ V1 ⟨sd, rfl, hsd, hbd⟩
        have E1 : Hid _ := E0.out.below hbd
        have zd : Hid ((⟨#[121]⟩ ++ sd : ByteArray).size ≤ maxLen) := by show (⟨#[121]⟩ ++ sd : ByteArray).size ≤ maxLen; rw [ByteArray.size_append]; have : (⟨#[121]⟩ : ByteArray).size = 1 := rfl; unfold maxLen; omega
        refine ⟨_, rfl, E1.out.bx, ?_⟩
        simp only [Act.put, List.setIfInBounds_toArray, List.set_cons_zero, List.set_cons_succ]
        refine takeHQ (f := 6) (i := 3) (.string (⟨#[121]⟩ ++ sd)) ⟨rfl, rfl⟩ (by kernel_rfl) rfl E1.out.bx ?ta ?_
        case ta => intro v hv; have hq1 : ((⟨#[121]⟩ : ByteArray).size : Int) ≤ 8388608 := (by decide); have hq2 : (sd.size : Int) ≤ 8388608 := (by omega); have hq3 := run_string_add (P := Try.prog) (w := v) (⟨#[121]⟩ : ByteArray) sd hq1 hq2; go_simp
        simp only [Act.put, List.setIfInBounds_toArray, List.set_cons_zero, List.set_cons_succ]
        refine readyH [5, 8] (by kernel_rfl) (by simp) (fun i hi => ?_)
        simp only [List.mem_cons, List.not_mem_nil, or_false] at hi
        rcases hi with rfl | rfl
        · obtain ⟨V2, hV2⟩ : ∃ Z, Z = V1.alloc (.cells (([⟨#[121, 48]⟩, ⟨#[121, 49]⟩, ⟨#[121, 50]⟩, ⟨#[121, 51]⟩] : List ByteArray).map Value.string).toArray 9) := ⟨_, rfl⟩
          have bl : Below V1.heap.size V1 V2 := by rw [hV2]; exact (Below.refl _ _).alloc (Nat.le_refl _) _
          have hatA : Hid (AtL (fun b => b = V1.heap.size) V2 ([⟨#[121, 48]⟩, ⟨#[121, 49]⟩, ⟨#[121, 50]⟩, ⟨#[121, 51]⟩] : List ByteArray) (.slice (some ⟨V1.heap.size, 0, none⟩) 4 4)) := by rw [hV2]; exact lit_at 9 V1 [⟨#[121, 48]⟩, ⟨#[121, 49]⟩, ⟨#[121, 50]⟩, ⟨#[121, 51]⟩] (by unfold maxLen; simp) (by intro s hs; simp at hs; rcases hs with rfl | rfl | rfl | rfl <;> (unfold maxLen; decide))
          have lszA : V1.heap.size < V2.heap.size := by rw [hV2]; simp
          have hzA : w.heap.size + 1 + 1 + 1 ≤ V1.heap.size := by have := E1.out.size; have := E1.out.low; omega
          have EL : Hid _ := E1.out.below bl
          have BL : Hid (But (fun b => b = R ∨ b = w.heap.size + 1) z9 V2) := EL.out.bt
          have E2 : Hid _ := EL.out.base
          refine ⟨by decide, stepHd (.slice (some ⟨V1.heap.size, 0, none⟩) 4 4) V2 ⟨rfl, rfl⟩ rfl ?cb ⟨E2.out.bx, ?_⟩⟩
          case cb => rw [hV2]; go_simp
          clear hV2 bl EL
          simp only [Act.put, List.setIfInBounds_toArray, List.set_cons_zero, List.set_cons_succ]
          refine readyH [6, 8] (by kernel_rfl) (by simp) (fun i hi => ?_)
          simp only [List.mem_cons, List.not_mem_nil, or_false] at hi
          rcases hi with rfl | rfl
          · refine ⟨by decide, stepHc ⟨rfl, rfl⟩ rfl ?cc ((of_ds E2.out (by omega) (fun b => b = V1.heap.size) _ _ (AtL.same hatA.out (fun b hb => E2.out.bt.block b (by have e : b = V1.heap.size := hb; omega) (by have e : b = V1.heap.size := hb; have := E0.out.size; have := E0.out.low; omega))) (fun b hb => by have := E2.out.size; have := E0.out.size; have := E0.out.low; exact ⟨by omega, by omega⟩) (by decide) (by decide)).mono ?_)⟩
            case cc => go_simp
            rintro _ V3 ⟨st6, hst6, rfl, E⟩
            have E3 : Hid _ := E
            clear E
            have zst6 : Hid (st6.size ≤ maxLen) := by show st6.size ≤ maxLen; simp at hst6; rcases hst6 with rfl | rfl | rfl | rfl <;> (unfold maxLen; decide)
            refine ⟨_, rfl, E3.out.bx, ?_⟩
            simp only [Act.put, List.setIfInBounds_toArray, List.set_cons_zero, List.set_cons_succ]
            obtain ⟨V4, hV4⟩ : ∃ Z, Z = V3.alloc (.cells (([⟨#[121, 48]⟩, ⟨#[121, 49]⟩, ⟨#[121, 50]⟩, ⟨#[97]⟩] : List ByteArray).map Value.string).toArray 9) := ⟨_, rfl⟩
            have bl : Below V3.heap.size V3 V4 := by rw [hV4]; exact (Below.refl _ _).alloc (Nat.le_refl _) _
            have hatB : Hid (AtL (fun b => b = V3.heap.size) V4 ([⟨#[121, 48]⟩, ⟨#[121, 49]⟩, ⟨#[121, 50]⟩, ⟨#[97]⟩] : List ByteArray) (.slice (some ⟨V3.heap.size, 0, none⟩) 4 4)) := by rw [hV4]; exact lit_at 9 V3 [⟨#[121, 48]⟩, ⟨#[121, 49]⟩, ⟨#[121, 50]⟩, ⟨#[97]⟩] (by unfold maxLen; simp) (by intro s hs; simp at hs; rcases hs with rfl | rfl | rfl | rfl <;> (unfold maxLen; decide))
            have lszB : V3.heap.size < V4.heap.size := by rw [hV4]; simp
            have hzB : w.heap.size + 1 + 1 + 1 ≤ V3.heap.size := by have := E3.out.size; have := E3.out.low; omega
            have EL : Hid _ := E3.out.below bl
            have BL : Hid (But (fun b => b = R ∨ b = w.heap.size + 1) z9 V4) := BL.out.trans EL.out.bt
            have E4 : Hid _ := EL.out.base
            refine oneHd (f := 3) (i := 8) (.slice (some ⟨V3.heap.size, 0, none⟩) 4 4) V4 ⟨rfl, rfl⟩ (by decide) (by kernel_rfl) rfl ?cb E4.out.bx ?_
            case cb => rw [hV4]; go_simp
            clear hV4 bl EL
            simp only [Act.put, List.setIfInBounds_toArray, List.set_cons_zero, List.set_cons_succ]
            refine callHd (f := 2) (i := 9) ⟨rfl, rfl⟩ (by decide) (by kernel_rfl) rfl ?cc ((of_ds E4.out (by omega) (fun b => b = V3.heap.size) _ _ (AtL.same hatB.out (fun b hb => E4.out.bt.block b (by have e : b = V3.heap.size := hb; omega) (by have e : b = V3.heap.size := hb; have := E0.out.size; have := E0.out.low; omega))) (fun b hb => by have := E4.out.size; have := E0.out.size; have := E0.out.low; exact ⟨by omega, by omega⟩) (by decide) (by decide)).mono ?_)
            case cc => go_simp
            rintro _ V5 ⟨st9, hst9, rfl, E⟩
            have E5 : Hid _ := E.rebase BL.out z9b
            clear E
            have zst9 : Hid (st9.size ≤ maxLen) := by show st9.size ≤ maxLen; simp at hst9; rcases hst9 with rfl | rfl | rfl | rfl <;> (unfold maxLen; decide)
            refine ⟨_, rfl, E5.out.bx, ?_⟩
            simp only [Act.put, List.setIfInBounds_toArray, List.set_cons_zero, List.set_cons_succ]
            obtain ⟨V6, hV6⟩ : ∃ Z, Z = V5.alloc (.cells #[.string ⟨#[118, 97, 108, 118, 101]⟩, .string (⟨#[121]⟩ ++ sd), .string st6, .string st9, .string ⟨#[119, 101, 115, 116]⟩] 9) := ⟨_, rfl⟩
            have bl6 : Below V5.heap.size V5 V6 := by rw [hV6]; exact (Below.refl _ _).alloc (Nat.le_refl _) _
            have E6 : Hid _ := E5.out.below bl6
            have LL : Hid (V6.heap[V5.heap.size]? = some (.cells #[.string ⟨#[118, 97, 108, 118, 101]⟩, .string (⟨#[121]⟩ ++ sd), .string st6, .string st9, .string ⟨#[119, 101, 115, 116]⟩] 9 (0, 0))) := by rw [hV6]; exact heap_alloc_new _ _
            refine oneHd (f := 1) (i := 10) (.slice (some ⟨V5.heap.size, 0, none⟩) 5 5) V6 ⟨rfl, rfl⟩ (by decide) (by kernel_rfl) rfl ?cb10 E6.out.bx ?_
            case cb10 => rw [hV6]; go_simp
            clear hV6
            simp only [Act.put, List.setIfInBounds_toArray, List.set_cons_zero, List.set_cons_succ]
            have GS : Hid (∀ s ∈ ([⟨#[118, 97, 108, 118, 101]⟩, (⟨#[121]⟩ ++ sd), st6, st9, ⟨#[119, 101, 115, 116]⟩] : List ByteArray), s.size ≤ maxLen) := fun s hs => by
              simp only [List.mem_cons, List.not_mem_nil, or_false] at hs
              rcases hs with rfl | rfl | rfl | rfl | rfl
              · exact Nat.le_of_ble_eq_true rfl
              · exact zd.out
              · exact zst6.out
              · exact zst9.out
              · exact Nat.le_of_ble_eq_true rfl
            refine callHd (f := 0) (i := 11) ⟨rfl, rfl⟩ (by decide) (by kernel_rfl) rfl ?ct11 ((try_ex (w.heap.size + 1 + 1 + 1) _ _ _ _ (.slice (some ⟨V5.heap.size, 0, none⟩) 5 5) X V6 E6.out.pl E6.out.ok (fun U hU => put_valve (w.heap.size + 1 + 1 + 1) _ _ _ _ X V5.heap.size 5 (gl [⟨#[118, 97, 108, 118, 101]⟩, (⟨#[121]⟩ ++ sd), st6, st9, ⟨#[119, 101, 115, 116]⟩]) U (E6.out.pl.below hU) E6.out.ok (by omega) (gl_at (l := [⟨#[118, 97, 108, 118, 101]⟩, (⟨#[121]⟩ ++ sd), st6, st9, ⟨#[119, 101, 115, 116]⟩]) (box_stableP hU LL.out)) (gl_sz GS.out) (Nat.le_trans (Nat.le_trans E6.out.low.2.2 E6.out.size) hU.size) rfl)).mono ?_)
            case ct11 => go_simp
            rintro _ Vz ⟨u0', u1', u2', u3', Y, rfl, hp4, ho4, hb4⟩
            obtain ⟨p0, k0, rfl⟩ := Row.form hp4.s
            obtain ⟨p1, k1, rfl⟩ := Row.form hp4.f
            obtain ⟨p2, k2, rfl⟩ := Row.form hp4.p
            obtain ⟨p3, k3, rfl⟩ := Row.form hp4.v
            have DZ : Hid _ := E6.out.below hb4
            have D5 : Hid _ := DZ.out.store hp4 ho4
            refine ⟨_, rfl, DZ.out.bx, ?_⟩
            simp only [Act.put, List.setIfInBounds_toArray, List.set_cons_zero, List.set_cons_succ]
            refine ⟨by kernel_rfl, ?_⟩
            simp only [List.drop_succ_cons, List.drop_zero]
            obtain ⟨zr0, tzr0⟩ := cell_row (DZ.out.bx) 0 _ rfl
            obtain ⟨zr1, tzr1⟩ := cell_row (DZ.out.bx) 1 _ rfl
            obtain ⟨zr2, tzr2⟩ := cell_row (DZ.out.bx) 2 _ rfl
            obtain ⟨zr3, tzr3⟩ := cell_row (DZ.out.bx) 3 _ rfl
            simp only [List.getElem_toArray, List.getElem_cons_zero, List.getElem_cons_succ] at zr0 zr1 zr2 zr3
            go_wp2_with fail
            go_roundw
            case rel => exact ⟨k + 1, by omega, by go_num, ⟨_, _, _, _, _, D5.out.up (by omega)⟩⟩
            case measure => simp [intOf]; omega
          · obtain ⟨V3, hV3⟩ : ∃ Z, Z = V2.alloc (.cells (([⟨#[121, 48]⟩, ⟨#[121, 49]⟩, ⟨#[121, 50]⟩, ⟨#[97]⟩] : List ByteArray).map Value.string).toArray 9) := ⟨_, rfl⟩
            have bl : Below V2.heap.size V2 V3 := by rw [hV3]; exact (Below.refl _ _).alloc (Nat.le_refl _) _
            have hatB : Hid (AtL (fun b => b = V2.heap.size) V3 ([⟨#[121, 48]⟩, ⟨#[121, 49]⟩, ⟨#[121, 50]⟩, ⟨#[97]⟩] : List ByteArray) (.slice (some ⟨V2.heap.size, 0, none⟩) 4 4)) := by rw [hV3]; exact lit_at 9 V2 [⟨#[121, 48]⟩, ⟨#[121, 49]⟩, ⟨#[121, 50]⟩, ⟨#[97]⟩] (by unfold maxLen; simp) (by intro s hs; simp at hs; rcases hs with rfl | rfl | rfl | rfl <;> (unfold maxLen; decide))
            have lszB : V2.heap.size < V3.heap.size := by rw [hV3]; simp
            have hzB : w.heap.size + 1 + 1 + 1 ≤ V2.heap.size := by have := E2.out.size; have := E2.out.low; omega
            have EL : Hid _ := E2.out.below bl
            have BL : Hid (But (fun b => b = R ∨ b = w.heap.size + 1) z9 V3) := BL.out.trans EL.out.bt
            have hatA := hidZ (AtL.same hatA.out (w' := V3) (fun b hb => EL.out.bt.block b (by have e : b = V1.heap.size := hb; have := E2.out.size; omega) (by have e : b = V1.heap.size := hb; have := E0.out.size; have := E0.out.low; omega)))
            have lszA : V1.heap.size < V3.heap.size := by have := bl.size; have := E2.out.size; omega
            have E3 : Hid _ := EL.out.base
            refine ⟨by decide, stepHd (.slice (some ⟨V2.heap.size, 0, none⟩) 4 4) V3 ⟨rfl, rfl⟩ rfl ?cb ⟨E3.out.bx, ?_⟩⟩
            case cb => rw [hV3]; go_simp
            clear hV3 bl EL
            simp only [Act.put, List.setIfInBounds_toArray, List.set_cons_zero, List.set_cons_succ]
            refine callHd (f := 3) (i := 6) ⟨rfl, rfl⟩ (by decide) (by kernel_rfl) rfl ?cc ((of_ds E3.out (by omega) (fun b => b = V1.heap.size) _ _ (AtL.same hatA.out (fun b hb => E3.out.bt.block b (by have e : b = V1.heap.size := hb; omega) (by have e : b = V1.heap.size := hb; have := E0.out.size; have := E0.out.low; omega))) (fun b hb => by have := E3.out.size; have := E0.out.size; have := E0.out.low; exact ⟨by omega, by omega⟩) (by decide) (by decide)).mono ?_)
            case cc => go_simp
            rintro _ V4 ⟨st6, hst6, rfl, E⟩
            have E4 : Hid _ := E
            clear E
            have zst6 : Hid (st6.size ≤ maxLen) := by show st6.size ≤ maxLen; simp at hst6; rcases hst6 with rfl | rfl | rfl | rfl <;> (unfold maxLen; decide)
            refine ⟨_, rfl, E4.out.bx, ?_⟩
            simp only [Act.put, List.setIfInBounds_toArray, List.set_cons_zero, List.set_cons_succ]
            refine callHd (f := 2) (i := 9) ⟨rfl, rfl⟩ (by decide) (by kernel_rfl) rfl ?cc ((of_ds E4.out (by omega) (fun b => b = V2.heap.size) _ _ (AtL.same hatB.out (fun b hb => E4.out.bt.block b (by have e : b = V2.heap.size := hb; omega) (by have e : b = V2.heap.size := hb; have := E0.out.size; have := E0.out.low; omega))) (fun b hb => by have := E4.out.size; have := E0.out.size; have := E0.out.low; exact ⟨by omega, by omega⟩) (by decide) (by decide)).mono ?_)
            case cc => go_simp
            rintro _ V5 ⟨st9, hst9, rfl, E⟩
            have E5 : Hid _ := E.rebase BL.out z9b
            clear E
            have zst9 : Hid (st9.size ≤ maxLen) := by show st9.size ≤ maxLen; simp at hst9; rcases hst9 with rfl | rfl | rfl | rfl <;> (unfold maxLen; decide)
            refine ⟨_, rfl, E5.out.bx, ?_⟩
            simp only [Act.put, List.setIfInBounds_toArray, List.set_cons_zero, List.set_cons_succ]
            obtain ⟨V6, hV6⟩ : ∃ Z, Z = V5.alloc (.cells #[.string ⟨#[118, 97, 108, 118, 101]⟩, .string (⟨#[121]⟩ ++ sd), .string st6, .string st9, .string ⟨#[119, 101, 115, 116]⟩] 9) := ⟨_, rfl⟩
            have bl6 : Below V5.heap.size V5 V6 := by rw [hV6]; exact (Below.refl _ _).alloc (Nat.le_refl _) _
            have E6 : Hid _ := E5.out.below bl6
            have LL : Hid (V6.heap[V5.heap.size]? = some (.cells #[.string ⟨#[118, 97, 108, 118, 101]⟩, .string (⟨#[121]⟩ ++ sd), .string st6, .string st9, .string ⟨#[119, 101, 115, 116]⟩] 9 (0, 0))) := by rw [hV6]; exact heap_alloc_new _ _
            refine oneHd (f := 1) (i := 10) (.slice (some ⟨V5.heap.size, 0, none⟩) 5 5) V6 ⟨rfl, rfl⟩ (by decide) (by kernel_rfl) rfl ?cb10 E6.out.bx ?_
            case cb10 => rw [hV6]; go_simp
            clear hV6
            simp only [Act.put, List.setIfInBounds_toArray, List.set_cons_zero, List.set_cons_succ]
            have GS : Hid (∀ s ∈ ([⟨#[118, 97, 108, 118, 101]⟩, (⟨#[121]⟩ ++ sd), st6, st9, ⟨#[119, 101, 115, 116]⟩] : List ByteArray), s.size ≤ maxLen) := fun s hs => by
              simp only [List.mem_cons, List.not_mem_nil, or_false] at hs
              rcases hs with rfl | rfl | rfl | rfl | rfl
              · exact Nat.le_of_ble_eq_true rfl
              · exact zd.out
              · exact zst6.out
              · exact zst9.out
              · exact Nat.le_of_ble_eq_true rfl
            refine callHd (f := 0) (i := 11) ⟨rfl, rfl⟩ (by decide) (by kernel_rfl) rfl ?ct11 ((try_ex (w.heap.size + 1 + 1 + 1) _ _ _ _ (.slice (some ⟨V5.heap.size, 0, none⟩) 5 5) X V6 E6.out.pl E6.out.ok (fun U hU => put_valve (w.heap.size + 1 + 1 + 1) _ _ _ _ X V5.heap.size 5 (gl [⟨#[118, 97, 108, 118, 101]⟩, (⟨#[121]⟩ ++ sd), st6, st9, ⟨#[119, 101, 115, 116]⟩]) U (E6.out.pl.below hU) E6.out.ok (by omega) (gl_at (l := [⟨#[118, 97, 108, 118, 101]⟩, (⟨#[121]⟩ ++ sd), st6, st9, ⟨#[119, 101, 115, 116]⟩]) (box_stableP hU LL.out)) (gl_sz GS.out) (Nat.le_trans (Nat.le_trans E6.out.low.2.2 E6.out.size) hU.size) rfl)).mono ?_)
            case ct11 => go_simp
            rintro _ Vz ⟨u0', u1', u2', u3', Y, rfl, hp4, ho4, hb4⟩
            obtain ⟨p0, k0, rfl⟩ := Row.form hp4.s
            obtain ⟨p1, k1, rfl⟩ := Row.form hp4.f
            obtain ⟨p2, k2, rfl⟩ := Row.form hp4.p
            obtain ⟨p3, k3, rfl⟩ := Row.form hp4.v
            have DZ : Hid _ := E6.out.below hb4
            have D5 : Hid _ := DZ.out.store hp4 ho4
            refine ⟨_, rfl, DZ.out.bx, ?_⟩
            simp only [Act.put, List.setIfInBounds_toArray, List.set_cons_zero, List.set_cons_succ]
            refine ⟨by kernel_rfl, ?_⟩
            simp only [List.drop_succ_cons, List.drop_zero]
            obtain ⟨zr0, tzr0⟩ := cell_row (DZ.out.bx) 0 _ rfl
            obtain ⟨zr1, tzr1⟩ := cell_row (DZ.out.bx) 1 _ rfl
            obtain ⟨zr2, tzr2⟩ := cell_row (DZ.out.bx) 2 _ rfl
            obtain ⟨zr3, tzr3⟩ := cell_row (DZ.out.bx) 3 _ rfl
            simp only [List.getElem_toArray, List.getElem_cons_zero, List.getElem_cons_succ] at zr0 zr1 zr2 zr3
            go_wp2_with fail
            go_roundw
            case rel => exact ⟨k + 1, by omega, by go_num, ⟨_, _, _, _, _, D5.out.up (by omega)⟩⟩
            case measure => simp [intOf]; omega
        · obtain ⟨V2, hV2⟩ : ∃ Z, Z = V1.alloc (.cells (([⟨#[121, 48]⟩, ⟨#[121, 49]⟩, ⟨#[121, 50]⟩, ⟨#[97]⟩] : List ByteArray).map Value.string).toArray 9) := ⟨_, rfl⟩
          have bl : Below V1.heap.size V1 V2 := by rw [hV2]; exact (Below.refl _ _).alloc (Nat.le_refl _) _
          have hatB : Hid (AtL (fun b => b = V1.heap.size) V2 ([⟨#[121, 48]⟩, ⟨#[121, 49]⟩, ⟨#[121, 50]⟩, ⟨#[97]⟩] : List ByteArray) (.slice (some ⟨V1.heap.size, 0, none⟩) 4 4)) := by rw [hV2]; exact lit_at 9 V1 [⟨#[121, 48]⟩, ⟨#[121, 49]⟩, ⟨#[121, 50]⟩, ⟨#[97]⟩] (by unfold maxLen; simp) (by intro s hs; simp at hs; rcases hs with rfl | rfl | rfl | rfl <;> (unfold maxLen; decide))
          have lszB : V1.heap.size < V2.heap.size := by rw [hV2]; simp
          have hzB : w.heap.size + 1 + 1 + 1 ≤ V1.heap.size := by have := E1.out.size; have := E1.out.low; omega
          have EL : Hid _ := E1.out.below bl
          have BL : Hid (But (fun b => b = R ∨ b = w.heap.size + 1) z9 V2) := EL.out.bt
          have E2 : Hid _ := EL.out.base
          refine ⟨by decide, stepHd (.slice (some ⟨V1.heap.size, 0, none⟩) 4 4) V2 ⟨rfl, rfl⟩ rfl ?cb ⟨E2.out.bx, ?_⟩⟩
          case cb => rw [hV2]; go_simp
          clear hV2 bl EL
          simp only [Act.put, List.setIfInBounds_toArray, List.set_cons_zero, List.set_cons_succ]
          obtain ⟨V3, hV3⟩ : ∃ Z, Z = V2.alloc (.cells (([⟨#[121, 48]⟩, ⟨#[121, 49]⟩, ⟨#[121, 50]⟩, ⟨#[121, 51]⟩] : List ByteArray).map Value.string).toArray 9) := ⟨_, rfl⟩
          have bl : Below V2.heap.size V2 V3 := by rw [hV3]; exact (Below.refl _ _).alloc (Nat.le_refl _) _
          have hatA : Hid (AtL (fun b => b = V2.heap.size) V3 ([⟨#[121, 48]⟩, ⟨#[121, 49]⟩, ⟨#[121, 50]⟩, ⟨#[121, 51]⟩] : List ByteArray) (.slice (some ⟨V2.heap.size, 0, none⟩) 4 4)) := by rw [hV3]; exact lit_at 9 V2 [⟨#[121, 48]⟩, ⟨#[121, 49]⟩, ⟨#[121, 50]⟩, ⟨#[121, 51]⟩] (by unfold maxLen; simp) (by intro s hs; simp at hs; rcases hs with rfl | rfl | rfl | rfl <;> (unfold maxLen; decide))
          have lszA : V2.heap.size < V3.heap.size := by rw [hV3]; simp
          have hzA : w.heap.size + 1 + 1 + 1 ≤ V2.heap.size := by have := E2.out.size; have := E2.out.low; omega
          have EL : Hid _ := E2.out.below bl
          have BL : Hid (But (fun b => b = R ∨ b = w.heap.size + 1) z9 V3) := BL.out.trans EL.out.bt
          have hatB := hidZ (AtL.same hatB.out (w' := V3) (fun b hb => EL.out.bt.block b (by have e : b = V1.heap.size := hb; have := E2.out.size; omega) (by have e : b = V1.heap.size := hb; have := E0.out.size; have := E0.out.low; omega)))
          have lszB : V1.heap.size < V3.heap.size := by have := bl.size; have := E2.out.size; omega
          have E3 : Hid _ := EL.out.base
          refine oneHd (f := 4) (i := 5) (.slice (some ⟨V2.heap.size, 0, none⟩) 4 4) V3 ⟨rfl, rfl⟩ (by decide) (by kernel_rfl) rfl ?cb E3.out.bx ?_
          case cb => rw [hV3]; go_simp
          clear hV3 bl EL
          simp only [Act.put, List.setIfInBounds_toArray, List.set_cons_zero, List.set_cons_succ]
          refine callHd (f := 3) (i := 6) ⟨rfl, rfl⟩ (by decide) (by kernel_rfl) rfl ?cc ((of_ds E3.out (by omega) (fun b => b = V2.heap.size) _ _ (AtL.same hatA.out (fun b hb => E3.out.bt.block b (by have e : b = V2.heap.size := hb; omega) (by have e : b = V2.heap.size := hb; have := E0.out.size; have := E0.out.low; omega))) (fun b hb => by have := E3.out.size; have := E0.out.size; have := E0.out.low; exact ⟨by omega, by omega⟩) (by decide) (by decide)).mono ?_)
          case cc => go_simp
          rintro _ V4 ⟨st6, hst6, rfl, E⟩
          have E4 : Hid _ := E
          clear E
          have zst6 : Hid (st6.size ≤ maxLen) := by show st6.size ≤ maxLen; simp at hst6; rcases hst6 with rfl | rfl | rfl | rfl <;> (unfold maxLen; decide)
          refine ⟨_, rfl, E4.out.bx, ?_⟩
          simp only [Act.put, List.setIfInBounds_toArray, List.set_cons_zero, List.set_cons_succ]
          refine callHd (f := 2) (i := 9) ⟨rfl, rfl⟩ (by decide) (by kernel_rfl) rfl ?cc ((of_ds E4.out (by omega) (fun b => b = V1.heap.size) _ _ (AtL.same hatB.out (fun b hb => E4.out.bt.block b (by have e : b = V1.heap.size := hb; omega) (by have e : b = V1.heap.size := hb; have := E0.out.size; have := E0.out.low; omega))) (fun b hb => by have := E4.out.size; have := E0.out.size; have := E0.out.low; exact ⟨by omega, by omega⟩) (by decide) (by decide)).mono ?_)
          case cc => go_simp
          rintro _ V5 ⟨st9, hst9, rfl, E⟩
          have E5 : Hid _ := E.rebase BL.out z9b
          clear E
          have zst9 : Hid (st9.size ≤ maxLen) := by show st9.size ≤ maxLen; simp at hst9; rcases hst9 with rfl | rfl | rfl | rfl <;> (unfold maxLen; decide)
          refine ⟨_, rfl, E5.out.bx, ?_⟩
          simp only [Act.put, List.setIfInBounds_toArray, List.set_cons_zero, List.set_cons_succ]
          obtain ⟨V6, hV6⟩ : ∃ Z, Z = V5.alloc (.cells #[.string ⟨#[118, 97, 108, 118, 101]⟩, .string (⟨#[121]⟩ ++ sd), .string st6, .string st9, .string ⟨#[119, 101, 115, 116]⟩] 9) := ⟨_, rfl⟩
          have bl6 : Below V5.heap.size V5 V6 := by rw [hV6]; exact (Below.refl _ _).alloc (Nat.le_refl _) _
          have E6 : Hid _ := E5.out.below bl6
          have LL : Hid (V6.heap[V5.heap.size]? = some (.cells #[.string ⟨#[118, 97, 108, 118, 101]⟩, .string (⟨#[121]⟩ ++ sd), .string st6, .string st9, .string ⟨#[119, 101, 115, 116]⟩] 9 (0, 0))) := by rw [hV6]; exact heap_alloc_new _ _
          refine oneHd (f := 1) (i := 10) (.slice (some ⟨V5.heap.size, 0, none⟩) 5 5) V6 ⟨rfl, rfl⟩ (by decide) (by kernel_rfl) rfl ?cb10 E6.out.bx ?_
          case cb10 => rw [hV6]; go_simp
          clear hV6
          simp only [Act.put, List.setIfInBounds_toArray, List.set_cons_zero, List.set_cons_succ]
          have GS : Hid (∀ s ∈ ([⟨#[118, 97, 108, 118, 101]⟩, (⟨#[121]⟩ ++ sd), st6, st9, ⟨#[119, 101, 115, 116]⟩] : List ByteArray), s.size ≤ maxLen) := fun s hs => by
            simp only [List.mem_cons, List.not_mem_nil, or_false] at hs
            rcases hs with rfl | rfl | rfl | rfl | rfl
            · exact Nat.le_of_ble_eq_true rfl
            · exact zd.out
            · exact zst6.out
            · exact zst9.out
            · exact Nat.le_of_ble_eq_true rfl
          refine callHd (f := 0) (i := 11) ⟨rfl, rfl⟩ (by decide) (by kernel_rfl) rfl ?ct11 ((try_ex (w.heap.size + 1 + 1 + 1) _ _ _ _ (.slice (some ⟨V5.heap.size, 0, none⟩) 5 5) X V6 E6.out.pl E6.out.ok (fun U hU => put_valve (w.heap.size + 1 + 1 + 1) _ _ _ _ X V5.heap.size 5 (gl [⟨#[118, 97, 108, 118, 101]⟩, (⟨#[121]⟩ ++ sd), st6, st9, ⟨#[119, 101, 115, 116]⟩]) U (E6.out.pl.below hU) E6.out.ok (by omega) (gl_at (l := [⟨#[118, 97, 108, 118, 101]⟩, (⟨#[121]⟩ ++ sd), st6, st9, ⟨#[119, 101, 115, 116]⟩]) (box_stableP hU LL.out)) (gl_sz GS.out) (Nat.le_trans (Nat.le_trans E6.out.low.2.2 E6.out.size) hU.size) rfl)).mono ?_)
          case ct11 => go_simp
          rintro _ Vz ⟨u0', u1', u2', u3', Y, rfl, hp4, ho4, hb4⟩
          obtain ⟨p0, k0, rfl⟩ := Row.form hp4.s
          obtain ⟨p1, k1, rfl⟩ := Row.form hp4.f
          obtain ⟨p2, k2, rfl⟩ := Row.form hp4.p
          obtain ⟨p3, k3, rfl⟩ := Row.form hp4.v
          have DZ : Hid _ := E6.out.below hb4
          have D5 : Hid _ := DZ.out.store hp4 ho4
          refine ⟨_, rfl, DZ.out.bx, ?_⟩
          simp only [Act.put, List.setIfInBounds_toArray, List.set_cons_zero, List.set_cons_succ]
          refine ⟨by kernel_rfl, ?_⟩
          simp only [List.drop_succ_cons, List.drop_zero]
          obtain ⟨zr0, tzr0⟩ := cell_row (DZ.out.bx) 0 _ rfl
          obtain ⟨zr1, tzr1⟩ := cell_row (DZ.out.bx) 1 _ rfl
          obtain ⟨zr2, tzr2⟩ := cell_row (DZ.out.bx) 2 _ rfl
          obtain ⟨zr3, tzr3⟩ := cell_row (DZ.out.bx) 3 _ rfl
          simp only [List.getElem_toArray, List.getElem_cons_zero, List.getElem_cons_succ] at zr0 zr1 zr2 zr3
          go_wp2_with fail
          go_roundw
          case rel => exact ⟨k + 1, by omega, by go_num, ⟨_, _, _, _, _, D5.out.up (by omega)⟩⟩
          case measure => simp [intOf]; omega
      · obtain ⟨V1, hV1⟩ : ∃ Z, Z = wr.drew.alloc (.cells (([⟨#[121, 48]⟩, ⟨#[121, 49]⟩, ⟨#[121, 50]⟩, ⟨#[121, 51]⟩] : List ByteArray).map Value.string).toArray 9) := ⟨_, rfl⟩
        have bl : Below wr.drew.heap.size wr.drew V1 := by rw [hV1]; exact (Below.refl _ _).alloc (Nat.le_refl _) _
        have hatA : Hid (AtL (fun b => b = wr.drew.heap.size) V1 ([⟨#[121, 48]⟩, ⟨#[121, 49]⟩, ⟨#[121, 50]⟩, ⟨#[121, 51]⟩] : List ByteArray) (.slice (some ⟨wr.drew.heap.size, 0, none⟩) 4 4)) := by rw [hV1]; exact lit_at 9 wr.drew [⟨#[121, 48]⟩, ⟨#[121, 49]⟩, ⟨#[121, 50]⟩, ⟨#[121, 51]⟩] (by unfold maxLen; simp) (by intro s hs; simp at hs; rcases hs with rfl | rfl | rfl | rfl <;> (unfold maxLen; decide))
        have lszA : wr.drew.heap.size < V1.heap.size := by rw [hV1]; simp
        have hzA : w.heap.size + 1 + 1 + 1 ≤ wr.drew.heap.size := by have := E0.out.size; have := E0.out.low; omega
        have EL : Hid _ := E0.out.below bl
        have BL : Hid (But (fun b => b = R ∨ b = w.heap.size + 1) z9 V1) := EL.out.bt
        have E1 : Hid _ := EL.out.base
        refine ⟨by decide, stepHd (.slice (some ⟨wr.drew.heap.size, 0, none⟩) 4 4) V1 ⟨rfl, rfl⟩ rfl ?cb ⟨E1.out.bx, ?_⟩⟩
        case cb => rw [hV1]; go_simp
        clear hV1 bl EL
        simp only [Act.put, List.setIfInBounds_toArray, List.set_cons_zero, List.set_cons_succ]
        refine readyH [2, 8] (by kernel_rfl) (by simp) (fun i hi => ?_)
        simp only [List.mem_cons, List.not_mem_nil, or_false] at hi
        rcases hi with rfl | rfl
        · refine ⟨by decide, stepHc ⟨rfl, rfl⟩ rfl ?cc ((dec_rdK k V1 (by omega) (by omega)).mono ?_)⟩
          case cc => go_simp
          rintro _ V2 ⟨sd, rfl, hsd, hbd⟩
          have E2 : Hid _ := E1.out.below hbd
          have zd : Hid ((⟨#[121]⟩ ++ sd : ByteArray).size ≤ maxLen) := by show (⟨#[121]⟩ ++ sd : ByteArray).size ≤ maxLen; rw [ByteArray.size_append]; have : (⟨#[121]⟩ : ByteArray).size = 1 := rfl; unfold maxLen; omega
          refine ⟨_, rfl, E2.out.bx, ?_⟩
          simp only [Act.put, List.setIfInBounds_toArray, List.set_cons_zero, List.set_cons_succ]
          refine takeHQ (f := 5) (i := 3) (.string (⟨#[121]⟩ ++ sd)) ⟨rfl, rfl⟩ (by kernel_rfl) rfl E2.out.bx ?ta ?_
          case ta => intro v hv; have hq1 : ((⟨#[121]⟩ : ByteArray).size : Int) ≤ 8388608 := (by decide); have hq2 : (sd.size : Int) ≤ 8388608 := (by omega); have hq3 := run_string_add (P := Try.prog) (w := v) (⟨#[121]⟩ : ByteArray) sd hq1 hq2; go_simp
          simp only [Act.put, List.setIfInBounds_toArray, List.set_cons_zero, List.set_cons_succ]
          refine readyH [6, 8] (by kernel_rfl) (by simp) (fun i hi => ?_)
          simp only [List.mem_cons, List.not_mem_nil, or_false] at hi
          rcases hi with rfl | rfl
          · refine ⟨by decide, stepHc ⟨rfl, rfl⟩ rfl ?cc ((of_ds E2.out (by omega) (fun b => b = wr.drew.heap.size) _ _ (AtL.same hatA.out (fun b hb => E2.out.bt.block b (by have e : b = wr.drew.heap.size := hb; omega) (by have e : b = wr.drew.heap.size := hb; have := E0.out.size; have := E0.out.low; omega))) (fun b hb => by have := E2.out.size; have := E0.out.size; have := E0.out.low; exact ⟨by omega, by omega⟩) (by decide) (by decide)).mono ?_)⟩
            case cc => go_simp
            rintro _ V3 ⟨st6, hst6, rfl, E⟩
            have E3 : Hid _ := E
            clear E
            have zst6 : Hid (st6.size ≤ maxLen) := by show st6.size ≤ maxLen; simp at hst6; rcases hst6 with rfl | rfl | rfl | rfl <;> (unfold maxLen; decide)
            refine ⟨_, rfl, E3.out.bx, ?_⟩
            simp only [Act.put, List.setIfInBounds_toArray, List.set_cons_zero, List.set_cons_succ]
            obtain ⟨V4, hV4⟩ : ∃ Z, Z = V3.alloc (.cells (([⟨#[121, 48]⟩, ⟨#[121, 49]⟩, ⟨#[121, 50]⟩, ⟨#[97]⟩] : List ByteArray).map Value.string).toArray 9) := ⟨_, rfl⟩
            have bl : Below V3.heap.size V3 V4 := by rw [hV4]; exact (Below.refl _ _).alloc (Nat.le_refl _) _
            have hatB : Hid (AtL (fun b => b = V3.heap.size) V4 ([⟨#[121, 48]⟩, ⟨#[121, 49]⟩, ⟨#[121, 50]⟩, ⟨#[97]⟩] : List ByteArray) (.slice (some ⟨V3.heap.size, 0, none⟩) 4 4)) := by rw [hV4]; exact lit_at 9 V3 [⟨#[121, 48]⟩, ⟨#[121, 49]⟩, ⟨#[121, 50]⟩, ⟨#[97]⟩] (by unfold maxLen; simp) (by intro s hs; simp at hs; rcases hs with rfl | rfl | rfl | rfl <;> (unfold maxLen; decide))
            have lszB : V3.heap.size < V4.heap.size := by rw [hV4]; simp
            have hzB : w.heap.size + 1 + 1 + 1 ≤ V3.heap.size := by have := E3.out.size; have := E3.out.low; omega
            have EL : Hid _ := E3.out.below bl
            have BL : Hid (But (fun b => b = R ∨ b = w.heap.size + 1) z9 V4) := BL.out.trans EL.out.bt
            have E4 : Hid _ := EL.out.base
            refine oneHd (f := 3) (i := 8) (.slice (some ⟨V3.heap.size, 0, none⟩) 4 4) V4 ⟨rfl, rfl⟩ (by decide) (by kernel_rfl) rfl ?cb E4.out.bx ?_
            case cb => rw [hV4]; go_simp
            clear hV4 bl EL
            simp only [Act.put, List.setIfInBounds_toArray, List.set_cons_zero, List.set_cons_succ]
            refine callHd (f := 2) (i := 9) ⟨rfl, rfl⟩ (by decide) (by kernel_rfl) rfl ?cc ((of_ds E4.out (by omega) (fun b => b = V3.heap.size) _ _ (AtL.same hatB.out (fun b hb => E4.out.bt.block b (by have e : b = V3.heap.size := hb; omega) (by have e : b = V3.heap.size := hb; have := E0.out.size; have := E0.out.low; omega))) (fun b hb => by have := E4.out.size; have := E0.out.size; have := E0.out.low; exact ⟨by omega, by omega⟩) (by decide) (by decide)).mono ?_)
            case cc => go_simp
            rintro _ V5 ⟨st9, hst9, rfl, E⟩
            have E5 : Hid _ := E.rebase BL.out z9b
            clear E
            have zst9 : Hid (st9.size ≤ maxLen) := by show st9.size ≤ maxLen; simp at hst9; rcases hst9 with rfl | rfl | rfl | rfl <;> (unfold maxLen; decide)
            refine ⟨_, rfl, E5.out.bx, ?_⟩
            simp only [Act.put, List.setIfInBounds_toArray, List.set_cons_zero, List.set_cons_succ]
            obtain ⟨V6, hV6⟩ : ∃ Z, Z = V5.alloc (.cells #[.string ⟨#[118, 97, 108, 118, 101]⟩, .string (⟨#[121]⟩ ++ sd), .string st6, .string st9, .string ⟨#[119, 101, 115, 116]⟩] 9) := ⟨_, rfl⟩
            have bl6 : Below V5.heap.size V5 V6 := by rw [hV6]; exact (Below.refl _ _).alloc (Nat.le_refl _) _
            have E6 : Hid _ := E5.out.below bl6
            have LL : Hid (V6.heap[V5.heap.size]? = some (.cells #[.string ⟨#[118, 97, 108, 118, 101]⟩, .string (⟨#[121]⟩ ++ sd), .string st6, .string st9, .string ⟨#[119, 101, 115, 116]⟩] 9 (0, 0))) := by rw [hV6]; exact heap_alloc_new _ _
            refine oneHd (f := 1) (i := 10) (.slice (some ⟨V5.heap.size, 0, none⟩) 5 5) V6 ⟨rfl, rfl⟩ (by decide) (by kernel_rfl) rfl ?cb10 E6.out.bx ?_
            case cb10 => rw [hV6]; go_simp
            clear hV6
            simp only [Act.put, List.setIfInBounds_toArray, List.set_cons_zero, List.set_cons_succ]
            have GS : Hid (∀ s ∈ ([⟨#[118, 97, 108, 118, 101]⟩, (⟨#[121]⟩ ++ sd), st6, st9, ⟨#[119, 101, 115, 116]⟩] : List ByteArray), s.size ≤ maxLen) := fun s hs => by
              simp only [List.mem_cons, List.not_mem_nil, or_false] at hs
              rcases hs with rfl | rfl | rfl | rfl | rfl
              · exact Nat.le_of_ble_eq_true rfl
              · exact zd.out
              · exact zst6.out
              · exact zst9.out
              · exact Nat.le_of_ble_eq_true rfl
            refine callHd (f := 0) (i := 11) ⟨rfl, rfl⟩ (by decide) (by kernel_rfl) rfl ?ct11 ((try_ex (w.heap.size + 1 + 1 + 1) _ _ _ _ (.slice (some ⟨V5.heap.size, 0, none⟩) 5 5) X V6 E6.out.pl E6.out.ok (fun U hU => put_valve (w.heap.size + 1 + 1 + 1) _ _ _ _ X V5.heap.size 5 (gl [⟨#[118, 97, 108, 118, 101]⟩, (⟨#[121]⟩ ++ sd), st6, st9, ⟨#[119, 101, 115, 116]⟩]) U (E6.out.pl.below hU) E6.out.ok (by omega) (gl_at (l := [⟨#[118, 97, 108, 118, 101]⟩, (⟨#[121]⟩ ++ sd), st6, st9, ⟨#[119, 101, 115, 116]⟩]) (box_stableP hU LL.out)) (gl_sz GS.out) (Nat.le_trans (Nat.le_trans E6.out.low.2.2 E6.out.size) hU.size) rfl)).mono ?_)
            case ct11 => go_simp
            rintro _ Vz ⟨u0', u1', u2', u3', Y, rfl, hp4, ho4, hb4⟩
            obtain ⟨p0, k0, rfl⟩ := Row.form hp4.s
            obtain ⟨p1, k1, rfl⟩ := Row.form hp4.f
            obtain ⟨p2, k2, rfl⟩ := Row.form hp4.p
            obtain ⟨p3, k3, rfl⟩ := Row.form hp4.v
            have DZ : Hid _ := E6.out.below hb4
            have D5 : Hid _ := DZ.out.store hp4 ho4
            refine ⟨_, rfl, DZ.out.bx, ?_⟩
            simp only [Act.put, List.setIfInBounds_toArray, List.set_cons_zero, List.set_cons_succ]
            refine ⟨by kernel_rfl, ?_⟩
            simp only [List.drop_succ_cons, List.drop_zero]
            obtain ⟨zr0, tzr0⟩ := cell_row (DZ.out.bx) 0 _ rfl
            obtain ⟨zr1, tzr1⟩ := cell_row (DZ.out.bx) 1 _ rfl
            obtain ⟨zr2, tzr2⟩ := cell_row (DZ.out.bx) 2 _ rfl
            obtain ⟨zr3, tzr3⟩ := cell_row (DZ.out.bx) 3 _ rfl
            simp only [List.getElem_toArray, List.getElem_cons_zero, List.getElem_cons_succ] at zr0 zr1 zr2 zr3
            go_wp2_with fail
            go_roundw
            case rel => exact ⟨k + 1, by omega, by go_num, ⟨_, _, _, _, _, D5.out.up (by omega)⟩⟩
            case measure => simp [intOf]; omega
          · obtain ⟨V3, hV3⟩ : ∃ Z, Z = V2.alloc (.cells (([⟨#[121, 48]⟩, ⟨#[121, 49]⟩, ⟨#[121, 50]⟩, ⟨#[97]⟩] : List ByteArray).map Value.string).toArray 9) := ⟨_, rfl⟩
            have bl : Below V2.heap.size V2 V3 := by rw [hV3]; exact (Below.refl _ _).alloc (Nat.le_refl _) _
            have hatB : Hid (AtL (fun b => b = V2.heap.size) V3 ([⟨#[121, 48]⟩, ⟨#[121, 49]⟩, ⟨#[121, 50]⟩, ⟨#[97]⟩] : List ByteArray) (.slice (some ⟨V2.heap.size, 0, none⟩) 4 4)) := by rw [hV3]; exact lit_at 9 V2 [⟨#[121, 48]⟩, ⟨#[121, 49]⟩, ⟨#[121, 50]⟩, ⟨#[97]⟩] (by unfold maxLen; simp) (by intro s hs; simp at hs; rcases hs with rfl | rfl | rfl | rfl <;> (unfold maxLen; decide))
            have lszB : V2.heap.size < V3.heap.size := by rw [hV3]; simp
            have hzB : w.heap.size + 1 + 1 + 1 ≤ V2.heap.size := by have := E2.out.size; have := E2.out.low; omega
            have EL : Hid _ := E2.out.below bl
            have BL : Hid (But (fun b => b = R ∨ b = w.heap.size + 1) z9 V3) := BL.out.trans EL.out.bt
            have hatA := hidZ (AtL.same hatA.out (w' := V3) (fun b hb => EL.out.bt.block b (by have e : b = wr.drew.heap.size := hb; have := E2.out.size; omega) (by have e : b = wr.drew.heap.size := hb; have := E0.out.size; have := E0.out.low; omega)))
            have lszA : wr.drew.heap.size < V3.heap.size := by have := bl.size; have := E2.out.size; omega
            have E3 : Hid _ := EL.out.base
            refine ⟨by decide, stepHd (.slice (some ⟨V2.heap.size, 0, none⟩) 4 4) V3 ⟨rfl, rfl⟩ rfl ?cb ⟨E3.out.bx, ?_⟩⟩
            case cb => rw [hV3]; go_simp
            clear hV3 bl EL
            simp only [Act.put, List.setIfInBounds_toArray, List.set_cons_zero, List.set_cons_succ]
            refine callHd (f := 3) (i := 6) ⟨rfl, rfl⟩ (by decide) (by kernel_rfl) rfl ?cc ((of_ds E3.out (by omega) (fun b => b = wr.drew.heap.size) _ _ (AtL.same hatA.out (fun b hb => E3.out.bt.block b (by have e : b = wr.drew.heap.size := hb; omega) (by have e : b = wr.drew.heap.size := hb; have := E0.out.size; have := E0.out.low; omega))) (fun b hb => by have := E3.out.size; have := E0.out.size; have := E0.out.low; exact ⟨by omega, by omega⟩) (by decide) (by decide)).mono ?_)
            case cc => go_simp
            rintro _ V4 ⟨st6, hst6, rfl, E⟩
            have E4 : Hid _ := E
            clear E
            have zst6 : Hid (st6.size ≤ maxLen) := by show st6.size ≤ maxLen; simp at hst6; rcases hst6 with rfl | rfl | rfl | rfl <;> (unfold maxLen; decide)
            refine ⟨_, rfl, E4.out.bx, ?_⟩
            simp only [Act.put, List.setIfInBounds_toArray, List.set_cons_zero, List.set_cons_succ]
            refine callHd (f := 2) (i := 9) ⟨rfl, rfl⟩ (by decide) (by kernel_rfl) rfl ?cc ((of_ds E4.out (by omega) (fun b => b = V2.heap.size) _ _ (AtL.same hatB.out (fun b hb => E4.out.bt.block b (by have e : b = V2.heap.size := hb; omega) (by have e : b = V2.heap.size := hb; have := E0.out.size; have := E0.out.low; omega))) (fun b hb => by have := E4.out.size; have := E0.out.size; have := E0.out.low; exact ⟨by omega, by omega⟩) (by decide) (by decide)).mono ?_)
            case cc => go_simp
            rintro _ V5 ⟨st9, hst9, rfl, E⟩
            have E5 : Hid _ := E.rebase BL.out z9b
            clear E
            have zst9 : Hid (st9.size ≤ maxLen) := by show st9.size ≤ maxLen; simp at hst9; rcases hst9 with rfl | rfl | rfl | rfl <;> (unfold maxLen; decide)
            refine ⟨_, rfl, E5.out.bx, ?_⟩
            simp only [Act.put, List.setIfInBounds_toArray, List.set_cons_zero, List.set_cons_succ]
            obtain ⟨V6, hV6⟩ : ∃ Z, Z = V5.alloc (.cells #[.string ⟨#[118, 97, 108, 118, 101]⟩, .string (⟨#[121]⟩ ++ sd), .string st6, .string st9, .string ⟨#[119, 101, 115, 116]⟩] 9) := ⟨_, rfl⟩
            have bl6 : Below V5.heap.size V5 V6 := by rw [hV6]; exact (Below.refl _ _).alloc (Nat.le_refl _) _
            have E6 : Hid _ := E5.out.below bl6
            have LL : Hid (V6.heap[V5.heap.size]? = some (.cells #[.string ⟨#[118, 97, 108, 118, 101]⟩, .string (⟨#[121]⟩ ++ sd), .string st6, .string st9, .string ⟨#[119, 101, 115, 116]⟩] 9 (0, 0))) := by rw [hV6]; exact heap_alloc_new _ _
            refine oneHd (f := 1) (i := 10) (.slice (some ⟨V5.heap.size, 0, none⟩) 5 5) V6 ⟨rfl, rfl⟩ (by decide) (by kernel_rfl) rfl ?cb10 E6.out.bx ?_
            case cb10 => rw [hV6]; go_simp
            clear hV6
            simp only [Act.put, List.setIfInBounds_toArray, List.set_cons_zero, List.set_cons_succ]
            have GS : Hid (∀ s ∈ ([⟨#[118, 97, 108, 118, 101]⟩, (⟨#[121]⟩ ++ sd), st6, st9, ⟨#[119, 101, 115, 116]⟩] : List ByteArray), s.size ≤ maxLen) := fun s hs => by
              simp only [List.mem_cons, List.not_mem_nil, or_false] at hs
              rcases hs with rfl | rfl | rfl | rfl | rfl
              · exact Nat.le_of_ble_eq_true rfl
              · exact zd.out
              · exact zst6.out
              · exact zst9.out
              · exact Nat.le_of_ble_eq_true rfl
            refine callHd (f := 0) (i := 11) ⟨rfl, rfl⟩ (by decide) (by kernel_rfl) rfl ?ct11 ((try_ex (w.heap.size + 1 + 1 + 1) _ _ _ _ (.slice (some ⟨V5.heap.size, 0, none⟩) 5 5) X V6 E6.out.pl E6.out.ok (fun U hU => put_valve (w.heap.size + 1 + 1 + 1) _ _ _ _ X V5.heap.size 5 (gl [⟨#[118, 97, 108, 118, 101]⟩, (⟨#[121]⟩ ++ sd), st6, st9, ⟨#[119, 101, 115, 116]⟩]) U (E6.out.pl.below hU) E6.out.ok (by omega) (gl_at (l := [⟨#[118, 97, 108, 118, 101]⟩, (⟨#[121]⟩ ++ sd), st6, st9, ⟨#[119, 101, 115, 116]⟩]) (box_stableP hU LL.out)) (gl_sz GS.out) (Nat.le_trans (Nat.le_trans E6.out.low.2.2 E6.out.size) hU.size) rfl)).mono ?_)
            case ct11 => go_simp
            rintro _ Vz ⟨u0', u1', u2', u3', Y, rfl, hp4, ho4, hb4⟩
            obtain ⟨p0, k0, rfl⟩ := Row.form hp4.s
            obtain ⟨p1, k1, rfl⟩ := Row.form hp4.f
            obtain ⟨p2, k2, rfl⟩ := Row.form hp4.p
            obtain ⟨p3, k3, rfl⟩ := Row.form hp4.v
            have DZ : Hid _ := E6.out.below hb4
            have D5 : Hid _ := DZ.out.store hp4 ho4
            refine ⟨_, rfl, DZ.out.bx, ?_⟩
            simp only [Act.put, List.setIfInBounds_toArray, List.set_cons_zero, List.set_cons_succ]
            refine ⟨by kernel_rfl, ?_⟩
            simp only [List.drop_succ_cons, List.drop_zero]
            obtain ⟨zr0, tzr0⟩ := cell_row (DZ.out.bx) 0 _ rfl
            obtain ⟨zr1, tzr1⟩ := cell_row (DZ.out.bx) 1 _ rfl
            obtain ⟨zr2, tzr2⟩ := cell_row (DZ.out.bx) 2 _ rfl
            obtain ⟨zr3, tzr3⟩ := cell_row (DZ.out.bx) 3 _ rfl
            simp only [List.getElem_toArray, List.getElem_cons_zero, List.getElem_cons_succ] at zr0 zr1 zr2 zr3
            go_wp2_with fail
            go_roundw
            case rel => exact ⟨k + 1, by omega, by go_num, ⟨_, _, _, _, _, D5.out.up (by omega)⟩⟩
            case measure => simp [intOf]; omega
        · obtain ⟨V2, hV2⟩ : ∃ Z, Z = V1.alloc (.cells (([⟨#[121, 48]⟩, ⟨#[121, 49]⟩, ⟨#[121, 50]⟩, ⟨#[97]⟩] : List ByteArray).map Value.string).toArray 9) := ⟨_, rfl⟩
          have bl : Below V1.heap.size V1 V2 := by rw [hV2]; exact (Below.refl _ _).alloc (Nat.le_refl _) _
          have hatB : Hid (AtL (fun b => b = V1.heap.size) V2 ([⟨#[121, 48]⟩, ⟨#[121, 49]⟩, ⟨#[121, 50]⟩, ⟨#[97]⟩] : List ByteArray) (.slice (some ⟨V1.heap.size, 0, none⟩) 4 4)) := by rw [hV2]; exact lit_at 9 V1 [⟨#[121, 48]⟩, ⟨#[121, 49]⟩, ⟨#[121, 50]⟩, ⟨#[97]⟩] (by unfold maxLen; simp) (by intro s hs; simp at hs; rcases hs with rfl | rfl | rfl | rfl <;> (unfold maxLen; decide))
          have lszB : V1.heap.size < V2.heap.size := by rw [hV2]; simp
          have hzB : w.heap.size + 1 + 1 + 1 ≤ V1.heap.size := by have := E1.out.size; have := E1.out.low; omega
          have EL : Hid _ := E1.out.below bl
          have BL : Hid (But (fun b => b = R ∨ b = w.heap.size + 1) z9 V2) := BL.out.trans EL.out.bt
          have hatA := hidZ (AtL.same hatA.out (w' := V2) (fun b hb => EL.out.bt.block b (by have e : b = wr.drew.heap.size := hb; have := E1.out.size; omega) (by have e : b = wr.drew.heap.size := hb; have := E0.out.size; have := E0.out.low; omega)))
          have lszA : wr.drew.heap.size < V2.heap.size := by have := bl.size; have := E1.out.size; omega
          have E2 : Hid _ := EL.out.base
          refine ⟨by decide, stepHd (.slice (some ⟨V1.heap.size, 0, none⟩) 4 4) V2 ⟨rfl, rfl⟩ rfl ?cb ⟨E2.out.bx, ?_⟩⟩
          case cb => rw [hV2]; go_simp
          clear hV2 bl EL
          simp only [Act.put, List.setIfInBounds_toArray, List.set_cons_zero, List.set_cons_succ]
          refine callHd (f := 5) (i := 2) ⟨rfl, rfl⟩ (by decide) (by kernel_rfl) rfl ?cc ((dec_rdK k V2 (by omega) (by omega)).mono ?_)
          case cc => go_simp
          rintro _ V3 ⟨sd, rfl, hsd, hbd⟩
          have E3 : Hid _ := E2.out.below hbd
          have zd : Hid ((⟨#[121]⟩ ++ sd : ByteArray).size ≤ maxLen) := by show (⟨#[121]⟩ ++ sd : ByteArray).size ≤ maxLen; rw [ByteArray.size_append]; have : (⟨#[121]⟩ : ByteArray).size = 1 := rfl; unfold maxLen; omega
          refine ⟨_, rfl, E3.out.bx, ?_⟩
          simp only [Act.put, List.setIfInBounds_toArray, List.set_cons_zero, List.set_cons_succ]
          refine takeHQ (f := 4) (i := 3) (.string (⟨#[121]⟩ ++ sd)) ⟨rfl, rfl⟩ (by kernel_rfl) rfl E3.out.bx ?ta ?_
          case ta => intro v hv; have hq1 : ((⟨#[121]⟩ : ByteArray).size : Int) ≤ 8388608 := (by decide); have hq2 : (sd.size : Int) ≤ 8388608 := (by omega); have hq3 := run_string_add (P := Try.prog) (w := v) (⟨#[121]⟩ : ByteArray) sd hq1 hq2; go_simp
          simp only [Act.put, List.setIfInBounds_toArray, List.set_cons_zero, List.set_cons_succ]
          refine callHd (f := 3) (i := 6) ⟨rfl, rfl⟩ (by decide) (by kernel_rfl) rfl ?cc ((of_ds E3.out (by omega) (fun b => b = wr.drew.heap.size) _ _ (AtL.same hatA.out (fun b hb => E3.out.bt.block b (by have e : b = wr.drew.heap.size := hb; omega) (by have e : b = wr.drew.heap.size := hb; have := E0.out.size; have := E0.out.low; omega))) (fun b hb => by have := E3.out.size; have := E0.out.size; have := E0.out.low; exact ⟨by omega, by omega⟩) (by decide) (by decide)).mono ?_)
          case cc => go_simp
          rintro _ V4 ⟨st6, hst6, rfl, E⟩
          have E4 : Hid _ := E
          clear E
          have zst6 : Hid (st6.size ≤ maxLen) := by show st6.size ≤ maxLen; simp at hst6; rcases hst6 with rfl | rfl | rfl | rfl <;> (unfold maxLen; decide)
          refine ⟨_, rfl, E4.out.bx, ?_⟩
          simp only [Act.put, List.setIfInBounds_toArray, List.set_cons_zero, List.set_cons_succ]
          refine callHd (f := 2) (i := 9) ⟨rfl, rfl⟩ (by decide) (by kernel_rfl) rfl ?cc ((of_ds E4.out (by omega) (fun b => b = V1.heap.size) _ _ (AtL.same hatB.out (fun b hb => E4.out.bt.block b (by have e : b = V1.heap.size := hb; omega) (by have e : b = V1.heap.size := hb; have := E0.out.size; have := E0.out.low; omega))) (fun b hb => by have := E4.out.size; have := E0.out.size; have := E0.out.low; exact ⟨by omega, by omega⟩) (by decide) (by decide)).mono ?_)
          case cc => go_simp
          rintro _ V5 ⟨st9, hst9, rfl, E⟩
          have E5 : Hid _ := E.rebase BL.out z9b
          clear E
          have zst9 : Hid (st9.size ≤ maxLen) := by show st9.size ≤ maxLen; simp at hst9; rcases hst9 with rfl | rfl | rfl | rfl <;> (unfold maxLen; decide)
          refine ⟨_, rfl, E5.out.bx, ?_⟩
          simp only [Act.put, List.setIfInBounds_toArray, List.set_cons_zero, List.set_cons_succ]
          obtain ⟨V6, hV6⟩ : ∃ Z, Z = V5.alloc (.cells #[.string ⟨#[118, 97, 108, 118, 101]⟩, .string (⟨#[121]⟩ ++ sd), .string st6, .string st9, .string ⟨#[119, 101, 115, 116]⟩] 9) := ⟨_, rfl⟩
          have bl6 : Below V5.heap.size V5 V6 := by rw [hV6]; exact (Below.refl _ _).alloc (Nat.le_refl _) _
          have E6 : Hid _ := E5.out.below bl6
          have LL : Hid (V6.heap[V5.heap.size]? = some (.cells #[.string ⟨#[118, 97, 108, 118, 101]⟩, .string (⟨#[121]⟩ ++ sd), .string st6, .string st9, .string ⟨#[119, 101, 115, 116]⟩] 9 (0, 0))) := by rw [hV6]; exact heap_alloc_new _ _
          refine oneHd (f := 1) (i := 10) (.slice (some ⟨V5.heap.size, 0, none⟩) 5 5) V6 ⟨rfl, rfl⟩ (by decide) (by kernel_rfl) rfl ?cb10 E6.out.bx ?_
          case cb10 => rw [hV6]; go_simp
          clear hV6
          simp only [Act.put, List.setIfInBounds_toArray, List.set_cons_zero, List.set_cons_succ]
          have GS : Hid (∀ s ∈ ([⟨#[118, 97, 108, 118, 101]⟩, (⟨#[121]⟩ ++ sd), st6, st9, ⟨#[119, 101, 115, 116]⟩] : List ByteArray), s.size ≤ maxLen) := fun s hs => by
            simp only [List.mem_cons, List.not_mem_nil, or_false] at hs
            rcases hs with rfl | rfl | rfl | rfl | rfl
            · exact Nat.le_of_ble_eq_true rfl
            · exact zd.out
            · exact zst6.out
            · exact zst9.out
            · exact Nat.le_of_ble_eq_true rfl
          refine callHd (f := 0) (i := 11) ⟨rfl, rfl⟩ (by decide) (by kernel_rfl) rfl ?ct11 ((try_ex (w.heap.size + 1 + 1 + 1) _ _ _ _ (.slice (some ⟨V5.heap.size, 0, none⟩) 5 5) X V6 E6.out.pl E6.out.ok (fun U hU => put_valve (w.heap.size + 1 + 1 + 1) _ _ _ _ X V5.heap.size 5 (gl [⟨#[118, 97, 108, 118, 101]⟩, (⟨#[121]⟩ ++ sd), st6, st9, ⟨#[119, 101, 115, 116]⟩]) U (E6.out.pl.below hU) E6.out.ok (by omega) (gl_at (l := [⟨#[118, 97, 108, 118, 101]⟩, (⟨#[121]⟩ ++ sd), st6, st9, ⟨#[119, 101, 115, 116]⟩]) (box_stableP hU LL.out)) (gl_sz GS.out) (Nat.le_trans (Nat.le_trans E6.out.low.2.2 E6.out.size) hU.size) rfl)).mono ?_)
          case ct11 => go_simp
          rintro _ Vz ⟨u0', u1', u2', u3', Y, rfl, hp4, ho4, hb4⟩
          obtain ⟨p0, k0, rfl⟩ := Row.form hp4.s
          obtain ⟨p1, k1, rfl⟩ := Row.form hp4.f
          obtain ⟨p2, k2, rfl⟩ := Row.form hp4.p
          obtain ⟨p3, k3, rfl⟩ := Row.form hp4.v
          have DZ : Hid _ := E6.out.below hb4
          have D5 : Hid _ := DZ.out.store hp4 ho4
          refine ⟨_, rfl, DZ.out.bx, ?_⟩
          simp only [Act.put, List.setIfInBounds_toArray, List.set_cons_zero, List.set_cons_succ]
          refine ⟨by kernel_rfl, ?_⟩
          simp only [List.drop_succ_cons, List.drop_zero]
          obtain ⟨zr0, tzr0⟩ := cell_row (DZ.out.bx) 0 _ rfl
          obtain ⟨zr1, tzr1⟩ := cell_row (DZ.out.bx) 1 _ rfl
          obtain ⟨zr2, tzr2⟩ := cell_row (DZ.out.bx) 2 _ rfl
          obtain ⟨zr3, tzr3⟩ := cell_row (DZ.out.bx) 3 _ rfl
          simp only [List.getElem_toArray, List.getElem_cons_zero, List.getElem_cons_succ] at zr0 zr1 zr2 zr3
          go_wp2_with fail
          go_roundw
          case rel => exact ⟨k + 1, by omega, by go_num, ⟨_, _, _, _, _, D5.out.up (by omega)⟩⟩
          case measure => simp [intOf]; omega
      · obtain ⟨V1, hV1⟩ : ∃ Z, Z = wr.drew.alloc (.cells (([⟨#[121, 48]⟩, ⟨#[121, 49]⟩, ⟨#[121, 50]⟩, ⟨#[97]⟩] : List ByteArray).map Value.string).toArray 9) := ⟨_, rfl⟩
        have bl : Below wr.drew.heap.size wr.drew V1 := by rw [hV1]; exact (Below.refl _ _).alloc (Nat.le_refl _) _
        have hatB : Hid (AtL (fun b => b = wr.drew.heap.size) V1 ([⟨#[121, 48]⟩, ⟨#[121, 49]⟩, ⟨#[121, 50]⟩, ⟨#[97]⟩] : List ByteArray) (.slice (some ⟨wr.drew.heap.size, 0, none⟩) 4 4)) := by rw [hV1]; exact lit_at 9 wr.drew [⟨#[121, 48]⟩, ⟨#[121, 49]⟩, ⟨#[121, 50]⟩, ⟨#[97]⟩] (by unfold maxLen; simp) (by intro s hs; simp at hs; rcases hs with rfl | rfl | rfl | rfl <;> (unfold maxLen; decide))
        have lszB : wr.drew.heap.size < V1.heap.size := by rw [hV1]; simp
        have hzB : w.heap.size + 1 + 1 + 1 ≤ wr.drew.heap.size := by have := E0.out.size; have := E0.out.low; omega
        have EL : Hid _ := E0.out.below bl
        have BL : Hid (But (fun b => b = R ∨ b = w.heap.size + 1) z9 V1) := EL.out.bt
        have E1 : Hid _ := EL.out.base
        refine ⟨by decide, stepHd (.slice (some ⟨wr.drew.heap.size, 0, none⟩) 4 4) V1 ⟨rfl, rfl⟩ rfl ?cb ⟨E1.out.bx, ?_⟩⟩
        case cb => rw [hV1]; go_simp
        clear hV1 bl EL
        simp only [Act.put, List.setIfInBounds_toArray, List.set_cons_zero, List.set_cons_succ]
        refine readyH [2, 5] (by kernel_rfl) (by simp) (fun i hi => ?_)
        simp only [List.mem_cons, List.not_mem_nil, or_false] at hi
        rcases hi with rfl | rfl
        · refine ⟨by decide, stepHc ⟨rfl, rfl⟩ rfl ?cc ((dec_rdK k V1 (by omega) (by omega)).mono ?_)⟩
          case cc => go_simp
          rintro _ V2 ⟨sd, rfl, hsd, hbd⟩
          have E2 : Hid _ := E1.out.below hbd
          have zd : Hid ((⟨#[121]⟩ ++ sd : ByteArray).size ≤ maxLen) := by show (⟨#[121]⟩ ++ sd : ByteArray).size ≤ maxLen; rw [ByteArray.size_append]; have : (⟨#[121]⟩ : ByteArray).size = 1 := rfl; unfold maxLen; omega
          refine ⟨_, rfl, E2.out.bx, ?_⟩
          simp only [Act.put, List.setIfInBounds_toArray, List.set_cons_zero, List.set_cons_succ]
          refine takeHQ (f := 5) (i := 3) (.string (⟨#[121]⟩ ++ sd)) ⟨rfl, rfl⟩ (by kernel_rfl) rfl E2.out.bx ?ta ?_
          case ta => intro v hv; have hq1 : ((⟨#[121]⟩ : ByteArray).size : Int) ≤ 8388608 := (by decide); have hq2 : (sd.size : Int) ≤ 8388608 := (by omega); have hq3 := run_string_add (P := Try.prog) (w := v) (⟨#[121]⟩ : ByteArray) sd hq1 hq2; go_simp
          simp only [Act.put, List.setIfInBounds_toArray, List.set_cons_zero, List.set_cons_succ]
          obtain ⟨V3, hV3⟩ : ∃ Z, Z = V2.alloc (.cells (([⟨#[121, 48]⟩, ⟨#[121, 49]⟩, ⟨#[121, 50]⟩, ⟨#[121, 51]⟩] : List ByteArray).map Value.string).toArray 9) := ⟨_, rfl⟩
          have bl : Below V2.heap.size V2 V3 := by rw [hV3]; exact (Below.refl _ _).alloc (Nat.le_refl _) _
          have hatA : Hid (AtL (fun b => b = V2.heap.size) V3 ([⟨#[121, 48]⟩, ⟨#[121, 49]⟩, ⟨#[121, 50]⟩, ⟨#[121, 51]⟩] : List ByteArray) (.slice (some ⟨V2.heap.size, 0, none⟩) 4 4)) := by rw [hV3]; exact lit_at 9 V2 [⟨#[121, 48]⟩, ⟨#[121, 49]⟩, ⟨#[121, 50]⟩, ⟨#[121, 51]⟩] (by unfold maxLen; simp) (by intro s hs; simp at hs; rcases hs with rfl | rfl | rfl | rfl <;> (unfold maxLen; decide))
          have lszA : V2.heap.size < V3.heap.size := by rw [hV3]; simp
          have hzA : w.heap.size + 1 + 1 + 1 ≤ V2.heap.size := by have := E2.out.size; have := E2.out.low; omega
          have EL : Hid _ := E2.out.below bl
          have BL : Hid (But (fun b => b = R ∨ b = w.heap.size + 1) z9 V3) := BL.out.trans EL.out.bt
          have hatB := hidZ (AtL.same hatB.out (w' := V3) (fun b hb => EL.out.bt.block b (by have e : b = wr.drew.heap.size := hb; have := E2.out.size; omega) (by have e : b = wr.drew.heap.size := hb; have := E0.out.size; have := E0.out.low; omega)))
          have lszB : wr.drew.heap.size < V3.heap.size := by have := bl.size; have := E2.out.size; omega
          have E3 : Hid _ := EL.out.base
          refine oneHd (f := 4) (i := 5) (.slice (some ⟨V2.heap.size, 0, none⟩) 4 4) V3 ⟨rfl, rfl⟩ (by decide) (by kernel_rfl) rfl ?cb E3.out.bx ?_
          case cb => rw [hV3]; go_simp
          clear hV3 bl EL
          simp only [Act.put, List.setIfInBounds_toArray, List.set_cons_zero, List.set_cons_succ]
          refine callHd (f := 3) (i := 6) ⟨rfl, rfl⟩ (by decide) (by kernel_rfl) rfl ?cc ((of_ds E3.out (by omega) (fun b => b = V2.heap.size) _ _ (AtL.same hatA.out (fun b hb => E3.out.bt.block b (by have e : b = V2.heap.size := hb; omega) (by have e : b = V2.heap.size := hb; have := E0.out.size; have := E0.out.low; omega))) (fun b hb => by have := E3.out.size; have := E0.out.size; have := E0.out.low; exact ⟨by omega, by omega⟩) (by decide) (by decide)).mono ?_)
          case cc => go_simp
          rintro _ V4 ⟨st6, hst6, rfl, E⟩
          have E4 : Hid _ := E
          clear E
          have zst6 : Hid (st6.size ≤ maxLen) := by show st6.size ≤ maxLen; simp at hst6; rcases hst6 with rfl | rfl | rfl | rfl <;> (unfold maxLen; decide)
          refine ⟨_, rfl, E4.out.bx, ?_⟩
          simp only [Act.put, List.setIfInBounds_toArray, List.set_cons_zero, List.set_cons_succ]
          refine callHd (f := 2) (i := 9) ⟨rfl, rfl⟩ (by decide) (by kernel_rfl) rfl ?cc ((of_ds E4.out (by omega) (fun b => b = wr.drew.heap.size) _ _ (AtL.same hatB.out (fun b hb => E4.out.bt.block b (by have e : b = wr.drew.heap.size := hb; omega) (by have e : b = wr.drew.heap.size := hb; have := E0.out.size; have := E0.out.low; omega))) (fun b hb => by have := E4.out.size; have := E0.out.size; have := E0.out.low; exact ⟨by omega, by omega⟩) (by decide) (by decide)).mono ?_)
          case cc => go_simp
          rintro _ V5 ⟨st9, hst9, rfl, E⟩
          have E5 : Hid _ := E.rebase BL.out z9b
          clear E
          have zst9 : Hid (st9.size ≤ maxLen) := by show st9.size ≤ maxLen; simp at hst9; rcases hst9 with rfl | rfl | rfl | rfl <;> (unfold maxLen; decide)
          refine ⟨_, rfl, E5.out.bx, ?_⟩
          simp only [Act.put, List.setIfInBounds_toArray, List.set_cons_zero, List.set_cons_succ]
          obtain ⟨V6, hV6⟩ : ∃ Z, Z = V5.alloc (.cells #[.string ⟨#[118, 97, 108, 118, 101]⟩, .string (⟨#[121]⟩ ++ sd), .string st6, .string st9, .string ⟨#[119, 101, 115, 116]⟩] 9) := ⟨_, rfl⟩
          have bl6 : Below V5.heap.size V5 V6 := by rw [hV6]; exact (Below.refl _ _).alloc (Nat.le_refl _) _
          have E6 : Hid _ := E5.out.below bl6
          have LL : Hid (V6.heap[V5.heap.size]? = some (.cells #[.string ⟨#[118, 97, 108, 118, 101]⟩, .string (⟨#[121]⟩ ++ sd), .string st6, .string st9, .string ⟨#[119, 101, 115, 116]⟩] 9 (0, 0))) := by rw [hV6]; exact heap_alloc_new _ _
          refine oneHd (f := 1) (i := 10) (.slice (some ⟨V5.heap.size, 0, none⟩) 5 5) V6 ⟨rfl, rfl⟩ (by decide) (by kernel_rfl) rfl ?cb10 E6.out.bx ?_
          case cb10 => rw [hV6]; go_simp
          clear hV6
          simp only [Act.put, List.setIfInBounds_toArray, List.set_cons_zero, List.set_cons_succ]
          have GS : Hid (∀ s ∈ ([⟨#[118, 97, 108, 118, 101]⟩, (⟨#[121]⟩ ++ sd), st6, st9, ⟨#[119, 101, 115, 116]⟩] : List ByteArray), s.size ≤ maxLen) := fun s hs => by
            simp only [List.mem_cons, List.not_mem_nil, or_false] at hs
            rcases hs with rfl | rfl | rfl | rfl | rfl
            · exact Nat.le_of_ble_eq_true rfl
            · exact zd.out
            · exact zst6.out
            · exact zst9.out
            · exact Nat.le_of_ble_eq_true rfl
          refine callHd (f := 0) (i := 11) ⟨rfl, rfl⟩ (by decide) (by kernel_rfl) rfl ?ct11 ((try_ex (w.heap.size + 1 + 1 + 1) _ _ _ _ (.slice (some ⟨V5.heap.size, 0, none⟩) 5 5) X V6 E6.out.pl E6.out.ok (fun U hU => put_valve (w.heap.size + 1 + 1 + 1) _ _ _ _ X V5.heap.size 5 (gl [⟨#[118, 97, 108, 118, 101]⟩, (⟨#[121]⟩ ++ sd), st6, st9, ⟨#[119, 101, 115, 116]⟩]) U (E6.out.pl.below hU) E6.out.ok (by omega) (gl_at (l := [⟨#[118, 97, 108, 118, 101]⟩, (⟨#[121]⟩ ++ sd), st6, st9, ⟨#[119, 101, 115, 116]⟩]) (box_stableP hU LL.out)) (gl_sz GS.out) (Nat.le_trans (Nat.le_trans E6.out.low.2.2 E6.out.size) hU.size) rfl)).mono ?_)
          case ct11 => go_simp
          rintro _ Vz ⟨u0', u1', u2', u3', Y, rfl, hp4, ho4, hb4⟩
          obtain ⟨p0, k0, rfl⟩ := Row.form hp4.s
          obtain ⟨p1, k1, rfl⟩ := Row.form hp4.f
          obtain ⟨p2, k2, rfl⟩ := Row.form hp4.p
          obtain ⟨p3, k3, rfl⟩ := Row.form hp4.v
          have DZ : Hid _ := E6.out.below hb4
          have D5 : Hid _ := DZ.out.store hp4 ho4
          refine ⟨_, rfl, DZ.out.bx, ?_⟩
          simp only [Act.put, List.setIfInBounds_toArray, List.set_cons_zero, List.set_cons_succ]
          refine ⟨by kernel_rfl, ?_⟩
          simp only [List.drop_succ_cons, List.drop_zero]
          obtain ⟨zr0, tzr0⟩ := cell_row (DZ.out.bx) 0 _ rfl
          obtain ⟨zr1, tzr1⟩ := cell_row (DZ.out.bx) 1 _ rfl
          obtain ⟨zr2, tzr2⟩ := cell_row (DZ.out.bx) 2 _ rfl
          obtain ⟨zr3, tzr3⟩ := cell_row (DZ.out.bx) 3 _ rfl
          simp only [List.getElem_toArray, List.getElem_cons_zero, List.getElem_cons_succ] at zr0 zr1 zr2 zr3
          go_wp2_with fail
          go_roundw
          case rel => exact ⟨k + 1, by omega, by go_num, ⟨_, _, _, _, _, D5.out.up (by omega)⟩⟩
          case measure => simp [intOf]; omega
        · obtain ⟨V2, hV2⟩ : ∃ Z, Z = V1.alloc (.cells (([⟨#[121, 48]⟩, ⟨#[121, 49]⟩, ⟨#[121, 50]⟩, ⟨#[121, 51]⟩] : List ByteArray).map Value.string).toArray 9) := ⟨_, rfl⟩
          have bl : Below V1.heap.size V1 V2 := by rw [hV2]; exact (Below.refl _ _).alloc (Nat.le_refl _) _
          have hatA : Hid (AtL (fun b => b = V1.heap.size) V2 ([⟨#[121, 48]⟩, ⟨#[121, 49]⟩, ⟨#[121, 50]⟩, ⟨#[121, 51]⟩] : List ByteArray) (.slice (some ⟨V1.heap.size, 0, none⟩) 4 4)) := by rw [hV2]; exact lit_at 9 V1 [⟨#[121, 48]⟩, ⟨#[121, 49]⟩, ⟨#[121, 50]⟩, ⟨#[121, 51]⟩] (by unfold maxLen; simp) (by intro s hs; simp at hs; rcases hs with rfl | rfl | rfl | rfl <;> (unfold maxLen; decide))
          have lszA : V1.heap.size < V2.heap.size := by rw [hV2]; simp
          have hzA : w.heap.size + 1 + 1 + 1 ≤ V1.heap.size := by have := E1.out.size; have := E1.out.low; omega
          have EL : Hid _ := E1.out.below bl
          have BL : Hid (But (fun b => b = R ∨ b = w.heap.size + 1) z9 V2) := BL.out.trans EL.out.bt
          have hatB := hidZ (AtL.same hatB.out (w' := V2) (fun b hb => EL.out.bt.block b (by have e : b = wr.drew.heap.size := hb; have := E1.out.size; omega) (by have e : b = wr.drew.heap.size := hb; have := E0.out.size; have := E0.out.low; omega)))
          have lszB : wr.drew.heap.size < V2.heap.size := by have := bl.size; have := E1.out.size; omega
          have E2 : Hid _ := EL.out.base
          refine ⟨by decide, stepHd (.slice (some ⟨V1.heap.size, 0, none⟩) 4 4) V2 ⟨rfl, rfl⟩ rfl ?cb ⟨E2.out.bx, ?_⟩⟩
          case cb => rw [hV2]; go_simp
          clear hV2 bl EL
          simp only [Act.put, List.setIfInBounds_toArray, List.set_cons_zero, List.set_cons_succ]
          refine callHd (f := 5) (i := 2) ⟨rfl, rfl⟩ (by decide) (by kernel_rfl) rfl ?cc ((dec_rdK k V2 (by omega) (by omega)).mono ?_)
          case cc => go_simp
          rintro _ V3 ⟨sd, rfl, hsd, hbd⟩
          have E3 : Hid _ := E2.out.below hbd
          have zd : Hid ((⟨#[121]⟩ ++ sd : ByteArray).size ≤ maxLen) := by show (⟨#[121]⟩ ++ sd : ByteArray).size ≤ maxLen; rw [ByteArray.size_append]; have : (⟨#[121]⟩ : ByteArray).size = 1 := rfl; unfold maxLen; omega
          refine ⟨_, rfl, E3.out.bx, ?_⟩
          simp only [Act.put, List.setIfInBounds_toArray, List.set_cons_zero, List.set_cons_succ]
          refine takeHQ (f := 4) (i := 3) (.string (⟨#[121]⟩ ++ sd)) ⟨rfl, rfl⟩ (by kernel_rfl) rfl E3.out.bx ?ta ?_
          case ta => intro v hv; have hq1 : ((⟨#[121]⟩ : ByteArray).size : Int) ≤ 8388608 := (by decide); have hq2 : (sd.size : Int) ≤ 8388608 := (by omega); have hq3 := run_string_add (P := Try.prog) (w := v) (⟨#[121]⟩ : ByteArray) sd hq1 hq2; go_simp
          simp only [Act.put, List.setIfInBounds_toArray, List.set_cons_zero, List.set_cons_succ]
          refine callHd (f := 3) (i := 6) ⟨rfl, rfl⟩ (by decide) (by kernel_rfl) rfl ?cc ((of_ds E3.out (by omega) (fun b => b = V1.heap.size) _ _ (AtL.same hatA.out (fun b hb => E3.out.bt.block b (by have e : b = V1.heap.size := hb; omega) (by have e : b = V1.heap.size := hb; have := E0.out.size; have := E0.out.low; omega))) (fun b hb => by have := E3.out.size; have := E0.out.size; have := E0.out.low; exact ⟨by omega, by omega⟩) (by decide) (by decide)).mono ?_)
          case cc => go_simp
          rintro _ V4 ⟨st6, hst6, rfl, E⟩
          have E4 : Hid _ := E
          clear E
          have zst6 : Hid (st6.size ≤ maxLen) := by show st6.size ≤ maxLen; simp at hst6; rcases hst6 with rfl | rfl | rfl | rfl <;> (unfold maxLen; decide)
          refine ⟨_, rfl, E4.out.bx, ?_⟩
          simp only [Act.put, List.setIfInBounds_toArray, List.set_cons_zero, List.set_cons_succ]
          refine callHd (f := 2) (i := 9) ⟨rfl, rfl⟩ (by decide) (by kernel_rfl) rfl ?cc ((of_ds E4.out (by omega) (fun b => b = wr.drew.heap.size) _ _ (AtL.same hatB.out (fun b hb => E4.out.bt.block b (by have e : b = wr.drew.heap.size := hb; omega) (by have e : b = wr.drew.heap.size := hb; have := E0.out.size; have := E0.out.low; omega))) (fun b hb => by have := E4.out.size; have := E0.out.size; have := E0.out.low; exact ⟨by omega, by omega⟩) (by decide) (by decide)).mono ?_)
          case cc => go_simp
          rintro _ V5 ⟨st9, hst9, rfl, E⟩
          have E5 : Hid _ := E.rebase BL.out z9b
          clear E
          have zst9 : Hid (st9.size ≤ maxLen) := by show st9.size ≤ maxLen; simp at hst9; rcases hst9 with rfl | rfl | rfl | rfl <;> (unfold maxLen; decide)
          refine ⟨_, rfl, E5.out.bx, ?_⟩
          simp only [Act.put, List.setIfInBounds_toArray, List.set_cons_zero, List.set_cons_succ]
          obtain ⟨V6, hV6⟩ : ∃ Z, Z = V5.alloc (.cells #[.string ⟨#[118, 97, 108, 118, 101]⟩, .string (⟨#[121]⟩ ++ sd), .string st6, .string st9, .string ⟨#[119, 101, 115, 116]⟩] 9) := ⟨_, rfl⟩
          have bl6 : Below V5.heap.size V5 V6 := by rw [hV6]; exact (Below.refl _ _).alloc (Nat.le_refl _) _
          have E6 : Hid _ := E5.out.below bl6
          have LL : Hid (V6.heap[V5.heap.size]? = some (.cells #[.string ⟨#[118, 97, 108, 118, 101]⟩, .string (⟨#[121]⟩ ++ sd), .string st6, .string st9, .string ⟨#[119, 101, 115, 116]⟩] 9 (0, 0))) := by rw [hV6]; exact heap_alloc_new _ _
          refine oneHd (f := 1) (i := 10) (.slice (some ⟨V5.heap.size, 0, none⟩) 5 5) V6 ⟨rfl, rfl⟩ (by decide) (by kernel_rfl) rfl ?cb10 E6.out.bx ?_
          case cb10 => rw [hV6]; go_simp
          clear hV6
          simp only [Act.put, List.setIfInBounds_toArray, List.set_cons_zero, List.set_cons_succ]
          have GS : Hid (∀ s ∈ ([⟨#[118, 97, 108, 118, 101]⟩, (⟨#[121]⟩ ++ sd), st6, st9, ⟨#[119, 101, 115, 116]⟩] : List ByteArray), s.size ≤ maxLen) := fun s hs => by
            simp only [List.mem_cons, List.not_mem_nil, or_false] at hs
            rcases hs with rfl | rfl | rfl | rfl | rfl
            · exact Nat.le_of_ble_eq_true rfl
            · exact zd.out
            · exact zst6.out
            · exact zst9.out
            · exact Nat.le_of_ble_eq_true rfl
          refine callHd (f := 0) (i := 11) ⟨rfl, rfl⟩ (by decide) (by kernel_rfl) rfl ?ct11 ((try_ex (w.heap.size + 1 + 1 + 1) _ _ _ _ (.slice (some ⟨V5.heap.size, 0, none⟩) 5 5) X V6 E6.out.pl E6.out.ok (fun U hU => put_valve (w.heap.size + 1 + 1 + 1) _ _ _ _ X V5.heap.size 5 (gl [⟨#[118, 97, 108, 118, 101]⟩, (⟨#[121]⟩ ++ sd), st6, st9, ⟨#[119, 101, 115, 116]⟩]) U (E6.out.pl.below hU) E6.out.ok (by omega) (gl_at (l := [⟨#[118, 97, 108, 118, 101]⟩, (⟨#[121]⟩ ++ sd), st6, st9, ⟨#[119, 101, 115, 116]⟩]) (box_stableP hU LL.out)) (gl_sz GS.out) (Nat.le_trans (Nat.le_trans E6.out.low.2.2 E6.out.size) hU.size) rfl)).mono ?_)
          case ct11 => go_simp
          rintro _ Vz ⟨u0', u1', u2', u3', Y, rfl, hp4, ho4, hb4⟩
          obtain ⟨p0, k0, rfl⟩ := Row.form hp4.s
          obtain ⟨p1, k1, rfl⟩ := Row.form hp4.f
          obtain ⟨p2, k2, rfl⟩ := Row.form hp4.p
          obtain ⟨p3, k3, rfl⟩ := Row.form hp4.v
          have DZ : Hid _ := E6.out.below hb4
          have D5 : Hid _ := DZ.out.store hp4 ho4
          refine ⟨_, rfl, DZ.out.bx, ?_⟩
          simp only [Act.put, List.setIfInBounds_toArray, List.set_cons_zero, List.set_cons_succ]
          refine ⟨by kernel_rfl, ?_⟩
          simp only [List.drop_succ_cons, List.drop_zero]
          obtain ⟨zr0, tzr0⟩ := cell_row (DZ.out.bx) 0 _ rfl
          obtain ⟨zr1, tzr1⟩ := cell_row (DZ.out.bx) 1 _ rfl
          obtain ⟨zr2, tzr2⟩ := cell_row (DZ.out.bx) 2 _ rfl
          obtain ⟨zr3, tzr3⟩ := cell_row (DZ.out.bx) 3 _ rfl
          simp only [List.getElem_toArray, List.getElem_cons_zero, List.getElem_cons_succ] at zr0 zr1 zr2 zr3
          go_wp2_with fail
          go_roundw
          case rel => exact ⟨k + 1, by omega, by go_num, ⟨_, _, _, _, _, D5.out.up (by omega)⟩⟩
          case measure => simp [intOf]; omega
  case rest =>
    exact hK _ _ _ (by rfl) hcut
end Go.Proofs.Ytgjcppdeljoimaa
