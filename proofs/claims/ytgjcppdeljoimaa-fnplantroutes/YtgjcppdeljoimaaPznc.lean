import Derived.Test.YtgjcppdeljoimaaM14
import Derived.Deep.CutBlock
namespace Go.Proofs.Ytgjcppdeljoimaa
open Go.RowKit Go.Sort
set_option maxRecDepth 100000 in
set_option maxHeartbeats 4000000 in
theorem draw_l4 (R : Nat) (ob : Option Addr) (n cb : Nat) (f : Nat → Int) (p : Int) (w z9 u : World) (hp : p ≤ 60000) (rlt : R < w.heap.size) (m : Nat) (hm : (m : Int) < 13) {K : Act → World → Prop} {Q' : Exit → Act → World → Prop} {code : Code} (t1 t2 t4 t5 t6 t7 t8 t9 t11 t12 : Value) (xs : List Value) (hx : xs.length = 155) (H0 : Dst R (w.heap.size + 1) (w.heap.size + 1 + 1 + 1) z9 ob n cb f (p + 87 - 4 * (m : Int)) u) (hcode : code = blk 6 Try.f27)
    (hK : ∀ (y : Value) (ys : List Value) (wr : World), ys.length = 155 → Dst R (w.heap.size + 1) (w.heap.size + 1 + 1 + 1) z9 ob n cb f (p + 87) wr → K ⟨(.pointer (some ⟨R, 0, none⟩) :: t1 :: t2 :: .pointer (some ⟨w.heap.size + 1, 0, none⟩) :: t4 :: t5 :: t6 :: t7 :: t8 :: t9 :: y :: t11 :: t12 :: ys).toArray, []⟩ wr) :
    Code.wp Try.prog code (Exit.then K Q') ⟨(.pointer (some ⟨R, 0, none⟩) :: t1 :: t2 :: .pointer (some ⟨w.heap.size + 1, 0, none⟩) :: t4 :: t5 :: t6 :: t7 :: t8 :: t9 :: .int .i64 m :: t11 :: t12 :: xs).toArray, []⟩ u := by
  obtain ⟨g, rfl⟩ := len155 hx
  dsimp only
  subst hcode
  conv => arg 2; whnf
  go_cut [10] from 13 (fun _ wr => Hid (Dst R (w.heap.size + 1) (w.heap.size + 1 + 1 + 1) z9 ob n cb f (p + 87) wr))
  case first =>
    go_wp2_with fail
    go_loopw [10] (fun i wr => ∃ k : Nat, k ≤ 12 ∧ i = .int .i64 k ∧ Hid (Dst R (w.heap.size + 1) (w.heap.size + 1 + 1 + 1) z9 ob n cb f (p + 87 - 4 * (k : Int)) wr)) (fun i _ => (intOf i).toNat)
    case atStart => exact ⟨m, by omega, rfl, H0⟩
    case round =>
      obtain ⟨k, hk, rfl, hd⟩ := hrel
      obtain ⟨v0, v1, v2, v3, X, D0⟩ := hd.out
      obtain ⟨o0, c0, rfl⟩ := Row.form D0.pl.s
      obtain ⟨o1, c1, rfl⟩ := Row.form D0.pl.f
      obtain ⟨o2, c2, rfl⟩ := Row.form D0.pl.p
      obtain ⟨o3, c3, rfl⟩ := Row.form D0.pl.v
      generalize en0 : X.ss.length = n0 at D0 ⊢
      generalize en1 : X.ff.length = n1 at D0 ⊢
      generalize en2 : X.pp.length = n2 at D0 ⊢
      generalize en3 : X.vv.length = n3 at D0 ⊢
      have D1 : Hid _ := D0
      clear D0
      have x0 := (cell_row D1.out.bx 2 (.slice o2 n2 c2) rfl).1
      by_cases hk0 : 0 < k
      case neg =>
        obtain rfl : k = 0 := by omega
        go_wp2_with fail
        go_meet
        case rel => exact hd.out.up (by omega)
      have hk0' : ((0 : Int) < (k : Int)) := by omega
      have hk0d : decide ((0 : Int) < (k : Int)) = true := by simp; omega
      by_cases hn1 : 1 < n2
      case neg =>
        have hk1 : decide ((1 : Int) < (n2 : Int)) = false := by simp; omega
        have hk2 : ¬ ((1 : Int) < (n2 : Int)) := by omega
        go_wp2_with fail
        go_meet
        case rel => exact hd.out.up (by omega)
      have hk1 : decide ((1 : Int) < (n2 : Int)) = true := by simp; omega
      have hk2 : ((1 : Int) < (n2 : Int)) := by omega
      have hn20 : n2 ≤ 20 := by have := D1.out.ok.np; omega
      go_upto_region 24 with fail
      obtain ⟨gp, cap', e', _, hgl, _⟩ := Row.cell D1.out.pl.p (i := 0) (by omega)
      injection e' with e1 e2 e3
      subst e1
      clear e2 e3
      have YK : Hid (∀ (W' : World) (c : Int) (v : World), Ds R (w.heap.size + 1) (w.heap.size + 1 + 1 + 1) W' ob n cb f (.slice o0 n0 c0) (.slice o1 n1 c1) (.slice (some ⟨gp, 0, none⟩) n2 c2) (.slice o3 n3 c3) X c v → ∀ (j : Nat) (hj : j < X.pp.length), v.cell? ⟨gp, j * 3, none⟩ = some (.string (X.pp[j]).1)) := fun W' c v h j hj => by
        obtain ⟨g', c', e4, _, _, hcell⟩ := Row.cell h.pl.p hj
        injection e4 with h1 _ _
        injection h1 with h1
        injection h1 with h1
        subst h1
        exact (hcell 0 (by omega)).1
      have Y1 : Hid _ := YK.out _ _ _ D1.out
      refine wp_region_movesC (fun v => v.heap[w.heap.size + 1]? = some (.cells #[.slice o0 n0 c0, .slice o1 n1 c1, .slice (some ⟨gp, 0, none⟩) n2 c2, .slice o3 n3 c3] 28 (0, 0)) ∧ ∀ (j : Nat) (hj : j < X.pp.length), v.cell? ⟨gp, j * 3, none⟩ = some (.string (X.pp[j]).1)) 30 [] (by kernel_rfl) (by kernel_rfl) ⟨D1.out.bx, Y1.out⟩ ?_
      simp only [List.filterMap_nil, movD]
      refine takeHQ (f := 29) (i := 0) (.agg #[.slice o0 n0 c0, .slice o1 n1 c1, .slice (some ⟨gp, 0, none⟩) n2 c2, .slice o3 n3 c3]) ⟨rfl, rfl⟩ (by kernel_rfl) rfl ⟨D1.out.bx, Y1.out⟩ ?ta ?_
      case ta => intro v hv; have c0_ := (cell_row hv.1 0 (.slice o0 n0 c0) rfl).1; have c1_ := (cell_row hv.1 1 (.slice o1 n1 c1) rfl).1; have c2_ := (cell_row hv.1 2 (.slice (some ⟨gp, 0, none⟩) n2 c2) rfl).1; have c3_ := (cell_row hv.1 3 (.slice o3 n3 c3) rfl).1; go_simp
      simp only [Act.put, List.setIfInBounds_toArray, List.set_cons_zero, List.set_cons_succ]
      refine takeHQ (f := 28) (i := 1) (.pointer (some ⟨R, 0, none⟩)) ⟨rfl, rfl⟩ (by kernel_rfl) rfl ⟨D1.out.bx, Y1.out⟩ ?ta ?_
      case ta => intro v hv; go_simp
      simp only [Act.put, List.setIfInBounds_toArray, List.set_cons_zero, List.set_cons_succ]
      refine takeHQ (f := 27) (i := 5) (.pointer (some ⟨w.heap.size + 1, 2, none⟩)) ⟨rfl, rfl⟩ (by kernel_rfl) rfl ⟨D1.out.bx, Y1.out⟩ ?ta ?_
      case ta => intro v hv; go_simp
      simp only [Act.put, List.setIfInBounds_toArray, List.set_cons_zero, List.set_cons_succ]
      refine takeHQ (f := 26) (i := 6) (.slice (some ⟨gp, 0, none⟩) n2 c2) ⟨rfl, rfl⟩ (by kernel_rfl) rfl ⟨D1.out.bx, Y1.out⟩ ?ta ?_
      case ta => intro v hv; have c2_ := (cell_row hv.1 2 (.slice (some ⟨gp, 0, none⟩) n2 c2) rfl).1; go_simp
      simp only [Act.put, List.setIfInBounds_toArray, List.set_cons_zero, List.set_cons_succ]
      refine takeHQ (f := 25) (i := 7) (.pointer (some ⟨R, 0, none⟩)) ⟨rfl, rfl⟩ (by kernel_rfl) rfl ⟨D1.out.bx, Y1.out⟩ ?ta ?_
      case ta => intro v hv; go_simp
      simp only [Act.put, List.setIfInBounds_toArray, List.set_cons_zero, List.set_cons_succ]
      refine takeHQ (f := 24) (i := 8) (.pointer (some ⟨w.heap.size + 1, 2, none⟩)) ⟨rfl, rfl⟩ (by kernel_rfl) rfl ⟨D1.out.bx, Y1.out⟩ ?ta ?_
      case ta => intro v hv; go_simp
      simp only [Act.put, List.setIfInBounds_toArray, List.set_cons_zero, List.set_cons_succ]
      refine takeHQ (f := 23) (i := 9) (.slice (some ⟨gp, 0, none⟩) n2 c2) ⟨rfl, rfl⟩ (by kernel_rfl) rfl ⟨D1.out.bx, Y1.out⟩ ?ta ?_
      case ta => intro v hv; have c2_ := (cell_row hv.1 2 (.slice (some ⟨gp, 0, none⟩) n2 c2) rfl).1; go_simp
      simp only [Act.put, List.setIfInBounds_toArray, List.set_cons_zero, List.set_cons_succ]
      refine takeHQ (f := 22) (i := 10) (.int .i64 n2) ⟨rfl, rfl⟩ (by kernel_rfl) rfl ⟨D1.out.bx, Y1.out⟩ ?ta ?_
      case ta => intro v hv; go_simp
      simp only [Act.put, List.setIfInBounds_toArray, List.set_cons_zero, List.set_cons_succ]
      refine takeHQ (f := 21) (i := 15) (.pointer (some ⟨w.heap.size + 1, 2, none⟩)) ⟨rfl, rfl⟩ (by kernel_rfl) rfl ⟨D1.out.bx, Y1.out⟩ ?ta ?_
      case ta => intro v hv; go_simp
      simp only [Act.put, List.setIfInBounds_toArray, List.set_cons_zero, List.set_cons_succ]
      refine takeHQ (f := 20) (i := 16) (.slice (some ⟨gp, 0, none⟩) n2 c2) ⟨rfl, rfl⟩ (by kernel_rfl) rfl ⟨D1.out.bx, Y1.out⟩ ?ta ?_
      case ta => intro v hv; have c2_ := (cell_row hv.1 2 (.slice (some ⟨gp, 0, none⟩) n2 c2) rfl).1; go_simp
      simp only [Act.put, List.setIfInBounds_toArray, List.set_cons_zero, List.set_cons_succ]
      refine takeHQ (f := 19) (i := 17) (.pointer (some ⟨R, 0, none⟩)) ⟨rfl, rfl⟩ (by kernel_rfl) rfl ⟨D1.out.bx, Y1.out⟩ ?ta ?_
      case ta => intro v hv; go_simp
      simp only [Act.put, List.setIfInBounds_toArray, List.set_cons_zero, List.set_cons_succ]
      refine takeHQ (f := 18) (i := 18) (.pointer (some ⟨w.heap.size + 1, 2, none⟩)) ⟨rfl, rfl⟩ (by kernel_rfl) rfl ⟨D1.out.bx, Y1.out⟩ ?ta ?_
      case ta => intro v hv; go_simp
      simp only [Act.put, List.setIfInBounds_toArray, List.set_cons_zero, List.set_cons_succ]
      refine takeHQ (f := 17) (i := 19) (.slice (some ⟨gp, 0, none⟩) n2 c2) ⟨rfl, rfl⟩ (by kernel_rfl) rfl ⟨D1.out.bx, Y1.out⟩ ?ta ?_
      case ta => intro v hv; have c2_ := (cell_row hv.1 2 (.slice (some ⟨gp, 0, none⟩) n2 c2) rfl).1; go_simp
      simp only [Act.put, List.setIfInBounds_toArray, List.set_cons_zero, List.set_cons_succ]
      refine takeHQ (f := 16) (i := 20) (.int .i64 n2) ⟨rfl, rfl⟩ (by kernel_rfl) rfl ⟨D1.out.bx, Y1.out⟩ ?ta ?_
      case ta => intro v hv; go_simp
      simp only [Act.put, List.setIfInBounds_toArray, List.set_cons_zero, List.set_cons_succ]
      refine takeHQ (f := 15) (i := 25) (.pointer (some ⟨R, 0, none⟩)) ⟨rfl, rfl⟩ (by kernel_rfl) rfl ⟨D1.out.bx, Y1.out⟩ ?ta ?_
      case ta => intro v hv; go_simp
      simp only [Act.put, List.setIfInBounds_toArray, List.set_cons_zero, List.set_cons_succ]
      have E0 : Hid _ := D1.out.below ((Below.refl _ _).drew)
      have z9b : w.heap.size + 1 + 1 + 1 ≤ z9.heap.size := D1.out.low.2.2
      refine readyH [2, 26] (by kernel_rfl) (by simp) (fun i hi => ?_)
      simp only [List.mem_cons, List.not_mem_nil, or_false] at hi
      rcases hi with rfl | rfl
      · refine ⟨by decide, stepHc ⟨rfl, rfl⟩ rfl ?cc ((pick_ds E0.out (by omega) 16 (by decide) (by decide)).mono ?_)⟩
        case cc => go_simp
        rintro _ V1 ⟨xd, rfl, hxd, hyd, E⟩
        have E1 : Hid _ := E
        clear E
        refine ⟨_, rfl, ⟨E1.out.bx, YK.out _ _ _ E1.out⟩, ?_⟩
        simp only [Act.put, List.setIfInBounds_toArray, List.set_cons_zero, List.set_cons_succ]
        refine readyH [3, 26] (by kernel_rfl) (by simp) (fun i hi => ?_)
        simp only [List.mem_cons, List.not_mem_nil, or_false] at hi
        rcases hi with rfl | rfl
        · refine ⟨by decide, stepHc ⟨rfl, rfl⟩ rfl ?cc ((dec_rdK xd V1 (by omega) (by omega)).mono ?_)⟩
          case cc => go_simp
          rintro _ V2 ⟨sd, rfl, hsd, hbd⟩
          have E2 : Hid _ := E1.out.below hbd
          have zd : Hid ((⟨#[120]⟩ ++ sd : ByteArray).size ≤ maxLen) := by show (⟨#[120]⟩ ++ sd : ByteArray).size ≤ maxLen; rw [ByteArray.size_append]; have : (⟨#[120]⟩ : ByteArray).size = 1 := rfl; unfold maxLen; omega
          refine ⟨_, rfl, ⟨E2.out.bx, YK.out _ _ _ E2.out⟩, ?_⟩
          simp only [Act.put, List.setIfInBounds_toArray, List.set_cons_zero, List.set_cons_succ]
          refine takeHQ (f := 12) (i := 4) (.string (⟨#[120]⟩ ++ sd)) ⟨rfl, rfl⟩ (by kernel_rfl) rfl ⟨E2.out.bx, YK.out _ _ _ E2.out⟩ ?ta ?_
          case ta => intro v hv; have hq1 : ((⟨#[120]⟩ : ByteArray).size : Int) ≤ 8388608 := (by decide); have hq2 : (sd.size : Int) ≤ 8388608 := (by omega); have hq3 := run_string_add (P := Try.prog) (w := v) (⟨#[120]⟩ : ByteArray) sd hq1 hq2; go_simp
          simp only [Act.put, List.setIfInBounds_toArray, List.set_cons_zero, List.set_cons_succ]
          refine readyH [11, 26] (by kernel_rfl) (by simp) (fun i hi => ?_)
          simp only [List.mem_cons, List.not_mem_nil, or_false] at hi
          rcases hi with rfl | rfl
          · refine ⟨by decide, stepHc ⟨rfl, rfl⟩ rfl ?cc ((pick_ds E2.out (by omega) n2 (by omega) (by omega)).mono ?_)⟩
            case cc => go_simp
            rintro _ V3 ⟨xj1, rfl, hxj1, hyj1, E⟩
            have E3 : Hid _ := E
            clear E
            obtain ⟨j1, rfl⟩ := Int.eq_ofNat_of_zero_le hxj1
            have lj1 : ((j1 : Int) < (n2 : Int)) := by omega
            have mj1 : j1 < X.pp.length := by omega
            refine ⟨_, rfl, ⟨E3.out.bx, YK.out _ _ _ E3.out⟩, ?_⟩
            simp only [Act.put, List.setIfInBounds_toArray, List.set_cons_zero, List.set_cons_succ]
            refine takeHQ (f := 10) (i := 12) (.pointer (some ⟨gp, j1 * 3, none⟩)) ⟨rfl, rfl⟩ (by kernel_rfl) rfl ⟨E3.out.bx, YK.out _ _ _ E3.out⟩ ?ta ?_
            case ta => intro v hv; go_simp
            simp only [Act.put, List.setIfInBounds_toArray, List.set_cons_zero, List.set_cons_succ]
            refine takeHQ (f := 9) (i := 13) (.pointer (some ⟨gp, j1 * 3, none⟩)) ⟨rfl, rfl⟩ (by kernel_rfl) rfl ⟨E3.out.bx, YK.out _ _ _ E3.out⟩ ?ta ?_
            case ta => intro v hv; go_simp
            simp only [Act.put, List.setIfInBounds_toArray, List.set_cons_zero, List.set_cons_succ]
            refine takeHQ (f := 8) (i := 14) (.string (X.pp[j1]).1) ⟨rfl, rfl⟩ (by kernel_rfl) rfl ⟨E3.out.bx, YK.out _ _ _ E3.out⟩ ?ta ?_
            case ta => intro v hv; have cy_ := hv.2 j1 mj1; go_simp
            simp only [Act.put, List.setIfInBounds_toArray, List.set_cons_zero, List.set_cons_succ]
            refine readyH [21, 26] (by kernel_rfl) (by simp) (fun i hi => ?_)
            simp only [List.mem_cons, List.not_mem_nil, or_false] at hi
            rcases hi with rfl | rfl
            · refine ⟨by decide, stepHc ⟨rfl, rfl⟩ rfl ?cc ((pick_ds E3.out (by omega) n2 (by omega) (by omega)).mono ?_)⟩
              case cc => go_simp
              rintro _ V4 ⟨xj2, rfl, hxj2, hyj2, E⟩
              have E4 : Hid _ := E
              clear E
              obtain ⟨j2, rfl⟩ := Int.eq_ofNat_of_zero_le hxj2
              have lj2 : ((j2 : Int) < (n2 : Int)) := by omega
              have mj2 : j2 < X.pp.length := by omega
              refine ⟨_, rfl, ⟨E4.out.bx, YK.out _ _ _ E4.out⟩, ?_⟩
              simp only [Act.put, List.setIfInBounds_toArray, List.set_cons_zero, List.set_cons_succ]
              refine takeHQ (f := 6) (i := 22) (.pointer (some ⟨gp, j2 * 3, none⟩)) ⟨rfl, rfl⟩ (by kernel_rfl) rfl ⟨E4.out.bx, YK.out _ _ _ E4.out⟩ ?ta ?_
              case ta => intro v hv; go_simp
              simp only [Act.put, List.setIfInBounds_toArray, List.set_cons_zero, List.set_cons_succ]
              refine takeHQ (f := 5) (i := 23) (.pointer (some ⟨gp, j2 * 3, none⟩)) ⟨rfl, rfl⟩ (by kernel_rfl) rfl ⟨E4.out.bx, YK.out _ _ _ E4.out⟩ ?ta ?_
              case ta => intro v hv; go_simp
              simp only [Act.put, List.setIfInBounds_toArray, List.set_cons_zero, List.set_cons_succ]
              refine takeHQ (f := 4) (i := 24) (.string (X.pp[j2]).1) ⟨rfl, rfl⟩ (by kernel_rfl) rfl ⟨E4.out.bx, YK.out _ _ _ E4.out⟩ ?ta ?_
              case ta => intro v hv; have cy_ := hv.2 j2 mj2; go_simp
              simp only [Act.put, List.setIfInBounds_toArray, List.set_cons_zero, List.set_cons_succ]
              obtain ⟨V5, hV5⟩ : ∃ Z, Z = V4.alloc (.cells (([⟨#[101, 97, 115, 116]⟩, ⟨#[119, 101, 115, 116]⟩] : List ByteArray).map Value.string).toArray 9) := ⟨_, rfl⟩
              have bl : Below V4.heap.size V4 V5 := by rw [hV5]; exact (Below.refl _ _).alloc (Nat.le_refl _) _
              have hat : Hid (AtL (fun b => b = V4.heap.size) V5 ([⟨#[101, 97, 115, 116]⟩, ⟨#[119, 101, 115, 116]⟩] : List ByteArray) (.slice (some ⟨V4.heap.size, 0, none⟩) 2 2)) := by rw [hV5]; exact lit_at 9 V4 [⟨#[101, 97, 115, 116]⟩, ⟨#[119, 101, 115, 116]⟩] (by unfold maxLen; simp) (by intro s hs; simp at hs; rcases hs with rfl | rfl <;> (unfold maxLen; decide))
              have lsz : V4.heap.size < V5.heap.size := by rw [hV5]; simp
              have hz : w.heap.size + 1 + 1 + 1 ≤ V4.heap.size := by have := E4.out.size; have := E4.out.low; omega
              have EL : Hid _ := E4.out.below bl
              have BL : Hid (But (fun b => b = R ∨ b = w.heap.size + 1) z9 V5) := EL.out.bt
              have E5 : Hid _ := EL.out.base
              refine oneHd (f := 3) (i := 26) (.slice (some ⟨V4.heap.size, 0, none⟩) 2 2) V5 ⟨rfl, rfl⟩ (by decide) (by kernel_rfl) rfl ?cb ⟨E5.out.bx, YK.out _ _ _ E5.out⟩ ?_
              case cb => rw [hV5]; go_simp
              clear hV5 bl EL
              simp only [Act.put, List.setIfInBounds_toArray, List.set_cons_zero, List.set_cons_succ]
              refine callHd (f := 2) (i := 27) ⟨rfl, rfl⟩ (by decide) (by kernel_rfl) rfl ?cc ((of_ds E5.out (by omega) (fun b => b = V4.heap.size) _ _ (AtL.same hat.out (fun b hb => E5.out.bt.block b (by have e : b = V4.heap.size := hb; omega) (by have e : b = V4.heap.size := hb; have := E0.out.size; have := E0.out.low; omega))) (fun b hb => by have := E5.out.size; have := E0.out.size; have := E0.out.low; exact ⟨by omega, by omega⟩) (by decide) (by decide)).mono ?_)
              case cc => go_simp
              rintro _ V6 ⟨st, hst, rfl, E⟩
              have E6 : Hid _ := E.rebase BL.out z9b
              clear E
              have zst : Hid (st.size ≤ maxLen) := by show st.size ≤ maxLen; simp at hst; rcases hst with rfl | rfl <;> (unfold maxLen; decide)
              refine ⟨_, rfl, ⟨E6.out.bx, YK.out _ _ _ E6.out⟩, ?_⟩
              simp only [Act.put, List.setIfInBounds_toArray, List.set_cons_zero, List.set_cons_succ]
              obtain ⟨V7, hV7⟩ : ∃ Z, Z = V6.alloc (.cells #[.string ⟨#[118, 97, 108, 118, 101]⟩, .string (⟨#[120]⟩ ++ sd), .string (X.pp[j1]).1, .string (X.pp[j2]).1, .string st] 9) := ⟨_, rfl⟩
              have bl7 : Below V6.heap.size V6 V7 := by rw [hV7]; exact (Below.refl _ _).alloc (Nat.le_refl _) _
              have E7 : Hid _ := E6.out.below bl7
              have LL : Hid (V7.heap[V6.heap.size]? = some (.cells #[.string ⟨#[118, 97, 108, 118, 101]⟩, .string (⟨#[120]⟩ ++ sd), .string (X.pp[j1]).1, .string (X.pp[j2]).1, .string st] 9 (0, 0))) := by rw [hV7]; exact heap_alloc_new _ _
              refine oneHd (f := 1) (i := 28) (.slice (some ⟨V6.heap.size, 0, none⟩) 5 5) V7 ⟨rfl, rfl⟩ (by decide) (by kernel_rfl) rfl ?cb28 ⟨E7.out.bx, YK.out _ _ _ E7.out⟩ ?_
              case cb28 => rw [hV7]; go_simp
              clear hV7
              simp only [Act.put, List.setIfInBounds_toArray, List.set_cons_zero, List.set_cons_succ]
              have GS : Hid (∀ s ∈ ([⟨#[118, 97, 108, 118, 101]⟩, (⟨#[120]⟩ ++ sd), (X.pp[j1]).1, (X.pp[j2]).1, st] : List ByteArray), s.size ≤ maxLen) := fun s hs => by
                simp only [List.mem_cons, List.not_mem_nil, or_false] at hs
                rcases hs with rfl | rfl | rfl | rfl | rfl
                · exact Nat.le_of_ble_eq_true rfl
                · exact zd.out
                · exact (D1.out.ok.p _ (List.getElem_mem mj1)).1
                · exact (D1.out.ok.p _ (List.getElem_mem mj2)).1
                · exact zst.out
              refine callHd (f := 0) (i := 29) ⟨rfl, rfl⟩ (by decide) (by kernel_rfl) rfl ?ct29 ((try_ex (w.heap.size + 1 + 1 + 1) _ _ _ _ (.slice (some ⟨V6.heap.size, 0, none⟩) 5 5) X V7 E7.out.pl E7.out.ok (fun U hU => put_valve (w.heap.size + 1 + 1 + 1) _ _ _ _ X V6.heap.size 5 (gl [⟨#[118, 97, 108, 118, 101]⟩, (⟨#[120]⟩ ++ sd), (X.pp[j1]).1, (X.pp[j2]).1, st]) U (E7.out.pl.below hU) E7.out.ok (by omega) (gl_at (l := [⟨#[118, 97, 108, 118, 101]⟩, (⟨#[120]⟩ ++ sd), (X.pp[j1]).1, (X.pp[j2]).1, st]) (box_stableP hU LL.out)) (gl_sz GS.out) (Nat.le_trans (Nat.le_trans E7.out.low.2.2 E7.out.size) hU.size) rfl)).mono ?_)
              case ct29 => go_simp
              rintro _ Vz ⟨u0', u1', u2', u3', Y, rfl, hp4, ho4, hb4⟩
              obtain ⟨p0, k0, rfl⟩ := Row.form hp4.s
              obtain ⟨p1, k1, rfl⟩ := Row.form hp4.f
              obtain ⟨p2, k2, rfl⟩ := Row.form hp4.p
              obtain ⟨p3, k3, rfl⟩ := Row.form hp4.v
              have DZ : Hid _ := E7.out.below hb4
              have D5 : Hid _ := DZ.out.store hp4 ho4
              refine ⟨_, rfl, ⟨DZ.out.bx, YK.out _ _ _ DZ.out⟩, ?_⟩
              simp only [Act.put, List.setIfInBounds_toArray, List.set_cons_zero, List.set_cons_succ]
              refine ⟨by kernel_rfl, ?_⟩
              simp only [List.drop_succ_cons, List.drop_zero]
              obtain ⟨zr0, tzr0⟩ := cell_row (DZ.out.bx) 0 _ rfl
              obtain ⟨zr1, tzr1⟩ := cell_row (DZ.out.bx) 1 _ rfl
              obtain ⟨zr2, tzr2⟩ := cell_row (DZ.out.bx) 2 _ rfl
              obtain ⟨zr3, tzr3⟩ := cell_row (DZ.out.bx) 3 _ rfl
              simp only [List.getElem_toArray, List.getElem_cons_zero, List.getElem_cons_succ] at zr0 zr1 zr2 zr3
              go_wp2_with fail
              go_roundw
              case rel => exact ⟨k - 1, by omega, by first | exact dec_k (by omega) | go_num, ⟨_, _, _, _, _, D5.out.up (by omega)⟩⟩
              case measure => simp [intOf]; omega
            · obtain ⟨V4, hV4⟩ : ∃ Z, Z = V3.alloc (.cells (([⟨#[101, 97, 115, 116]⟩, ⟨#[119, 101, 115, 116]⟩] : List ByteArray).map Value.string).toArray 9) := ⟨_, rfl⟩
              have bl : Below V3.heap.size V3 V4 := by rw [hV4]; exact (Below.refl _ _).alloc (Nat.le_refl _) _
              have hat : Hid (AtL (fun b => b = V3.heap.size) V4 ([⟨#[101, 97, 115, 116]⟩, ⟨#[119, 101, 115, 116]⟩] : List ByteArray) (.slice (some ⟨V3.heap.size, 0, none⟩) 2 2)) := by rw [hV4]; exact lit_at 9 V3 [⟨#[101, 97, 115, 116]⟩, ⟨#[119, 101, 115, 116]⟩] (by unfold maxLen; simp) (by intro s hs; simp at hs; rcases hs with rfl | rfl <;> (unfold maxLen; decide))
              have lsz : V3.heap.size < V4.heap.size := by rw [hV4]; simp
              have hz : w.heap.size + 1 + 1 + 1 ≤ V3.heap.size := by have := E3.out.size; have := E3.out.low; omega
              have EL : Hid _ := E3.out.below bl
              have BL : Hid (But (fun b => b = R ∨ b = w.heap.size + 1) z9 V4) := EL.out.bt
              have E4 : Hid _ := EL.out.base
              refine ⟨by decide, stepHd (.slice (some ⟨V3.heap.size, 0, none⟩) 2 2) V4 ⟨rfl, rfl⟩ rfl ?cb ⟨⟨E4.out.bx, YK.out _ _ _ E4.out⟩, ?_⟩⟩
              case cb => rw [hV4]; go_simp
              clear hV4 bl EL
              simp only [Act.put, List.setIfInBounds_toArray, List.set_cons_zero, List.set_cons_succ]
              refine callHd (f := 6) (i := 21) ⟨rfl, rfl⟩ (by decide) (by kernel_rfl) rfl ?cc ((pick_ds E4.out (by omega) n2 (by omega) (by omega)).mono ?_)
              case cc => go_simp
              rintro _ V5 ⟨xj2, rfl, hxj2, hyj2, E⟩
              have E5 : Hid _ := E
              clear E
              obtain ⟨j2, rfl⟩ := Int.eq_ofNat_of_zero_le hxj2
              have lj2 : ((j2 : Int) < (n2 : Int)) := by omega
              have mj2 : j2 < X.pp.length := by omega
              refine ⟨_, rfl, ⟨E5.out.bx, YK.out _ _ _ E5.out⟩, ?_⟩
              simp only [Act.put, List.setIfInBounds_toArray, List.set_cons_zero, List.set_cons_succ]
              refine takeHQ (f := 5) (i := 22) (.pointer (some ⟨gp, j2 * 3, none⟩)) ⟨rfl, rfl⟩ (by kernel_rfl) rfl ⟨E5.out.bx, YK.out _ _ _ E5.out⟩ ?ta ?_
              case ta => intro v hv; go_simp
              simp only [Act.put, List.setIfInBounds_toArray, List.set_cons_zero, List.set_cons_succ]
              refine takeHQ (f := 4) (i := 23) (.pointer (some ⟨gp, j2 * 3, none⟩)) ⟨rfl, rfl⟩ (by kernel_rfl) rfl ⟨E5.out.bx, YK.out _ _ _ E5.out⟩ ?ta ?_
              case ta => intro v hv; go_simp
              simp only [Act.put, List.setIfInBounds_toArray, List.set_cons_zero, List.set_cons_succ]
              refine takeHQ (f := 3) (i := 24) (.string (X.pp[j2]).1) ⟨rfl, rfl⟩ (by kernel_rfl) rfl ⟨E5.out.bx, YK.out _ _ _ E5.out⟩ ?ta ?_
              case ta => intro v hv; have cy_ := hv.2 j2 mj2; go_simp
              simp only [Act.put, List.setIfInBounds_toArray, List.set_cons_zero, List.set_cons_succ]
              refine callHd (f := 2) (i := 27) ⟨rfl, rfl⟩ (by decide) (by kernel_rfl) rfl ?cc ((of_ds E5.out (by omega) (fun b => b = V3.heap.size) _ _ (AtL.same hat.out (fun b hb => E5.out.bt.block b (by have e : b = V3.heap.size := hb; omega) (by have e : b = V3.heap.size := hb; have := E0.out.size; have := E0.out.low; omega))) (fun b hb => by have := E5.out.size; have := E0.out.size; have := E0.out.low; exact ⟨by omega, by omega⟩) (by decide) (by decide)).mono ?_)
              case cc => go_simp
              rintro _ V6 ⟨st, hst, rfl, E⟩
              have E6 : Hid _ := E.rebase BL.out z9b
              clear E
              have zst : Hid (st.size ≤ maxLen) := by show st.size ≤ maxLen; simp at hst; rcases hst with rfl | rfl <;> (unfold maxLen; decide)
              refine ⟨_, rfl, ⟨E6.out.bx, YK.out _ _ _ E6.out⟩, ?_⟩
              simp only [Act.put, List.setIfInBounds_toArray, List.set_cons_zero, List.set_cons_succ]
              obtain ⟨V7, hV7⟩ : ∃ Z, Z = V6.alloc (.cells #[.string ⟨#[118, 97, 108, 118, 101]⟩, .string (⟨#[120]⟩ ++ sd), .string (X.pp[j1]).1, .string (X.pp[j2]).1, .string st] 9) := ⟨_, rfl⟩
              have bl7 : Below V6.heap.size V6 V7 := by rw [hV7]; exact (Below.refl _ _).alloc (Nat.le_refl _) _
              have E7 : Hid _ := E6.out.below bl7
              have LL : Hid (V7.heap[V6.heap.size]? = some (.cells #[.string ⟨#[118, 97, 108, 118, 101]⟩, .string (⟨#[120]⟩ ++ sd), .string (X.pp[j1]).1, .string (X.pp[j2]).1, .string st] 9 (0, 0))) := by rw [hV7]; exact heap_alloc_new _ _
              refine oneHd (f := 1) (i := 28) (.slice (some ⟨V6.heap.size, 0, none⟩) 5 5) V7 ⟨rfl, rfl⟩ (by decide) (by kernel_rfl) rfl ?cb28 ⟨E7.out.bx, YK.out _ _ _ E7.out⟩ ?_
              case cb28 => rw [hV7]; go_simp
              clear hV7
              simp only [Act.put, List.setIfInBounds_toArray, List.set_cons_zero, List.set_cons_succ]
              have GS : Hid (∀ s ∈ ([⟨#[118, 97, 108, 118, 101]⟩, (⟨#[120]⟩ ++ sd), (X.pp[j1]).1, (X.pp[j2]).1, st] : List ByteArray), s.size ≤ maxLen) := fun s hs => by
                simp only [List.mem_cons, List.not_mem_nil, or_false] at hs
                rcases hs with rfl | rfl | rfl | rfl | rfl
                · exact Nat.le_of_ble_eq_true rfl
                · exact zd.out
                · exact (D1.out.ok.p _ (List.getElem_mem mj1)).1
                · exact (D1.out.ok.p _ (List.getElem_mem mj2)).1
                · exact zst.out
              refine callHd (f := 0) (i := 29) ⟨rfl, rfl⟩ (by decide) (by kernel_rfl) rfl ?ct29 ((try_ex (w.heap.size + 1 + 1 + 1) _ _ _ _ (.slice (some ⟨V6.heap.size, 0, none⟩) 5 5) X V7 E7.out.pl E7.out.ok (fun U hU => put_valve (w.heap.size + 1 + 1 + 1) _ _ _ _ X V6.heap.size 5 (gl [⟨#[118, 97, 108, 118, 101]⟩, (⟨#[120]⟩ ++ sd), (X.pp[j1]).1, (X.pp[j2]).1, st]) U (E7.out.pl.below hU) E7.out.ok (by omega) (gl_at (l := [⟨#[118, 97, 108, 118, 101]⟩, (⟨#[120]⟩ ++ sd), (X.pp[j1]).1, (X.pp[j2]).1, st]) (box_stableP hU LL.out)) (gl_sz GS.out) (Nat.le_trans (Nat.le_trans E7.out.low.2.2 E7.out.size) hU.size) rfl)).mono ?_)
              case ct29 => go_simp
              rintro _ Vz ⟨u0', u1', u2', u3', Y, rfl, hp4, ho4, hb4⟩
              obtain ⟨p0, k0, rfl⟩ := Row.form hp4.s
              obtain ⟨p1, k1, rfl⟩ := Row.form hp4.f
              obtain ⟨p2, k2, rfl⟩ := Row.form hp4.p
              obtain ⟨p3, k3, rfl⟩ := Row.form hp4.v
              have DZ : Hid _ := E7.out.below hb4
              have D5 : Hid _ := DZ.out.store hp4 ho4
              refine ⟨_, rfl, ⟨DZ.out.bx, YK.out _ _ _ DZ.out⟩, ?_⟩
              simp only [Act.put, List.setIfInBounds_toArray, List.set_cons_zero, List.set_cons_succ]
              refine ⟨by kernel_rfl, ?_⟩
              simp only [List.drop_succ_cons, List.drop_zero]
              obtain ⟨zr0, tzr0⟩ := cell_row (DZ.out.bx) 0 _ rfl
              obtain ⟨zr1, tzr1⟩ := cell_row (DZ.out.bx) 1 _ rfl
              obtain ⟨zr2, tzr2⟩ := cell_row (DZ.out.bx) 2 _ rfl
              obtain ⟨zr3, tzr3⟩ := cell_row (DZ.out.bx) 3 _ rfl
              simp only [List.getElem_toArray, List.getElem_cons_zero, List.getElem_cons_succ] at zr0 zr1 zr2 zr3
              go_wp2_with fail
              go_roundw
              case rel => exact ⟨k - 1, by omega, by first | exact dec_k (by omega) | go_num, ⟨_, _, _, _, _, D5.out.up (by omega)⟩⟩
              case measure => simp [intOf]; omega
          · obtain ⟨V3, hV3⟩ : ∃ Z, Z = V2.alloc (.cells (([⟨#[101, 97, 115, 116]⟩, ⟨#[119, 101, 115, 116]⟩] : List ByteArray).map Value.string).toArray 9) := ⟨_, rfl⟩
            have bl : Below V2.heap.size V2 V3 := by rw [hV3]; exact (Below.refl _ _).alloc (Nat.le_refl _) _
            have hat : Hid (AtL (fun b => b = V2.heap.size) V3 ([⟨#[101, 97, 115, 116]⟩, ⟨#[119, 101, 115, 116]⟩] : List ByteArray) (.slice (some ⟨V2.heap.size, 0, none⟩) 2 2)) := by rw [hV3]; exact lit_at 9 V2 [⟨#[101, 97, 115, 116]⟩, ⟨#[119, 101, 115, 116]⟩] (by unfold maxLen; simp) (by intro s hs; simp at hs; rcases hs with rfl | rfl <;> (unfold maxLen; decide))
            have lsz : V2.heap.size < V3.heap.size := by rw [hV3]; simp
            have hz : w.heap.size + 1 + 1 + 1 ≤ V2.heap.size := by have := E2.out.size; have := E2.out.low; omega
            have EL : Hid _ := E2.out.below bl
            have BL : Hid (But (fun b => b = R ∨ b = w.heap.size + 1) z9 V3) := EL.out.bt
            have E3 : Hid _ := EL.out.base
            refine ⟨by decide, stepHd (.slice (some ⟨V2.heap.size, 0, none⟩) 2 2) V3 ⟨rfl, rfl⟩ rfl ?cb ⟨⟨E3.out.bx, YK.out _ _ _ E3.out⟩, ?_⟩⟩
            case cb => rw [hV3]; go_simp
            clear hV3 bl EL
            simp only [Act.put, List.setIfInBounds_toArray, List.set_cons_zero, List.set_cons_succ]
            refine callHd (f := 10) (i := 11) ⟨rfl, rfl⟩ (by decide) (by kernel_rfl) rfl ?cc ((pick_ds E3.out (by omega) n2 (by omega) (by omega)).mono ?_)
            case cc => go_simp
            rintro _ V4 ⟨xj1, rfl, hxj1, hyj1, E⟩
            have E4 : Hid _ := E
            clear E
            obtain ⟨j1, rfl⟩ := Int.eq_ofNat_of_zero_le hxj1
            have lj1 : ((j1 : Int) < (n2 : Int)) := by omega
            have mj1 : j1 < X.pp.length := by omega
            refine ⟨_, rfl, ⟨E4.out.bx, YK.out _ _ _ E4.out⟩, ?_⟩
            simp only [Act.put, List.setIfInBounds_toArray, List.set_cons_zero, List.set_cons_succ]
            refine takeHQ (f := 9) (i := 12) (.pointer (some ⟨gp, j1 * 3, none⟩)) ⟨rfl, rfl⟩ (by kernel_rfl) rfl ⟨E4.out.bx, YK.out _ _ _ E4.out⟩ ?ta ?_
            case ta => intro v hv; go_simp
            simp only [Act.put, List.setIfInBounds_toArray, List.set_cons_zero, List.set_cons_succ]
            refine takeHQ (f := 8) (i := 13) (.pointer (some ⟨gp, j1 * 3, none⟩)) ⟨rfl, rfl⟩ (by kernel_rfl) rfl ⟨E4.out.bx, YK.out _ _ _ E4.out⟩ ?ta ?_
            case ta => intro v hv; go_simp
            simp only [Act.put, List.setIfInBounds_toArray, List.set_cons_zero, List.set_cons_succ]
            refine takeHQ (f := 7) (i := 14) (.string (X.pp[j1]).1) ⟨rfl, rfl⟩ (by kernel_rfl) rfl ⟨E4.out.bx, YK.out _ _ _ E4.out⟩ ?ta ?_
            case ta => intro v hv; have cy_ := hv.2 j1 mj1; go_simp
            simp only [Act.put, List.setIfInBounds_toArray, List.set_cons_zero, List.set_cons_succ]
            refine callHd (f := 6) (i := 21) ⟨rfl, rfl⟩ (by decide) (by kernel_rfl) rfl ?cc ((pick_ds E4.out (by omega) n2 (by omega) (by omega)).mono ?_)
            case cc => go_simp
            rintro _ V5 ⟨xj2, rfl, hxj2, hyj2, E⟩
            have E5 : Hid _ := E
            clear E
            obtain ⟨j2, rfl⟩ := Int.eq_ofNat_of_zero_le hxj2
            have lj2 : ((j2 : Int) < (n2 : Int)) := by omega
            have mj2 : j2 < X.pp.length := by omega
            refine ⟨_, rfl, ⟨E5.out.bx, YK.out _ _ _ E5.out⟩, ?_⟩
            simp only [Act.put, List.setIfInBounds_toArray, List.set_cons_zero, List.set_cons_succ]
            refine takeHQ (f := 5) (i := 22) (.pointer (some ⟨gp, j2 * 3, none⟩)) ⟨rfl, rfl⟩ (by kernel_rfl) rfl ⟨E5.out.bx, YK.out _ _ _ E5.out⟩ ?ta ?_
            case ta => intro v hv; go_simp
            simp only [Act.put, List.setIfInBounds_toArray, List.set_cons_zero, List.set_cons_succ]
            refine takeHQ (f := 4) (i := 23) (.pointer (some ⟨gp, j2 * 3, none⟩)) ⟨rfl, rfl⟩ (by kernel_rfl) rfl ⟨E5.out.bx, YK.out _ _ _ E5.out⟩ ?ta ?_
            case ta => intro v hv; go_simp
            simp only [Act.put, List.setIfInBounds_toArray, List.set_cons_zero, List.set_cons_succ]
            refine takeHQ (f := 3) (i := 24) (.string (X.pp[j2]).1) ⟨rfl, rfl⟩ (by kernel_rfl) rfl ⟨E5.out.bx, YK.out _ _ _ E5.out⟩ ?ta ?_
            case ta => intro v hv; have cy_ := hv.2 j2 mj2; go_simp
            simp only [Act.put, List.setIfInBounds_toArray, List.set_cons_zero, List.set_cons_succ]
            refine callHd (f := 2) (i := 27) ⟨rfl, rfl⟩ (by decide) (by kernel_rfl) rfl ?cc ((of_ds E5.out (by omega) (fun b => b = V2.heap.size) _ _ (AtL.same hat.out (fun b hb => E5.out.bt.block b (by have e : b = V2.heap.size := hb; omega) (by have e : b = V2.heap.size := hb; have := E0.out.size; have := E0.out.low; omega))) (fun b hb => by have := E5.out.size; have := E0.out.size; have := E0.out.low; exact ⟨by omega, by omega⟩) (by decide) (by decide)).mono ?_)
            case cc => go_simp
            rintro _ V6 ⟨st, hst, rfl, E⟩
            have E6 : Hid _ := E.rebase BL.out z9b
            clear E
            have zst : Hid (st.size ≤ maxLen) := by show st.size ≤ maxLen; simp at hst; rcases hst with rfl | rfl <;> (unfold maxLen; decide)
            refine ⟨_, rfl, ⟨E6.out.bx, YK.out _ _ _ E6.out⟩, ?_⟩
            simp only [Act.put, List.setIfInBounds_toArray, List.set_cons_zero, List.set_cons_succ]
            obtain ⟨V7, hV7⟩ : ∃ Z, Z = V6.alloc (.cells #[.string ⟨#[118, 97, 108, 118, 101]⟩, .string (⟨#[120]⟩ ++ sd), .string (X.pp[j1]).1, .string (X.pp[j2]).1, .string st] 9) := ⟨_, rfl⟩
            have bl7 : Below V6.heap.size V6 V7 := by rw [hV7]; exact (Below.refl _ _).alloc (Nat.le_refl _) _
            have E7 : Hid _ := E6.out.below bl7
            have LL : Hid (V7.heap[V6.heap.size]? = some (.cells #[.string ⟨#[118, 97, 108, 118, 101]⟩, .string (⟨#[120]⟩ ++ sd), .string (X.pp[j1]).1, .string (X.pp[j2]).1, .string st] 9 (0, 0))) := by rw [hV7]; exact heap_alloc_new _ _
            refine oneHd (f := 1) (i := 28) (.slice (some ⟨V6.heap.size, 0, none⟩) 5 5) V7 ⟨rfl, rfl⟩ (by decide) (by kernel_rfl) rfl ?cb28 ⟨E7.out.bx, YK.out _ _ _ E7.out⟩ ?_
            case cb28 => rw [hV7]; go_simp
            clear hV7
            simp only [Act.put, List.setIfInBounds_toArray, List.set_cons_zero, List.set_cons_succ]
            have GS : Hid (∀ s ∈ ([⟨#[118, 97, 108, 118, 101]⟩, (⟨#[120]⟩ ++ sd), (X.pp[j1]).1, (X.pp[j2]).1, st] : List ByteArray), s.size ≤ maxLen) := fun s hs => by
              simp only [List.mem_cons, List.not_mem_nil, or_false] at hs
              rcases hs with rfl | rfl | rfl | rfl | rfl
              · exact Nat.le_of_ble_eq_true rfl
              · exact zd.out
              · exact (D1.out.ok.p _ (List.getElem_mem mj1)).1
              · exact (D1.out.ok.p _ (List.getElem_mem mj2)).1
              · exact zst.out
            refine callHd (f := 0) (i := 29) ⟨rfl, rfl⟩ (by decide) (by kernel_rfl) rfl ?ct29 ((try_ex (w.heap.size + 1 + 1 + 1) _ _ _ _ (.slice (some ⟨V6.heap.size, 0, none⟩) 5 5) X V7 E7.out.pl E7.out.ok (fun U hU => put_valve (w.heap.size + 1 + 1 + 1) _ _ _ _ X V6.heap.size 5 (gl [⟨#[118, 97, 108, 118, 101]⟩, (⟨#[120]⟩ ++ sd), (X.pp[j1]).1, (X.pp[j2]).1, st]) U (E7.out.pl.below hU) E7.out.ok (by omega) (gl_at (l := [⟨#[118, 97, 108, 118, 101]⟩, (⟨#[120]⟩ ++ sd), (X.pp[j1]).1, (X.pp[j2]).1, st]) (box_stableP hU LL.out)) (gl_sz GS.out) (Nat.le_trans (Nat.le_trans E7.out.low.2.2 E7.out.size) hU.size) rfl)).mono ?_)
            case ct29 => go_simp
            rintro _ Vz ⟨u0', u1', u2', u3', Y, rfl, hp4, ho4, hb4⟩
            obtain ⟨p0, k0, rfl⟩ := Row.form hp4.s
            obtain ⟨p1, k1, rfl⟩ := Row.form hp4.f
            obtain ⟨p2, k2, rfl⟩ := Row.form hp4.p
            obtain ⟨p3, k3, rfl⟩ := Row.form hp4.v
            have DZ : Hid _ := E7.out.below hb4
            have D5 : Hid _ := DZ.out.store hp4 ho4
            refine ⟨_, rfl, ⟨DZ.out.bx, YK.out _ _ _ DZ.out⟩, ?_⟩
            simp only [Act.put, List.setIfInBounds_toArray, List.set_cons_zero, List.set_cons_succ]
            refine ⟨by kernel_rfl, ?_⟩
            simp only [List.drop_succ_cons, List.drop_zero]
            obtain ⟨zr0, tzr0⟩ := cell_row (DZ.out.bx) 0 _ rfl
            obtain ⟨zr1, tzr1⟩ := cell_row (DZ.out.bx) 1 _ rfl
            obtain ⟨zr2, tzr2⟩ := cell_row (DZ.out.bx) 2 _ rfl
            obtain ⟨zr3, tzr3⟩ := cell_row (DZ.out.bx) 3 _ rfl
            simp only [List.getElem_toArray, List.getElem_cons_zero, List.getElem_cons_succ] at zr0 zr1 zr2 zr3
            go_wp2_with fail
            go_roundw
            case rel => exact ⟨k - 1, by omega, by first | exact dec_k (by omega) | go_num, ⟨_, _, _, _, _, D5.out.up (by omega)⟩⟩
            case measure => simp [intOf]; omega
        · obtain ⟨V2, hV2⟩ : ∃ Z, Z = V1.alloc (.cells (([⟨#[101, 97, 115, 116]⟩, ⟨#[119, 101, 115, 116]⟩] : List ByteArray).map Value.string).toArray 9) := ⟨_, rfl⟩
          have bl : Below V1.heap.size V1 V2 := by rw [hV2]; exact (Below.refl _ _).alloc (Nat.le_refl _) _
          have hat : Hid (AtL (fun b => b = V1.heap.size) V2 ([⟨#[101, 97, 115, 116]⟩, ⟨#[119, 101, 115, 116]⟩] : List ByteArray) (.slice (some ⟨V1.heap.size, 0, none⟩) 2 2)) := by rw [hV2]; exact lit_at 9 V1 [⟨#[101, 97, 115, 116]⟩, ⟨#[119, 101, 115, 116]⟩] (by unfold maxLen; simp) (by intro s hs; simp at hs; rcases hs with rfl | rfl <;> (unfold maxLen; decide))
          have lsz : V1.heap.size < V2.heap.size := by rw [hV2]; simp
          have hz : w.heap.size + 1 + 1 + 1 ≤ V1.heap.size := by have := E1.out.size; have := E1.out.low; omega
          have EL : Hid _ := E1.out.below bl
          have BL : Hid (But (fun b => b = R ∨ b = w.heap.size + 1) z9 V2) := EL.out.bt
          have E2 : Hid _ := EL.out.base
          refine ⟨by decide, stepHd (.slice (some ⟨V1.heap.size, 0, none⟩) 2 2) V2 ⟨rfl, rfl⟩ rfl ?cb ⟨⟨E2.out.bx, YK.out _ _ _ E2.out⟩, ?_⟩⟩
          case cb => rw [hV2]; go_simp
          clear hV2 bl EL
          simp only [Act.put, List.setIfInBounds_toArray, List.set_cons_zero, List.set_cons_succ]
          refine callHd (f := 12) (i := 3) ⟨rfl, rfl⟩ (by decide) (by kernel_rfl) rfl ?cc ((dec_rdK xd V2 (by omega) (by omega)).mono ?_)
          case cc => go_simp
          rintro _ V3 ⟨sd, rfl, hsd, hbd⟩
          have E3 : Hid _ := E2.out.below hbd
          have zd : Hid ((⟨#[120]⟩ ++ sd : ByteArray).size ≤ maxLen) := by show (⟨#[120]⟩ ++ sd : ByteArray).size ≤ maxLen; rw [ByteArray.size_append]; have : (⟨#[120]⟩ : ByteArray).size = 1 := rfl; unfold maxLen; omega
          refine ⟨_, rfl, ⟨E3.out.bx, YK.out _ _ _ E3.out⟩, ?_⟩
          simp only [Act.put, List.setIfInBounds_toArray, List.set_cons_zero, List.set_cons_succ]
          refine takeHQ (f := 11) (i := 4) (.string (⟨#[120]⟩ ++ sd)) ⟨rfl, rfl⟩ (by kernel_rfl) rfl ⟨E3.out.bx, YK.out _ _ _ E3.out⟩ ?ta ?_
          case ta => intro v hv; have hq1 : ((⟨#[120]⟩ : ByteArray).size : Int) ≤ 8388608 := (by decide); have hq2 : (sd.size : Int) ≤ 8388608 := (by omega); have hq3 := run_string_add (P := Try.prog) (w := v) (⟨#[120]⟩ : ByteArray) sd hq1 hq2; go_simp
          simp only [Act.put, List.setIfInBounds_toArray, List.set_cons_zero, List.set_cons_succ]
          refine callHd (f := 10) (i := 11) ⟨rfl, rfl⟩ (by decide) (by kernel_rfl) rfl ?cc ((pick_ds E3.out (by omega) n2 (by omega) (by omega)).mono ?_)
          case cc => go_simp
          rintro _ V4 ⟨xj1, rfl, hxj1, hyj1, E⟩
          have E4 : Hid _ := E
          clear E
          obtain ⟨j1, rfl⟩ := Int.eq_ofNat_of_zero_le hxj1
          have lj1 : ((j1 : Int) < (n2 : Int)) := by omega
          have mj1 : j1 < X.pp.length := by omega
          refine ⟨_, rfl, ⟨E4.out.bx, YK.out _ _ _ E4.out⟩, ?_⟩
          simp only [Act.put, List.setIfInBounds_toArray, List.set_cons_zero, List.set_cons_succ]
          refine takeHQ (f := 9) (i := 12) (.pointer (some ⟨gp, j1 * 3, none⟩)) ⟨rfl, rfl⟩ (by kernel_rfl) rfl ⟨E4.out.bx, YK.out _ _ _ E4.out⟩ ?ta ?_
          case ta => intro v hv; go_simp
          simp only [Act.put, List.setIfInBounds_toArray, List.set_cons_zero, List.set_cons_succ]
          refine takeHQ (f := 8) (i := 13) (.pointer (some ⟨gp, j1 * 3, none⟩)) ⟨rfl, rfl⟩ (by kernel_rfl) rfl ⟨E4.out.bx, YK.out _ _ _ E4.out⟩ ?ta ?_
          case ta => intro v hv; go_simp
          simp only [Act.put, List.setIfInBounds_toArray, List.set_cons_zero, List.set_cons_succ]
          refine takeHQ (f := 7) (i := 14) (.string (X.pp[j1]).1) ⟨rfl, rfl⟩ (by kernel_rfl) rfl ⟨E4.out.bx, YK.out _ _ _ E4.out⟩ ?ta ?_
          case ta => intro v hv; have cy_ := hv.2 j1 mj1; go_simp
          simp only [Act.put, List.setIfInBounds_toArray, List.set_cons_zero, List.set_cons_succ]
          refine callHd (f := 6) (i := 21) ⟨rfl, rfl⟩ (by decide) (by kernel_rfl) rfl ?cc ((pick_ds E4.out (by omega) n2 (by omega) (by omega)).mono ?_)
          case cc => go_simp
          rintro _ V5 ⟨xj2, rfl, hxj2, hyj2, E⟩
          have E5 : Hid _ := E
          clear E
          obtain ⟨j2, rfl⟩ := Int.eq_ofNat_of_zero_le hxj2
          have lj2 : ((j2 : Int) < (n2 : Int)) := by omega
          have mj2 : j2 < X.pp.length := by omega
          refine ⟨_, rfl, ⟨E5.out.bx, YK.out _ _ _ E5.out⟩, ?_⟩
          simp only [Act.put, List.setIfInBounds_toArray, List.set_cons_zero, List.set_cons_succ]
          refine takeHQ (f := 5) (i := 22) (.pointer (some ⟨gp, j2 * 3, none⟩)) ⟨rfl, rfl⟩ (by kernel_rfl) rfl ⟨E5.out.bx, YK.out _ _ _ E5.out⟩ ?ta ?_
          case ta => intro v hv; go_simp
          simp only [Act.put, List.setIfInBounds_toArray, List.set_cons_zero, List.set_cons_succ]
          refine takeHQ (f := 4) (i := 23) (.pointer (some ⟨gp, j2 * 3, none⟩)) ⟨rfl, rfl⟩ (by kernel_rfl) rfl ⟨E5.out.bx, YK.out _ _ _ E5.out⟩ ?ta ?_
          case ta => intro v hv; go_simp
          simp only [Act.put, List.setIfInBounds_toArray, List.set_cons_zero, List.set_cons_succ]
          refine takeHQ (f := 3) (i := 24) (.string (X.pp[j2]).1) ⟨rfl, rfl⟩ (by kernel_rfl) rfl ⟨E5.out.bx, YK.out _ _ _ E5.out⟩ ?ta ?_
          case ta => intro v hv; have cy_ := hv.2 j2 mj2; go_simp
          simp only [Act.put, List.setIfInBounds_toArray, List.set_cons_zero, List.set_cons_succ]
          refine callHd (f := 2) (i := 27) ⟨rfl, rfl⟩ (by decide) (by kernel_rfl) rfl ?cc ((of_ds E5.out (by omega) (fun b => b = V1.heap.size) _ _ (AtL.same hat.out (fun b hb => E5.out.bt.block b (by have e : b = V1.heap.size := hb; omega) (by have e : b = V1.heap.size := hb; have := E0.out.size; have := E0.out.low; omega))) (fun b hb => by have := E5.out.size; have := E0.out.size; have := E0.out.low; exact ⟨by omega, by omega⟩) (by decide) (by decide)).mono ?_)
          case cc => go_simp
          rintro _ V6 ⟨st, hst, rfl, E⟩
          have E6 : Hid _ := E.rebase BL.out z9b
          clear E
          have zst : Hid (st.size ≤ maxLen) := by show st.size ≤ maxLen; simp at hst; rcases hst with rfl | rfl <;> (unfold maxLen; decide)
          refine ⟨_, rfl, ⟨E6.out.bx, YK.out _ _ _ E6.out⟩, ?_⟩
          simp only [Act.put, List.setIfInBounds_toArray, List.set_cons_zero, List.set_cons_succ]
          obtain ⟨V7, hV7⟩ : ∃ Z, Z = V6.alloc (.cells #[.string ⟨#[118, 97, 108, 118, 101]⟩, .string (⟨#[120]⟩ ++ sd), .string (X.pp[j1]).1, .string (X.pp[j2]).1, .string st] 9) := ⟨_, rfl⟩
          have bl7 : Below V6.heap.size V6 V7 := by rw [hV7]; exact (Below.refl _ _).alloc (Nat.le_refl _) _
          have E7 : Hid _ := E6.out.below bl7
          have LL : Hid (V7.heap[V6.heap.size]? = some (.cells #[.string ⟨#[118, 97, 108, 118, 101]⟩, .string (⟨#[120]⟩ ++ sd), .string (X.pp[j1]).1, .string (X.pp[j2]).1, .string st] 9 (0, 0))) := by rw [hV7]; exact heap_alloc_new _ _
          refine oneHd (f := 1) (i := 28) (.slice (some ⟨V6.heap.size, 0, none⟩) 5 5) V7 ⟨rfl, rfl⟩ (by decide) (by kernel_rfl) rfl ?cb28 ⟨E7.out.bx, YK.out _ _ _ E7.out⟩ ?_
          case cb28 => rw [hV7]; go_simp
          clear hV7
          simp only [Act.put, List.setIfInBounds_toArray, List.set_cons_zero, List.set_cons_succ]
          have GS : Hid (∀ s ∈ ([⟨#[118, 97, 108, 118, 101]⟩, (⟨#[120]⟩ ++ sd), (X.pp[j1]).1, (X.pp[j2]).1, st] : List ByteArray), s.size ≤ maxLen) := fun s hs => by
            simp only [List.mem_cons, List.not_mem_nil, or_false] at hs
            rcases hs with rfl | rfl | rfl | rfl | rfl
            · exact Nat.le_of_ble_eq_true rfl
            · exact zd.out
            · exact (D1.out.ok.p _ (List.getElem_mem mj1)).1
            · exact (D1.out.ok.p _ (List.getElem_mem mj2)).1
            · exact zst.out
          refine callHd (f := 0) (i := 29) ⟨rfl, rfl⟩ (by decide) (by kernel_rfl) rfl ?ct29 ((try_ex (w.heap.size + 1 + 1 + 1) _ _ _ _ (.slice (some ⟨V6.heap.size, 0, none⟩) 5 5) X V7 E7.out.pl E7.out.ok (fun U hU => put_valve (w.heap.size + 1 + 1 + 1) _ _ _ _ X V6.heap.size 5 (gl [⟨#[118, 97, 108, 118, 101]⟩, (⟨#[120]⟩ ++ sd), (X.pp[j1]).1, (X.pp[j2]).1, st]) U (E7.out.pl.below hU) E7.out.ok (by omega) (gl_at (l := [⟨#[118, 97, 108, 118, 101]⟩, (⟨#[120]⟩ ++ sd), (X.pp[j1]).1, (X.pp[j2]).1, st]) (box_stableP hU LL.out)) (gl_sz GS.out) (Nat.le_trans (Nat.le_trans E7.out.low.2.2 E7.out.size) hU.size) rfl)).mono ?_)
          case ct29 => go_simp
          rintro _ Vz ⟨u0', u1', u2', u3', Y, rfl, hp4, ho4, hb4⟩
          obtain ⟨p0, k0, rfl⟩ := Row.form hp4.s
          obtain ⟨p1, k1, rfl⟩ := Row.form hp4.f
          obtain ⟨p2, k2, rfl⟩ := Row.form hp4.p
          obtain ⟨p3, k3, rfl⟩ := Row.form hp4.v
          have DZ : Hid _ := E7.out.below hb4
          have D5 : Hid _ := DZ.out.store hp4 ho4
          refine ⟨_, rfl, ⟨DZ.out.bx, YK.out _ _ _ DZ.out⟩, ?_⟩
          simp only [Act.put, List.setIfInBounds_toArray, List.set_cons_zero, List.set_cons_succ]
          refine ⟨by kernel_rfl, ?_⟩
          simp only [List.drop_succ_cons, List.drop_zero]
          obtain ⟨zr0, tzr0⟩ := cell_row (DZ.out.bx) 0 _ rfl
          obtain ⟨zr1, tzr1⟩ := cell_row (DZ.out.bx) 1 _ rfl
          obtain ⟨zr2, tzr2⟩ := cell_row (DZ.out.bx) 2 _ rfl
          obtain ⟨zr3, tzr3⟩ := cell_row (DZ.out.bx) 3 _ rfl
          simp only [List.getElem_toArray, List.getElem_cons_zero, List.getElem_cons_succ] at zr0 zr1 zr2 zr3
          go_wp2_with fail
          go_roundw
          case rel => exact ⟨k - 1, by omega, by first | exact dec_k (by omega) | go_num, ⟨_, _, _, _, _, D5.out.up (by omega)⟩⟩
          case measure => simp [intOf]; omega
      · obtain ⟨V1, hV1⟩ : ∃ Z, Z = wr.drew.alloc (.cells (([⟨#[101, 97, 115, 116]⟩, ⟨#[119, 101, 115, 116]⟩] : List ByteArray).map Value.string).toArray 9) := ⟨_, rfl⟩
        have bl : Below wr.drew.heap.size wr.drew V1 := by rw [hV1]; exact (Below.refl _ _).alloc (Nat.le_refl _) _
        have hat : Hid (AtL (fun b => b = wr.drew.heap.size) V1 ([⟨#[101, 97, 115, 116]⟩, ⟨#[119, 101, 115, 116]⟩] : List ByteArray) (.slice (some ⟨wr.drew.heap.size, 0, none⟩) 2 2)) := by rw [hV1]; exact lit_at 9 wr.drew [⟨#[101, 97, 115, 116]⟩, ⟨#[119, 101, 115, 116]⟩] (by unfold maxLen; simp) (by intro s hs; simp at hs; rcases hs with rfl | rfl <;> (unfold maxLen; decide))
        have lsz : wr.drew.heap.size < V1.heap.size := by rw [hV1]; simp
        have hz : w.heap.size + 1 + 1 + 1 ≤ wr.drew.heap.size := by have := E0.out.size; have := E0.out.low; omega
        have EL : Hid _ := E0.out.below bl
        have BL : Hid (But (fun b => b = R ∨ b = w.heap.size + 1) z9 V1) := EL.out.bt
        have E1 : Hid _ := EL.out.base
        refine ⟨by decide, stepHd (.slice (some ⟨wr.drew.heap.size, 0, none⟩) 2 2) V1 ⟨rfl, rfl⟩ rfl ?cb ⟨⟨E1.out.bx, YK.out _ _ _ E1.out⟩, ?_⟩⟩
        case cb => rw [hV1]; go_simp
        clear hV1 bl EL
        simp only [Act.put, List.setIfInBounds_toArray, List.set_cons_zero, List.set_cons_succ]
        refine callHd (f := 13) (i := 2) ⟨rfl, rfl⟩ (by decide) (by kernel_rfl) rfl ?cc ((pick_ds E1.out (by omega) 16 (by decide) (by decide)).mono ?_)
        case cc => go_simp
        rintro _ V2 ⟨xd, rfl, hxd, hyd, E⟩
        have E2 : Hid _ := E
        clear E
        refine ⟨_, rfl, ⟨E2.out.bx, YK.out _ _ _ E2.out⟩, ?_⟩
        simp only [Act.put, List.setIfInBounds_toArray, List.set_cons_zero, List.set_cons_succ]
        refine callHd (f := 12) (i := 3) ⟨rfl, rfl⟩ (by decide) (by kernel_rfl) rfl ?cc ((dec_rdK xd V2 (by omega) (by omega)).mono ?_)
        case cc => go_simp
        rintro _ V3 ⟨sd, rfl, hsd, hbd⟩
        have E3 : Hid _ := E2.out.below hbd
        have zd : Hid ((⟨#[120]⟩ ++ sd : ByteArray).size ≤ maxLen) := by show (⟨#[120]⟩ ++ sd : ByteArray).size ≤ maxLen; rw [ByteArray.size_append]; have : (⟨#[120]⟩ : ByteArray).size = 1 := rfl; unfold maxLen; omega
        refine ⟨_, rfl, ⟨E3.out.bx, YK.out _ _ _ E3.out⟩, ?_⟩
        simp only [Act.put, List.setIfInBounds_toArray, List.set_cons_zero, List.set_cons_succ]
        refine takeHQ (f := 11) (i := 4) (.string (⟨#[120]⟩ ++ sd)) ⟨rfl, rfl⟩ (by kernel_rfl) rfl ⟨E3.out.bx, YK.out _ _ _ E3.out⟩ ?ta ?_
        case ta => intro v hv; have hq1 : ((⟨#[120]⟩ : ByteArray).size : Int) ≤ 8388608 := (by decide); have hq2 : (sd.size : Int) ≤ 8388608 := (by omega); have hq3 := run_string_add (P := Try.prog) (w := v) (⟨#[120]⟩ : ByteArray) sd hq1 hq2; go_simp
        simp only [Act.put, List.setIfInBounds_toArray, List.set_cons_zero, List.set_cons_succ]
        refine callHd (f := 10) (i := 11) ⟨rfl, rfl⟩ (by decide) (by kernel_rfl) rfl ?cc ((pick_ds E3.out (by omega) n2 (by omega) (by omega)).mono ?_)
        case cc => go_simp
        rintro _ V4 ⟨xj1, rfl, hxj1, hyj1, E⟩
        have E4 : Hid _ := E
        clear E
        obtain ⟨j1, rfl⟩ := Int.eq_ofNat_of_zero_le hxj1
        have lj1 : ((j1 : Int) < (n2 : Int)) := by omega
        have mj1 : j1 < X.pp.length := by omega
        refine ⟨_, rfl, ⟨E4.out.bx, YK.out _ _ _ E4.out⟩, ?_⟩
        simp only [Act.put, List.setIfInBounds_toArray, List.set_cons_zero, List.set_cons_succ]
        refine takeHQ (f := 9) (i := 12) (.pointer (some ⟨gp, j1 * 3, none⟩)) ⟨rfl, rfl⟩ (by kernel_rfl) rfl ⟨E4.out.bx, YK.out _ _ _ E4.out⟩ ?ta ?_
        case ta => intro v hv; go_simp
        simp only [Act.put, List.setIfInBounds_toArray, List.set_cons_zero, List.set_cons_succ]
        refine takeHQ (f := 8) (i := 13) (.pointer (some ⟨gp, j1 * 3, none⟩)) ⟨rfl, rfl⟩ (by kernel_rfl) rfl ⟨E4.out.bx, YK.out _ _ _ E4.out⟩ ?ta ?_
        case ta => intro v hv; go_simp
        simp only [Act.put, List.setIfInBounds_toArray, List.set_cons_zero, List.set_cons_succ]
        refine takeHQ (f := 7) (i := 14) (.string (X.pp[j1]).1) ⟨rfl, rfl⟩ (by kernel_rfl) rfl ⟨E4.out.bx, YK.out _ _ _ E4.out⟩ ?ta ?_
        case ta => intro v hv; have cy_ := hv.2 j1 mj1; go_simp
        simp only [Act.put, List.setIfInBounds_toArray, List.set_cons_zero, List.set_cons_succ]
        refine callHd (f := 6) (i := 21) ⟨rfl, rfl⟩ (by decide) (by kernel_rfl) rfl ?cc ((pick_ds E4.out (by omega) n2 (by omega) (by omega)).mono ?_)
        case cc => go_simp
        rintro _ V5 ⟨xj2, rfl, hxj2, hyj2, E⟩
        have E5 : Hid _ := E
        clear E
        obtain ⟨j2, rfl⟩ := Int.eq_ofNat_of_zero_le hxj2
        have lj2 : ((j2 : Int) < (n2 : Int)) := by omega
        have mj2 : j2 < X.pp.length := by omega
        refine ⟨_, rfl, ⟨E5.out.bx, YK.out _ _ _ E5.out⟩, ?_⟩
        simp only [Act.put, List.setIfInBounds_toArray, List.set_cons_zero, List.set_cons_succ]
        refine takeHQ (f := 5) (i := 22) (.pointer (some ⟨gp, j2 * 3, none⟩)) ⟨rfl, rfl⟩ (by kernel_rfl) rfl ⟨E5.out.bx, YK.out _ _ _ E5.out⟩ ?ta ?_
        case ta => intro v hv; go_simp
        simp only [Act.put, List.setIfInBounds_toArray, List.set_cons_zero, List.set_cons_succ]
        refine takeHQ (f := 4) (i := 23) (.pointer (some ⟨gp, j2 * 3, none⟩)) ⟨rfl, rfl⟩ (by kernel_rfl) rfl ⟨E5.out.bx, YK.out _ _ _ E5.out⟩ ?ta ?_
        case ta => intro v hv; go_simp
        simp only [Act.put, List.setIfInBounds_toArray, List.set_cons_zero, List.set_cons_succ]
        refine takeHQ (f := 3) (i := 24) (.string (X.pp[j2]).1) ⟨rfl, rfl⟩ (by kernel_rfl) rfl ⟨E5.out.bx, YK.out _ _ _ E5.out⟩ ?ta ?_
        case ta => intro v hv; have cy_ := hv.2 j2 mj2; go_simp
        simp only [Act.put, List.setIfInBounds_toArray, List.set_cons_zero, List.set_cons_succ]
        refine callHd (f := 2) (i := 27) ⟨rfl, rfl⟩ (by decide) (by kernel_rfl) rfl ?cc ((of_ds E5.out (by omega) (fun b => b = wr.drew.heap.size) _ _ (AtL.same hat.out (fun b hb => E5.out.bt.block b (by have e : b = wr.drew.heap.size := hb; omega) (by have e : b = wr.drew.heap.size := hb; have := E0.out.size; have := E0.out.low; omega))) (fun b hb => by have := E5.out.size; have := E0.out.size; have := E0.out.low; exact ⟨by omega, by omega⟩) (by decide) (by decide)).mono ?_)
        case cc => go_simp
        rintro _ V6 ⟨st, hst, rfl, E⟩
        have E6 : Hid _ := E.rebase BL.out z9b
        clear E
        have zst : Hid (st.size ≤ maxLen) := by show st.size ≤ maxLen; simp at hst; rcases hst with rfl | rfl <;> (unfold maxLen; decide)
        refine ⟨_, rfl, ⟨E6.out.bx, YK.out _ _ _ E6.out⟩, ?_⟩
        simp only [Act.put, List.setIfInBounds_toArray, List.set_cons_zero, List.set_cons_succ]
        obtain ⟨V7, hV7⟩ : ∃ Z, Z = V6.alloc (.cells #[.string ⟨#[118, 97, 108, 118, 101]⟩, .string (⟨#[120]⟩ ++ sd), .string (X.pp[j1]).1, .string (X.pp[j2]).1, .string st] 9) := ⟨_, rfl⟩
        have bl7 : Below V6.heap.size V6 V7 := by rw [hV7]; exact (Below.refl _ _).alloc (Nat.le_refl _) _
        have E7 : Hid _ := E6.out.below bl7
        have LL : Hid (V7.heap[V6.heap.size]? = some (.cells #[.string ⟨#[118, 97, 108, 118, 101]⟩, .string (⟨#[120]⟩ ++ sd), .string (X.pp[j1]).1, .string (X.pp[j2]).1, .string st] 9 (0, 0))) := by rw [hV7]; exact heap_alloc_new _ _
        refine oneHd (f := 1) (i := 28) (.slice (some ⟨V6.heap.size, 0, none⟩) 5 5) V7 ⟨rfl, rfl⟩ (by decide) (by kernel_rfl) rfl ?cb28 ⟨E7.out.bx, YK.out _ _ _ E7.out⟩ ?_
        case cb28 => rw [hV7]; go_simp
        clear hV7
        simp only [Act.put, List.setIfInBounds_toArray, List.set_cons_zero, List.set_cons_succ]
        have GS : Hid (∀ s ∈ ([⟨#[118, 97, 108, 118, 101]⟩, (⟨#[120]⟩ ++ sd), (X.pp[j1]).1, (X.pp[j2]).1, st] : List ByteArray), s.size ≤ maxLen) := fun s hs => by
          simp only [List.mem_cons, List.not_mem_nil, or_false] at hs
          rcases hs with rfl | rfl | rfl | rfl | rfl
          · exact Nat.le_of_ble_eq_true rfl
          · exact zd.out
          · exact (D1.out.ok.p _ (List.getElem_mem mj1)).1
          · exact (D1.out.ok.p _ (List.getElem_mem mj2)).1
          · exact zst.out
        refine callHd (f := 0) (i := 29) ⟨rfl, rfl⟩ (by decide) (by kernel_rfl) rfl ?ct29 ((try_ex (w.heap.size + 1 + 1 + 1) _ _ _ _ (.slice (some ⟨V6.heap.size, 0, none⟩) 5 5) X V7 E7.out.pl E7.out.ok (fun U hU => put_valve (w.heap.size + 1 + 1 + 1) _ _ _ _ X V6.heap.size 5 (gl [⟨#[118, 97, 108, 118, 101]⟩, (⟨#[120]⟩ ++ sd), (X.pp[j1]).1, (X.pp[j2]).1, st]) U (E7.out.pl.below hU) E7.out.ok (by omega) (gl_at (l := [⟨#[118, 97, 108, 118, 101]⟩, (⟨#[120]⟩ ++ sd), (X.pp[j1]).1, (X.pp[j2]).1, st]) (box_stableP hU LL.out)) (gl_sz GS.out) (Nat.le_trans (Nat.le_trans E7.out.low.2.2 E7.out.size) hU.size) rfl)).mono ?_)
        case ct29 => go_simp
        rintro _ Vz ⟨u0', u1', u2', u3', Y, rfl, hp4, ho4, hb4⟩
        obtain ⟨p0, k0, rfl⟩ := Row.form hp4.s
        obtain ⟨p1, k1, rfl⟩ := Row.form hp4.f
        obtain ⟨p2, k2, rfl⟩ := Row.form hp4.p
        obtain ⟨p3, k3, rfl⟩ := Row.form hp4.v
        have DZ : Hid _ := E7.out.below hb4
        have D5 : Hid _ := DZ.out.store hp4 ho4
        refine ⟨_, rfl, ⟨DZ.out.bx, YK.out _ _ _ DZ.out⟩, ?_⟩
        simp only [Act.put, List.setIfInBounds_toArray, List.set_cons_zero, List.set_cons_succ]
        refine ⟨by kernel_rfl, ?_⟩
        simp only [List.drop_succ_cons, List.drop_zero]
        obtain ⟨zr0, tzr0⟩ := cell_row (DZ.out.bx) 0 _ rfl
        obtain ⟨zr1, tzr1⟩ := cell_row (DZ.out.bx) 1 _ rfl
        obtain ⟨zr2, tzr2⟩ := cell_row (DZ.out.bx) 2 _ rfl
        obtain ⟨zr3, tzr3⟩ := cell_row (DZ.out.bx) 3 _ rfl
        simp only [List.getElem_toArray, List.getElem_cons_zero, List.getElem_cons_succ] at zr0 zr1 zr2 zr3
        go_wp2_with fail
        go_roundw
        case rel => exact ⟨k - 1, by omega, by first | exact dec_k (by omega) | go_num, ⟨_, _, _, _, _, D5.out.up (by omega)⟩⟩
        case measure => simp [intOf]; omega
  case rest =>
    exact hK _ _ _ (by rfl) hcut
end Go.Proofs.Ytgjcppdeljoimaa
