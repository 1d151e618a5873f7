import Derived.Test.YtgjcppdeljoimaaM18
namespace Go.Proofs.Ytgjcppdeljoimaa
open Go.RowKit Go.Sort
set_option maxRecDepth 100000 in
set_option maxHeartbeats 4000000 in
theorem spo4 (R P Qb : Nat) (ob : Option Addr) (n cb : Nat) (f : Nat → Int) (w u : World) (v0 v1 v2 v3 : Value) (X : PlL) (c : Int) (_hc : c ≤ 75000) {Q : Exit → Act → World → Prop} {code : Code} (m : Int) (hm0 : 0 ≤ m) (hm : m ≤ 9) (t1 t2 t3 t4 t6 t7 t8 t11 t12 t13 t14 : Value) (xs : List Value) (hx : xs.length = 221) (E0 : Es R P Qb w ob n cb f v0 v1 v2 v3 X c u) (hcode : code = blk 4 Try.f29)
    (hK : ∀ (y : Value) (ys : List Value) (wr : World), ys.length = 221 → Est R P Qb w ob n cb f c wr → Q .normal ⟨(.pointer (some ⟨R, 0, none⟩) :: t1 :: t2 :: t3 :: t4 :: .pointer (some ⟨P, 0, none⟩) :: t6 :: t7 :: t8 :: .int .i64 m :: y :: t11 :: t12 :: t13 :: t14 :: ys).toArray, []⟩ wr) :
    Code.wp Try.prog code Q ⟨(.pointer (some ⟨R, 0, none⟩) :: t1 :: t2 :: t3 :: t4 :: .pointer (some ⟨P, 0, none⟩) :: t6 :: t7 :: t8 :: .int .i64 m :: .int .i64 0 :: t11 :: t12 :: t13 :: t14 :: xs).toArray, []⟩ u := by
  obtain ⟨m, rfl⟩ := Int.eq_ofNat_of_zero_le hm0
  refine wp_then ?_
  obtain ⟨K, hKK⟩ : ∃ K : Act → World → Prop, K = fun a w => Q .normal a w := ⟨_, rfl⟩
  rw [← hKK]
  obtain ⟨g, rfl⟩ := len221 hx
  clear hx
  dsimp only
  subst hcode
  conv => arg 2; whnf
  go_cut [] from 15 (fun wr => Hid (Est R P Qb w ob n cb f c wr))
  case first =>
    go_wp2_with fail
    go_loopw [10] (fun i wr => ∃ (k : Nat) (v0 v1 v2 v3 : Value) (X : PlL), k ≤ X.ss.length ∧ k ≤ 20 ∧ i = .int .i64 k ∧ Hid (Es R P Qb w ob n cb f v0 v1 v2 v3 X c wr)) (fun i _ => 40 - (intOf i).toNat)
    case atStart => exact ⟨0, _, _, _, _, X, Nat.zero_le _, by omega, rfl, E0⟩
    case round =>
      obtain ⟨k, v0, v1, v2, v3, X, hlen, hk20, rfl, hd⟩ := hrel
      by_cases hlt : X.ss.length < m
      case neg =>
        obtain ⟨o0, c0, rfl⟩ := Row.form hd.out.pl.s
        obtain ⟨o1, c1, rfl⟩ := Row.form hd.out.pl.f
        obtain ⟨o2, c2, rfl⟩ := Row.form hd.out.pl.p
        obtain ⟨o3, c3, rfl⟩ := Row.form hd.out.pl.v
        generalize en0 : X.ss.length = n0 at hd hlen hlt ⊢
        generalize en1 : X.ff.length = n1 at hd hlen hlt ⊢
        generalize en2 : X.pp.length = n2 at hd hlen hlt ⊢
        generalize en3 : X.vv.length = n3 at hd hlen hlt ⊢
        have D1 : Hid _ := hd.out
        have x0 := (cell_row D1.out.bx 0 (.slice o0 n0 c0) rfl).1
        have hge : decide ((n0 : Int) < (m : Int)) = false := by simp; omega
        have hge' : ¬ ((n0 : Int) < (m : Int)) := by omega
        go_wp2_with fail
        go_meet
        case rel => exact ⟨_, _, _, _, _, hd.out⟩
      obtain ⟨o0, c0, rfl⟩ := Row.form hd.out.pl.s
      obtain ⟨o1, c1, rfl⟩ := Row.form hd.out.pl.f
      obtain ⟨o2, c2, rfl⟩ := Row.form hd.out.pl.p
      obtain ⟨o3, c3, rfl⟩ := Row.form hd.out.pl.v
      generalize en0 : X.ss.length = n0 at hd hlen hlt ⊢
      generalize en1 : X.ff.length = n1 at hd hlen hlt ⊢
      generalize en2 : X.pp.length = n2 at hd hlen hlt ⊢
      generalize en3 : X.vv.length = n3 at hd hlen hlt ⊢
      have D1 : Hid _ := hd.out
      have x0 := (cell_row D1.out.bx 0 (.slice o0 n0 c0) rfl).1
      have hlt' : ((n0 : Int) < (m : Int)) := by omega
      have hltd : decide ((n0 : Int) < (m : Int)) = true := by simp; omega
      go_upto_region 40 with fail
      refine wp_region_movesC (fun v => v.heap[P]? = some (.cells #[.slice o0 n0 c0, .slice o1 n1 c1, .slice o2 n2 c2, .slice o3 n3 c3] 28 (0, 0))) 7 [] (by kernel_rfl) (by kernel_rfl) D1.out.bx ?_
      simp only [List.filterMap_nil, movD]
      have E0 : Hid _ := D1.out.below ((Below.refl _ _).drew)
      refine takeHQ (f := 6) (i := 0) (.pointer (some ⟨P, 0, none⟩)) ⟨rfl, rfl⟩ (by kernel_rfl) rfl E0.out.bx ?ta ?_
      case ta => intro v hv; go_simp
      simp only [Act.put, List.setIfInBounds_toArray, List.set_cons_zero, List.set_cons_succ]
      refine takeHQ (f := 5) (i := 1) (.slice o0 n0 c0) ⟨rfl, rfl⟩ (by kernel_rfl) rfl E0.out.bx ?ta ?_
      case ta => intro v hv; have c0_ := (cell_row hv 0 (.slice o0 n0 c0) rfl).1; go_simp
      simp only [Act.put, List.setIfInBounds_toArray, List.set_cons_zero, List.set_cons_succ]
      refine takeHQ (f := 4) (i := 2) (.int .i64 k) ⟨rfl, rfl⟩ (by kernel_rfl) rfl E0.out.bx ?ta ?_
      case ta => intro v hv; go_simp
      simp only [Act.put, List.setIfInBounds_toArray, List.set_cons_zero, List.set_cons_succ]
      refine takeHQ (f := 3) (i := 3) (.int .i64 (10 + (k : Int))) ⟨rfl, rfl⟩ (by kernel_rfl) rfl E0.out.bx ?ta ?_
      case ta => intro v hv; have hw : IntKind.i64.wrap (10 + (k : Int)) = 10 + (k : Int) := wrap_i64 _ (by omega) (by omega); go_simp
      simp only [Act.put, List.setIfInBounds_toArray, List.set_cons_zero, List.set_cons_succ]
      refine callHd (f := 2) (i := 4) ⟨rfl, rfl⟩ (by decide) (by kernel_rfl) rfl ?cc ((dec_rdK (10 + (k : Int)) wr.drew (by omega) (by omega)).mono ?_)
      case cc => go_simp
      rintro _ V1 ⟨sd, rfl, hsd, hbd⟩
      have E1 : Hid _ := E0.out.below hbd
      have hsz := hbd.size
      clear hsz
      have zd : Hid ((⟨#[122]⟩ ++ sd : ByteArray).size ≤ maxLen) := by show (⟨#[122]⟩ ++ sd : ByteArray).size ≤ maxLen; rw [ByteArray.size_append]; have : (⟨#[122]⟩ : ByteArray).size ≤ 2 := (by decide); unfold maxLen; omega
      refine ⟨_, rfl, E1.out.bx, ?_⟩
      simp only [Act.put, List.setIfInBounds_toArray, List.set_cons_zero, List.set_cons_succ]
      refine takeHQ (f := 1) (i := 5) (.string (⟨#[122]⟩ ++ sd)) ⟨rfl, rfl⟩ (by kernel_rfl) rfl E1.out.bx ?ta ?_
      case ta => intro v hv; have hq1 : ((⟨#[122]⟩ : ByteArray).size : Int) ≤ 8388608 := (by decide); have hq2 : (sd.size : Int) ≤ 8388608 := (by omega); have hq3 := run_string_add (P := Try.prog) (w := v) (⟨#[122]⟩ : ByteArray) sd hq1 hq2; go_simp
      simp only [Act.put, List.setIfInBounds_toArray, List.set_cons_zero, List.set_cons_succ]
      obtain ⟨V2, hV2⟩ : ∃ Z, Z = V1.alloc (.cells #[.string (⟨#[122]⟩ ++ sd)] 9) := ⟨_, rfl⟩
      obtain ⟨lB, hqB⟩ : ∃ l, l = V1.heap.size := ⟨_, rfl⟩
      have bl : Below V1.heap.size V1 V2 := by rw [hV2]; exact (Below.refl _ _).alloc (Nat.le_refl _) _
      have hsz : V1.heap.size < V2.heap.size := by rw [hV2]; simp
      have hatB : Hid (Src V2 (.slice (some ⟨lB, 0, none⟩) 1 1) 1 1 [.string (⟨#[122]⟩ ++ sd)]) := by rw [hV2, hqB]; exact src_one (⟨#[122]⟩ ++ sd) V1
      have E2 : Hid _ := E1.out.below bl
      refine oneHd (f := 0) (i := 6) (.slice (some ⟨lB, 0, none⟩) 1 1) V2 ⟨rfl, rfl⟩ (by decide) (by kernel_rfl) rfl ?cb E2.out.bx ?_
      case cb => rw [hV2, hqB]; go_simp
      have hlB : lB < V2.heap.size ∧ lB ≠ R := ⟨by omega, by have := E1.out.low; have := E1.out.size; omega⟩
      clear hV2 bl hsz hqB
      simp only [Act.put, List.setIfInBounds_toArray, List.set_cons_zero, List.set_cons_succ]
      refine ⟨by kernel_rfl, ?_⟩
      simp only [List.drop_succ_cons, List.drop_zero]
      have HOWN : Hid (V2.ownsRow w.heap.size 9 1 (.slice o0 n0 c0) n0 (enc 1 e1S X.ss)) := by
        have := E2.out.pl.s
        rw [Row, en0] at this
        exact this
      have szk := E2.out.size
      go_wp2_with (first
        | (at_builtin; refine wpList_app elS1 rfl _ _ rfl rfl rfl HOWN.out hatB.out (by intro z hz; simp at hz; first | (subst hz; rfl) | (rcases hz with rfl | rfl <;> rfl) | (rcases hz with rfl | rfl | rfl <;> rfl) | (rcases hz with rfl | rfl | rfl | rfl <;> rfl)) (by unfold maxLen; omega) (by omega) (by omega) ?_; intro v' u8 hown hgr0 _; obtain ⟨ov', kv', rfl⟩ := own_form hown; have hgr : V2.grownBy u8 (Value.slice o0 n0 c0).ownBlock := hgr0; have hb8 := (E2.out.turn hgr (fun q hq => ⟨(World.ownsRow.lt E2.out.pl.s q hq).1, row_ne E2.out.pl.s E2.out.bx (by decide) q hq, row_ne E2.out.pl.s E2.out.bq (by decide) q hq⟩)).2.2.1; obtain ⟨zc8, zf8⟩ := cell_row hb8 0 _ rfl))
      have ROW8 : Row u8 w.heap.size 9 1 e1S (.slice ov' (n0 + 1) kv') (X.ss ++ [(⟨#[122]⟩ ++ sd)]) := by
        show World.ownsRow _ _ _ _ _ _ _
        rw [List.length_append, enc_append, en0]
        exact hown
      have D8 := E2.out.growS hgr ROW8 (zd.out) (by omega)
      go_wp2_with fail
      go_roundw
      case rel => exact ⟨k + 1, _, _, _, _, _, by show k + 1 ≤ (X.ss ++ [_]).length; simp; omega, by omega, by go_num, D8⟩
      case measure => simp [intOf]; omega
  case rest =>
    rw [hKK]
    show Q .normal _ _
    exact hK _ _ _ (by rfl) hcut
set_option maxRecDepth 100000 in
set_option maxHeartbeats 4000000 in
theorem spo6 (R P Qb : Nat) (ob : Option Addr) (n cb : Nat) (f : Nat → Int) (w u : World) (v0 v1 v2 v3 : Value) (X : PlL) (c : Int) (_hc : c ≤ 75000) {Q : Exit → Act → World → Prop} {code : Code} (m : Int) (hm0 : 0 ≤ m) (hm : m ≤ 15) (t1 t2 t3 t4 t6 t7 t8 t9 t10 t13 t14 : Value) (xs : List Value) (hx : xs.length = 221) (E0 : Es R P Qb w ob n cb f v0 v1 v2 v3 X c u) (hcode : code = blk 6 Try.f29)
    (hK : ∀ (y : Value) (ys : List Value) (wr : World), ys.length = 221 → Est R P Qb w ob n cb f c wr → Q .normal ⟨(.pointer (some ⟨R, 0, none⟩) :: t1 :: t2 :: t3 :: t4 :: .pointer (some ⟨P, 0, none⟩) :: t6 :: t7 :: t8 :: t9 :: t10 :: .int .i64 m :: y :: t13 :: t14 :: ys).toArray, []⟩ wr) :
    Code.wp Try.prog code Q ⟨(.pointer (some ⟨R, 0, none⟩) :: t1 :: t2 :: t3 :: t4 :: .pointer (some ⟨P, 0, none⟩) :: t6 :: t7 :: t8 :: t9 :: t10 :: .int .i64 m :: .int .i64 0 :: t13 :: t14 :: xs).toArray, []⟩ u := by
  obtain ⟨m, rfl⟩ := Int.eq_ofNat_of_zero_le hm0
  refine wp_then ?_
  obtain ⟨K, hKK⟩ : ∃ K : Act → World → Prop, K = fun a w => Q .normal a w := ⟨_, rfl⟩
  rw [← hKK]
  obtain ⟨g, rfl⟩ := len221 hx
  clear hx
  dsimp only
  subst hcode
  conv => arg 2; whnf
  go_cut [] from 15 (fun wr => Hid (Est R P Qb w ob n cb f c wr))
  case first =>
    go_wp2_with fail
    go_loopw [12] (fun i wr => ∃ (k : Nat) (v0 v1 v2 v3 : Value) (X : PlL), k ≤ X.pp.length ∧ k ≤ 20 ∧ i = .int .i64 k ∧ Hid (Es R P Qb w ob n cb f v0 v1 v2 v3 X c wr)) (fun i _ => 40 - (intOf i).toNat)
    case atStart => exact ⟨0, _, _, _, _, X, Nat.zero_le _, by omega, rfl, E0⟩
    case round =>
      obtain ⟨k, v0, v1, v2, v3, X, hlen, hk20, rfl, hd⟩ := hrel
      by_cases hlt : X.pp.length < m
      case neg =>
        obtain ⟨o0, c0, rfl⟩ := Row.form hd.out.pl.s
        obtain ⟨o1, c1, rfl⟩ := Row.form hd.out.pl.f
        obtain ⟨o2, c2, rfl⟩ := Row.form hd.out.pl.p
        obtain ⟨o3, c3, rfl⟩ := Row.form hd.out.pl.v
        generalize en0 : X.ss.length = n0 at hd hlen hlt ⊢
        generalize en1 : X.ff.length = n1 at hd hlen hlt ⊢
        generalize en2 : X.pp.length = n2 at hd hlen hlt ⊢
        generalize en3 : X.vv.length = n3 at hd hlen hlt ⊢
        have D1 : Hid _ := hd.out
        have x2 := (cell_row D1.out.bx 2 (.slice o2 n2 c2) rfl).1
        have hge : decide ((n2 : Int) < (m : Int)) = false := by simp; omega
        have hge' : ¬ ((n2 : Int) < (m : Int)) := by omega
        go_wp2_with fail
        go_meet
        case rel => exact ⟨_, _, _, _, _, hd.out⟩
      obtain ⟨o0, c0, rfl⟩ := Row.form hd.out.pl.s
      obtain ⟨o1, c1, rfl⟩ := Row.form hd.out.pl.f
      obtain ⟨o2, c2, rfl⟩ := Row.form hd.out.pl.p
      obtain ⟨o3, c3, rfl⟩ := Row.form hd.out.pl.v
      generalize en0 : X.ss.length = n0 at hd hlen hlt ⊢
      generalize en1 : X.ff.length = n1 at hd hlen hlt ⊢
      generalize en2 : X.pp.length = n2 at hd hlen hlt ⊢
      generalize en3 : X.vv.length = n3 at hd hlen hlt ⊢
      have D1 : Hid _ := hd.out
      have x2 := (cell_row D1.out.bx 2 (.slice o2 n2 c2) rfl).1
      have hlt' : ((n2 : Int) < (m : Int)) := by omega
      have hltd : decide ((n2 : Int) < (m : Int)) = true := by simp; omega
      go_upto_region 46 with fail
      refine wp_region_movesC (fun v => v.heap[P]? = some (.cells #[.slice o0 n0 c0, .slice o1 n1 c1, .slice o2 n2 c2, .slice o3 n3 c3] 28 (0, 0))) 8 [] (by kernel_rfl) (by kernel_rfl) D1.out.bx ?_
      simp only [List.filterMap_nil, movD]
      have E0 : Hid _ := D1.out.below ((Below.refl _ _).drew)
      refine takeHQ (f := 7) (i := 0) (.pointer (some ⟨P, 2, none⟩)) ⟨rfl, rfl⟩ (by kernel_rfl) rfl E0.out.bx ?ta ?_
      case ta => intro v hv; go_simp
      simp only [Act.put, List.setIfInBounds_toArray, List.set_cons_zero, List.set_cons_succ]
      refine takeHQ (f := 6) (i := 1) (.slice o2 n2 c2) ⟨rfl, rfl⟩ (by kernel_rfl) rfl E0.out.bx ?ta ?_
      case ta => intro v hv; have c2_ := (cell_row hv 2 (.slice o2 n2 c2) rfl).1; go_simp
      simp only [Act.put, List.setIfInBounds_toArray, List.set_cons_zero, List.set_cons_succ]
      refine takeHQ (f := 5) (i := 2) (.int .i64 k) ⟨rfl, rfl⟩ (by kernel_rfl) rfl E0.out.bx ?ta ?_
      case ta => intro v hv; go_simp
      simp only [Act.put, List.setIfInBounds_toArray, List.set_cons_zero, List.set_cons_succ]
      refine takeHQ (f := 4) (i := 3) (.int .i64 (10 + (k : Int))) ⟨rfl, rfl⟩ (by kernel_rfl) rfl E0.out.bx ?ta ?_
      case ta => intro v hv; have hw : IntKind.i64.wrap (10 + (k : Int)) = 10 + (k : Int) := wrap_i64 _ (by omega) (by omega); go_simp
      simp only [Act.put, List.setIfInBounds_toArray, List.set_cons_zero, List.set_cons_succ]
      refine callHd (f := 3) (i := 4) ⟨rfl, rfl⟩ (by decide) (by kernel_rfl) rfl ?cc ((dec_rdK (10 + (k : Int)) wr.drew (by omega) (by omega)).mono ?_)
      case cc => go_simp
      rintro _ V1 ⟨sd, rfl, hsd, hbd⟩
      have E1 : Hid _ := E0.out.below hbd
      have hsz := hbd.size
      clear hsz
      have zd : Hid ((⟨#[122, 122]⟩ ++ sd : ByteArray).size ≤ maxLen) := by show (⟨#[122, 122]⟩ ++ sd : ByteArray).size ≤ maxLen; rw [ByteArray.size_append]; have : (⟨#[122, 122]⟩ : ByteArray).size ≤ 2 := (by decide); unfold maxLen; omega
      refine ⟨_, rfl, E1.out.bx, ?_⟩
      simp only [Act.put, List.setIfInBounds_toArray, List.set_cons_zero, List.set_cons_succ]
      refine takeHQ (f := 2) (i := 5) (.string (⟨#[122, 122]⟩ ++ sd)) ⟨rfl, rfl⟩ (by kernel_rfl) rfl E1.out.bx ?ta ?_
      case ta => intro v hv; have hq1 : ((⟨#[122, 122]⟩ : ByteArray).size : Int) ≤ 8388608 := (by decide); have hq2 : (sd.size : Int) ≤ 8388608 := (by omega); have hq3 := run_string_add (P := Try.prog) (w := v) (⟨#[122, 122]⟩ : ByteArray) sd hq1 hq2; go_simp
      simp only [Act.put, List.setIfInBounds_toArray, List.set_cons_zero, List.set_cons_succ]
      refine takeHQ (f := 1) (i := 6) (.agg #[.string (⟨#[122, 122]⟩ ++ sd), .int .i64 0, .string ⟨#[115]⟩]) ⟨rfl, rfl⟩ (by kernel_rfl) rfl E1.out.bx ?ta ?_
      case ta => intro v hv; go_simp
      simp only [Act.put, List.setIfInBounds_toArray, List.set_cons_zero, List.set_cons_succ]
      obtain ⟨V2, hV2⟩ : ∃ Z, Z = V1.alloc (.cells #[.string (⟨#[122, 122]⟩ ++ sd), .int .i64 0, .string ⟨#[115]⟩] 63) := ⟨_, rfl⟩
      obtain ⟨lB, hqB⟩ : ∃ l, l = V1.heap.size := ⟨_, rfl⟩
      have bl : Below V1.heap.size V1 V2 := by rw [hV2]; exact (Below.refl _ _).alloc (Nat.le_refl _) _
      have hsz : V1.heap.size < V2.heap.size := by rw [hV2]; simp
      have hatB : Hid (Src V2 (.slice (some ⟨lB, 0, none⟩) 1 1) 1 3 [.string (⟨#[122, 122]⟩ ++ sd), .int .i64 0, .string ⟨#[115]⟩]) := by rw [hV2, hqB]; exact src_cells _ 3 [.string (⟨#[122, 122]⟩ ++ sd), .int .i64 0, .string ⟨#[115]⟩] rfl V1
      have E2 : Hid _ := E1.out.below bl
      refine oneHd (f := 0) (i := 7) (.slice (some ⟨lB, 0, none⟩) 1 1) V2 ⟨rfl, rfl⟩ (by decide) (by kernel_rfl) rfl ?cb E2.out.bx ?_
      case cb => rw [hV2, hqB]; go_simp
      have hlB : lB < V2.heap.size ∧ lB ≠ R := ⟨by omega, by have := E1.out.low; have := E1.out.size; omega⟩
      clear hV2 bl hsz hqB
      simp only [Act.put, List.setIfInBounds_toArray, List.set_cons_zero, List.set_cons_succ]
      refine ⟨by kernel_rfl, ?_⟩
      simp only [List.drop_succ_cons, List.drop_zero]
      have HOWN : Hid (V2.ownsRow w.heap.size 63 3 (.slice o2 n2 c2) n2 (enc 3 e3P X.pp)) := by
        have := E2.out.pl.p
        rw [Row, en2] at this
        exact this
      have szk := E2.out.size
      go_wp2_with (first
        | (at_builtin; refine wpList_app elP3 rfl _ _ rfl rfl rfl HOWN.out hatB.out (by intro z hz; simp at hz; first | (subst hz; rfl) | (rcases hz with rfl | rfl <;> rfl) | (rcases hz with rfl | rfl | rfl <;> rfl) | (rcases hz with rfl | rfl | rfl | rfl <;> rfl)) (by unfold maxLen; omega) (by omega) (by omega) ?_; intro v' u8 hown hgr0 _; obtain ⟨ov', kv', rfl⟩ := own_form hown; have hgr : V2.grownBy u8 (Value.slice o2 n2 c2).ownBlock := hgr0; have hb8 := (E2.out.turn hgr (fun q hq => ⟨(World.ownsRow.lt E2.out.pl.p q hq).1, row_ne E2.out.pl.p E2.out.bx (by decide) q hq, row_ne E2.out.pl.p E2.out.bq (by decide) q hq⟩)).2.2.1; obtain ⟨zc8, zf8⟩ := cell_row hb8 2 _ rfl))
      have ROW8 : Row u8 w.heap.size 63 3 e3P (.slice ov' (n2 + 1) kv') (X.pp ++ [(⟨#[122, 122]⟩ ++ sd, 0, ⟨#[115]⟩)]) := by
        show World.ownsRow _ _ _ _ _ _ _
        rw [List.length_append, enc_append, en2]
        exact hown
      have D8 := E2.out.growP hgr ROW8 (⟨zd.out, by show (⟨#[115]⟩ : ByteArray).size ≤ maxLen; unfold maxLen; decide⟩) (by omega)
      go_wp2_with fail
      go_roundw
      case rel => exact ⟨k + 1, _, _, _, _, _, by show k + 1 ≤ (X.pp ++ [_]).length; simp; omega, by omega, by go_num, D8⟩
      case measure => simp [intOf]; omega
  case rest =>
    rw [hKK]
    show Q .normal _ _
    exact hK _ _ _ (by rfl) hcut
set_option maxRecDepth 100000 in
set_option maxHeartbeats 4000000 in
theorem spo1 (R P Qb : Nat) (ob : Option Addr) (n cb : Nat) (f : Nat → Int) (w u : World) (v0 v1 v2 v3 : Value) (X : PlL) (c : Int) (_hc : c ≤ 75000) {Q : Exit → Act → World → Prop} {code : Code} (m : Int) (hm0 : 0 ≤ m) (hm : m ≤ 19) (t1 t2 t3 t4 t6 t7 t8 t9 t10 t11 t12 : Value) (xs : List Value) (hx : xs.length = 221) (E0 : Es R P Qb w ob n cb f v0 v1 v2 v3 X c u) (hcode : code = blk 1 Try.f29)
    (hK : ∀ (y : Value) (ys : List Value) (wr : World), ys.length = 221 → Est R P Qb w ob n cb f c wr → Q .normal ⟨(.pointer (some ⟨R, 0, none⟩) :: t1 :: t2 :: t3 :: t4 :: .pointer (some ⟨P, 0, none⟩) :: t6 :: t7 :: t8 :: t9 :: t10 :: t11 :: t12 :: .int .i64 m :: y :: ys).toArray, []⟩ wr) :
    Code.wp Try.prog code Q ⟨(.pointer (some ⟨R, 0, none⟩) :: t1 :: t2 :: t3 :: t4 :: .pointer (some ⟨P, 0, none⟩) :: t6 :: t7 :: t8 :: t9 :: t10 :: t11 :: t12 :: .int .i64 m :: .int .i64 0 :: xs).toArray, []⟩ u := by
  obtain ⟨m, rfl⟩ := Int.eq_ofNat_of_zero_le hm0
  refine wp_then ?_
  obtain ⟨K, hKK⟩ : ∃ K : Act → World → Prop, K = fun a w => Q .normal a w := ⟨_, rfl⟩
  rw [← hKK]
  obtain ⟨g, rfl⟩ := len221 hx
  clear hx
  dsimp only
  subst hcode
  conv => arg 2; whnf
  go_cut [] from 15 (fun wr => Hid (Est R P Qb w ob n cb f c wr))
  case first =>
    go_wp2_with fail
    go_loopw [14] (fun i wr => ∃ (k : Nat) (v0 v1 v2 v3 : Value) (X : PlL), k ≤ X.vv.length ∧ k ≤ 20 ∧ i = .int .i64 k ∧ Hid (Es R P Qb w ob n cb f v0 v1 v2 v3 X c wr)) (fun i _ => 40 - (intOf i).toNat)
    case atStart => exact ⟨0, _, _, _, _, X, Nat.zero_le _, by omega, rfl, E0⟩
    case round =>
      obtain ⟨k, v0, v1, v2, v3, X, hlen, hk20, rfl, hd⟩ := hrel
      by_cases hlt : X.vv.length < m
      case neg =>
        obtain ⟨o0, c0, rfl⟩ := Row.form hd.out.pl.s
        obtain ⟨o1, c1, rfl⟩ := Row.form hd.out.pl.f
        obtain ⟨o2, c2, rfl⟩ := Row.form hd.out.pl.p
        obtain ⟨o3, c3, rfl⟩ := Row.form hd.out.pl.v
        generalize en0 : X.ss.length = n0 at hd hlen hlt ⊢
        generalize en1 : X.ff.length = n1 at hd hlen hlt ⊢
        generalize en2 : X.pp.length = n2 at hd hlen hlt ⊢
        generalize en3 : X.vv.length = n3 at hd hlen hlt ⊢
        have D1 : Hid _ := hd.out
        have x3 := (cell_row D1.out.bx 3 (.slice o3 n3 c3) rfl).1
        have x2 := (cell_row D1.out.bx 2 (.slice o2 n2 c2) rfl).1
        have hge : decide ((n3 : Int) < (m : Int)) = false := by simp; omega
        have hge' : ¬ ((n3 : Int) < (m : Int)) := by omega
        go_wp2_with fail
        go_meet
        case rel => exact ⟨_, _, _, _, _, hd.out⟩
      obtain ⟨o0, c0, rfl⟩ := Row.form hd.out.pl.s
      obtain ⟨o1, c1, rfl⟩ := Row.form hd.out.pl.f
      obtain ⟨o2, c2, rfl⟩ := Row.form hd.out.pl.p
      obtain ⟨o3, c3, rfl⟩ := Row.form hd.out.pl.v
      generalize en0 : X.ss.length = n0 at hd hlen hlt ⊢
      generalize en1 : X.ff.length = n1 at hd hlen hlt ⊢
      generalize en2 : X.pp.length = n2 at hd hlen hlt ⊢
      generalize en3 : X.vv.length = n3 at hd hlen hlt ⊢
      have D1 : Hid _ := hd.out
      have x3 := (cell_row D1.out.bx 3 (.slice o3 n3 c3) rfl).1
      have x2 := (cell_row D1.out.bx 2 (.slice o2 n2 c2) rfl).1
      have hlt' : ((n3 : Int) < (m : Int)) := by omega
      have hltd : decide ((n3 : Int) < (m : Int)) = true := by simp; omega
      by_cases hp1 : 1 < n2
      case neg =>
        have hk1 : decide ((1 : Int) < (n2 : Int)) = false := by simp; omega
        have hk2 : ¬ ((1 : Int) < (n2 : Int)) := by omega
        go_wp2_with fail
        go_meet
        case rel => exact ⟨_, _, _, _, _, hd.out⟩
      have hk1 : decide ((1 : Int) < (n2 : Int)) = true := by simp; omega
      have hk2 : ((1 : Int) < (n2 : Int)) := by omega
      have hn0 : ¬ n2 = 0 := by omega
      go_upto_region 7 with fail
      clear x2
      obtain ⟨gq, cap', e', _, hgl, hcell⟩ := Row.cell D1.out.pl.p (i := 0) (by omega)
      injection e' with e1 e2 e3
      subst e1
      clear e2 e3 hcell
      have YK : Hid (∀ (c : Int) (v : World), Es R P Qb w ob n cb f (.slice o0 n0 c0) (.slice o1 n1 c1) (.slice (some ⟨gq, 0, none⟩) n2 c2) (.slice o3 n3 c3) X c v → v.cell? ⟨gq, 0, none⟩ = some (.string (X.pp[0]'(by omega)).1) ∧ v.cell? ⟨gq, 3, none⟩ = some (.string (X.pp[1]'(by omega)).1)) := fun c v h => by
        have key : ∀ (j : Nat) (hj : j < X.pp.length), v.cell? ⟨gq, j * 3, none⟩ = some (.string (X.pp[j]).1) := fun j hj => by
          obtain ⟨g', c', e4, _, _, hcell⟩ := Row.cell h.pl.p hj
          injection e4 with h1 _ _
          injection h1 with h1
          injection h1 with h1
          subst h1
          exact (hcell 0 (by omega)).1
        exact ⟨key 0 (by omega), key 1 (by omega)⟩
      have zA : Hid ((X.pp[0]'(by omega)).1.size ≤ maxLen) := (D1.out.ok.p _ (List.getElem_mem (by omega))).1
      have zB : Hid ((X.pp[1]'(by omega)).1.size ≤ maxLen) := (D1.out.ok.p _ (List.getElem_mem (by omega))).1
      generalize (X.pp[0]'(by omega)).1 = nA at YK zA
      generalize (X.pp[1]'(by omega)).1 = nB at YK zB
      have Y1 : Hid _ := YK.out _ _ D1.out
      refine wp_region_movesC (fun v => v.heap[P]? = some (.cells #[.slice o0 n0 c0, .slice o1 n1 c1, .slice (some ⟨gq, 0, none⟩) n2 c2, .slice o3 n3 c3] 28 (0, 0)) ∧ v.cell? ⟨gq, 0, none⟩ = some (.string nA) ∧ v.cell? ⟨gq, 3, none⟩ = some (.string nB)) 18 [] (by kernel_rfl) (by kernel_rfl) ⟨D1.out.bx, Y1.out⟩ ?_
      simp only [List.filterMap_nil, movD]
      have E0 : Hid _ := D1.out.below ((Below.refl _ _).drew)
      refine takeHQ (f := 17) (i := 0) (.pointer (some ⟨P, 3, none⟩)) ⟨rfl, rfl⟩ (by kernel_rfl) rfl ⟨E0.out.bx, YK.out _ _ E0.out⟩ ?ta ?_
      case ta => intro v hv; go_simp
      simp only [Act.put, List.setIfInBounds_toArray, List.set_cons_zero, List.set_cons_succ]
      refine takeHQ (f := 16) (i := 1) (.slice o3 n3 c3) ⟨rfl, rfl⟩ (by kernel_rfl) rfl ⟨E0.out.bx, YK.out _ _ E0.out⟩ ?ta ?_
      case ta => intro v hv; have c3_ := (cell_row hv.1 3 (.slice o3 n3 c3) rfl).1; go_simp
      simp only [Act.put, List.setIfInBounds_toArray, List.set_cons_zero, List.set_cons_succ]
      refine takeHQ (f := 15) (i := 2) (.int .i64 k) ⟨rfl, rfl⟩ (by kernel_rfl) rfl ⟨E0.out.bx, YK.out _ _ E0.out⟩ ?ta ?_
      case ta => intro v hv; go_simp
      simp only [Act.put, List.setIfInBounds_toArray, List.set_cons_zero, List.set_cons_succ]
      refine takeHQ (f := 14) (i := 3) (.int .i64 (10 + (k : Int))) ⟨rfl, rfl⟩ (by kernel_rfl) rfl ⟨E0.out.bx, YK.out _ _ E0.out⟩ ?ta ?_
      case ta => intro v hv; have hw : IntKind.i64.wrap (10 + (k : Int)) = 10 + (k : Int) := wrap_i64 _ (by omega) (by omega); go_simp
      simp only [Act.put, List.setIfInBounds_toArray, List.set_cons_zero, List.set_cons_succ]
      refine takeHQ (f := 13) (i := 6) (.pointer (some ⟨P, 2, none⟩)) ⟨rfl, rfl⟩ (by kernel_rfl) rfl ⟨E0.out.bx, YK.out _ _ E0.out⟩ ?ta ?_
      case ta => intro v hv; go_simp
      simp only [Act.put, List.setIfInBounds_toArray, List.set_cons_zero, List.set_cons_succ]
      refine takeHQ (f := 12) (i := 7) (.slice (some ⟨gq, 0, none⟩) n2 c2) ⟨rfl, rfl⟩ (by kernel_rfl) rfl ⟨E0.out.bx, YK.out _ _ E0.out⟩ ?ta ?_
      case ta => intro v hv; have c2_ := (cell_row hv.1 2 (.slice (some ⟨gq, 0, none⟩) n2 c2) rfl).1; go_simp
      simp only [Act.put, List.setIfInBounds_toArray, List.set_cons_zero, List.set_cons_succ]
      refine takeHQ (f := 11) (i := 8) (.pointer (some ⟨gq, 0, none⟩)) ⟨rfl, rfl⟩ (by kernel_rfl) rfl ⟨E0.out.bx, YK.out _ _ E0.out⟩ ?ta ?_
      case ta => intro v hv; go_simp
      simp only [Act.put, List.setIfInBounds_toArray, List.set_cons_zero, List.set_cons_succ]
      refine takeHQ (f := 10) (i := 9) (.pointer (some ⟨gq, 0, none⟩)) ⟨rfl, rfl⟩ (by kernel_rfl) rfl ⟨E0.out.bx, YK.out _ _ E0.out⟩ ?ta ?_
      case ta => intro v hv; go_simp
      simp only [Act.put, List.setIfInBounds_toArray, List.set_cons_zero, List.set_cons_succ]
      refine takeHQ (f := 9) (i := 10) (.string nA) ⟨rfl, rfl⟩ (by kernel_rfl) rfl ⟨E0.out.bx, YK.out _ _ E0.out⟩ ?ta ?_
      case ta => intro v hv; have cy_ := hv.2.1; go_simp
      simp only [Act.put, List.setIfInBounds_toArray, List.set_cons_zero, List.set_cons_succ]
      refine takeHQ (f := 8) (i := 11) (.pointer (some ⟨P, 2, none⟩)) ⟨rfl, rfl⟩ (by kernel_rfl) rfl ⟨E0.out.bx, YK.out _ _ E0.out⟩ ?ta ?_
      case ta => intro v hv; go_simp
      simp only [Act.put, List.setIfInBounds_toArray, List.set_cons_zero, List.set_cons_succ]
      refine takeHQ (f := 7) (i := 12) (.slice (some ⟨gq, 0, none⟩) n2 c2) ⟨rfl, rfl⟩ (by kernel_rfl) rfl ⟨E0.out.bx, YK.out _ _ E0.out⟩ ?ta ?_
      case ta => intro v hv; have c2_ := (cell_row hv.1 2 (.slice (some ⟨gq, 0, none⟩) n2 c2) rfl).1; go_simp
      simp only [Act.put, List.setIfInBounds_toArray, List.set_cons_zero, List.set_cons_succ]
      refine takeHQ (f := 6) (i := 13) (.pointer (some ⟨gq, 3, none⟩)) ⟨rfl, rfl⟩ (by kernel_rfl) rfl ⟨E0.out.bx, YK.out _ _ E0.out⟩ ?ta ?_
      case ta => intro v hv; go_simp
      simp only [Act.put, List.setIfInBounds_toArray, List.set_cons_zero, List.set_cons_succ]
      refine takeHQ (f := 5) (i := 14) (.pointer (some ⟨gq, 3, none⟩)) ⟨rfl, rfl⟩ (by kernel_rfl) rfl ⟨E0.out.bx, YK.out _ _ E0.out⟩ ?ta ?_
      case ta => intro v hv; go_simp
      simp only [Act.put, List.setIfInBounds_toArray, List.set_cons_zero, List.set_cons_succ]
      refine takeHQ (f := 4) (i := 15) (.string nB) ⟨rfl, rfl⟩ (by kernel_rfl) rfl ⟨E0.out.bx, YK.out _ _ E0.out⟩ ?ta ?_
      case ta => intro v hv; have cy_ := hv.2.2; go_simp
      simp only [Act.put, List.setIfInBounds_toArray, List.set_cons_zero, List.set_cons_succ]
      refine callHd (f := 3) (i := 4) ⟨rfl, rfl⟩ (by decide) (by kernel_rfl) rfl ?cc ((dec_rdK (10 + (k : Int)) wr.drew (by omega) (by omega)).mono ?_)
      case cc => go_simp
      rintro _ V1 ⟨sd, rfl, hsd, hbd⟩
      have E1 : Hid _ := E0.out.below hbd
      have hsz := hbd.size
      clear hsz
      have zd : Hid ((⟨#[122, 122]⟩ ++ sd : ByteArray).size ≤ maxLen) := by show (⟨#[122, 122]⟩ ++ sd : ByteArray).size ≤ maxLen; rw [ByteArray.size_append]; have : (⟨#[122, 122]⟩ : ByteArray).size ≤ 2 := (by decide); unfold maxLen; omega
      refine ⟨_, rfl, ⟨E1.out.bx, YK.out _ _ E1.out⟩, ?_⟩
      simp only [Act.put, List.setIfInBounds_toArray, List.set_cons_zero, List.set_cons_succ]
      refine takeHQ (f := 2) (i := 5) (.string (⟨#[122, 122]⟩ ++ sd)) ⟨rfl, rfl⟩ (by kernel_rfl) rfl ⟨E1.out.bx, YK.out _ _ E1.out⟩ ?ta ?_
      case ta => intro v hv; have hq1 : ((⟨#[122, 122]⟩ : ByteArray).size : Int) ≤ 8388608 := (by decide); have hq2 : (sd.size : Int) ≤ 8388608 := (by omega); have hq3 := run_string_add (P := Try.prog) (w := v) (⟨#[122, 122]⟩ : ByteArray) sd hq1 hq2; go_simp
      simp only [Act.put, List.setIfInBounds_toArray, List.set_cons_zero, List.set_cons_succ]
      refine takeHQ (f := 1) (i := 16) (.agg #[.string (⟨#[122, 122]⟩ ++ sd), .string nA, .string nB, .string ⟨#[115]⟩]) ⟨rfl, rfl⟩ (by kernel_rfl) rfl ⟨E1.out.bx, YK.out _ _ E1.out⟩ ?ta ?_
      case ta => intro v hv; go_simp
      simp only [Act.put, List.setIfInBounds_toArray, List.set_cons_zero, List.set_cons_succ]
      obtain ⟨V2, hV2⟩ : ∃ Z, Z = V1.alloc (.cells #[.string (⟨#[122, 122]⟩ ++ sd), .string nA, .string nB, .string ⟨#[115]⟩] 53) := ⟨_, rfl⟩
      obtain ⟨lB, hqB⟩ : ∃ l, l = V1.heap.size := ⟨_, rfl⟩
      have bl : Below V1.heap.size V1 V2 := by rw [hV2]; exact (Below.refl _ _).alloc (Nat.le_refl _) _
      have hsz : V1.heap.size < V2.heap.size := by rw [hV2]; simp
      have hatB : Hid (Src V2 (.slice (some ⟨lB, 0, none⟩) 1 1) 1 4 [.string (⟨#[122, 122]⟩ ++ sd), .string nA, .string nB, .string ⟨#[115]⟩]) := by rw [hV2, hqB]; exact src_cells _ 4 [.string (⟨#[122, 122]⟩ ++ sd), .string nA, .string nB, .string ⟨#[115]⟩] rfl V1
      have E2 : Hid _ := E1.out.below bl
      refine oneHd (f := 0) (i := 17) (.slice (some ⟨lB, 0, none⟩) 1 1) V2 ⟨rfl, rfl⟩ (by decide) (by kernel_rfl) rfl ?cb ⟨E2.out.bx, YK.out _ _ E2.out⟩ ?_
      case cb => rw [hV2, hqB]; go_simp
      have hlB : lB < V2.heap.size ∧ lB ≠ R := ⟨by omega, by have := E1.out.low; have := E1.out.size; omega⟩
      clear hV2 bl hsz hqB
      simp only [Act.put, List.setIfInBounds_toArray, List.set_cons_zero, List.set_cons_succ]
      refine ⟨by kernel_rfl, ?_⟩
      simp only [List.drop_succ_cons, List.drop_zero]
      have HOWN : Hid (V2.ownsRow w.heap.size 53 4 (.slice o3 n3 c3) n3 (enc 4 e4V X.vv)) := by
        have := E2.out.pl.v
        rw [Row, en3] at this
        exact this
      have szk := E2.out.size
      go_wp2_with (first
        | (at_builtin; refine wpList_app elV4 rfl _ _ rfl rfl rfl HOWN.out hatB.out (by intro z hz; simp at hz; first | (subst hz; rfl) | (rcases hz with rfl | rfl <;> rfl) | (rcases hz with rfl | rfl | rfl <;> rfl) | (rcases hz with rfl | rfl | rfl | rfl <;> rfl)) (by unfold maxLen; omega) (by omega) (by omega) ?_; intro v' u8 hown hgr0 _; obtain ⟨ov', kv', rfl⟩ := own_form hown; have hgr : V2.grownBy u8 (Value.slice o3 n3 c3).ownBlock := hgr0; have hb8 := (E2.out.turn hgr (fun q hq => ⟨(World.ownsRow.lt E2.out.pl.v q hq).1, row_ne E2.out.pl.v E2.out.bx (by decide) q hq, row_ne E2.out.pl.v E2.out.bq (by decide) q hq⟩)).2.2.1; obtain ⟨zc8, zf8⟩ := cell_row hb8 3 _ rfl))
      have ROW8 : Row u8 w.heap.size 53 4 e4V (.slice ov' (n3 + 1) kv') (X.vv ++ [((⟨#[122, 122]⟩ ++ sd), nA, nB, ⟨#[115]⟩)]) := by
        show World.ownsRow _ _ _ _ _ _ _
        rw [List.length_append, enc_append, en3]
        exact hown
      have D8 := E2.out.growV hgr ROW8 (⟨zd.out, zA.out, zB.out, by show (⟨#[115]⟩ : ByteArray).size ≤ maxLen; unfold maxLen; decide⟩) (by omega)
      go_wp2_with fail
      go_roundw
      case rel => exact ⟨k + 1, _, _, _, _, _, by show k + 1 ≤ (X.vv ++ [_]).length; simp; omega, by omega, by go_num, D8⟩
      case measure => simp [intOf]; omega
  case rest =>
    rw [hKK]
    show Q .normal _ _
    exact hK _ _ _ (by rfl) hcut
end Go.Proofs.Ytgjcppdeljoimaa
