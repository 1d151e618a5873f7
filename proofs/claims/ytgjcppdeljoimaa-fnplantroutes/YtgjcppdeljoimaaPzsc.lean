import Derived.Test.YtgjcppdeljoimaaM18
namespace Go.Proofs.Ytgjcppdeljoimaa
open Go.RowKit Go.Sort
set_option maxRecDepth 100000 in
set_option maxHeartbeats 4000000 in
theorem spo9 (R P Qb : Nat) (ob : Option Addr) (n cb : Nat) (f : Nat → Int) (w u : World) (v0 v1 v2 v3 : Value) (X : PlL) (c : Int) (hc : c ≤ 75000) {Q : Exit → Act → World → Prop} {code : Code} (t1 t2 t3 t4 t6 t7 t8 t9 t10 t11 t12 t13 t14 : Value) (xs : List Value) (hx : xs.length = 221) (hl : X.ss.length < 20) (E0 : Es R P Qb w ob n cb f v0 v1 v2 v3 X c u) (hcode : code = reg 9 Try.f29)
    (hK : ∀ (ys : List Value) (wr : World), ys.length = 221 → Est R P Qb w ob n cb f (c + 3) wr → Q .normal ⟨(.pointer (some ⟨R, 0, none⟩) :: t1 :: t2 :: t3 :: t4 :: .pointer (some ⟨P, 0, none⟩) :: t6 :: t7 :: t8 :: t9 :: t10 :: t11 :: t12 :: t13 :: t14 :: ys).toArray, []⟩ wr) :
    Code.wp Try.prog code Q ⟨(.pointer (some ⟨R, 0, none⟩) :: t1 :: t2 :: t3 :: t4 :: .pointer (some ⟨P, 0, none⟩) :: t6 :: t7 :: t8 :: t9 :: t10 :: t11 :: t12 :: t13 :: t14 :: xs).toArray, []⟩ u := by
  obtain ⟨g, rfl⟩ := len221 hx
  clear hx
  dsimp only
  subst hcode
  conv => arg 2; whnf
  obtain ⟨o0, c0, rfl⟩ := Row.form E0.pl.s
  obtain ⟨o1, c1, rfl⟩ := Row.form E0.pl.f
  obtain ⟨o2, c2, rfl⟩ := Row.form E0.pl.p
  obtain ⟨o3, c3, rfl⟩ := Row.form E0.pl.v
  generalize en0 : X.ss.length = n0 at E0 ⊢
  generalize en1 : X.ff.length = n1 at E0 ⊢
  generalize en2 : X.pp.length = n2 at E0 ⊢
  generalize en3 : X.vv.length = n3 at E0 ⊢
  have D1 : Hid _ := E0
  clear E0
  refine wp_region_movesC (fun v => v.heap[P]? = some (.cells #[.slice o0 n0 c0, .slice o1 n1 c1, .slice o2 n2 c2, .slice o3 n3 c3] 28 (0, 0))) 6 [] (by kernel_rfl) (by kernel_rfl) D1.out.bx ?_
  simp only [List.filterMap_nil, movD]
  have E0 : Hid _ := D1.out.below ((Below.refl _ _).drew)
  refine takeHQ (f := 5) (i := 0) (.pointer (some ⟨P, 0, none⟩)) ⟨rfl, rfl⟩ (by kernel_rfl) rfl E0.out.bx ?ta ?_
  case ta => intro v hv; go_simp
  simp only [Act.put, List.setIfInBounds_toArray, List.set_cons_zero, List.set_cons_succ]
  refine takeHQ (f := 4) (i := 1) (.slice o0 n0 c0) ⟨rfl, rfl⟩ (by kernel_rfl) rfl E0.out.bx ?ta ?_
  case ta => intro v hv; have c0_ := (cell_row hv 0 (.slice o0 n0 c0) rfl).1; go_simp
  simp only [Act.put, List.setIfInBounds_toArray, List.set_cons_zero, List.set_cons_succ]
  refine takeHQ (f := 3) (i := 2) (.pointer (some ⟨R, 0, none⟩)) ⟨rfl, rfl⟩ (by kernel_rfl) rfl E0.out.bx ?ta ?_
  case ta => intro v hv; go_simp
  simp only [Act.put, List.setIfInBounds_toArray, List.set_cons_zero, List.set_cons_succ]
  obtain ⟨V1, hV1⟩ : ∃ Z, Z = u.drew.alloc (.cells (([⟨#[]⟩, ⟨#[65]⟩, ⟨#[97, 108, 101]⟩, ⟨#[122, 122]⟩] : List ByteArray).map Value.string).toArray 9) := ⟨_, rfl⟩
  obtain ⟨lA, hqA⟩ : ∃ l, l = u.drew.heap.size := ⟨_, rfl⟩
  have bl : Below u.drew.heap.size u.drew V1 := by rw [hV1]; exact (Below.refl _ _).alloc (Nat.le_refl _) _
  have hsz : u.drew.heap.size < V1.heap.size := by rw [hV1]; simp
  have hatA : Hid (AtL (fun b => b = lA) V1 ([⟨#[]⟩, ⟨#[65]⟩, ⟨#[97, 108, 101]⟩, ⟨#[122, 122]⟩] : List ByteArray) (.slice (some ⟨lA, 0, none⟩) 4 4)) := by rw [hV1, hqA]; exact lit_at 9 u.drew [⟨#[]⟩, ⟨#[65]⟩, ⟨#[97, 108, 101]⟩, ⟨#[122, 122]⟩] (by unfold maxLen; simp) (by intro s hs; simp at hs; rcases hs with rfl | rfl | rfl | rfl <;> first | (unfold maxLen; decide) | exact Nat.le_of_ble_eq_true rfl)
  have E1 : Hid _ := E0.out.below bl
  refine oneHd (f := 2) (i := 3) (.slice (some ⟨lA, 0, none⟩) 4 4) V1 ⟨rfl, rfl⟩ (by decide) (by kernel_rfl) rfl ?cb E1.out.bx ?_
  case cb => rw [hV1, hqA]; go_simp
  have hlA : lA < V1.heap.size ∧ lA ≠ R := ⟨by omega, by have := E0.out.low; have := E0.out.size; omega⟩
  clear hV1 bl hsz hqA
  simp only [Act.put, List.setIfInBounds_toArray, List.set_cons_zero, List.set_cons_succ]
  refine callHd (f := 1) (i := 4) ⟨rfl, rfl⟩ (by decide) (by kernel_rfl) rfl ?cc ((of_es E1.out (by omega) (fun b => b = lA) _ _ hatA.out (fun b hb => by have e : b = lA := hb; rw [e]; exact hlA) (Nat.le_of_ble_eq_true rfl) (Nat.le_of_ble_eq_true rfl)).mono ?_)
  case cc => go_simp
  rintro _ V2 ⟨s4, hss4, rfl, E, hB⟩
  have E2 : Hid _ := E
  have hsz := hB.size
  clear E hB hsz
  have zs4 : Hid (s4.size ≤ maxLen) := by show s4.size ≤ maxLen; simp at hss4; rcases hss4 with rfl | rfl | rfl | rfl <;> first | (unfold maxLen; decide) | exact Nat.le_of_ble_eq_true rfl
  clear hss4
  refine ⟨_, rfl, E2.out.bx, ?_⟩
  simp only [Act.put, List.setIfInBounds_toArray, List.set_cons_zero, List.set_cons_succ]
  obtain ⟨V3, hV3⟩ : ∃ Z, Z = V2.alloc (.cells #[.string s4] 9) := ⟨_, rfl⟩
  obtain ⟨lB, hqB⟩ : ∃ l, l = V2.heap.size := ⟨_, rfl⟩
  have bl : Below V2.heap.size V2 V3 := by rw [hV3]; exact (Below.refl _ _).alloc (Nat.le_refl _) _
  have hsz : V2.heap.size < V3.heap.size := by rw [hV3]; simp
  have hatB : Hid (Src V3 (.slice (some ⟨lB, 0, none⟩) 1 1) 1 1 [.string s4]) := by rw [hV3, hqB]; exact src_one s4 V2
  have E3 : Hid _ := E2.out.below bl
  refine oneHd (f := 0) (i := 5) (.slice (some ⟨lB, 0, none⟩) 1 1) V3 ⟨rfl, rfl⟩ (by decide) (by kernel_rfl) rfl ?cb E3.out.bx ?_
  case cb => rw [hV3, hqB]; go_simp
  have hlB : lB < V3.heap.size ∧ lB ≠ R := ⟨by omega, by have := E2.out.low; have := E2.out.size; omega⟩
  clear hV3 bl hsz hqB
  simp only [Act.put, List.setIfInBounds_toArray, List.set_cons_zero, List.set_cons_succ]
  refine ⟨by kernel_rfl, ?_⟩
  simp only [List.drop_succ_cons, List.drop_zero]
  have HOWN : Hid (V3.ownsRow w.heap.size 9 1 (.slice o0 n0 c0) n0 (enc 1 e1S X.ss)) := by
    have := E3.out.pl.s
    rw [Row, en0] at this
    exact this
  have szk := E3.out.size
  go_wp2_with (first
    | (at_builtin; refine wpList_app elS1 rfl _ _ rfl rfl rfl HOWN.out hatB.out (by intro z hz; simp at hz; first | (subst hz; rfl) | (rcases hz with rfl | rfl <;> rfl) | (rcases hz with rfl | rfl | rfl <;> rfl) | (rcases hz with rfl | rfl | rfl | rfl <;> rfl)) (by unfold maxLen; omega) (by omega) (by omega) ?_; intro v' u8 hown hgr0 _; obtain ⟨ov', kv', rfl⟩ := own_form hown; have hgr : V3.grownBy u8 (Value.slice o0 n0 c0).ownBlock := hgr0; have hb8 := (E3.out.turn hgr (fun q hq => ⟨(World.ownsRow.lt E3.out.pl.s q hq).1, row_ne E3.out.pl.s E3.out.bx (by decide) q hq, row_ne E3.out.pl.s E3.out.bq (by decide) q hq⟩)).2.2.1; obtain ⟨zc8, zf8⟩ := cell_row hb8 0 _ rfl))
  have ROW8 : Row u8 w.heap.size 9 1 e1S (.slice ov' (n0 + 1) kv') (X.ss ++ [s4]) := by
    show World.ownsRow _ _ _ _ _ _ _
    rw [List.length_append, enc_append, en0]
    exact hown
  have D8 := E3.out.growS hgr ROW8 (zs4.out) (hl)
  exact hK _ _ (by rfl) ⟨_, _, _, _, _, D8.up (by omega)⟩
set_option maxRecDepth 100000 in
set_option maxHeartbeats 4000000 in
theorem spo11 (R P Qb : Nat) (ob : Option Addr) (n cb : Nat) (f : Nat → Int) (w u : World) (v0 v1 v2 v3 : Value) (X : PlL) (c : Int) (hc : c ≤ 75000) {Q : Exit → Act → World → Prop} {code : Code} (t1 t2 t3 t4 t6 t7 t8 t9 t10 t11 t12 t13 t14 : Value) (xs : List Value) (hx : xs.length = 221) (hl : X.ff.length < 20) (E0 : Es R P Qb w ob n cb f v0 v1 v2 v3 X c u) (hcode : code = reg 11 Try.f29)
    (hK : ∀ (ys : List Value) (wr : World), ys.length = 221 → Est R P Qb w ob n cb f (c + 3) wr → Q .normal ⟨(.pointer (some ⟨R, 0, none⟩) :: t1 :: t2 :: t3 :: t4 :: .pointer (some ⟨P, 0, none⟩) :: t6 :: t7 :: t8 :: t9 :: t10 :: t11 :: t12 :: t13 :: t14 :: ys).toArray, []⟩ wr) :
    Code.wp Try.prog code Q ⟨(.pointer (some ⟨R, 0, none⟩) :: t1 :: t2 :: t3 :: t4 :: .pointer (some ⟨P, 0, none⟩) :: t6 :: t7 :: t8 :: t9 :: t10 :: t11 :: t12 :: t13 :: t14 :: xs).toArray, []⟩ u := by
  obtain ⟨g, rfl⟩ := len221 hx
  clear hx
  dsimp only
  subst hcode
  conv => arg 2; whnf
  obtain ⟨o0, c0, rfl⟩ := Row.form E0.pl.s
  obtain ⟨o1, c1, rfl⟩ := Row.form E0.pl.f
  obtain ⟨o2, c2, rfl⟩ := Row.form E0.pl.p
  obtain ⟨o3, c3, rfl⟩ := Row.form E0.pl.v
  generalize en0 : X.ss.length = n0 at E0 ⊢
  generalize en1 : X.ff.length = n1 at E0 ⊢
  generalize en2 : X.pp.length = n2 at E0 ⊢
  generalize en3 : X.vv.length = n3 at E0 ⊢
  have D1 : Hid _ := E0
  clear E0
  refine wp_region_movesC (fun v => v.heap[P]? = some (.cells #[.slice o0 n0 c0, .slice o1 n1 c1, .slice o2 n2 c2, .slice o3 n3 c3] 28 (0, 0))) 10 [] (by kernel_rfl) (by kernel_rfl) D1.out.bx ?_
  simp only [List.filterMap_nil, movD]
  have E0 : Hid _ := D1.out.below ((Below.refl _ _).drew)
  refine takeHQ (f := 9) (i := 0) (.pointer (some ⟨P, 1, none⟩)) ⟨rfl, rfl⟩ (by kernel_rfl) rfl E0.out.bx ?ta ?_
  case ta => intro v hv; go_simp
  simp only [Act.put, List.setIfInBounds_toArray, List.set_cons_zero, List.set_cons_succ]
  refine takeHQ (f := 8) (i := 1) (.slice o1 n1 c1) ⟨rfl, rfl⟩ (by kernel_rfl) rfl E0.out.bx ?ta ?_
  case ta => intro v hv; have c1_ := (cell_row hv 1 (.slice o1 n1 c1) rfl).1; go_simp
  simp only [Act.put, List.setIfInBounds_toArray, List.set_cons_zero, List.set_cons_succ]
  refine takeHQ (f := 7) (i := 2) (.pointer (some ⟨R, 0, none⟩)) ⟨rfl, rfl⟩ (by kernel_rfl) rfl E0.out.bx ?ta ?_
  case ta => intro v hv; go_simp
  simp only [Act.put, List.setIfInBounds_toArray, List.set_cons_zero, List.set_cons_succ]
  refine takeHQ (f := 6) (i := 5) (.pointer (some ⟨R, 0, none⟩)) ⟨rfl, rfl⟩ (by kernel_rfl) rfl E0.out.bx ?ta ?_
  case ta => intro v hv; go_simp
  simp only [Act.put, List.setIfInBounds_toArray, List.set_cons_zero, List.set_cons_succ]
  refine readyH [3, 6] (by kernel_rfl) (by simp) (fun i hi => ?_)
  simp only [List.mem_cons, List.not_mem_nil, or_false] at hi
  rcases hi with rfl | rfl
  · obtain ⟨V1, hV1⟩ : ∃ Z, Z = u.drew.alloc (.cells (([⟨#[97, 108, 101]⟩, ⟨#[119, 97, 116, 101, 114]⟩] : List ByteArray).map Value.string).toArray 9) := ⟨_, rfl⟩
    obtain ⟨lA, hqA⟩ : ∃ l, l = u.drew.heap.size := ⟨_, rfl⟩
    have bl : Below u.drew.heap.size u.drew V1 := by rw [hV1]; exact (Below.refl _ _).alloc (Nat.le_refl _) _
    have hsz : u.drew.heap.size < V1.heap.size := by rw [hV1]; simp
    have hatA : Hid (AtL (fun b => b = lA) V1 ([⟨#[97, 108, 101]⟩, ⟨#[119, 97, 116, 101, 114]⟩] : List ByteArray) (.slice (some ⟨lA, 0, none⟩) 2 2)) := by rw [hV1, hqA]; exact lit_at 9 u.drew [⟨#[97, 108, 101]⟩, ⟨#[119, 97, 116, 101, 114]⟩] (by unfold maxLen; simp) (by intro s hs; simp at hs; rcases hs with rfl | rfl <;> first | (unfold maxLen; decide) | exact Nat.le_of_ble_eq_true rfl)
    have E1 : Hid _ := E0.out.below bl
    refine ⟨by decide, stepHd (.slice (some ⟨lA, 0, none⟩) 2 2) V1 ⟨rfl, rfl⟩ rfl ?cb ⟨E1.out.bx, ?_⟩⟩
    case cb => rw [hV1, hqA]; go_simp
    have hlA : lA < V1.heap.size ∧ lA ≠ R := ⟨by omega, by have := E0.out.low; have := E0.out.size; omega⟩
    clear hV1 bl hsz hqA
    simp only [Act.put, List.setIfInBounds_toArray, List.set_cons_zero, List.set_cons_succ]
    refine readyH [4, 6] (by kernel_rfl) (by simp) (fun i hi => ?_)
    simp only [List.mem_cons, List.not_mem_nil, or_false] at hi
    rcases hi with rfl | rfl
    · refine ⟨by decide, stepHc ⟨rfl, rfl⟩ rfl ?cc ((of_es E1.out (by omega) (fun b => b = lA) _ _ hatA.out (fun b hb => by have e : b = lA := hb; rw [e]; exact hlA) (Nat.le_of_ble_eq_true rfl) (Nat.le_of_ble_eq_true rfl)).mono ?_)⟩
      case cc => go_simp
      rintro _ V2 ⟨s4, hss4, rfl, E, hB⟩
      have E2 : Hid _ := E
      have hsz := hB.size
      clear E hB hsz
      have zs4 : Hid (s4.size ≤ maxLen) := by show s4.size ≤ maxLen; simp at hss4; rcases hss4 with rfl | rfl <;> first | (unfold maxLen; decide) | exact Nat.le_of_ble_eq_true rfl
      clear hss4
      refine ⟨_, rfl, E2.out.bx, ?_⟩
      simp only [Act.put, List.setIfInBounds_toArray, List.set_cons_zero, List.set_cons_succ]
      obtain ⟨V3, hV3⟩ : ∃ Z, Z = V2.alloc (.cells (([⟨#[97, 108, 101]⟩, ⟨#[119, 97, 116, 101, 114]⟩, ⟨#[110, 111, 110, 101]⟩] : List ByteArray).map Value.string).toArray 9) := ⟨_, rfl⟩
      obtain ⟨lB, hqB⟩ : ∃ l, l = V2.heap.size := ⟨_, rfl⟩
      have bl : Below V2.heap.size V2 V3 := by rw [hV3]; exact (Below.refl _ _).alloc (Nat.le_refl _) _
      have hsz : V2.heap.size < V3.heap.size := by rw [hV3]; simp
      have hatB : Hid (AtL (fun b => b = lB) V3 ([⟨#[97, 108, 101]⟩, ⟨#[119, 97, 116, 101, 114]⟩, ⟨#[110, 111, 110, 101]⟩] : List ByteArray) (.slice (some ⟨lB, 0, none⟩) 3 3)) := by rw [hV3, hqB]; exact lit_at 9 V2 [⟨#[97, 108, 101]⟩, ⟨#[119, 97, 116, 101, 114]⟩, ⟨#[110, 111, 110, 101]⟩] (by unfold maxLen; simp) (by intro s hs; simp at hs; rcases hs with rfl | rfl | rfl <;> first | (unfold maxLen; decide) | exact Nat.le_of_ble_eq_true rfl)
      have E3 : Hid _ := E2.out.below bl
      refine oneHd (f := 3) (i := 6) (.slice (some ⟨lB, 0, none⟩) 3 3) V3 ⟨rfl, rfl⟩ (by decide) (by kernel_rfl) rfl ?cb E3.out.bx ?_
      case cb => rw [hV3, hqB]; go_simp
      have hlB : lB < V3.heap.size ∧ lB ≠ R := ⟨by omega, by have := E2.out.low; have := E2.out.size; omega⟩
      clear hV3 bl hsz hqB
      simp only [Act.put, List.setIfInBounds_toArray, List.set_cons_zero, List.set_cons_succ]
      refine callHd (f := 2) (i := 7) ⟨rfl, rfl⟩ (by decide) (by kernel_rfl) rfl ?cc ((of_es E3.out (by omega) (fun b => b = lB) _ _ hatB.out (fun b hb => by have e : b = lB := hb; rw [e]; exact hlB) (Nat.le_of_ble_eq_true rfl) (Nat.le_of_ble_eq_true rfl)).mono ?_)
      case cc => go_simp
      rintro _ V4 ⟨s7, hss7, rfl, E, hB⟩
      have E4 : Hid _ := E
      have hsz := hB.size
      clear E hB hsz
      have zs7 : Hid (s7.size ≤ maxLen) := by show s7.size ≤ maxLen; simp at hss7; rcases hss7 with rfl | rfl | rfl <;> first | (unfold maxLen; decide) | exact Nat.le_of_ble_eq_true rfl
      clear hss7
      refine ⟨_, rfl, E4.out.bx, ?_⟩
      simp only [Act.put, List.setIfInBounds_toArray, List.set_cons_zero, List.set_cons_succ]
      refine takeHQ (f := 1) (i := 8) (.agg #[.string s4, .string s7]) ⟨rfl, rfl⟩ (by kernel_rfl) rfl E4.out.bx ?ta ?_
      case ta => intro v hv; go_simp
      simp only [Act.put, List.setIfInBounds_toArray, List.set_cons_zero, List.set_cons_succ]
      obtain ⟨V5, hV5⟩ : ∃ Z, Z = V4.alloc (.cells #[.string s4, .string s7] 81) := ⟨_, rfl⟩
      obtain ⟨lC, hqC⟩ : ∃ l, l = V4.heap.size := ⟨_, rfl⟩
      have bl : Below V4.heap.size V4 V5 := by rw [hV5]; exact (Below.refl _ _).alloc (Nat.le_refl _) _
      have hsz : V4.heap.size < V5.heap.size := by rw [hV5]; simp
      have hatC : Hid (Src V5 (.slice (some ⟨lC, 0, none⟩) 1 1) 1 2 [.string s4, .string s7]) := by rw [hV5, hqC]; exact src_cells _ 2 [.string s4, .string s7] rfl V4
      have E5 : Hid _ := E4.out.below bl
      refine oneHd (f := 0) (i := 9) (.slice (some ⟨lC, 0, none⟩) 1 1) V5 ⟨rfl, rfl⟩ (by decide) (by kernel_rfl) rfl ?cb E5.out.bx ?_
      case cb => rw [hV5, hqC]; go_simp
      have hlC : lC < V5.heap.size ∧ lC ≠ R := ⟨by omega, by have := E4.out.low; have := E4.out.size; omega⟩
      clear hV5 bl hsz hqC
      simp only [Act.put, List.setIfInBounds_toArray, List.set_cons_zero, List.set_cons_succ]
      refine ⟨by kernel_rfl, ?_⟩
      simp only [List.drop_succ_cons, List.drop_zero]
      have HOWN : Hid (V5.ownsRow w.heap.size 81 2 (.slice o1 n1 c1) n1 (enc 2 e2F X.ff)) := by
        have := E5.out.pl.f
        rw [Row, en1] at this
        exact this
      have szk := E5.out.size
      go_wp2_with (first
        | (at_builtin; refine wpList_app elF2 rfl _ _ rfl rfl rfl HOWN.out hatC.out (by intro z hz; simp at hz; first | (subst hz; rfl) | (rcases hz with rfl | rfl <;> rfl) | (rcases hz with rfl | rfl | rfl <;> rfl) | (rcases hz with rfl | rfl | rfl | rfl <;> rfl)) (by unfold maxLen; omega) (by omega) (by omega) ?_; intro v' u8 hown hgr0 _; obtain ⟨ov', kv', rfl⟩ := own_form hown; have hgr : V5.grownBy u8 (Value.slice o1 n1 c1).ownBlock := hgr0; have hb8 := (E5.out.turn hgr (fun q hq => ⟨(World.ownsRow.lt E5.out.pl.f q hq).1, row_ne E5.out.pl.f E5.out.bx (by decide) q hq, row_ne E5.out.pl.f E5.out.bq (by decide) q hq⟩)).2.2.1; obtain ⟨zc8, zf8⟩ := cell_row hb8 1 _ rfl))
      have ROW8 : Row u8 w.heap.size 81 2 e2F (.slice ov' (n1 + 1) kv') (X.ff ++ [(s4, s7)]) := by
        show World.ownsRow _ _ _ _ _ _ _
        rw [List.length_append, enc_append, en1]
        exact hown
      have D8 := E5.out.growF hgr ROW8 (⟨zs4.out, zs7.out⟩) (hl)
      exact hK _ _ (by rfl) ⟨_, _, _, _, _, D8.up (by omega)⟩
    · obtain ⟨V2, hV2⟩ : ∃ Z, Z = V1.alloc (.cells (([⟨#[97, 108, 101]⟩, ⟨#[119, 97, 116, 101, 114]⟩, ⟨#[110, 111, 110, 101]⟩] : List ByteArray).map Value.string).toArray 9) := ⟨_, rfl⟩
      obtain ⟨lB, hqB⟩ : ∃ l, l = V1.heap.size := ⟨_, rfl⟩
      have bl : Below V1.heap.size V1 V2 := by rw [hV2]; exact (Below.refl _ _).alloc (Nat.le_refl _) _
      have hsz : V1.heap.size < V2.heap.size := by rw [hV2]; simp
      have hatB : Hid (AtL (fun b => b = lB) V2 ([⟨#[97, 108, 101]⟩, ⟨#[119, 97, 116, 101, 114]⟩, ⟨#[110, 111, 110, 101]⟩] : List ByteArray) (.slice (some ⟨lB, 0, none⟩) 3 3)) := by rw [hV2, hqB]; exact lit_at 9 V1 [⟨#[97, 108, 101]⟩, ⟨#[119, 97, 116, 101, 114]⟩, ⟨#[110, 111, 110, 101]⟩] (by unfold maxLen; simp) (by intro s hs; simp at hs; rcases hs with rfl | rfl | rfl <;> first | (unfold maxLen; decide) | exact Nat.le_of_ble_eq_true rfl)
      have E2 : Hid _ := E1.out.below bl
      have hatA := hidZ (AtL.same hatA.out (fun b hb => (fun b h1 _ => bl.block b h1) b (by have : b = lA := hb; have := hlA.1; omega) (by have : b = lA := hb; have := hlA.2; omega)))
      have hlA : lA < V2.heap.size ∧ lA ≠ R := ⟨by have := hlA.1; have := hsz; omega, hlA.2⟩
      refine ⟨by decide, stepHd (.slice (some ⟨lB, 0, none⟩) 3 3) V2 ⟨rfl, rfl⟩ rfl ?cb ⟨E2.out.bx, ?_⟩⟩
      case cb => rw [hV2, hqB]; go_simp
      have hlB : lB < V2.heap.size ∧ lB ≠ R := ⟨by omega, by have := E1.out.low; have := E1.out.size; omega⟩
      clear hV2 bl hsz hqB
      simp only [Act.put, List.setIfInBounds_toArray, List.set_cons_zero, List.set_cons_succ]
      refine callHd (f := 3) (i := 4) ⟨rfl, rfl⟩ (by decide) (by kernel_rfl) rfl ?cc ((of_es E2.out (by omega) (fun b => b = lA) _ _ hatA.out (fun b hb => by have e : b = lA := hb; rw [e]; exact hlA) (Nat.le_of_ble_eq_true rfl) (Nat.le_of_ble_eq_true rfl)).mono ?_)
      case cc => go_simp
      rintro _ V3 ⟨s4, hss4, rfl, E, hB⟩
      have E3 : Hid _ := E
      have hsz := hB.size
      have hatB := hidZ (AtL.same hatB.out (fun b hb => hB.block b (by have : b = lB := hb; have := hlB.1; omega) (by have : b = lB := hb; have := hlB.2; omega)))
      have hlB : lB < V3.heap.size ∧ lB ≠ R := ⟨by have := hlB.1; have := hsz; omega, hlB.2⟩
      clear E hB hsz
      have zs4 : Hid (s4.size ≤ maxLen) := by show s4.size ≤ maxLen; simp at hss4; rcases hss4 with rfl | rfl <;> first | (unfold maxLen; decide) | exact Nat.le_of_ble_eq_true rfl
      clear hss4
      refine ⟨_, rfl, E3.out.bx, ?_⟩
      simp only [Act.put, List.setIfInBounds_toArray, List.set_cons_zero, List.set_cons_succ]
      refine callHd (f := 2) (i := 7) ⟨rfl, rfl⟩ (by decide) (by kernel_rfl) rfl ?cc ((of_es E3.out (by omega) (fun b => b = lB) _ _ hatB.out (fun b hb => by have e : b = lB := hb; rw [e]; exact hlB) (Nat.le_of_ble_eq_true rfl) (Nat.le_of_ble_eq_true rfl)).mono ?_)
      case cc => go_simp
      rintro _ V4 ⟨s7, hss7, rfl, E, hB⟩
      have E4 : Hid _ := E
      have hsz := hB.size
      clear E hB hsz
      have zs7 : Hid (s7.size ≤ maxLen) := by show s7.size ≤ maxLen; simp at hss7; rcases hss7 with rfl | rfl | rfl <;> first | (unfold maxLen; decide) | exact Nat.le_of_ble_eq_true rfl
      clear hss7
      refine ⟨_, rfl, E4.out.bx, ?_⟩
      simp only [Act.put, List.setIfInBounds_toArray, List.set_cons_zero, List.set_cons_succ]
      refine takeHQ (f := 1) (i := 8) (.agg #[.string s4, .string s7]) ⟨rfl, rfl⟩ (by kernel_rfl) rfl E4.out.bx ?ta ?_
      case ta => intro v hv; go_simp
      simp only [Act.put, List.setIfInBounds_toArray, List.set_cons_zero, List.set_cons_succ]
      obtain ⟨V5, hV5⟩ : ∃ Z, Z = V4.alloc (.cells #[.string s4, .string s7] 81) := ⟨_, rfl⟩
      obtain ⟨lC, hqC⟩ : ∃ l, l = V4.heap.size := ⟨_, rfl⟩
      have bl : Below V4.heap.size V4 V5 := by rw [hV5]; exact (Below.refl _ _).alloc (Nat.le_refl _) _
      have hsz : V4.heap.size < V5.heap.size := by rw [hV5]; simp
      have hatC : Hid (Src V5 (.slice (some ⟨lC, 0, none⟩) 1 1) 1 2 [.string s4, .string s7]) := by rw [hV5, hqC]; exact src_cells _ 2 [.string s4, .string s7] rfl V4
      have E5 : Hid _ := E4.out.below bl
      refine oneHd (f := 0) (i := 9) (.slice (some ⟨lC, 0, none⟩) 1 1) V5 ⟨rfl, rfl⟩ (by decide) (by kernel_rfl) rfl ?cb E5.out.bx ?_
      case cb => rw [hV5, hqC]; go_simp
      have hlC : lC < V5.heap.size ∧ lC ≠ R := ⟨by omega, by have := E4.out.low; have := E4.out.size; omega⟩
      clear hV5 bl hsz hqC
      simp only [Act.put, List.setIfInBounds_toArray, List.set_cons_zero, List.set_cons_succ]
      refine ⟨by kernel_rfl, ?_⟩
      simp only [List.drop_succ_cons, List.drop_zero]
      have HOWN : Hid (V5.ownsRow w.heap.size 81 2 (.slice o1 n1 c1) n1 (enc 2 e2F X.ff)) := by
        have := E5.out.pl.f
        rw [Row, en1] at this
        exact this
      have szk := E5.out.size
      go_wp2_with (first
        | (at_builtin; refine wpList_app elF2 rfl _ _ rfl rfl rfl HOWN.out hatC.out (by intro z hz; simp at hz; first | (subst hz; rfl) | (rcases hz with rfl | rfl <;> rfl) | (rcases hz with rfl | rfl | rfl <;> rfl) | (rcases hz with rfl | rfl | rfl | rfl <;> rfl)) (by unfold maxLen; omega) (by omega) (by omega) ?_; intro v' u8 hown hgr0 _; obtain ⟨ov', kv', rfl⟩ := own_form hown; have hgr : V5.grownBy u8 (Value.slice o1 n1 c1).ownBlock := hgr0; have hb8 := (E5.out.turn hgr (fun q hq => ⟨(World.ownsRow.lt E5.out.pl.f q hq).1, row_ne E5.out.pl.f E5.out.bx (by decide) q hq, row_ne E5.out.pl.f E5.out.bq (by decide) q hq⟩)).2.2.1; obtain ⟨zc8, zf8⟩ := cell_row hb8 1 _ rfl))
      have ROW8 : Row u8 w.heap.size 81 2 e2F (.slice ov' (n1 + 1) kv') (X.ff ++ [(s4, s7)]) := by
        show World.ownsRow _ _ _ _ _ _ _
        rw [List.length_append, enc_append, en1]
        exact hown
      have D8 := E5.out.growF hgr ROW8 (⟨zs4.out, zs7.out⟩) (hl)
      exact hK _ _ (by rfl) ⟨_, _, _, _, _, D8.up (by omega)⟩
  · obtain ⟨V1, hV1⟩ : ∃ Z, Z = u.drew.alloc (.cells (([⟨#[97, 108, 101]⟩, ⟨#[119, 97, 116, 101, 114]⟩, ⟨#[110, 111, 110, 101]⟩] : List ByteArray).map Value.string).toArray 9) := ⟨_, rfl⟩
    obtain ⟨lB, hqB⟩ : ∃ l, l = u.drew.heap.size := ⟨_, rfl⟩
    have bl : Below u.drew.heap.size u.drew V1 := by rw [hV1]; exact (Below.refl _ _).alloc (Nat.le_refl _) _
    have hsz : u.drew.heap.size < V1.heap.size := by rw [hV1]; simp
    have hatB : Hid (AtL (fun b => b = lB) V1 ([⟨#[97, 108, 101]⟩, ⟨#[119, 97, 116, 101, 114]⟩, ⟨#[110, 111, 110, 101]⟩] : List ByteArray) (.slice (some ⟨lB, 0, none⟩) 3 3)) := by rw [hV1, hqB]; exact lit_at 9 u.drew [⟨#[97, 108, 101]⟩, ⟨#[119, 97, 116, 101, 114]⟩, ⟨#[110, 111, 110, 101]⟩] (by unfold maxLen; simp) (by intro s hs; simp at hs; rcases hs with rfl | rfl | rfl <;> first | (unfold maxLen; decide) | exact Nat.le_of_ble_eq_true rfl)
    have E1 : Hid _ := E0.out.below bl
    refine ⟨by decide, stepHd (.slice (some ⟨lB, 0, none⟩) 3 3) V1 ⟨rfl, rfl⟩ rfl ?cb ⟨E1.out.bx, ?_⟩⟩
    case cb => rw [hV1, hqB]; go_simp
    have hlB : lB < V1.heap.size ∧ lB ≠ R := ⟨by omega, by have := E0.out.low; have := E0.out.size; omega⟩
    clear hV1 bl hsz hqB
    simp only [Act.put, List.setIfInBounds_toArray, List.set_cons_zero, List.set_cons_succ]
    obtain ⟨V2, hV2⟩ : ∃ Z, Z = V1.alloc (.cells (([⟨#[97, 108, 101]⟩, ⟨#[119, 97, 116, 101, 114]⟩] : List ByteArray).map Value.string).toArray 9) := ⟨_, rfl⟩
    obtain ⟨lA, hqA⟩ : ∃ l, l = V1.heap.size := ⟨_, rfl⟩
    have bl : Below V1.heap.size V1 V2 := by rw [hV2]; exact (Below.refl _ _).alloc (Nat.le_refl _) _
    have hsz : V1.heap.size < V2.heap.size := by rw [hV2]; simp
    have hatA : Hid (AtL (fun b => b = lA) V2 ([⟨#[97, 108, 101]⟩, ⟨#[119, 97, 116, 101, 114]⟩] : List ByteArray) (.slice (some ⟨lA, 0, none⟩) 2 2)) := by rw [hV2, hqA]; exact lit_at 9 V1 [⟨#[97, 108, 101]⟩, ⟨#[119, 97, 116, 101, 114]⟩] (by unfold maxLen; simp) (by intro s hs; simp at hs; rcases hs with rfl | rfl <;> first | (unfold maxLen; decide) | exact Nat.le_of_ble_eq_true rfl)
    have E2 : Hid _ := E1.out.below bl
    have hatB := hidZ (AtL.same hatB.out (fun b hb => (fun b h1 _ => bl.block b h1) b (by have : b = lB := hb; have := hlB.1; omega) (by have : b = lB := hb; have := hlB.2; omega)))
    have hlB : lB < V2.heap.size ∧ lB ≠ R := ⟨by have := hlB.1; have := hsz; omega, hlB.2⟩
    refine oneHd (f := 4) (i := 3) (.slice (some ⟨lA, 0, none⟩) 2 2) V2 ⟨rfl, rfl⟩ (by decide) (by kernel_rfl) rfl ?cb E2.out.bx ?_
    case cb => rw [hV2, hqA]; go_simp
    have hlA : lA < V2.heap.size ∧ lA ≠ R := ⟨by omega, by have := E1.out.low; have := E1.out.size; omega⟩
    clear hV2 bl hsz hqA
    simp only [Act.put, List.setIfInBounds_toArray, List.set_cons_zero, List.set_cons_succ]
    refine callHd (f := 3) (i := 4) ⟨rfl, rfl⟩ (by decide) (by kernel_rfl) rfl ?cc ((of_es E2.out (by omega) (fun b => b = lA) _ _ hatA.out (fun b hb => by have e : b = lA := hb; rw [e]; exact hlA) (Nat.le_of_ble_eq_true rfl) (Nat.le_of_ble_eq_true rfl)).mono ?_)
    case cc => go_simp
    rintro _ V3 ⟨s4, hss4, rfl, E, hB⟩
    have E3 : Hid _ := E
    have hsz := hB.size
    have hatB := hidZ (AtL.same hatB.out (fun b hb => hB.block b (by have : b = lB := hb; have := hlB.1; omega) (by have : b = lB := hb; have := hlB.2; omega)))
    have hlB : lB < V3.heap.size ∧ lB ≠ R := ⟨by have := hlB.1; have := hsz; omega, hlB.2⟩
    clear E hB hsz
    have zs4 : Hid (s4.size ≤ maxLen) := by show s4.size ≤ maxLen; simp at hss4; rcases hss4 with rfl | rfl <;> first | (unfold maxLen; decide) | exact Nat.le_of_ble_eq_true rfl
    clear hss4
    refine ⟨_, rfl, E3.out.bx, ?_⟩
    simp only [Act.put, List.setIfInBounds_toArray, List.set_cons_zero, List.set_cons_succ]
    refine callHd (f := 2) (i := 7) ⟨rfl, rfl⟩ (by decide) (by kernel_rfl) rfl ?cc ((of_es E3.out (by omega) (fun b => b = lB) _ _ hatB.out (fun b hb => by have e : b = lB := hb; rw [e]; exact hlB) (Nat.le_of_ble_eq_true rfl) (Nat.le_of_ble_eq_true rfl)).mono ?_)
    case cc => go_simp
    rintro _ V4 ⟨s7, hss7, rfl, E, hB⟩
    have E4 : Hid _ := E
    have hsz := hB.size
    clear E hB hsz
    have zs7 : Hid (s7.size ≤ maxLen) := by show s7.size ≤ maxLen; simp at hss7; rcases hss7 with rfl | rfl | rfl <;> first | (unfold maxLen; decide) | exact Nat.le_of_ble_eq_true rfl
    clear hss7
    refine ⟨_, rfl, E4.out.bx, ?_⟩
    simp only [Act.put, List.setIfInBounds_toArray, List.set_cons_zero, List.set_cons_succ]
    refine takeHQ (f := 1) (i := 8) (.agg #[.string s4, .string s7]) ⟨rfl, rfl⟩ (by kernel_rfl) rfl E4.out.bx ?ta ?_
    case ta => intro v hv; go_simp
    simp only [Act.put, List.setIfInBounds_toArray, List.set_cons_zero, List.set_cons_succ]
    obtain ⟨V5, hV5⟩ : ∃ Z, Z = V4.alloc (.cells #[.string s4, .string s7] 81) := ⟨_, rfl⟩
    obtain ⟨lC, hqC⟩ : ∃ l, l = V4.heap.size := ⟨_, rfl⟩
    have bl : Below V4.heap.size V4 V5 := by rw [hV5]; exact (Below.refl _ _).alloc (Nat.le_refl _) _
    have hsz : V4.heap.size < V5.heap.size := by rw [hV5]; simp
    have hatC : Hid (Src V5 (.slice (some ⟨lC, 0, none⟩) 1 1) 1 2 [.string s4, .string s7]) := by rw [hV5, hqC]; exact src_cells _ 2 [.string s4, .string s7] rfl V4
    have E5 : Hid _ := E4.out.below bl
    refine oneHd (f := 0) (i := 9) (.slice (some ⟨lC, 0, none⟩) 1 1) V5 ⟨rfl, rfl⟩ (by decide) (by kernel_rfl) rfl ?cb E5.out.bx ?_
    case cb => rw [hV5, hqC]; go_simp
    have hlC : lC < V5.heap.size ∧ lC ≠ R := ⟨by omega, by have := E4.out.low; have := E4.out.size; omega⟩
    clear hV5 bl hsz hqC
    simp only [Act.put, List.setIfInBounds_toArray, List.set_cons_zero, List.set_cons_succ]
    refine ⟨by kernel_rfl, ?_⟩
    simp only [List.drop_succ_cons, List.drop_zero]
    have HOWN : Hid (V5.ownsRow w.heap.size 81 2 (.slice o1 n1 c1) n1 (enc 2 e2F X.ff)) := by
      have := E5.out.pl.f
      rw [Row, en1] at this
      exact this
    have szk := E5.out.size
    go_wp2_with (first
      | (at_builtin; refine wpList_app elF2 rfl _ _ rfl rfl rfl HOWN.out hatC.out (by intro z hz; simp at hz; first | (subst hz; rfl) | (rcases hz with rfl | rfl <;> rfl) | (rcases hz with rfl | rfl | rfl <;> rfl) | (rcases hz with rfl | rfl | rfl | rfl <;> rfl)) (by unfold maxLen; omega) (by omega) (by omega) ?_; intro v' u8 hown hgr0 _; obtain ⟨ov', kv', rfl⟩ := own_form hown; have hgr : V5.grownBy u8 (Value.slice o1 n1 c1).ownBlock := hgr0; have hb8 := (E5.out.turn hgr (fun q hq => ⟨(World.ownsRow.lt E5.out.pl.f q hq).1, row_ne E5.out.pl.f E5.out.bx (by decide) q hq, row_ne E5.out.pl.f E5.out.bq (by decide) q hq⟩)).2.2.1; obtain ⟨zc8, zf8⟩ := cell_row hb8 1 _ rfl))
    have ROW8 : Row u8 w.heap.size 81 2 e2F (.slice ov' (n1 + 1) kv') (X.ff ++ [(s4, s7)]) := by
      show World.ownsRow _ _ _ _ _ _ _
      rw [List.length_append, enc_append, en1]
      exact hown
    have D8 := E5.out.growF hgr ROW8 (⟨zs4.out, zs7.out⟩) (hl)
    exact hK _ _ (by rfl) ⟨_, _, _, _, _, D8.up (by omega)⟩
end Go.Proofs.Ytgjcppdeljoimaa
