import Derived.Test.YtgjcppdeljoimaaM18
namespace Go.Proofs.Ytgjcppdeljoimaa
open Go.RowKit Go.Sort
set_option maxRecDepth 100000 in
set_option maxHeartbeats 4000000 in
theorem spo15 (R P Qb : Nat) (ob : Option Addr) (n cb : Nat) (f : Nat → Int) (w u : World) (v0 v1 v2 v3 : Value) (X : PlL) (c : Int) (hc : c ≤ 75000) {Q : Exit → Act → World → Prop} {code : Code} (t1 t2 t3 t4 t7 t8 t9 t10 t11 t12 t13 t14 : Value) (xs : List Value) (hx : xs.length = 221) (k : Nat) (hk : k < X.pp.length) (E0 : Es R P Qb w ob n cb f v0 v1 v2 v3 X c u) (hcode : code = reg 15 Try.f29)
    (hK : ∀ (ys : List Value) (wr : World), ys.length = 221 → Est R P Qb w ob n cb f (c + 3) wr → Q .normal ⟨(.pointer (some ⟨R, 0, none⟩) :: t1 :: t2 :: t3 :: t4 :: .pointer (some ⟨P, 0, none⟩) :: .int .i64 k :: t7 :: t8 :: t9 :: t10 :: t11 :: t12 :: t13 :: t14 :: ys).toArray, []⟩ wr) :
    Code.wp Try.prog code Q ⟨(.pointer (some ⟨R, 0, none⟩) :: t1 :: t2 :: t3 :: t4 :: .pointer (some ⟨P, 0, none⟩) :: .int .i64 k :: t7 :: t8 :: t9 :: t10 :: t11 :: t12 :: t13 :: t14 :: xs).toArray, []⟩ u := by
  obtain ⟨g, rfl⟩ := len221 hx
  clear hx
  dsimp only
  subst hcode
  conv => arg 2; whnf
  obtain ⟨o0, c0, rfl⟩ := Row.form E0.pl.s
  obtain ⟨o1, c1, rfl⟩ := Row.form E0.pl.f
  obtain ⟨o2, c2, rfl⟩ := Row.form E0.pl.p
  obtain ⟨o3, c3, rfl⟩ := Row.form E0.pl.v
  generalize en0 : X.ss.length = n0 at E0 ⊢
  generalize en1 : X.ff.length = n1 at E0 ⊢
  generalize en2 : X.pp.length = n2 at E0 ⊢
  generalize en3 : X.vv.length = n3 at E0 ⊢
  have D1 : Hid _ := E0
  clear E0
  refine wp_region_movesC (fun v => v.heap[P]? = some (.cells #[.slice o0 n0 c0, .slice o1 n1 c1, .slice o2 n2 c2, .slice o3 n3 c3] 28 (0, 0))) 6 [] (by kernel_rfl) (by kernel_rfl) D1.out.bx ?_
  simp only [List.filterMap_nil, movD]
  have E0 : Hid _ := D1.out.below ((Below.refl _ _).drew)
  refine takeHQ (f := 5) (i := 0) (.pointer (some ⟨P, 2, none⟩)) ⟨rfl, rfl⟩ (by kernel_rfl) rfl E0.out.bx ?ta ?_
  case ta => intro v hv; go_simp
  simp only [Act.put, List.setIfInBounds_toArray, List.set_cons_zero, List.set_cons_succ]
  refine takeHQ (f := 4) (i := 1) (.slice o2 n2 c2) ⟨rfl, rfl⟩ (by kernel_rfl) rfl E0.out.bx ?ta ?_
  case ta => intro v hv; have c2_ := (cell_row hv 2 (.slice o2 n2 c2) rfl).1; go_simp
  simp only [Act.put, List.setIfInBounds_toArray, List.set_cons_zero, List.set_cons_succ]
  refine takeHQ (f := 3) (i := 2) (.int .i64 k) ⟨rfl, rfl⟩ (by kernel_rfl) rfl E0.out.bx ?ta ?_
  case ta => intro v hv; go_simp
  simp only [Act.put, List.setIfInBounds_toArray, List.set_cons_zero, List.set_cons_succ]
  refine takeHQ (f := 2) (i := 3) (.pointer (some ⟨R, 0, none⟩)) ⟨rfl, rfl⟩ (by kernel_rfl) rfl E0.out.bx ?ta ?_
  case ta => intro v hv; go_simp
  simp only [Act.put, List.setIfInBounds_toArray, List.set_cons_zero, List.set_cons_succ]
  obtain ⟨V1, hV1⟩ : ∃ Z, Z = u.drew.alloc (.cells (([⟨#[]⟩, ⟨#[75]⟩, ⟨#[97]⟩, ⟨#[122, 122]⟩] : List ByteArray).map Value.string).toArray 9) := ⟨_, rfl⟩
  obtain ⟨lA, hqA⟩ : ∃ l, l = u.drew.heap.size := ⟨_, rfl⟩
  have bl : Below u.drew.heap.size u.drew V1 := by rw [hV1]; exact (Below.refl _ _).alloc (Nat.le_refl _) _
  have hsz : u.drew.heap.size < V1.heap.size := by rw [hV1]; simp
  have hatA : Hid (AtL (fun b => b = lA) V1 ([⟨#[]⟩, ⟨#[75]⟩, ⟨#[97]⟩, ⟨#[122, 122]⟩] : List ByteArray) (.slice (some ⟨lA, 0, none⟩) 4 4)) := by rw [hV1, hqA]; exact lit_at 9 u.drew [⟨#[]⟩, ⟨#[75]⟩, ⟨#[97]⟩, ⟨#[122, 122]⟩] (by unfold maxLen; simp) (by intro s hs; simp at hs; rcases hs with rfl | rfl | rfl | rfl <;> first | (unfold maxLen; decide) | exact Nat.le_of_ble_eq_true rfl)
  have E1 : Hid _ := E0.out.below bl
  refine oneHd (f := 1) (i := 4) (.slice (some ⟨lA, 0, none⟩) 4 4) V1 ⟨rfl, rfl⟩ (by decide) (by kernel_rfl) rfl ?cb E1.out.bx ?_
  case cb => rw [hV1, hqA]; go_simp
  have hlA : lA < V1.heap.size ∧ lA ≠ R := ⟨by omega, by have := E0.out.low; have := E0.out.size; omega⟩
  clear hV1 bl hsz hqA
  simp only [Act.put, List.setIfInBounds_toArray, List.set_cons_zero, List.set_cons_succ]
  refine callHd (f := 0) (i := 5) ⟨rfl, rfl⟩ (by decide) (by kernel_rfl) rfl ?cc ((of_es E1.out (by omega) (fun b => b = lA) _ _ hatA.out (fun b hb => by have e : b = lA := hb; rw [e]; exact hlA) (Nat.le_of_ble_eq_true rfl) (Nat.le_of_ble_eq_true rfl)).mono ?_)
  case cc => go_simp
  rintro _ V2 ⟨s5, hss5, rfl, E, hB⟩
  have E2 : Hid _ := E
  have hsz := hB.size
  clear E hB hsz
  have zs5 : Hid (s5.size ≤ maxLen) := by show s5.size ≤ maxLen; simp at hss5; rcases hss5 with rfl | rfl | rfl | rfl <;> first | (unfold maxLen; decide) | exact Nat.le_of_ble_eq_true rfl
  clear hss5
  refine ⟨_, rfl, E2.out.bx, ?_⟩
  simp only [Act.put, List.setIfInBounds_toArray, List.set_cons_zero, List.set_cons_succ]
  refine ⟨by kernel_rfl, ?_⟩
  simp only [List.drop_succ_cons, List.drop_zero]
  obtain ⟨gp, cap', e', _, hgl, hcell⟩ := Row.cell E2.out.pl.p (i := k) (by omega)
  injection e' with e1 e2 e3
  subst e1
  clear e2 e3
  have yc := (hcell 0 (by omega)).1
  have yf := (hcell 0 (by omega)).2
  simp only [Nat.add_zero] at yc yf
  have D8 := E2.out.putP en2 (i := k) (j := 0) (x := .string s5) (y := (s5, (X.pp[k]).2)) (by omega) (by decide) (fun q hq => by match q, hq with
    | 0, _ => rfl
    | 1, _ => rfl
    | 2, _ => rfl) (⟨zs5.out, (E2.out.ok.p _ (List.getElem_mem hk)).2⟩)
  have hkl : ((k : Int) < (n2 : Int)) := by omega
  go_wp2_with fail
  exact hK _ _ (by rfl) ⟨_, _, _, _, _, D8.up (by omega)⟩
set_option maxRecDepth 100000 in
set_option maxHeartbeats 4000000 in
theorem spo19 (R P Qb : Nat) (ob : Option Addr) (n cb : Nat) (f : Nat → Int) (w u : World) (v0 v1 v2 v3 : Value) (X : PlL) (c : Int) (hc : c ≤ 75000) {Q : Exit → Act → World → Prop} {code : Code} (t1 t2 t3 t4 t6 t8 t9 t10 t11 t12 t13 t14 : Value) (xs : List Value) (hx : xs.length = 221) (k : Nat) (hk : k < X.pp.length) (E0 : Es R P Qb w ob n cb f v0 v1 v2 v3 X c u) (hcode : code = reg 19 Try.f29)
    (hK : ∀ (ys : List Value) (wr : World), ys.length = 221 → Est R P Qb w ob n cb f (c + 3) wr → Q .normal ⟨(.pointer (some ⟨R, 0, none⟩) :: t1 :: t2 :: t3 :: t4 :: .pointer (some ⟨P, 0, none⟩) :: t6 :: .int .i64 k :: t8 :: t9 :: t10 :: t11 :: t12 :: t13 :: t14 :: ys).toArray, []⟩ wr) :
    Code.wp Try.prog code Q ⟨(.pointer (some ⟨R, 0, none⟩) :: t1 :: t2 :: t3 :: t4 :: .pointer (some ⟨P, 0, none⟩) :: t6 :: .int .i64 k :: t8 :: t9 :: t10 :: t11 :: t12 :: t13 :: t14 :: xs).toArray, []⟩ u := by
  obtain ⟨g, rfl⟩ := len221 hx
  clear hx
  dsimp only
  subst hcode
  conv => arg 2; whnf
  obtain ⟨o0, c0, rfl⟩ := Row.form E0.pl.s
  obtain ⟨o1, c1, rfl⟩ := Row.form E0.pl.f
  obtain ⟨o2, c2, rfl⟩ := Row.form E0.pl.p
  obtain ⟨o3, c3, rfl⟩ := Row.form E0.pl.v
  generalize en0 : X.ss.length = n0 at E0 ⊢
  generalize en1 : X.ff.length = n1 at E0 ⊢
  generalize en2 : X.pp.length = n2 at E0 ⊢
  generalize en3 : X.vv.length = n3 at E0 ⊢
  have D1 : Hid _ := E0
  clear E0
  refine wp_region_movesC (fun v => v.heap[P]? = some (.cells #[.slice o0 n0 c0, .slice o1 n1 c1, .slice o2 n2 c2, .slice o3 n3 c3] 28 (0, 0))) 8 [] (by kernel_rfl) (by kernel_rfl) D1.out.bx ?_
  simp only [List.filterMap_nil, movD]
  have E0 : Hid _ := D1.out.below ((Below.refl _ _).drew)
  refine takeHQ (f := 7) (i := 0) (.pointer (some ⟨P, 2, none⟩)) ⟨rfl, rfl⟩ (by kernel_rfl) rfl E0.out.bx ?ta ?_
  case ta => intro v hv; go_simp
  simp only [Act.put, List.setIfInBounds_toArray, List.set_cons_zero, List.set_cons_succ]
  refine takeHQ (f := 6) (i := 1) (.slice o2 n2 c2) ⟨rfl, rfl⟩ (by kernel_rfl) rfl E0.out.bx ?ta ?_
  case ta => intro v hv; have c2_ := (cell_row hv 2 (.slice o2 n2 c2) rfl).1; go_simp
  simp only [Act.put, List.setIfInBounds_toArray, List.set_cons_zero, List.set_cons_succ]
  refine takeHQ (f := 5) (i := 2) (.int .i64 k) ⟨rfl, rfl⟩ (by kernel_rfl) rfl E0.out.bx ?ta ?_
  case ta => intro v hv; go_simp
  simp only [Act.put, List.setIfInBounds_toArray, List.set_cons_zero, List.set_cons_succ]
  refine takeHQ (f := 4) (i := 4) (.pointer (some ⟨R, 0, none⟩)) ⟨rfl, rfl⟩ (by kernel_rfl) rfl E0.out.bx ?ta ?_
  case ta => intro v hv; go_simp
  simp only [Act.put, List.setIfInBounds_toArray, List.set_cons_zero, List.set_cons_succ]
  refine readyH [3, 5] (by kernel_rfl) (by simp) (fun i hi => ?_)
  simp only [List.mem_cons, List.not_mem_nil, or_false] at hi
  rcases hi with rfl | rfl
  · obtain ⟨V1, hV1⟩ : ∃ Z, Z = u.drew.alloc (.cells #[.int .i64 (-1), .int .i64 (0), .int .i64 (1000), .int .i64 (1001)] 3) := ⟨_, rfl⟩
    obtain ⟨lA, hqA⟩ : ∃ l, l = u.drew.heap.size := ⟨_, rfl⟩
    have bl : Below u.drew.heap.size u.drew V1 := by rw [hV1]; exact (Below.refl _ _).alloc (Nat.le_refl _) _
    have hsz : u.drew.heap.size < V1.heap.size := by rw [hV1]; simp
    have hatA : Hid (V1.heap[lA]? = some (.cells #[.int .i64 (-1), .int .i64 (0), .int .i64 (1000), .int .i64 (1001)] 3 (0, 0))) := by rw [hV1, hqA]; exact heap_alloc_new _ _
    have E1 : Hid _ := E0.out.below bl
    refine ⟨by decide, stepHd (.slice (some ⟨lA, 0, none⟩) 4 4) V1 ⟨rfl, rfl⟩ rfl ?cb ⟨E1.out.bx, ?_⟩⟩
    case cb => rw [hV1, hqA]; go_simp
    have hlA : lA < V1.heap.size ∧ lA ≠ R := ⟨by omega, by have := E0.out.low; have := E0.out.size; omega⟩
    clear hV1 bl hsz hqA
    simp only [Act.put, List.setIfInBounds_toArray, List.set_cons_zero, List.set_cons_succ]
    refine callHd (f := 2) (i := 5) ⟨rfl, rfl⟩ (by decide) (by kernel_rfl) rfl ?cc ((pick_es E1.out (by omega) 4 (by decide) (by decide)).mono ?_)
    case cc => go_simp
    rintro _ V2 ⟨x5, rfl, h0x5, h1x5, E, hB⟩
    have E2 : Hid _ := E
    have hsz := hB.size
    have hatA := hidZ ((hB.block lA (by have := hlA.1; omega) (by have := hlA.2; omega)).trans hatA.out)
    have hlA : lA < V2.heap.size ∧ lA ≠ R := ⟨by have := hlA.1; have := hsz; omega, hlA.2⟩
    clear E hB hsz
    obtain ⟨j5, rfl⟩ := Int.eq_ofNat_of_zero_le h0x5
    have hj5i : ((j5 : Int) < 4) := by omega
    refine ⟨_, rfl, E2.out.bx, ?_⟩
    simp only [Act.put, List.setIfInBounds_toArray, List.set_cons_zero, List.set_cons_succ]
    refine oneHd (f := 1) (i := 6) (.pointer (some ⟨lA, j5, none⟩)) V2 ⟨rfl, rfl⟩ (by decide) (by kernel_rfl) rfl ?cb E2.out.bx ?_
    case cb => go_simp
    simp only [Act.put, List.setIfInBounds_toArray, List.set_cons_zero, List.set_cons_succ]
    have hj5 : j5 < 4 := by omega
    obtain ⟨y5, hy5⟩ : ∃ y : Int, V2.cell? ⟨lA, j5, none⟩ = some (.int .i64 y) := by
      match j5, hj5 with
      | 0, _ => exact ⟨_, (cell_row hatA.out 0 _ rfl).1⟩
      | 1, _ => exact ⟨_, (cell_row hatA.out 1 _ rfl).1⟩
      | 2, _ => exact ⟨_, (cell_row hatA.out 2 _ rfl).1⟩
      | 3, _ => exact ⟨_, (cell_row hatA.out 3 _ rfl).1⟩
    refine oneHd (f := 0) (i := 7) (.int .i64 y5) V2 ⟨rfl, rfl⟩ (by decide) (by kernel_rfl) rfl ?cb E2.out.bx ?_
    case cb => go_simp
    simp only [Act.put, List.setIfInBounds_toArray, List.set_cons_zero, List.set_cons_succ]
    refine ⟨by kernel_rfl, ?_⟩
    simp only [List.drop_succ_cons, List.drop_zero]
    obtain ⟨gp, cap', e', _, hgl, hcell⟩ := Row.cell E2.out.pl.p (i := k) (by omega)
    injection e' with e1 e2 e3
    subst e1
    clear e2 e3
    have yc := (hcell 1 (by omega)).1
    have yf := (hcell 1 (by omega)).2
    have D8 := E2.out.putP en2 (i := k) (j := 1) (x := .int .i64 y5) (y := ((X.pp[k]).1, y5, (X.pp[k]).2.2)) (by omega) (by decide) (fun q hq => by match q, hq with
      | 0, _ => rfl
      | 1, _ => rfl
      | 2, _ => rfl) (⟨(E2.out.ok.p _ (List.getElem_mem hk)).1, (E2.out.ok.p _ (List.getElem_mem hk)).2⟩)
    have hkl : ((k : Int) < (n2 : Int)) := by omega
    go_wp2_with fail
    exact hK _ _ (by rfl) ⟨_, _, _, _, _, D8.up (by omega)⟩
  · refine ⟨by decide, stepHc ⟨rfl, rfl⟩ rfl ?cc ((pick_es E0.out (by omega) 4 (by decide) (by decide)).mono ?_)⟩
    case cc => go_simp
    rintro _ V1 ⟨x5, rfl, h0x5, h1x5, E, hB⟩
    have E1 : Hid _ := E
    have hsz := hB.size
    clear E hB hsz
    obtain ⟨j5, rfl⟩ := Int.eq_ofNat_of_zero_le h0x5
    have hj5i : ((j5 : Int) < 4) := by omega
    refine ⟨_, rfl, E1.out.bx, ?_⟩
    simp only [Act.put, List.setIfInBounds_toArray, List.set_cons_zero, List.set_cons_succ]
    obtain ⟨V2, hV2⟩ : ∃ Z, Z = V1.alloc (.cells #[.int .i64 (-1), .int .i64 (0), .int .i64 (1000), .int .i64 (1001)] 3) := ⟨_, rfl⟩
    obtain ⟨lA, hqA⟩ : ∃ l, l = V1.heap.size := ⟨_, rfl⟩
    have bl : Below V1.heap.size V1 V2 := by rw [hV2]; exact (Below.refl _ _).alloc (Nat.le_refl _) _
    have hsz : V1.heap.size < V2.heap.size := by rw [hV2]; simp
    have hatA : Hid (V2.heap[lA]? = some (.cells #[.int .i64 (-1), .int .i64 (0), .int .i64 (1000), .int .i64 (1001)] 3 (0, 0))) := by rw [hV2, hqA]; exact heap_alloc_new _ _
    have E2 : Hid _ := E1.out.below bl
    refine oneHd (f := 2) (i := 3) (.slice (some ⟨lA, 0, none⟩) 4 4) V2 ⟨rfl, rfl⟩ (by decide) (by kernel_rfl) rfl ?cb E2.out.bx ?_
    case cb => rw [hV2, hqA]; go_simp
    have hlA : lA < V2.heap.size ∧ lA ≠ R := ⟨by omega, by have := E1.out.low; have := E1.out.size; omega⟩
    clear hV2 bl hsz hqA
    simp only [Act.put, List.setIfInBounds_toArray, List.set_cons_zero, List.set_cons_succ]
    refine oneHd (f := 1) (i := 6) (.pointer (some ⟨lA, j5, none⟩)) V2 ⟨rfl, rfl⟩ (by decide) (by kernel_rfl) rfl ?cb E2.out.bx ?_
    case cb => go_simp
    simp only [Act.put, List.setIfInBounds_toArray, List.set_cons_zero, List.set_cons_succ]
    have hj5 : j5 < 4 := by omega
    obtain ⟨y5, hy5⟩ : ∃ y : Int, V2.cell? ⟨lA, j5, none⟩ = some (.int .i64 y) := by
      match j5, hj5 with
      | 0, _ => exact ⟨_, (cell_row hatA.out 0 _ rfl).1⟩
      | 1, _ => exact ⟨_, (cell_row hatA.out 1 _ rfl).1⟩
      | 2, _ => exact ⟨_, (cell_row hatA.out 2 _ rfl).1⟩
      | 3, _ => exact ⟨_, (cell_row hatA.out 3 _ rfl).1⟩
    refine oneHd (f := 0) (i := 7) (.int .i64 y5) V2 ⟨rfl, rfl⟩ (by decide) (by kernel_rfl) rfl ?cb E2.out.bx ?_
    case cb => go_simp
    simp only [Act.put, List.setIfInBounds_toArray, List.set_cons_zero, List.set_cons_succ]
    refine ⟨by kernel_rfl, ?_⟩
    simp only [List.drop_succ_cons, List.drop_zero]
    obtain ⟨gp, cap', e', _, hgl, hcell⟩ := Row.cell E2.out.pl.p (i := k) (by omega)
    injection e' with e1 e2 e3
    subst e1
    clear e2 e3
    have yc := (hcell 1 (by omega)).1
    have yf := (hcell 1 (by omega)).2
    have D8 := E2.out.putP en2 (i := k) (j := 1) (x := .int .i64 y5) (y := ((X.pp[k]).1, y5, (X.pp[k]).2.2)) (by omega) (by decide) (fun q hq => by match q, hq with
      | 0, _ => rfl
      | 1, _ => rfl
      | 2, _ => rfl) (⟨(E2.out.ok.p _ (List.getElem_mem hk)).1, (E2.out.ok.p _ (List.getElem_mem hk)).2⟩)
    have hkl : ((k : Int) < (n2 : Int)) := by omega
    go_wp2_with fail
    exact hK _ _ (by rfl) ⟨_, _, _, _, _, D8.up (by omega)⟩
set_option maxRecDepth 100000 in
set_option maxHeartbeats 4000000 in
theorem spo22 (R P Qb : Nat) (ob : Option Addr) (n cb : Nat) (f : Nat → Int) (w u : World) (v0 v1 v2 v3 : Value) (X : PlL) (c : Int) (hc : c ≤ 75000) {Q : Exit → Act → World → Prop} {code : Code} (t1 t2 t3 t4 t6 t7 t8 t9 t10 t11 t12 t13 t14 : Value) (xs : List Value) (hx : xs.length = 221) (hn : 0 < X.pp.length) (E0 : Es R P Qb w ob n cb f v0 v1 v2 v3 X c u) (hcode : code = reg 22 Try.f29)
    (hK : ∀ (ys : List Value) (wr : World), ys.length = 221 → Est R P Qb w ob n cb f (c + 3) wr → Q .normal ⟨(.pointer (some ⟨R, 0, none⟩) :: t1 :: t2 :: t3 :: t4 :: .pointer (some ⟨P, 0, none⟩) :: t6 :: t7 :: t8 :: t9 :: t10 :: t11 :: t12 :: t13 :: t14 :: ys).toArray, []⟩ wr) :
    Code.wp Try.prog code Q ⟨(.pointer (some ⟨R, 0, none⟩) :: t1 :: t2 :: t3 :: t4 :: .pointer (some ⟨P, 0, none⟩) :: t6 :: t7 :: t8 :: t9 :: t10 :: t11 :: t12 :: t13 :: t14 :: xs).toArray, []⟩ u := by
  obtain ⟨g, rfl⟩ := len221 hx
  clear hx
  dsimp only
  subst hcode
  conv => arg 2; whnf
  obtain ⟨o0, c0, rfl⟩ := Row.form E0.pl.s
  obtain ⟨o1, c1, rfl⟩ := Row.form E0.pl.f
  obtain ⟨o2, c2, rfl⟩ := Row.form E0.pl.p
  obtain ⟨o3, c3, rfl⟩ := Row.form E0.pl.v
  generalize en0 : X.ss.length = n0 at E0 ⊢
  generalize en1 : X.ff.length = n1 at E0 ⊢
  generalize en2 : X.pp.length = n2 at E0 ⊢
  generalize en3 : X.vv.length = n3 at E0 ⊢
  have D1 : Hid _ := E0
  clear E0
  have hn20 := D1.out.ok.np
  refine wp_region_movesC (fun v => v.heap[P]? = some (.cells #[.slice o0 n0 c0, .slice o1 n1 c1, .slice o2 n2 c2, .slice o3 n3 c3] 28 (0, 0))) 10 [] (by kernel_rfl) (by kernel_rfl) D1.out.bx ?_
  simp only [List.filterMap_nil, movD]
  have E0 : Hid _ := D1.out.below ((Below.refl _ _).drew)
  refine takeHQ (f := 9) (i := 0) (.pointer (some ⟨P, 2, none⟩)) ⟨rfl, rfl⟩ (by kernel_rfl) rfl E0.out.bx ?ta ?_
  case ta => intro v hv; go_simp
  simp only [Act.put, List.setIfInBounds_toArray, List.set_cons_zero, List.set_cons_succ]
  refine takeHQ (f := 8) (i := 1) (.slice o2 n2 c2) ⟨rfl, rfl⟩ (by kernel_rfl) rfl E0.out.bx ?ta ?_
  case ta => intro v hv; have c2_ := (cell_row hv 2 (.slice o2 n2 c2) rfl).1; go_simp
  simp only [Act.put, List.setIfInBounds_toArray, List.set_cons_zero, List.set_cons_succ]
  refine takeHQ (f := 7) (i := 2) (.pointer (some ⟨R, 0, none⟩)) ⟨rfl, rfl⟩ (by kernel_rfl) rfl E0.out.bx ?ta ?_
  case ta => intro v hv; go_simp
  simp only [Act.put, List.setIfInBounds_toArray, List.set_cons_zero, List.set_cons_succ]
  refine takeHQ (f := 6) (i := 3) (.pointer (some ⟨P, 2, none⟩)) ⟨rfl, rfl⟩ (by kernel_rfl) rfl E0.out.bx ?ta ?_
  case ta => intro v hv; go_simp
  simp only [Act.put, List.setIfInBounds_toArray, List.set_cons_zero, List.set_cons_succ]
  refine takeHQ (f := 5) (i := 4) (.slice o2 n2 c2) ⟨rfl, rfl⟩ (by kernel_rfl) rfl E0.out.bx ?ta ?_
  case ta => intro v hv; have c2_ := (cell_row hv 2 (.slice o2 n2 c2) rfl).1; go_simp
  simp only [Act.put, List.setIfInBounds_toArray, List.set_cons_zero, List.set_cons_succ]
  refine takeHQ (f := 4) (i := 5) (.int .i64 n2) ⟨rfl, rfl⟩ (by kernel_rfl) rfl E0.out.bx ?ta ?_
  case ta => intro v hv; go_simp
  simp only [Act.put, List.setIfInBounds_toArray, List.set_cons_zero, List.set_cons_succ]
  refine takeHQ (f := 3) (i := 7) (.pointer (some ⟨R, 0, none⟩)) ⟨rfl, rfl⟩ (by kernel_rfl) rfl E0.out.bx ?ta ?_
  case ta => intro v hv; go_simp
  simp only [Act.put, List.setIfInBounds_toArray, List.set_cons_zero, List.set_cons_succ]
  refine readyH [6, 8] (by kernel_rfl) (by simp) (fun i hi => ?_)
  simp only [List.mem_cons, List.not_mem_nil, or_false] at hi
  rcases hi with rfl | rfl
  · refine ⟨by decide, stepHc ⟨rfl, rfl⟩ rfl ?cc ((pick_es E0.out (by omega) n2 (by omega) (by omega)).mono ?_)⟩
    case cc => go_simp
    rintro _ V1 ⟨x6, rfl, h0x6, h1x6, E, hB⟩
    have E1 : Hid _ := E
    have hsz := hB.size
    clear E hB hsz
    obtain ⟨j6, rfl⟩ := Int.eq_ofNat_of_zero_le h0x6
    have hj6 : j6 < X.pp.length := by omega
    refine ⟨_, rfl, E1.out.bx, ?_⟩
    simp only [Act.put, List.setIfInBounds_toArray, List.set_cons_zero, List.set_cons_succ]
    obtain ⟨V2, hV2⟩ : ∃ Z, Z = V1.alloc (.cells (([⟨#[]⟩, ⟨#[83]⟩, ⟨#[115]⟩] : List ByteArray).map Value.string).toArray 9) := ⟨_, rfl⟩
    obtain ⟨lA, hqA⟩ : ∃ l, l = V1.heap.size := ⟨_, rfl⟩
    have bl : Below V1.heap.size V1 V2 := by rw [hV2]; exact (Below.refl _ _).alloc (Nat.le_refl _) _
    have hsz : V1.heap.size < V2.heap.size := by rw [hV2]; simp
    have hatA : Hid (AtL (fun b => b = lA) V2 ([⟨#[]⟩, ⟨#[83]⟩, ⟨#[115]⟩] : List ByteArray) (.slice (some ⟨lA, 0, none⟩) 3 3)) := by rw [hV2, hqA]; exact lit_at 9 V1 [⟨#[]⟩, ⟨#[83]⟩, ⟨#[115]⟩] (by unfold maxLen; simp) (by intro s hs; simp at hs; rcases hs with rfl | rfl | rfl <;> first | (unfold maxLen; decide) | exact Nat.le_of_ble_eq_true rfl)
    have E2 : Hid _ := E1.out.below bl
    refine oneHd (f := 1) (i := 8) (.slice (some ⟨lA, 0, none⟩) 3 3) V2 ⟨rfl, rfl⟩ (by decide) (by kernel_rfl) rfl ?cb E2.out.bx ?_
    case cb => rw [hV2, hqA]; go_simp
    have hlA : lA < V2.heap.size ∧ lA ≠ R := ⟨by omega, by have := E1.out.low; have := E1.out.size; omega⟩
    clear hV2 bl hsz hqA
    simp only [Act.put, List.setIfInBounds_toArray, List.set_cons_zero, List.set_cons_succ]
    refine callHd (f := 0) (i := 9) ⟨rfl, rfl⟩ (by decide) (by kernel_rfl) rfl ?cc ((of_es E2.out (by omega) (fun b => b = lA) _ _ hatA.out (fun b hb => by have e : b = lA := hb; rw [e]; exact hlA) (Nat.le_of_ble_eq_true rfl) (Nat.le_of_ble_eq_true rfl)).mono ?_)
    case cc => go_simp
    rintro _ V3 ⟨s9, hss9, rfl, E, hB⟩
    have E3 : Hid _ := E
    have hsz := hB.size
    clear E hB hsz
    have zs9 : Hid (s9.size ≤ maxLen) := by show s9.size ≤ maxLen; simp at hss9; rcases hss9 with rfl | rfl | rfl <;> first | (unfold maxLen; decide) | exact Nat.le_of_ble_eq_true rfl
    clear hss9
    refine ⟨_, rfl, E3.out.bx, ?_⟩
    simp only [Act.put, List.setIfInBounds_toArray, List.set_cons_zero, List.set_cons_succ]
    refine ⟨by kernel_rfl, ?_⟩
    simp only [List.drop_succ_cons, List.drop_zero]
    obtain ⟨gp, cap', e', _, hgl, hcell⟩ := Row.cell E3.out.pl.p (i := j6) (by omega)
    injection e' with e1 e2 e3
    subst e1
    clear e2 e3
    have yc := (hcell 2 (by omega)).1
    have yf := (hcell 2 (by omega)).2
    have D8 := E3.out.putP en2 (i := j6) (j := 2) (x := .string s9) (y := ((X.pp[j6]).1, (X.pp[j6]).2.1, s9)) (by omega) (by decide) (fun q hq => by match q, hq with
      | 0, _ => rfl
      | 1, _ => rfl
      | 2, _ => rfl) (⟨(E3.out.ok.p _ (List.getElem_mem hj6)).1, zs9.out⟩)
    have hkl : ((j6 : Int) < (n2 : Int)) := by omega
    go_wp2_with fail
    exact hK _ _ (by rfl) ⟨_, _, _, _, _, D8.up (by omega)⟩
  · obtain ⟨V1, hV1⟩ : ∃ Z, Z = u.drew.alloc (.cells (([⟨#[]⟩, ⟨#[83]⟩, ⟨#[115]⟩] : List ByteArray).map Value.string).toArray 9) := ⟨_, rfl⟩
    obtain ⟨lA, hqA⟩ : ∃ l, l = u.drew.heap.size := ⟨_, rfl⟩
    have bl : Below u.drew.heap.size u.drew V1 := by rw [hV1]; exact (Below.refl _ _).alloc (Nat.le_refl _) _
    have hsz : u.drew.heap.size < V1.heap.size := by rw [hV1]; simp
    have hatA : Hid (AtL (fun b => b = lA) V1 ([⟨#[]⟩, ⟨#[83]⟩, ⟨#[115]⟩] : List ByteArray) (.slice (some ⟨lA, 0, none⟩) 3 3)) := by rw [hV1, hqA]; exact lit_at 9 u.drew [⟨#[]⟩, ⟨#[83]⟩, ⟨#[115]⟩] (by unfold maxLen; simp) (by intro s hs; simp at hs; rcases hs with rfl | rfl | rfl <;> first | (unfold maxLen; decide) | exact Nat.le_of_ble_eq_true rfl)
    have E1 : Hid _ := E0.out.below bl
    refine ⟨by decide, stepHd (.slice (some ⟨lA, 0, none⟩) 3 3) V1 ⟨rfl, rfl⟩ rfl ?cb ⟨E1.out.bx, ?_⟩⟩
    case cb => rw [hV1, hqA]; go_simp
    have hlA : lA < V1.heap.size ∧ lA ≠ R := ⟨by omega, by have := E0.out.low; have := E0.out.size; omega⟩
    clear hV1 bl hsz hqA
    simp only [Act.put, List.setIfInBounds_toArray, List.set_cons_zero, List.set_cons_succ]
    refine callHd (f := 1) (i := 6) ⟨rfl, rfl⟩ (by decide) (by kernel_rfl) rfl ?cc ((pick_es E1.out (by omega) n2 (by omega) (by omega)).mono ?_)
    case cc => go_simp
    rintro _ V2 ⟨x6, rfl, h0x6, h1x6, E, hB⟩
    have E2 : Hid _ := E
    have hsz := hB.size
    have hatA := hidZ (AtL.same hatA.out (fun b hb => hB.block b (by have : b = lA := hb; have := hlA.1; omega) (by have : b = lA := hb; have := hlA.2; omega)))
    have hlA : lA < V2.heap.size ∧ lA ≠ R := ⟨by have := hlA.1; have := hsz; omega, hlA.2⟩
    clear E hB hsz
    obtain ⟨j6, rfl⟩ := Int.eq_ofNat_of_zero_le h0x6
    have hj6 : j6 < X.pp.length := by omega
    refine ⟨_, rfl, E2.out.bx, ?_⟩
    simp only [Act.put, List.setIfInBounds_toArray, List.set_cons_zero, List.set_cons_succ]
    refine callHd (f := 0) (i := 9) ⟨rfl, rfl⟩ (by decide) (by kernel_rfl) rfl ?cc ((of_es E2.out (by omega) (fun b => b = lA) _ _ hatA.out (fun b hb => by have e : b = lA := hb; rw [e]; exact hlA) (Nat.le_of_ble_eq_true rfl) (Nat.le_of_ble_eq_true rfl)).mono ?_)
    case cc => go_simp
    rintro _ V3 ⟨s9, hss9, rfl, E, hB⟩
    have E3 : Hid _ := E
    have hsz := hB.size
    clear E hB hsz
    have zs9 : Hid (s9.size ≤ maxLen) := by show s9.size ≤ maxLen; simp at hss9; rcases hss9 with rfl | rfl | rfl <;> first | (unfold maxLen; decide) | exact Nat.le_of_ble_eq_true rfl
    clear hss9
    refine ⟨_, rfl, E3.out.bx, ?_⟩
    simp only [Act.put, List.setIfInBounds_toArray, List.set_cons_zero, List.set_cons_succ]
    refine ⟨by kernel_rfl, ?_⟩
    simp only [List.drop_succ_cons, List.drop_zero]
    obtain ⟨gp, cap', e', _, hgl, hcell⟩ := Row.cell E3.out.pl.p (i := j6) (by omega)
    injection e' with e1 e2 e3
    subst e1
    clear e2 e3
    have yc := (hcell 2 (by omega)).1
    have yf := (hcell 2 (by omega)).2
    have D8 := E3.out.putP en2 (i := j6) (j := 2) (x := .string s9) (y := ((X.pp[j6]).1, (X.pp[j6]).2.1, s9)) (by omega) (by decide) (fun q hq => by match q, hq with
      | 0, _ => rfl
      | 1, _ => rfl
      | 2, _ => rfl) (⟨(E3.out.ok.p _ (List.getElem_mem hj6)).1, zs9.out⟩)
    have hkl : ((j6 : Int) < (n2 : Int)) := by omega
    go_wp2_with fail
    exact hK _ _ (by rfl) ⟨_, _, _, _, _, D8.up (by omega)⟩
end Go.Proofs.Ytgjcppdeljoimaa
