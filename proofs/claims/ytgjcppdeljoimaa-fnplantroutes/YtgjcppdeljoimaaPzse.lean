import Derived.Test.YtgjcppdeljoimaaM18
namespace Go.Proofs.Ytgjcppdeljoimaa
open Go.RowKit Go.Sort
set_option maxRecDepth 100000 in
set_option maxHeartbeats 4000000 in
theorem spo30 (R P Qb : Nat) (ob : Option Addr) (n cb : Nat) (f : Nat → Int) (w u : World) (v0 v1 v2 v3 : Value) (X : PlL) (c : Int) (hc : c ≤ 75000) {Q : Exit → Act → World → Prop} {code : Code} (t1 t2 t3 t4 t6 t7 t9 t10 t11 t12 t13 t14 : Value) (xs : List Value) (hx : xs.length = 221) (k : Nat) (hk : k < X.vv.length) (E0 : Es R P Qb w ob n cb f v0 v1 v2 v3 X c u) (hcode : code = reg 30 Try.f29)
    (hK : ∀ (ys : List Value) (wr : World), ys.length = 221 → Est R P Qb w ob n cb f (c + 3) wr → Q .normal ⟨(.pointer (some ⟨R, 0, none⟩) :: t1 :: t2 :: t3 :: t4 :: .pointer (some ⟨P, 0, none⟩) :: t6 :: t7 :: .int .i64 k :: t9 :: t10 :: t11 :: t12 :: t13 :: t14 :: ys).toArray, []⟩ wr) :
    Code.wp Try.prog code Q ⟨(.pointer (some ⟨R, 0, none⟩) :: t1 :: t2 :: t3 :: t4 :: .pointer (some ⟨P, 0, none⟩) :: t6 :: t7 :: .int .i64 k :: t9 :: t10 :: t11 :: t12 :: t13 :: t14 :: xs).toArray, []⟩ u := by
  obtain ⟨g, rfl⟩ := len221 hx
  clear hx
  dsimp only
  subst hcode
  conv => arg 2; whnf
  obtain ⟨o0, c0, rfl⟩ := Row.form E0.pl.s
  obtain ⟨o1, c1, rfl⟩ := Row.form E0.pl.f
  obtain ⟨o2, c2, rfl⟩ := Row.form E0.pl.p
  obtain ⟨o3, c3, rfl⟩ := Row.form E0.pl.v
  generalize en0 : X.ss.length = n0 at E0 ⊢
  generalize en1 : X.ff.length = n1 at E0 ⊢
  generalize en2 : X.pp.length = n2 at E0 ⊢
  generalize en3 : X.vv.length = n3 at E0 ⊢
  have D1 : Hid _ := E0
  clear E0
  refine wp_region_movesC (fun v => v.heap[P]? = some (.cells #[.slice o0 n0 c0, .slice o1 n1 c1, .slice o2 n2 c2, .slice o3 n3 c3] 28 (0, 0))) 6 [] (by kernel_rfl) (by kernel_rfl) D1.out.bx ?_
  simp only [List.filterMap_nil, movD]
  have E0 : Hid _ := D1.out.below ((Below.refl _ _).drew)
  refine takeHQ (f := 5) (i := 0) (.pointer (some ⟨P, 3, none⟩)) ⟨rfl, rfl⟩ (by kernel_rfl) rfl E0.out.bx ?ta ?_
  case ta => intro v hv; go_simp
  simp only [Act.put, List.setIfInBounds_toArray, List.set_cons_zero, List.set_cons_succ]
  refine takeHQ (f := 4) (i := 1) (.slice o3 n3 c3) ⟨rfl, rfl⟩ (by kernel_rfl) rfl E0.out.bx ?ta ?_
  case ta => intro v hv; have c3_ := (cell_row hv 3 (.slice o3 n3 c3) rfl).1; go_simp
  simp only [Act.put, List.setIfInBounds_toArray, List.set_cons_zero, List.set_cons_succ]
  refine takeHQ (f := 3) (i := 2) (.int .i64 k) ⟨rfl, rfl⟩ (by kernel_rfl) rfl E0.out.bx ?ta ?_
  case ta => intro v hv; go_simp
  simp only [Act.put, List.setIfInBounds_toArray, List.set_cons_zero, List.set_cons_succ]
  refine takeHQ (f := 2) (i := 3) (.pointer (some ⟨R, 0, none⟩)) ⟨rfl, rfl⟩ (by kernel_rfl) rfl E0.out.bx ?ta ?_
  case ta => intro v hv; go_simp
  simp only [Act.put, List.setIfInBounds_toArray, List.set_cons_zero, List.set_cons_succ]
  obtain ⟨V1, hV1⟩ : ∃ Z, Z = u.drew.alloc (.cells (([⟨#[]⟩, ⟨#[86]⟩, ⟨#[97]⟩, ⟨#[122, 122]⟩] : List ByteArray).map Value.string).toArray 9) := ⟨_, rfl⟩
  obtain ⟨lA, hqA⟩ : ∃ l, l = u.drew.heap.size := ⟨_, rfl⟩
  have bl : Below u.drew.heap.size u.drew V1 := by rw [hV1]; exact (Below.refl _ _).alloc (Nat.le_refl _) _
  have hsz : u.drew.heap.size < V1.heap.size := by rw [hV1]; simp
  have hatA : Hid (AtL (fun b => b = lA) V1 ([⟨#[]⟩, ⟨#[86]⟩, ⟨#[97]⟩, ⟨#[122, 122]⟩] : List ByteArray) (.slice (some ⟨lA, 0, none⟩) 4 4)) := by rw [hV1, hqA]; exact lit_at 9 u.drew [⟨#[]⟩, ⟨#[86]⟩, ⟨#[97]⟩, ⟨#[122, 122]⟩] (by unfold maxLen; simp) (by intro s hs; simp at hs; rcases hs with rfl | rfl | rfl | rfl <;> first | (unfold maxLen; decide) | exact Nat.le_of_ble_eq_true rfl)
  have E1 : Hid _ := E0.out.below bl
  refine oneHd (f := 1) (i := 4) (.slice (some ⟨lA, 0, none⟩) 4 4) V1 ⟨rfl, rfl⟩ (by decide) (by kernel_rfl) rfl ?cb E1.out.bx ?_
  case cb => rw [hV1, hqA]; go_simp
  have hlA : lA < V1.heap.size ∧ lA ≠ R := ⟨by omega, by have := E0.out.low; have := E0.out.size; omega⟩
  clear hV1 bl hsz hqA
  simp only [Act.put, List.setIfInBounds_toArray, List.set_cons_zero, List.set_cons_succ]
  refine callHd (f := 0) (i := 5) ⟨rfl, rfl⟩ (by decide) (by kernel_rfl) rfl ?cc ((of_es E1.out (by omega) (fun b => b = lA) _ _ hatA.out (fun b hb => by have e : b = lA := hb; rw [e]; exact hlA) (Nat.le_of_ble_eq_true rfl) (Nat.le_of_ble_eq_true rfl)).mono ?_)
  case cc => go_simp
  rintro _ V2 ⟨s5, hss5, rfl, E, hB⟩
  have E2 : Hid _ := E
  have hsz := hB.size
  clear E hB hsz
  have zs5 : Hid (s5.size ≤ maxLen) := by show s5.size ≤ maxLen; simp at hss5; rcases hss5 with rfl | rfl | rfl | rfl <;> first | (unfold maxLen; decide) | exact Nat.le_of_ble_eq_true rfl
  clear hss5
  refine ⟨_, rfl, E2.out.bx, ?_⟩
  simp only [Act.put, List.setIfInBounds_toArray, List.set_cons_zero, List.set_cons_succ]
  refine ⟨by kernel_rfl, ?_⟩
  simp only [List.drop_succ_cons, List.drop_zero]
  obtain ⟨gp, cap', e', _, hgl, hcell⟩ := Row.cell E2.out.pl.v (i := k) (by omega)
  injection e' with e1 e2 e3
  subst e1
  clear e2 e3
  have yc := (hcell 0 (by omega)).1
  have yf := (hcell 0 (by omega)).2
  simp only [Nat.add_zero] at yc yf
  have D8 := E2.out.putV en3 (i := k) (j := 0) (x := .string s5) (y := (s5, (X.vv[k]).2)) (by omega) (by decide) (fun q hq => by match q, hq with
    | 0, _ => rfl
    | 1, _ => rfl
    | 2, _ => rfl
    | 3, _ => rfl) (⟨zs5.out, (E2.out.ok.v _ (List.getElem_mem hk)).2⟩)
  have hkl : ((k : Int) < (n3 : Int)) := by omega
  go_wp2_with fail
  exact hK _ _ (by rfl) ⟨_, _, _, _, _, D8.up (by omega)⟩
set_option maxRecDepth 100000 in
set_option maxHeartbeats 4000000 in
theorem spo34 (R P Qb : Nat) (ob : Option Addr) (n cb : Nat) (f : Nat → Int) (w u : World) (v0 v1 v2 v3 : Value) (X : PlL) (c : Int) (hc : c ≤ 75000) {Q : Exit → Act → World → Prop} {code : Code} (t1 t2 t3 t4 t6 t7 t9 t10 t11 t12 t13 t14 : Value) (xs : List Value) (hx : xs.length = 221) (k : Nat) (hk : k < X.vv.length) (E0 : Es R P Qb w ob n cb f v0 v1 v2 v3 X c u) (hcode : code = reg 34 Try.f29)
    (hK : ∀ (ys : List Value) (wr : World), ys.length = 221 → Est R P Qb w ob n cb f (c + 3) wr → Q .normal ⟨(.pointer (some ⟨R, 0, none⟩) :: t1 :: t2 :: t3 :: t4 :: .pointer (some ⟨P, 0, none⟩) :: t6 :: t7 :: .int .i64 k :: t9 :: t10 :: t11 :: t12 :: t13 :: t14 :: ys).toArray, []⟩ wr) :
    Code.wp Try.prog code Q ⟨(.pointer (some ⟨R, 0, none⟩) :: t1 :: t2 :: t3 :: t4 :: .pointer (some ⟨P, 0, none⟩) :: t6 :: t7 :: .int .i64 k :: t9 :: t10 :: t11 :: t12 :: t13 :: t14 :: xs).toArray, []⟩ u := by
  obtain ⟨g, rfl⟩ := len221 hx
  clear hx
  dsimp only
  subst hcode
  conv => arg 2; whnf
  obtain ⟨o0, c0, rfl⟩ := Row.form E0.pl.s
  obtain ⟨o1, c1, rfl⟩ := Row.form E0.pl.f
  obtain ⟨o2, c2, rfl⟩ := Row.form E0.pl.p
  obtain ⟨o3, c3, rfl⟩ := Row.form E0.pl.v
  generalize en0 : X.ss.length = n0 at E0 ⊢
  generalize en1 : X.ff.length = n1 at E0 ⊢
  generalize en2 : X.pp.length = n2 at E0 ⊢
  generalize en3 : X.vv.length = n3 at E0 ⊢
  have D1 : Hid _ := E0
  clear E0
  refine wp_region_movesC (fun v => v.heap[P]? = some (.cells #[.slice o0 n0 c0, .slice o1 n1 c1, .slice o2 n2 c2, .slice o3 n3 c3] 28 (0, 0))) 6 [] (by kernel_rfl) (by kernel_rfl) D1.out.bx ?_
  simp only [List.filterMap_nil, movD]
  have E0 : Hid _ := D1.out.below ((Below.refl _ _).drew)
  refine takeHQ (f := 5) (i := 0) (.pointer (some ⟨P, 3, none⟩)) ⟨rfl, rfl⟩ (by kernel_rfl) rfl E0.out.bx ?ta ?_
  case ta => intro v hv; go_simp
  simp only [Act.put, List.setIfInBounds_toArray, List.set_cons_zero, List.set_cons_succ]
  refine takeHQ (f := 4) (i := 1) (.slice o3 n3 c3) ⟨rfl, rfl⟩ (by kernel_rfl) rfl E0.out.bx ?ta ?_
  case ta => intro v hv; have c3_ := (cell_row hv 3 (.slice o3 n3 c3) rfl).1; go_simp
  simp only [Act.put, List.setIfInBounds_toArray, List.set_cons_zero, List.set_cons_succ]
  refine takeHQ (f := 3) (i := 2) (.int .i64 k) ⟨rfl, rfl⟩ (by kernel_rfl) rfl E0.out.bx ?ta ?_
  case ta => intro v hv; go_simp
  simp only [Act.put, List.setIfInBounds_toArray, List.set_cons_zero, List.set_cons_succ]
  refine takeHQ (f := 2) (i := 3) (.pointer (some ⟨R, 0, none⟩)) ⟨rfl, rfl⟩ (by kernel_rfl) rfl E0.out.bx ?ta ?_
  case ta => intro v hv; go_simp
  simp only [Act.put, List.setIfInBounds_toArray, List.set_cons_zero, List.set_cons_succ]
  obtain ⟨V1, hV1⟩ : ∃ Z, Z = u.drew.alloc (.cells (([⟨#[]⟩, ⟨#[110, 111, 110, 101]⟩, ⟨#[97]⟩] : List ByteArray).map Value.string).toArray 9) := ⟨_, rfl⟩
  obtain ⟨lA, hqA⟩ : ∃ l, l = u.drew.heap.size := ⟨_, rfl⟩
  have bl : Below u.drew.heap.size u.drew V1 := by rw [hV1]; exact (Below.refl _ _).alloc (Nat.le_refl _) _
  have hsz : u.drew.heap.size < V1.heap.size := by rw [hV1]; simp
  have hatA : Hid (AtL (fun b => b = lA) V1 ([⟨#[]⟩, ⟨#[110, 111, 110, 101]⟩, ⟨#[97]⟩] : List ByteArray) (.slice (some ⟨lA, 0, none⟩) 3 3)) := by rw [hV1, hqA]; exact lit_at 9 u.drew [⟨#[]⟩, ⟨#[110, 111, 110, 101]⟩, ⟨#[97]⟩] (by unfold maxLen; simp) (by intro s hs; simp at hs; rcases hs with rfl | rfl | rfl <;> first | (unfold maxLen; decide) | exact Nat.le_of_ble_eq_true rfl)
  have E1 : Hid _ := E0.out.below bl
  refine oneHd (f := 1) (i := 4) (.slice (some ⟨lA, 0, none⟩) 3 3) V1 ⟨rfl, rfl⟩ (by decide) (by kernel_rfl) rfl ?cb E1.out.bx ?_
  case cb => rw [hV1, hqA]; go_simp
  have hlA : lA < V1.heap.size ∧ lA ≠ R := ⟨by omega, by have := E0.out.low; have := E0.out.size; omega⟩
  clear hV1 bl hsz hqA
  simp only [Act.put, List.setIfInBounds_toArray, List.set_cons_zero, List.set_cons_succ]
  refine callHd (f := 0) (i := 5) ⟨rfl, rfl⟩ (by decide) (by kernel_rfl) rfl ?cc ((of_es E1.out (by omega) (fun b => b = lA) _ _ hatA.out (fun b hb => by have e : b = lA := hb; rw [e]; exact hlA) (Nat.le_of_ble_eq_true rfl) (Nat.le_of_ble_eq_true rfl)).mono ?_)
  case cc => go_simp
  rintro _ V2 ⟨s5, hss5, rfl, E, hB⟩
  have E2 : Hid _ := E
  have hsz := hB.size
  clear E hB hsz
  have zs5 : Hid (s5.size ≤ maxLen) := by show s5.size ≤ maxLen; simp at hss5; rcases hss5 with rfl | rfl | rfl <;> first | (unfold maxLen; decide) | exact Nat.le_of_ble_eq_true rfl
  clear hss5
  refine ⟨_, rfl, E2.out.bx, ?_⟩
  simp only [Act.put, List.setIfInBounds_toArray, List.set_cons_zero, List.set_cons_succ]
  refine ⟨by kernel_rfl, ?_⟩
  simp only [List.drop_succ_cons, List.drop_zero]
  obtain ⟨gp, cap', e', _, hgl, hcell⟩ := Row.cell E2.out.pl.v (i := k) (by omega)
  injection e' with e1 e2 e3
  subst e1
  clear e2 e3
  have yc := (hcell 2 (by omega)).1
  have yf := (hcell 2 (by omega)).2
  have D8 := E2.out.putV en3 (i := k) (j := 2) (x := .string s5) (y := ((X.vv[k]).1, (X.vv[k]).2.1, s5, (X.vv[k]).2.2.2)) (by omega) (by decide) (fun q hq => by match q, hq with
    | 0, _ => rfl
    | 1, _ => rfl
    | 2, _ => rfl
    | 3, _ => rfl) (⟨(E2.out.ok.v _ (List.getElem_mem hk)).1, (E2.out.ok.v _ (List.getElem_mem hk)).2.1, zs5.out, (E2.out.ok.v _ (List.getElem_mem hk)).2.2.2⟩)
  have hkl : ((k : Int) < (n3 : Int)) := by omega
  go_wp2_with fail
  exact hK _ _ (by rfl) ⟨_, _, _, _, _, D8.up (by omega)⟩
set_option maxRecDepth 100000 in
set_option maxHeartbeats 4000000 in
theorem spo28 (R P Qb : Nat) (ob : Option Addr) (n cb : Nat) (f : Nat → Int) (w u : World) (v0 v1 v2 v3 : Value) (X : PlL) (c : Int) (_hc : c ≤ 75000) {Q : Exit → Act → World → Prop} {code : Code} (t1 t2 t3 t4 t6 t7 t9 t10 t11 t12 t13 t14 : Value) (xs : List Value) (hx : xs.length = 221) (k : Nat) (hk : k < X.vv.length) (E0 : Es R P Qb w ob n cb f v0 v1 v2 v3 X c u) (hcode : code = reg 28 Try.f29)
    (hK : ∀ (ys : List Value) (wr : World), ys.length = 221 → Est R P Qb w ob n cb f (c + 3) wr → Q .normal ⟨(.pointer (some ⟨R, 0, none⟩) :: t1 :: t2 :: t3 :: t4 :: .pointer (some ⟨P, 0, none⟩) :: t6 :: t7 :: .int .i64 k :: t9 :: t10 :: t11 :: t12 :: t13 :: t14 :: ys).toArray, []⟩ wr) :
    Code.wp Try.prog code Q ⟨(.pointer (some ⟨R, 0, none⟩) :: t1 :: t2 :: t3 :: t4 :: .pointer (some ⟨P, 0, none⟩) :: t6 :: t7 :: .int .i64 k :: t9 :: t10 :: t11 :: t12 :: t13 :: t14 :: xs).toArray, []⟩ u := by
  obtain ⟨g, rfl⟩ := len221 hx
  clear hx
  dsimp only
  subst hcode
  conv => arg 2; whnf
  obtain ⟨o0, c0, rfl⟩ := Row.form E0.pl.s
  obtain ⟨o1, c1, rfl⟩ := Row.form E0.pl.f
  obtain ⟨o2, c2, rfl⟩ := Row.form E0.pl.p
  obtain ⟨o3, c3, rfl⟩ := Row.form E0.pl.v
  generalize en0 : X.ss.length = n0 at E0 ⊢
  generalize en1 : X.ff.length = n1 at E0 ⊢
  generalize en2 : X.pp.length = n2 at E0 ⊢
  generalize en3 : X.vv.length = n3 at E0 ⊢
  have D1 : Hid _ := E0
  clear E0
  have E0 : Hid _ := D1.out
  have x3 := (cell_row D1.out.bx 3 (.slice o3 n3 c3) rfl).1
  obtain ⟨gp, cap', e', _, hgl, hcell⟩ := Row.cell E0.out.pl.v (i := k) (by omega)
  injection e' with e1 e2 e3
  subst e1
  clear e2 e3
  have yc := (hcell 3 (by omega)).1
  have yf := (hcell 3 (by omega)).2
  have D8 := E0.out.putV en3 (i := k) (j := 3) (x := .string ⟨#[]⟩) (y := ((X.vv[k]).1, (X.vv[k]).2.1, (X.vv[k]).2.2.1, ⟨#[]⟩)) (by omega) (by decide) (fun q hq => by match q, hq with
    | 0, _ => rfl
    | 1, _ => rfl
    | 2, _ => rfl
    | 3, _ => rfl) (⟨(E0.out.ok.v _ (List.getElem_mem hk)).1, (E0.out.ok.v _ (List.getElem_mem hk)).2.1, (E0.out.ok.v _ (List.getElem_mem hk)).2.2.1, Nat.zero_le _⟩)
  have hkl : ((k : Int) < (n3 : Int)) := by omega
  go_wp2_with fail
  exact hK _ _ (by rfl) ⟨_, _, _, _, _, D8.up (by omega)⟩
set_option maxRecDepth 100000 in
set_option maxHeartbeats 4000000 in
theorem spo32 (R P Qb : Nat) (ob : Option Addr) (n cb : Nat) (f : Nat → Int) (w u : World) (v0 v1 v2 v3 : Value) (X : PlL) (c : Int) (hc : c ≤ 75000) {Q : Exit → Act → World → Prop} {code : Code} (t1 t2 t3 t4 t6 t7 t9 t10 t11 t12 t13 t14 : Value) (xs : List Value) (hx : xs.length = 221) (k : Nat) (hk : k < X.vv.length) (E0 : Es R P Qb w ob n cb f v0 v1 v2 v3 X c u) (hcode : code = reg 32 Try.f29)
    (hK : ∀ (ys : List Value) (wr : World), ys.length = 221 → Est R P Qb w ob n cb f (c + 3) wr → Q .normal ⟨(.pointer (some ⟨R, 0, none⟩) :: t1 :: t2 :: t3 :: t4 :: .pointer (some ⟨P, 0, none⟩) :: t6 :: t7 :: .int .i64 k :: t9 :: t10 :: t11 :: t12 :: t13 :: t14 :: ys).toArray, []⟩ wr) :
    Code.wp Try.prog code Q ⟨(.pointer (some ⟨R, 0, none⟩) :: t1 :: t2 :: t3 :: t4 :: .pointer (some ⟨P, 0, none⟩) :: t6 :: t7 :: .int .i64 k :: t9 :: t10 :: t11 :: t12 :: t13 :: t14 :: xs).toArray, []⟩ u := by
  obtain ⟨g, rfl⟩ := len221 hx
  clear hx
  dsimp only
  subst hcode
  conv => arg 2; whnf
  obtain ⟨o0, c0, rfl⟩ := Row.form E0.pl.s
  obtain ⟨o1, c1, rfl⟩ := Row.form E0.pl.f
  obtain ⟨o2, c2, rfl⟩ := Row.form E0.pl.p
  obtain ⟨o3, c3, rfl⟩ := Row.form E0.pl.v
  generalize en0 : X.ss.length = n0 at E0 ⊢
  generalize en1 : X.ff.length = n1 at E0 ⊢
  generalize en2 : X.pp.length = n2 at E0 ⊢
  generalize en3 : X.vv.length = n3 at E0 ⊢
  have D1 : Hid _ := E0
  clear E0
  obtain ⟨gv, cap', e', _, hgl, hcell⟩ := Row.cell D1.out.pl.v (i := k) (by omega)
  injection e' with e1 e2 e3
  subst e1
  clear e2 e3
  have YK : Hid (∀ (c : Int) (v : World), Es R P Qb w ob n cb f (.slice o0 n0 c0) (.slice o1 n1 c1) (.slice o2 n2 c2) (.slice (some ⟨gv, 0, none⟩) n3 c3) X c v → v.cell? ⟨gv, k * 4 + 2, none⟩ = some (.string (X.vv[k]).2.2.1)) := fun c v h => by
    obtain ⟨g', c', e4, _, _, hcell⟩ := Row.cell h.pl.v hk
    injection e4 with h1 _ _
    injection h1 with h1
    injection h1 with h1
    subst h1
    exact (hcell 2 (by omega)).1
  have zB : Hid ((X.vv[k]).2.2.1.size ≤ maxLen) := (D1.out.ok.v _ (List.getElem_mem hk)).2.2.1
  have hkl : ((k : Int) < (n3 : Int)) := by omega
  have Y1 : Hid _ := YK.out _ _ D1.out
  refine wp_region_movesC (fun v => v.heap[P]? = some (.cells #[.slice o0 n0 c0, .slice o1 n1 c1, .slice o2 n2 c2, .slice (some ⟨gv, 0, none⟩) n3 c3] 28 (0, 0)) ∧ v.cell? ⟨gv, k * 4 + 2, none⟩ = some (.string (X.vv[k]).2.2.1)) 12 [] (by kernel_rfl) (by kernel_rfl) ⟨D1.out.bx, Y1.out⟩ ?_
  simp only [List.filterMap_nil, movD]
  have E0 : Hid _ := D1.out.below ((Below.refl _ _).drew)
  refine takeHQ (f := 11) (i := 0) (.pointer (some ⟨P, 3, none⟩)) ⟨rfl, rfl⟩ (by kernel_rfl) rfl ⟨E0.out.bx, YK.out _ _ E0.out⟩ ?ta ?_
  case ta => intro v hv; go_simp
  simp only [Act.put, List.setIfInBounds_toArray, List.set_cons_zero, List.set_cons_succ]
  refine takeHQ (f := 10) (i := 1) (.slice (some ⟨gv, 0, none⟩) n3 c3) ⟨rfl, rfl⟩ (by kernel_rfl) rfl ⟨E0.out.bx, YK.out _ _ E0.out⟩ ?ta ?_
  case ta => intro v hv; have c3_ := (cell_row hv.1 3 (.slice (some ⟨gv, 0, none⟩) n3 c3) rfl).1; go_simp
  simp only [Act.put, List.setIfInBounds_toArray, List.set_cons_zero, List.set_cons_succ]
  refine takeHQ (f := 9) (i := 2) (.int .i64 k) ⟨rfl, rfl⟩ (by kernel_rfl) rfl ⟨E0.out.bx, YK.out _ _ E0.out⟩ ?ta ?_
  case ta => intro v hv; go_simp
  simp only [Act.put, List.setIfInBounds_toArray, List.set_cons_zero, List.set_cons_succ]
  refine takeHQ (f := 8) (i := 3) (.pointer (some ⟨R, 0, none⟩)) ⟨rfl, rfl⟩ (by kernel_rfl) rfl ⟨E0.out.bx, YK.out _ _ E0.out⟩ ?ta ?_
  case ta => intro v hv; go_simp
  simp only [Act.put, List.setIfInBounds_toArray, List.set_cons_zero, List.set_cons_succ]
  refine takeHQ (f := 7) (i := 4) (.pointer (some ⟨P, 3, none⟩)) ⟨rfl, rfl⟩ (by kernel_rfl) rfl ⟨E0.out.bx, YK.out _ _ E0.out⟩ ?ta ?_
  case ta => intro v hv; go_simp
  simp only [Act.put, List.setIfInBounds_toArray, List.set_cons_zero, List.set_cons_succ]
  refine takeHQ (f := 6) (i := 5) (.slice (some ⟨gv, 0, none⟩) n3 c3) ⟨rfl, rfl⟩ (by kernel_rfl) rfl ⟨E0.out.bx, YK.out _ _ E0.out⟩ ?ta ?_
  case ta => intro v hv; have c3_ := (cell_row hv.1 3 (.slice (some ⟨gv, 0, none⟩) n3 c3) rfl).1; go_simp
  simp only [Act.put, List.setIfInBounds_toArray, List.set_cons_zero, List.set_cons_succ]
  refine takeHQ (f := 5) (i := 6) (.int .i64 k) ⟨rfl, rfl⟩ (by kernel_rfl) rfl ⟨E0.out.bx, YK.out _ _ E0.out⟩ ?ta ?_
  case ta => intro v hv; go_simp
  simp only [Act.put, List.setIfInBounds_toArray, List.set_cons_zero, List.set_cons_succ]
  refine takeHQ (f := 4) (i := 7) (.pointer (some ⟨gv, k * 4, none⟩)) ⟨rfl, rfl⟩ (by kernel_rfl) rfl ⟨E0.out.bx, YK.out _ _ E0.out⟩ ?ta ?_
  case ta => intro v hv; go_simp
  simp only [Act.put, List.setIfInBounds_toArray, List.set_cons_zero, List.set_cons_succ]
  refine takeHQ (f := 3) (i := 8) (.pointer (some ⟨gv, k * 4 + 2, none⟩)) ⟨rfl, rfl⟩ (by kernel_rfl) rfl ⟨E0.out.bx, YK.out _ _ E0.out⟩ ?ta ?_
  case ta => intro v hv; go_simp
  simp only [Act.put, List.setIfInBounds_toArray, List.set_cons_zero, List.set_cons_succ]
  refine takeHQ (f := 2) (i := 9) (.string (X.vv[k]).2.2.1) ⟨rfl, rfl⟩ (by kernel_rfl) rfl ⟨E0.out.bx, YK.out _ _ E0.out⟩ ?ta ?_
  case ta => intro v hv; have cy_ := hv.2; go_simp
  simp only [Act.put, List.setIfInBounds_toArray, List.set_cons_zero, List.set_cons_succ]
  obtain ⟨V1, hV1⟩ : ∃ Z, Z = u.drew.alloc (.cells (([⟨#[]⟩, ⟨#[110, 111, 110, 101]⟩, (X.vv[k]).2.2.1, ⟨#[122, 122]⟩] : List ByteArray).map Value.string).toArray 9) := ⟨_, rfl⟩
  obtain ⟨lA, hqA⟩ : ∃ l, l = u.drew.heap.size := ⟨_, rfl⟩
  have bl : Below u.drew.heap.size u.drew V1 := by rw [hV1]; exact (Below.refl _ _).alloc (Nat.le_refl _) _
  have hsz : u.drew.heap.size < V1.heap.size := by rw [hV1]; simp
  have hatA : Hid (AtL (fun b => b = lA) V1 ([⟨#[]⟩, ⟨#[110, 111, 110, 101]⟩, (X.vv[k]).2.2.1, ⟨#[122, 122]⟩] : List ByteArray) (.slice (some ⟨lA, 0, none⟩) 4 4)) := by rw [hV1, hqA]; exact lit_at 9 u.drew [⟨#[]⟩, ⟨#[110, 111, 110, 101]⟩, (X.vv[k]).2.2.1, ⟨#[122, 122]⟩] (by unfold maxLen; simp) (by intro s hs; simp at hs; rcases hs with rfl | rfl | rfl | rfl <;> first | (unfold maxLen; decide) | exact Nat.le_of_ble_eq_true rfl | exact zB.out)
  have E1 : Hid _ := E0.out.below bl
  refine oneHd (f := 1) (i := 10) (.slice (some ⟨lA, 0, none⟩) 4 4) V1 ⟨rfl, rfl⟩ (by decide) (by kernel_rfl) rfl ?cb ⟨E1.out.bx, YK.out _ _ E1.out⟩ ?_
  case cb => rw [hV1, hqA]; go_simp
  have hlA : lA < V1.heap.size ∧ lA ≠ R := ⟨by omega, by have := E0.out.low; have := E0.out.size; omega⟩
  clear hV1 bl hsz hqA
  simp only [Act.put, List.setIfInBounds_toArray, List.set_cons_zero, List.set_cons_succ]
  refine callHd (f := 0) (i := 11) ⟨rfl, rfl⟩ (by decide) (by kernel_rfl) rfl ?cc ((of_es E1.out (by omega) (fun b => b = lA) _ _ hatA.out (fun b hb => by have e : b = lA := hb; rw [e]; exact hlA) (Nat.le_of_ble_eq_true rfl) (Nat.le_of_ble_eq_true rfl)).mono ?_)
  case cc => go_simp
  rintro _ V2 ⟨s11, hss11, rfl, E, hB⟩
  have E2 : Hid _ := E
  have hsz := hB.size
  clear E hB hsz
  have zs11 : Hid (s11.size ≤ maxLen) := by show s11.size ≤ maxLen; simp at hss11; rcases hss11 with rfl | rfl | rfl | rfl <;> first | (unfold maxLen; decide) | exact Nat.le_of_ble_eq_true rfl | exact zB.out
  clear hss11
  refine ⟨_, rfl, ⟨E2.out.bx, YK.out _ _ E2.out⟩, ?_⟩
  simp only [Act.put, List.setIfInBounds_toArray, List.set_cons_zero, List.set_cons_succ]
  refine ⟨by kernel_rfl, ?_⟩
  simp only [List.drop_succ_cons, List.drop_zero]
  obtain ⟨gp, cap', e', _, hgl, hcell⟩ := Row.cell E2.out.pl.v (i := k) (by omega)
  injection e' with e1 e2 e3
  injection e1 with e1
  injection e1 with e1
  subst e1
  clear e2 e3
  have yc := (hcell 1 (by omega)).1
  have yf := (hcell 1 (by omega)).2
  have D8 := E2.out.putV en3 (i := k) (j := 1) (x := .string s11) (y := ((X.vv[k]).1, s11, (X.vv[k]).2.2)) (by omega) (by decide) (fun q hq => by match q, hq with
    | 0, _ => rfl
    | 1, _ => rfl
    | 2, _ => rfl
    | 3, _ => rfl) (⟨(E2.out.ok.v _ (List.getElem_mem hk)).1, zs11.out, (E2.out.ok.v _ (List.getElem_mem hk)).2.2⟩)
  go_wp2_with fail
  exact hK _ _ (by rfl) ⟨_, _, _, _, _, D8.up (by omega)⟩
end Go.Proofs.Ytgjcppdeljoimaa
