import Derived.Test.YtobchllaopdchacGreatM6
import Derived.Test.YtobchllaopdchacGreatM11
import Derived.Test.YtobchllaopdchacGreatXpq
import Derived.Test.YtobchllaopdchacGreatM2
import Derived.Test.YtobchllaopdchacGreatM3
import Derived.Test.YtobchllaopdchacGreatM5
import Derived.Deep.Cut
namespace Go.Proofs.YtobchllaopdchacGreat
open Go.RowKit Go.Sort
set_option maxRecDepth 100000 in
set_option maxHeartbeats 4000000 in
theorem slotA_any (a : ByteArray) (w : World) : Calls Tryz.prog 234 #[.agg #[.string a]] w fun e w' => ∃ q, e = .returned q ∧ Row w' w.heap.size 9 1 eS q [a] ∧ Below w.heap.size w w' := by
  go_enter Tryz.func234, Tryz.ntmps234
  go_wp2
  go_ret
  refine ⟨_, rfl, ?_, ((Below.refl _ _).alloc (Nat.le_refl _) _).alloc (by simp) _⟩
  have h := own_built (base := w.heap.size) (e := 9) (size := 1) (k := 1) (w := w.alloc (.cells #[.string a] 234)) (c := #[.string a]) (by simp) (by unfold maxLen; omega) rfl
  rw [World.size_alloc] at h
  exact h
set_option maxRecDepth 100000 in
set_option maxHeartbeats 4000000 in
theorem slotM_any (a b : ByteArray) (n : Int) (w : World) : Calls Tryz.prog 238 #[.agg #[.int .i64 n, .string a, .string b]] w fun e w' => ∃ q, e = .returned q ∧ Row w' w.heap.size 9 1 eS q [a, b] ∧ Below w.heap.size w w' := by
  go_enter Tryz.func238, Tryz.ntmps238
  go_wp2
  go_ret
  refine ⟨_, rfl, ?_, ((Below.refl _ _).alloc (Nat.le_refl _) _).alloc (by simp) _⟩
  have h := own_built (base := w.heap.size) (e := 9) (size := 1) (k := 2) (w := w.alloc (.cells #[.int .i64 n, .string a, .string b] 240)) (c := #[.string a, .string b]) (by simp) (by unfold maxLen; omega) rfl
  rw [World.size_alloc] at h
  exact h
theorem own_2 (a b : ByteArray) : ownL 2 a b = [a, b] := rfl
theorem own_1 {kd : Int} (a b : ByteArray) (h : kd ≠ 2) : ownL kd a b = [a] := if_neg h
set_option maxRecDepth 100000 in
set_option maxHeartbeats 4000000 in
theorem usedS_any (S1 S2 : Nat → Prop) (l1 l2 : List ByteArray) (v1 v2 : Value) (nm a b th el : ByteArray) (kd n wi : Int) (w : World) (hk : kd = 1 ∨ kd = 2 ∨ kd = 3 ∨ kd = 4 ∨ kd = 5) (za : a.size ≤ 8) (zb : kd = 2 → b.size ≤ 8) (h1 : AtL S1 w l1 v1) (h2 : AtL S2 w l2 v2) (s1 : ∀ q, S1 q → q < w.heap.size) (s2 : ∀ q, S2 q → q < w.heap.size) (asc : AscL l1) (m1 : l1.length ≤ 8192) (m2 : l2.length ≤ 8192) (z1 : ∀ x ∈ l1, x.size ≤ 8) (z2 : ∀ x ∈ l2, x.size ≤ 8) :
    Calls Tryz.prog 182 #[.agg #[.string nm, .int .i64 kd, .string a, .string b, .int .i64 n, .int .i64 wi, .string th, .string el], v1, v2] w fun e w' => ∃ q, e = .returned q ∧ Row w' w.heap.size 9 1 eS q (bothL (bothL l1 l2) (ownL kd a b)) ∧ Below w.heap.size w w' := by
  obtain ⟨o1, c1, n1, rfl⟩ : ∃ oa ca na, v1 = .slice oa na ca := by obtain ⟨o, c, e, _⟩ := h1; exact ⟨o, c, _, e⟩
  obtain ⟨o2, c2, n2, rfl⟩ : ∃ oa ca na, v2 = .slice oa na ca := by obtain ⟨o, c, e, _⟩ := h2; exact ⟨o, c, _, e⟩
  obtain ⟨W, hW⟩ : ∃ u, u = w.alloc (.cells #[.string nm, .int .i64 kd, .string a, .string b, .int .i64 n, .int .i64 wi, .string th, .string el] 75) := ⟨_, rfl⟩
  have EW : Hid (W = w.alloc (.cells #[.string nm, .int .i64 kd, .string a, .string b, .int .i64 n, .int .i64 wi, .string th, .string el] 75)) := hW
  have BW : Hid (Below w.heap.size w W) := by rw [hW]; exact (Below.refl _ _).alloc (Nat.le_refl _) _
  have PW : Hid (W.heap[w.heap.size]? = some (.cells #[.string nm, .int .i64 kd, .string a, .string b, .int .i64 n, .int .i64 wi, .string th, .string el] 75 (0, 0))) := by rw [hW]; exact alloc_at _ rfl
  have sW : w.heap.size + 1 ≤ W.heap.size := by rw [hW]; simp
  clear hW
  have H1 : Hid _ := h1.ups s1
  have H2 : Hid _ := h2.ups s2
  have S1' : Hid (∀ u, Below w.heap.size w u → ∀ q, S1 q → q < u.heap.size) := fun u hu q hq => Nat.lt_of_lt_of_le (s1 q hq) hu.size
  have S2' : Hid (∀ u, Below w.heap.size w u → ∀ q, S2 q → q < u.heap.size) := fun u hu q hq => Nat.lt_of_lt_of_le (s2 q hq) hu.size
  have Z1 : Hid (∀ x ∈ l1, x.size ≤ 1048576) := fun x hx => Nat.le_trans (z1 x hx) (by decide)
  have Z2 : Hid (∀ x ∈ l2, x.size ≤ 1048576) := fun x hx => Nat.le_trans (z2 x hx) (by decide)
  have ASC : Hid (AscL l1) := asc
  have ZA : Hid (a.size ≤ 8) := za
  have ZB : Hid (kd = 2 → b.size ≤ 8) := zb
  clear h1 h2 s1 s2 z1 z2 asc za zb
  obtain ⟨x0, _⟩ := cell_row PW.out 0 (.string nm) rfl
  have qx0 := fun d os => cell_regrown x0 d os
  obtain ⟨x1, _⟩ := cell_row PW.out 1 (.int .i64 kd) rfl
  have qx1 := fun d os => cell_regrown x1 d os
  obtain ⟨x2, _⟩ := cell_row PW.out 2 (.string a) rfl
  have qx2 := fun d os => cell_regrown x2 d os
  obtain ⟨x3, _⟩ := cell_row PW.out 3 (.string b) rfl
  have qx3 := fun d os => cell_regrown x3 d os
  obtain ⟨x4, _⟩ := cell_row PW.out 4 (.int .i64 n) rfl
  have qx4 := fun d os => cell_regrown x4 d os
  obtain ⟨x5, _⟩ := cell_row PW.out 5 (.int .i64 wi) rfl
  have qx5 := fun d os => cell_regrown x5 d os
  obtain ⟨x6, _⟩ := cell_row PW.out 6 (.string th) rfl
  have qx6 := fun d os => cell_regrown x6 d os
  obtain ⟨x7, _⟩ := cell_row PW.out 7 (.string el) rfl
  have qx7 := fun d os => cell_regrown x7 d os
  go_enter Tryz.func182, Tryz.ntmps182
  go_upto_region 1 with fail
  rw [← EW.out]
  refine wp_region_mix 6 [0, 1, 3] (by kernel_rfl) (by kernel_rfl) ?_
  simp only [List.filterMap_cons, List.filterMap_nil, List.getElem?_cons_succ, List.getElem?_cons_zero]
  repeat (first | go_big_quiet_step (fail) | quiet_step (fail))
  refine wpQuiet_nil ?_
  have BD : Hid (Below W.heap.size W W.drew) := (Below.refl _ _).drew
  have BD0 : Hid (Below w.heap.size w W.drew) := BW.out.trans (BD.out.mono BW.out.size)
  have C1 : Hid _ := together_any S1 S2 l1 l2 (.slice o1 n1 c1) (.slice o2 n2 c2) W.drew (H1.out _ BD0.out) (H2.out _ BD0.out) (S1'.out _ BD0.out) (S2'.out _ BD0.out) ASC.out (by omega) (by omega) Z1.out Z2.out
  refine call1 (md := .any) (f := 2) (i := 2) (dc := 9) (fn := 183) ⟨rfl, rfl, rfl, by decide⟩ (by kernel_rfl) ?run1 (Calls.mono C1.out ?_)
  case run1 => go_simp
  rintro e u1 ⟨q1, rfl, hr1, hb1⟩
  have B1 : Hid (Below W.heap.size W u1) := BD.out.trans hb1
  have R1 : Hid (Row u1 W.drew.heap.size 9 1 eS q1 (bothL l1 l2)) := hr1
  clear hb1 hr1 C1
  obtain ⟨p1, d1, hq1⟩ := Row.form R1.out
  subst hq1
  refine ⟨_, rfl, regrown_of_below B1.out, ?_⟩
  simp only [Act.put, List.setIfInBounds_toArray, List.set_cons_zero, List.set_cons_succ]
  have C2 : Hid _ := phasing_any nm a b th el kd n wi u1
  refine call1 (md := .any) (f := 1) (i := 4) (dc := 11) (fn := 161) ⟨rfl, rfl, rfl, by decide⟩ (by kernel_rfl) ?run2 (Calls.mono C2.out ?_)
  case run2 => go_simp
  rintro e u2 ⟨rfl, hb2⟩
  have B2 : Hid (Below W.heap.size W u2) := B1.out.trans (hb2.mono B1.out.size)
  have R2 : Hid (Row u2 W.drew.heap.size 9 1 eS (.slice p1 (bothL l1 l2).length d1) (bothL l1 l2)) := Row.below R1.out hb2
  clear hb2 C2
  refine ⟨_, rfl, regrown_of_below B2.out, ?_⟩
  simp only [Act.put, List.setIfInBounds_toArray, List.set_cons_zero, List.set_cons_succ]
  rcases hk with rfl | rfl | rfl | rfl | rfl
  · have hm : ∀ W, (Go.method 388 238 (.agg #[.string a, .int .i64 n, .string b]) "loop.example/malthouse/impl.slots").run Tryz.prog W = .ok (234, .agg #[.string a]) W := fun W => by kernel_rfl
    rw [ph_1]
    have C3 : Hid _ := slotA_any a u2
    refine call1 (md := .any) (f := 0) (i := 5) (dc := 12) (fn := 234) (args := #[.agg #[.string a]]) ⟨rfl, rfl, rfl, by decide⟩ (by kernel_rfl) ?run3 (Calls.mono C3.out ?_)
    case run3 => go_simp
    rintro e u3 ⟨q3, rfl, hr3, hb3⟩
    have B3 : Hid (Below W.heap.size W u3) := B2.out.trans (hb3.mono B2.out.size)
    have R3 : Hid (Row u3 W.drew.heap.size 9 1 eS (.slice p1 (bothL l1 l2).length d1) (bothL l1 l2)) := Row.below R2.out hb3
    have Q3 : Hid (Row u3 u2.heap.size 9 1 eS q3 [a]) := hr3
    clear hb3 hr3 C3
    obtain ⟨p3, d3, hq3⟩ := Row.form Q3.out
    subst hq3
    refine ⟨_, rfl, regrown_of_below B3.out, ?_⟩
    simp only [Act.put, List.setIfInBounds_toArray, List.set_cons_zero, List.set_cons_succ]
    refine ⟨by kernel_rfl, ?_⟩
    simp only [List.drop_succ_cons, List.drop_zero]
    have hz12 : ∀ x ∈ bothL l1 l2, x.size ≤ 1048576 := fun x hx => ((both_memI _ _ x).1 hx).elim (Z1.out x) (Z2.out x)
    have hzL : ∀ x ∈ [a], x.size ≤ 1048576 := fun x hx => by
      have h1 := ZA.out; simp at hx; rw [hx]; omega
    have hl12 := both_len l2 l1
    have C4 : Hid _ := together_any (fun q => W.drew.heap.size ≤ q ∧ q < u3.heap.size) (fun q => u2.heap.size ≤ q ∧ q < u3.heap.size) (bothL l1 l2) [a] _ _ u3 (flatS.row_at R3.out (fun q hq => World.ownsRow.lt R3.out q hq) (fun y hy => Nat.le_trans (hz12 y hy) (by decide))) (flatS.row_at Q3.out (fun q hq => World.ownsRow.lt Q3.out q hq) (fun y hy => Nat.le_trans (hzL y hy) (by decide))) (fun q hq => hq.2) (fun q hq => hq.2) (both_asc _ _ ASC.out) (by omega) (by simp) hz12 hzL
    clear hz12 hzL hl12
    go_wp2_with fail
    refine Calls.mono C4.out ?_
    rintro e u4 ⟨q4, rfl, hr4, hb4⟩
    have B4 : Hid (Below w.heap.size w u4) := BW.out.trans ((B3.out.trans (hb4.mono B3.out.size)).mono BW.out.size)
    have R4 : Hid (Row u4 w.heap.size 9 1 eS q4 (bothL (bothL l1 l2) [a])) := hr4.low (by have := B3.out.size; omega)
    clear hb4 hr4 C4
    obtain ⟨p4, d4, hq4⟩ := Row.form R4.out
    subst hq4
    go_wp2_with fail
    go_ret
    exact ⟨_, rfl, by rw [own_1 a b (by decide)]; exact R4.out, B4.out⟩
  · have hm : ∀ W, (Go.method 388 240 (.agg #[.int .i64 n, .string a, .string b]) "loop.example/malthouse/impl.slots").run Tryz.prog W = .ok (238, .agg #[.int .i64 n, .string a, .string b]) W := fun W => by kernel_rfl
    rw [ph_2]
    have C3 : Hid _ := slotM_any a b n u2
    refine call1 (md := .any) (f := 0) (i := 5) (dc := 12) (fn := 238) (args := #[.agg #[.int .i64 n, .string a, .string b]]) ⟨rfl, rfl, rfl, by decide⟩ (by kernel_rfl) ?run3 (Calls.mono C3.out ?_)
    case run3 => go_simp
    rintro e u3 ⟨q3, rfl, hr3, hb3⟩
    have B3 : Hid (Below W.heap.size W u3) := B2.out.trans (hb3.mono B2.out.size)
    have R3 : Hid (Row u3 W.drew.heap.size 9 1 eS (.slice p1 (bothL l1 l2).length d1) (bothL l1 l2)) := Row.below R2.out hb3
    have Q3 : Hid (Row u3 u2.heap.size 9 1 eS q3 [a, b]) := hr3
    clear hb3 hr3 C3
    obtain ⟨p3, d3, hq3⟩ := Row.form Q3.out
    subst hq3
    refine ⟨_, rfl, regrown_of_below B3.out, ?_⟩
    simp only [Act.put, List.setIfInBounds_toArray, List.set_cons_zero, List.set_cons_succ]
    refine ⟨by kernel_rfl, ?_⟩
    simp only [List.drop_succ_cons, List.drop_zero]
    have hz12 : ∀ x ∈ bothL l1 l2, x.size ≤ 1048576 := fun x hx => ((both_memI _ _ x).1 hx).elim (Z1.out x) (Z2.out x)
    have hzL : ∀ x ∈ [a, b], x.size ≤ 1048576 := fun x hx => by
      have h1 := ZA.out; have h2 := ZB.out rfl; simp at hx; rcases hx with rfl | rfl <;> omega
    have hl12 := both_len l2 l1
    have C4 : Hid _ := together_any (fun q => W.drew.heap.size ≤ q ∧ q < u3.heap.size) (fun q => u2.heap.size ≤ q ∧ q < u3.heap.size) (bothL l1 l2) [a, b] _ _ u3 (flatS.row_at R3.out (fun q hq => World.ownsRow.lt R3.out q hq) (fun y hy => Nat.le_trans (hz12 y hy) (by decide))) (flatS.row_at Q3.out (fun q hq => World.ownsRow.lt Q3.out q hq) (fun y hy => Nat.le_trans (hzL y hy) (by decide))) (fun q hq => hq.2) (fun q hq => hq.2) (both_asc _ _ ASC.out) (by omega) (by simp) hz12 hzL
    clear hz12 hzL hl12
    go_wp2_with fail
    refine Calls.mono C4.out ?_
    rintro e u4 ⟨q4, rfl, hr4, hb4⟩
    have B4 : Hid (Below w.heap.size w u4) := BW.out.trans ((B3.out.trans (hb4.mono B3.out.size)).mono BW.out.size)
    have R4 : Hid (Row u4 w.heap.size 9 1 eS q4 (bothL (bothL l1 l2) [a, b])) := hr4.low (by have := B3.out.size; omega)
    clear hb4 hr4 C4
    obtain ⟨p4, d4, hq4⟩ := Row.form R4.out
    subst hq4
    go_wp2_with fail
    go_ret
    exact ⟨_, rfl, by rw [own_2]; exact R4.out, B4.out⟩
  · have hm : ∀ W, (Go.method 388 242 (.agg #[.string a, .int .i64 n, .int .i64 wi]) "loop.example/malthouse/impl.slots").run Tryz.prog W = .ok (234, .agg #[.string a]) W := fun W => by kernel_rfl
    rw [ph_3]
    have C3 : Hid _ := slotA_any a u2
    refine call1 (md := .any) (f := 0) (i := 5) (dc := 12) (fn := 234) (args := #[.agg #[.string a]]) ⟨rfl, rfl, rfl, by decide⟩ (by kernel_rfl) ?run3 (Calls.mono C3.out ?_)
    case run3 => go_simp
    rintro e u3 ⟨q3, rfl, hr3, hb3⟩
    have B3 : Hid (Below W.heap.size W u3) := B2.out.trans (hb3.mono B2.out.size)
    have R3 : Hid (Row u3 W.drew.heap.size 9 1 eS (.slice p1 (bothL l1 l2).length d1) (bothL l1 l2)) := Row.below R2.out hb3
    have Q3 : Hid (Row u3 u2.heap.size 9 1 eS q3 [a]) := hr3
    clear hb3 hr3 C3
    obtain ⟨p3, d3, hq3⟩ := Row.form Q3.out
    subst hq3
    refine ⟨_, rfl, regrown_of_below B3.out, ?_⟩
    simp only [Act.put, List.setIfInBounds_toArray, List.set_cons_zero, List.set_cons_succ]
    refine ⟨by kernel_rfl, ?_⟩
    simp only [List.drop_succ_cons, List.drop_zero]
    have hz12 : ∀ x ∈ bothL l1 l2, x.size ≤ 1048576 := fun x hx => ((both_memI _ _ x).1 hx).elim (Z1.out x) (Z2.out x)
    have hzL : ∀ x ∈ [a], x.size ≤ 1048576 := fun x hx => by
      have h1 := ZA.out; simp at hx; rw [hx]; omega
    have hl12 := both_len l2 l1
    have C4 : Hid _ := together_any (fun q => W.drew.heap.size ≤ q ∧ q < u3.heap.size) (fun q => u2.heap.size ≤ q ∧ q < u3.heap.size) (bothL l1 l2) [a] _ _ u3 (flatS.row_at R3.out (fun q hq => World.ownsRow.lt R3.out q hq) (fun y hy => Nat.le_trans (hz12 y hy) (by decide))) (flatS.row_at Q3.out (fun q hq => World.ownsRow.lt Q3.out q hq) (fun y hy => Nat.le_trans (hzL y hy) (by decide))) (fun q hq => hq.2) (fun q hq => hq.2) (both_asc _ _ ASC.out) (by omega) (by simp) hz12 hzL
    clear hz12 hzL hl12
    go_wp2_with fail
    refine Calls.mono C4.out ?_
    rintro e u4 ⟨q4, rfl, hr4, hb4⟩
    have B4 : Hid (Below w.heap.size w u4) := BW.out.trans ((B3.out.trans (hb4.mono B3.out.size)).mono BW.out.size)
    have R4 : Hid (Row u4 w.heap.size 9 1 eS q4 (bothL (bothL l1 l2) [a])) := hr4.low (by have := B3.out.size; omega)
    clear hb4 hr4 C4
    obtain ⟨p4, d4, hq4⟩ := Row.form R4.out
    subst hq4
    go_wp2_with fail
    go_ret
    exact ⟨_, rfl, by rw [own_1 a b (by decide)]; exact R4.out, B4.out⟩
  · have hm : ∀ W, (Go.method 388 244 (.agg #[.string a]) "loop.example/malthouse/impl.slots").run Tryz.prog W = .ok (234, .agg #[.string a]) W := fun W => by kernel_rfl
    rw [ph_4]
    have C3 : Hid _ := slotA_any a u2
    refine call1 (md := .any) (f := 0) (i := 5) (dc := 12) (fn := 234) (args := #[.agg #[.string a]]) ⟨rfl, rfl, rfl, by decide⟩ (by kernel_rfl) ?run3 (Calls.mono C3.out ?_)
    case run3 => go_simp
    rintro e u3 ⟨q3, rfl, hr3, hb3⟩
    have B3 : Hid (Below W.heap.size W u3) := B2.out.trans (hb3.mono B2.out.size)
    have R3 : Hid (Row u3 W.drew.heap.size 9 1 eS (.slice p1 (bothL l1 l2).length d1) (bothL l1 l2)) := Row.below R2.out hb3
    have Q3 : Hid (Row u3 u2.heap.size 9 1 eS q3 [a]) := hr3
    clear hb3 hr3 C3
    obtain ⟨p3, d3, hq3⟩ := Row.form Q3.out
    subst hq3
    refine ⟨_, rfl, regrown_of_below B3.out, ?_⟩
    simp only [Act.put, List.setIfInBounds_toArray, List.set_cons_zero, List.set_cons_succ]
    refine ⟨by kernel_rfl, ?_⟩
    simp only [List.drop_succ_cons, List.drop_zero]
    have hz12 : ∀ x ∈ bothL l1 l2, x.size ≤ 1048576 := fun x hx => ((both_memI _ _ x).1 hx).elim (Z1.out x) (Z2.out x)
    have hzL : ∀ x ∈ [a], x.size ≤ 1048576 := fun x hx => by
      have h1 := ZA.out; simp at hx; rw [hx]; omega
    have hl12 := both_len l2 l1
    have C4 : Hid _ := together_any (fun q => W.drew.heap.size ≤ q ∧ q < u3.heap.size) (fun q => u2.heap.size ≤ q ∧ q < u3.heap.size) (bothL l1 l2) [a] _ _ u3 (flatS.row_at R3.out (fun q hq => World.ownsRow.lt R3.out q hq) (fun y hy => Nat.le_trans (hz12 y hy) (by decide))) (flatS.row_at Q3.out (fun q hq => World.ownsRow.lt Q3.out q hq) (fun y hy => Nat.le_trans (hzL y hy) (by decide))) (fun q hq => hq.2) (fun q hq => hq.2) (both_asc _ _ ASC.out) (by omega) (by simp) hz12 hzL
    clear hz12 hzL hl12
    go_wp2_with fail
    refine Calls.mono C4.out ?_
    rintro e u4 ⟨q4, rfl, hr4, hb4⟩
    have B4 : Hid (Below w.heap.size w u4) := BW.out.trans ((B3.out.trans (hb4.mono B3.out.size)).mono BW.out.size)
    have R4 : Hid (Row u4 w.heap.size 9 1 eS q4 (bothL (bothL l1 l2) [a])) := hr4.low (by have := B3.out.size; omega)
    clear hb4 hr4 C4
    obtain ⟨p4, d4, hq4⟩ := Row.form R4.out
    subst hq4
    go_wp2_with fail
    go_ret
    exact ⟨_, rfl, by rw [own_1 a b (by decide)]; exact R4.out, B4.out⟩
  · have hm : ∀ W, (Go.method 388 245 (.agg #[.string a]) "loop.example/malthouse/impl.slots").run Tryz.prog W = .ok (234, .agg #[.string a]) W := fun W => by kernel_rfl
    rw [ph_5]
    have C3 : Hid _ := slotA_any a u2
    refine call1 (md := .any) (f := 0) (i := 5) (dc := 12) (fn := 234) (args := #[.agg #[.string a]]) ⟨rfl, rfl, rfl, by decide⟩ (by kernel_rfl) ?run3 (Calls.mono C3.out ?_)
    case run3 => go_simp
    rintro e u3 ⟨q3, rfl, hr3, hb3⟩
    have B3 : Hid (Below W.heap.size W u3) := B2.out.trans (hb3.mono B2.out.size)
    have R3 : Hid (Row u3 W.drew.heap.size 9 1 eS (.slice p1 (bothL l1 l2).length d1) (bothL l1 l2)) := Row.below R2.out hb3
    have Q3 : Hid (Row u3 u2.heap.size 9 1 eS q3 [a]) := hr3
    clear hb3 hr3 C3
    obtain ⟨p3, d3, hq3⟩ := Row.form Q3.out
    subst hq3
    refine ⟨_, rfl, regrown_of_below B3.out, ?_⟩
    simp only [Act.put, List.setIfInBounds_toArray, List.set_cons_zero, List.set_cons_succ]
    refine ⟨by kernel_rfl, ?_⟩
    simp only [List.drop_succ_cons, List.drop_zero]
    have hz12 : ∀ x ∈ bothL l1 l2, x.size ≤ 1048576 := fun x hx => ((both_memI _ _ x).1 hx).elim (Z1.out x) (Z2.out x)
    have hzL : ∀ x ∈ [a], x.size ≤ 1048576 := fun x hx => by
      have h1 := ZA.out; simp at hx; rw [hx]; omega
    have hl12 := both_len l2 l1
    have C4 : Hid _ := together_any (fun q => W.drew.heap.size ≤ q ∧ q < u3.heap.size) (fun q => u2.heap.size ≤ q ∧ q < u3.heap.size) (bothL l1 l2) [a] _ _ u3 (flatS.row_at R3.out (fun q hq => World.ownsRow.lt R3.out q hq) (fun y hy => Nat.le_trans (hz12 y hy) (by decide))) (flatS.row_at Q3.out (fun q hq => World.ownsRow.lt Q3.out q hq) (fun y hy => Nat.le_trans (hzL y hy) (by decide))) (fun q hq => hq.2) (fun q hq => hq.2) (both_asc _ _ ASC.out) (by omega) (by simp) hz12 hzL
    clear hz12 hzL hl12
    go_wp2_with fail
    refine Calls.mono C4.out ?_
    rintro e u4 ⟨q4, rfl, hr4, hb4⟩
    have B4 : Hid (Below w.heap.size w u4) := BW.out.trans ((B3.out.trans (hb4.mono B3.out.size)).mono BW.out.size)
    have R4 : Hid (Row u4 w.heap.size 9 1 eS q4 (bothL (bothL l1 l2) [a])) := hr4.low (by have := B3.out.size; omega)
    clear hb4 hr4 C4
    obtain ⟨p4, d4, hq4⟩ := Row.form R4.out
    subst hq4
    go_wp2_with fail
    go_ret
    exact ⟨_, rfl, by rw [own_1 a b (by decide)]; exact R4.out, B4.out⟩
end Go.Proofs.YtobchllaopdchacGreat
