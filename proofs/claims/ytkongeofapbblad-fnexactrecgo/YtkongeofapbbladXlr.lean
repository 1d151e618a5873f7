/-
  The law FnExactRecGo, walked: whatever the recipe, the state and the saying, the call returns true, and nothing that was there before has turned.
-/
import Derived.Test.YtkongeofapbbladXg
import Derived.Test.YtkongeofapbbladXlra
import Derived.Test.YtkongeofapbbladXws
import Derived.Test.YtkongeofapbbladXwt
import Derived.Test.YtkongeofapbbladXwe
import Derived.Test.YtkongeofapbbladHzb
namespace Go.Proofs.Ytkongeofapbblad
open Go.RowKit

set_option maxRecDepth 100000 in
set_option maxHeartbeats 4000000 in
theorem lawr_any (PI : ∀ (S : Nat → Prop) (r : List DRecPhase) (v : Value) (x : ByteArray) (now lf t : Int) (well : Bool) (w : World), AtL S w r v → (∀ b, S b → b < w.heap.size) → totL r ≤ 1048576 → x.size ≤ 1048576 → OkN now → OkN lf → OkN t → Calls Try.prog 10 #[v, .agg #[.string x, .int .i64 now, .int .i64 lf], .agg #[.int .i64 t, .bool well]] w fun e w' => e = .returned (.tuple #[.agg #[.string (goS r x now lf t well).1.1, .int .i64 (goS r x now lf t well).1.2.1, .int .i64 (goS r x now lf t well).1.2.2], .bool (goS r x now lf t well).2]) ∧ Below w.heap.size w w') (S : Nat → Prop) (r : List DRecPhase) (v : Value) (x : ByteArray) (now lf t : Int) (well : Bool) (w : World) (h : AtL S w r v) (hS : ∀ b, S b → b < w.heap.size) (hx : x.size ≤ maxLen) (hn : OkN now) (hl : OkN lf) (ht : OkN t) :
    Calls Try.prog 3 #[v, .agg #[.string x, .int .i64 now, .int .i64 lf], .agg #[.int .i64 t, .bool well]] w fun e w' => e = .returned (.bool true) ∧ Below w.heap.size w w' := by
  obtain ⟨W, hW⟩ : ∃ W, W = ((w.alloc (.cells #[.string x, .int .i64 now, .int .i64 lf] 24)).alloc (.cells #[.int .i64 t, .bool well] 26)) := ⟨_, rfl⟩
  have bW : Below w.heap.size w W := by rw [hW]; exact ((Below.refl _ _).alloc (Nat.le_refl _) _).alloc (by simp) _
  have sW : W.heap.size = w.heap.size + 2 := by rw [hW]; simp
  have rS : W.heap[w.heap.size]? = some (.cells #[.string x, .int .i64 now, .int .i64 lf] 24 (0, 0)) := by rw [hW]; exact (Below.heap_alloc _ _ _ (by simp)).trans (heap_alloc_new w _)
  have rY : W.heap[w.heap.size + 1]? = some (.cells #[.int .i64 t, .bool well] 26 (0, 0)) := by rw [hW]; have := heap_alloc_new (w.alloc (.cells #[.string x, .int .i64 now, .int .i64 lf] 24)) (.cells #[.int .i64 t, .bool well] 26); simpa using this
  have E : Hid (∀ u, Below W.heap.size W u → u.cell? ⟨w.heap.size, 0, none⟩ = some (.string x) ∧ u.cell? ⟨w.heap.size, 1, none⟩ = some (.int .i64 now) ∧ u.cell? ⟨w.heap.size, 2, none⟩ = some (.int .i64 lf) ∧ u.cell? ⟨w.heap.size + 1, 0, none⟩ = some (.int .i64 t) ∧ u.cell? ⟨w.heap.size + 1, 1, none⟩ = some (.bool well)) := fun u hu => by
    have q1 := (hu.block w.heap.size (by omega)).trans rS
    have q2 := (hu.block (w.heap.size + 1) (by omega)).trans rY
    exact ⟨(cell_row q1 0 _ rfl).1, (cell_row q1 1 _ rfl).1, (cell_row q1 2 _ rfl).1, (cell_row q2 0 _ rfl).1, (cell_row q2 1 _ rfl).1⟩
  have H : Hid (∀ u, Below W.heap.size W u → AtL S u r v ∧ ∀ b, S b → b < u.heap.size) := fun u hu => by
    have hb := bW.trans (hu.mono (by omega))
    exact ⟨h.same (Same.of_below hb hS), fun b hb' => Nat.lt_of_lt_of_le (hS b hb') hb.size⟩
  have FIN : Hid (∀ u, Below W.heap.size W u → Below w.heap.size w u) := fun u hu => bW.trans (hu.mono (by omega))
  have K0 : Hid (Below W.heap.size W W) := Below.refl _ _
  have PP : Hid (∀ (S : Nat → Prop) (v : Value) (w : World), AtL S w r v → (∀ b, S b → b < w.heap.size) → totL r ≤ 1048576 → x.size ≤ 1048576 → Calls Try.prog 10 #[v, .agg #[.string x, .int .i64 now, .int .i64 lf], .agg #[.int .i64 t, .bool well]] w fun e w' => e = .returned (.tuple #[.agg #[.string (goS r x now lf t well).1.1, .int .i64 (goS r x now lf t well).1.2.1, .int .i64 (goS r x now lf t well).1.2.2], .bool (goS r x now lf t well).2]) ∧ Below w.heap.size w w') := fun S v w h1 h2 h3 h4 => PI S r v x now lf t well w h1 h2 h3 h4 hn hl ht
  have MM : Hid (∀ (S : Nat → Prop) (v : Value) (w : World), AtL S w r v → (∀ b, S b → b < w.heap.size) → Calls Try.prog 6 #[v, .agg #[.string x, .int .i64 now, .int .i64 lf], .agg #[.int .i64 t, .bool well]] w fun e w' => e = .returned (.tuple #[.agg #[.string (goS r x now lf t well).1.1, .int .i64 (goS r x now lf t well).1.2.1, .int .i64 (goS r x now lf t well).1.2.2], .bool (goS r x now lf t well).2]) ∧ Below w.heap.size w w') := fun S v w h1 h2 => recGoX_any S r v x now lf t well w h1 h2 ht
  obtain ⟨R, hR⟩ : ∃ R, R = goS r x now lf t well := ⟨_, rfl⟩
  rw [← hR] at PP MM
  obtain ⟨⟨x0, n0, l0⟩, b0⟩ := R
  simp only at PP MM
  clear hR PI h hS bW rS rY hn hl ht
  go_enter Try.func3, Try.ntmps3
  go_wp2_with fail
  simp only [← hW]
  clear hW
  refine (szRecPhaseS_any S r v 1048576 _ (H.out _ K0.out).1 (H.out _ K0.out).2 (by omega) (by omega)).mono ?_; rintro e w1 ⟨y, rfl, hy, hb1⟩
  have K1 : Hid (Below W.heap.size W w1) := hb1
  have z1 := hb1.size
  have HY : Hid _ := hy
  clear hy hb1
  by_cases hneg : y < 0
  · go_wp2_with fail
    go_ret
    exact ⟨rfl, FIN.out _ K1.out⟩
  have HM : Hid (totL r ≤ 1048576) := by have := HY.out; show _ ≤ _; omega
  have hy1 : y ≤ 1048576 := by have := HY.out; omega
  obtain ⟨c0, c1, c2, c3, c4⟩ := E.out w1 K1.out
  go_wp2_with fail
  clear c0 c1 c2 c3 c4
  refine (szSt_any x now lf y w1 hx (by omega) hy1).mono ?_; rintro e w2 ⟨y2, rfl, hy2, hb2⟩
  have K2 : Hid (Below W.heap.size W w2) := K1.out.trans (hb2.mono K1.out.size)
  have z2 := hb2.size
  have hx2 : 0 ≤ y2 → (x.size : Int) ≤ 1048576 := fun h => by have := hy2 h; omega
  clear hy2 hb2
  by_cases hneg2 : y2 < 0
  · go_wp2_with fail
    go_ret
    exact ⟨rfl, FIN.out _ K2.out⟩
  have HX : Hid (x.size ≤ 1048576) := by have := hx2 (by omega); show _ ≤ _; omega
  clear hx2 hx
  have C2 := K2.out
  have z2' := K2.out.size
  obtain ⟨c0, c1, c2, c3, c4⟩ := E.out w2 K2.out
  have q0 := fun d os => cell_regrown c0 d os
  have q1 := fun d os => cell_regrown c1 d os
  have q2 := fun d os => cell_regrown c2 d os
  have q3 := fun d os => cell_regrown c3 d os
  have q4 := fun d os => cell_regrown c4 d os
  go_wp2_with fail
  have hdr : Hid (Below w2.heap.size w2 w2.drew) := (Below.refl _ _).drew
  refine wp_region_head 12 [0, 2, 4] (by kernel_rfl) (by kernel_rfl) ?_
  simp only [List.filterMap_cons, List.filterMap_nil, List.getElem?_cons_succ, List.getElem?_cons_zero]
  repeat (first | go_big_quiet_step (fail) | quiet_step (fail))
  refine wpQuiet_nil ?_
  clear q0 q1 q2 q3 q4 c0 c1 c2 c3 c4
  have TO : Hid (∀ u, Below w2.heap.size w2 u → Calls Try.prog 7 #[v] u fun e w' => ∃ q, e = .returned q ∧ AtL (fun b => u.heap.size ≤ b ∧ b < w'.heap.size) w' r q ∧ Below u.heap.size u w') := fun u hu => toRecPhaseS_any S r v u (H.out u (K2.out.trans (hu.mono z2'))).1 (H.out u (K2.out.trans (hu.mono z2'))).2 HM.out
  refine chainH_box0 (g := 4) (fun a0 o k a u => Below w2.heap.size w2 u ∧ (∀ p, o = some p → u.heap[p]? = some (.cells #[.string ⟨#[]⟩, .int .i64 0, .int .i64 0] 29 (0, 0)) ∧ w2.heap.size ≤ p) ∧ (match k with
    | 0 => a = bx 8 o a0
    | 1 => ∃ r1 S1, AtL S1 u r r1 ∧ (∀ b, S1 b → b < u.heap.size) ∧ a = bx 8 o (a0.put (some 25) r1)
    | 2 => ∃ r1 S1, AtL S1 u r r1 ∧ (∀ b, S1 b → b < u.heap.size) ∧ a = bx 8 o ((a0.put (some 25) r1).put (some 27) (.agg #[.string x, .int .i64 now, .int .i64 lf]))
    | 3 => ∃ r1 S1, AtL S1 u r r1 ∧ (∀ b, S1 b → b < u.heap.size) ∧ a = bx 8 o (((a0.put (some 25) r1).put (some 27) (.agg #[.string x, .int .i64 now, .int .i64 lf])).put (some 29) (.agg #[.int .i64 t, .bool well]))
    | _ => ∃ r1, a = bx 8 o ((((a0.put (some 25) r1).put (some 27) (.agg #[.string x, .int .i64 now, .int .i64 lf])).put (some 29) (.agg #[.int .i64 t, .bool well])).put (some 30) (.tuple #[.agg #[.string x0, .int .i64 n0, .int .i64 l0], .bool b0])))) [1, 3, 5, 6] 10 8 _ #[.string ⟨#[]⟩, .int .i64 0, .int .i64 0] 29 ⟨rfl, rfl, rfl, by decide⟩ (by decide) (by decide) ?exa (by kernel_rfl) ?hal ?hs ?h0 ?he ?he1
  case exa => intro b u; go_simp
  case h0 => exact ⟨hdr.out, fun p hp => (by cases hp), rfl⟩
  case hal =>
    intro k b u h
    obtain ⟨hb, _, h⟩ := h
    have hal := hb.alloc hb.size (.cells #[.string ⟨#[]⟩, .int .i64 0, .int .i64 0] 29)
    have h1 : Below u.heap.size u (u.alloc (.cells #[.string ⟨#[]⟩, .int .i64 0, .int .i64 0] 29)) := (Below.refl _ _).alloc (Nat.le_refl _) _
    refine ⟨regrown_of_below hal, hal, fun p hp => (by cases hp; exact ⟨heap_alloc_new u _, hb.size⟩), ?_⟩
    match k, h with
    | 0, h => subst h; rfl
    | 1, ⟨r1, S1, hA, hS1, h⟩ => exact ⟨r1, S1, hA.same (Same.of_below h1 hS1), fun q hq => Nat.lt_of_lt_of_le (hS1 q hq) h1.size, by subst h; rfl⟩
    | 2, ⟨r1, S1, hA, hS1, h⟩ => exact ⟨r1, S1, hA.same (Same.of_below h1 hS1), fun q hq => Nat.lt_of_lt_of_le (hS1 q hq) h1.size, by subst h; rfl⟩
    | 3, ⟨r1, S1, hA, hS1, h⟩ => exact ⟨r1, S1, hA.same (Same.of_below h1 hS1), fun q hq => Nat.lt_of_lt_of_le (hS1 q hq) h1.size, by subst h; rfl⟩
    | _ + 4, ⟨r1, h⟩ => exact ⟨r1, by subst h; rfl⟩
  case hs =>
    intro o j hj b u h
    obtain ⟨hb, hp, h⟩ := h
    have ROW : ∀ w', Below u.heap.size u w' → ∀ p, o = some p → w'.heap[p]? = some (.cells #[.string ⟨#[]⟩, .int .i64 0, .int .i64 0] 29 (0, 0)) ∧ w2.heap.size ≤ p := fun w' hb' p hp' => ⟨(hb'.block p (Array.getElem?_eq_some_iff.1 (hp p hp').1).1).trans (hp p hp').1, (hp p hp').2⟩
    have BB : ∀ w', Below u.heap.size u w' → Below w2.heap.size w2 w' := fun w' hb' => hb.trans (hb'.mono hb.size)
    have : j = 0 ∨ j = 1 ∨ j = 2 ∨ j = 3 := (by simp at hj; omega)
    rcases this with rfl | rfl | rfl | rfl
    · simp only at h
      subst h
      refine stepH_call (fn := 7) (args := #[v]) rfl (wanted_none rfl _) (by cases o <;> simp only [bx, Act.put, List.setIfInBounds_toArray, List.set_cons_zero, List.set_cons_succ] <;> go_simp) ((TO.out u hb).mono fun e w' ⟨q, he, hA, hb'⟩ => ⟨q, he, regrown_of_below (BB w' hb'), BB w' hb', ROW w' hb', q, _, hA, fun b hb => hb.2, bx_put (by decide) o _ _⟩)
    · obtain ⟨r1, S1, hA, hS1, h⟩ := h
      subst h
      refine stepH_call (fn := 8) (args := #[.agg #[.string x, .int .i64 now, .int .i64 lf]]) rfl (wanted_none rfl _) (by cases o <;> simp only [bx, Act.put, List.setIfInBounds_toArray, List.set_cons_zero, List.set_cons_succ] <;> go_simp) ((toSt_any x now lf u).mono fun e w' ⟨he, hb'⟩ => ⟨_, he, regrown_of_below (BB w' hb'), BB w' hb', ROW w' hb', r1, S1, hA.same (Same.of_below hb' hS1), fun q hq => Nat.lt_of_lt_of_le (hS1 q hq) hb'.size, bx_put (by decide) o _ _⟩)
    · obtain ⟨r1, S1, hA, hS1, h⟩ := h
      subst h
      refine stepH_call (fn := 9) (args := #[.agg #[.int .i64 t, .bool well]]) rfl (wanted_none rfl _) (by cases o <;> simp only [bx, Act.put, List.setIfInBounds_toArray, List.set_cons_zero, List.set_cons_succ] <;> go_simp) ((toSy_any t well u).mono fun e w' ⟨he, hb'⟩ => ⟨_, he, regrown_of_below (BB w' hb'), BB w' hb', ROW w' hb', r1, S1, hA.same (Same.of_below hb' hS1), fun q hq => Nat.lt_of_lt_of_le (hS1 q hq) hb'.size, bx_put (by decide) o _ _⟩)
    · obtain ⟨r1, S1, hA, hS1, h⟩ := h
      subst h
      refine stepH_call (fn := 6) (args := #[r1, .agg #[.string x, .int .i64 now, .int .i64 lf], .agg #[.int .i64 t, .bool well]]) rfl (wanted_none rfl _) (by cases o <;> simp only [bx, Act.put, List.setIfInBounds_toArray, List.set_cons_zero, List.set_cons_succ] <;> go_simp) ((MM.out S1 r1 u hA hS1).mono fun e w' ⟨he, hb'⟩ => ⟨_, he, regrown_of_below (BB w' hb'), BB w' hb', ROW w' hb', r1, bx_put (by decide) o _ _⟩)
  case he =>
    intro b u h
    obtain ⟨hb, _, r1, h⟩ := h
    subst h
    have hbu : Below w2.heap.size w2 (u.alloc (.cells #[.string ⟨#[]⟩, .int .i64 0, .int .i64 0] 29)) := hb.alloc hb.size _
    have row : (u.alloc (.cells #[.string ⟨#[]⟩, .int .i64 0, .int .i64 0] 29)).heap[u.heap.size]? = some (.cells #[.string ⟨#[]⟩, .int .i64 0, .int .i64 0] 29 (0, 0)) := heap_alloc_new u _
    refine lexH 2 [7, 8, 9] (by kernel_rfl) (regrown_of_below hb) ?_
    simp only [List.filterMap_cons, List.filterMap_nil, List.getElem?_cons_succ, List.getElem?_cons_zero, bx, Act.put, List.setIfInBounds_toArray, List.set_cons_zero, List.set_cons_succ]
    repeat (first | go_big_quiet_step (fail) | quiet_step (fail))
    refine wpQuiet_nil ?_
    refine oneH (f := 1) (i := 10) (.pointer (some ⟨u.heap.size, 0, none⟩)) (u.alloc (.cells #[.string ⟨#[]⟩, .int .i64 0, .int .i64 0] 29)) ⟨rfl, by decide⟩ (by kernel_rfl) (wanted_none rfl _) ?run (regrown_of_below hbu) ?_
    case run => go_simp
    simp only [Act.put, List.setIfInBounds_toArray]
    have hge := hb.size
    clear hb
    generalize u.alloc (.cells #[.string ⟨#[]⟩, .int .i64 0, .int .i64 0] 29) = w6 at hbu row ⊢
    generalize u.heap.size = p6 at row hge ⊢
    have lt6 : p6 < w6.heap.size := (Array.getElem?_eq_some_iff.1 row).1
    obtain ⟨e0, f0⟩ := cell_row row 0 _ rfl
    obtain ⟨e1, f1⟩ := cell_row row 1 _ rfl
    obtain ⟨e2, f2⟩ := cell_row row 2 _ rfl
    have fin := set_row (set_row (set_row row 0 (.string x0)) 1 (.int .i64 n0)) 2 (.int .i64 l0)
    have bF := ((hbu.setCell (p := ⟨p6, 0, none⟩) hge (.string x0)).setCell (p := ⟨p6, 1, none⟩) hge (.int .i64 n0)).setCell (p := ⟨p6, 2, none⟩) hge (.int .i64 l0)
    refine storeH (f := 0) (i := 11) (((w6.setCell ⟨p6, 0, none⟩ (.string x0)).setCell ⟨p6, 1, none⟩ (.int .i64 n0)).setCell ⟨p6, 2, none⟩ (.int .i64 l0)) ⟨rfl, by decide⟩ (by kernel_rfl) (wanted_none rfl _) ?st (regrown_of_below bF) ?_
    case st => go_simp
    refine ⟨by kernel_rfl, ?_⟩
    simp only [List.drop_succ_cons, List.drop_zero, Act.put]
    have R7 : Hid ((((w6.setCell ⟨p6, 0, none⟩ (.string x0)).setCell ⟨p6, 1, none⟩ (.int .i64 n0)).setCell ⟨p6, 2, none⟩ (.int .i64 l0)).heap[p6]? = some (.cells #[.string x0, .int .i64 n0, .int .i64 l0] 29 (0, 0))) := fin
    have BF : Hid (Below w2.heap.size w2 (((w6.setCell ⟨p6, 0, none⟩ (.string x0)).setCell ⟨p6, 1, none⟩ (.int .i64 n0)).setCell ⟨p6, 2, none⟩ (.int .i64 l0))) := bF
    have z7 : w2.heap.size ≤ p6 ∧ p6 < (((w6.setCell ⟨p6, 0, none⟩ (.string x0)).setCell ⟨p6, 1, none⟩ (.int .i64 n0)).setCell ⟨p6, 2, none⟩ (.int .i64 l0)).heap.size := ⟨hge, (Array.getElem?_eq_some_iff.1 fin).1⟩
    clear fin bF e0 f0 e1 f1 e2 f2 lt6 row hbu hge
    generalize (((w6.setCell ⟨p6, 0, none⟩ (.string x0)).setCell ⟨p6, 1, none⟩ (.int .i64 n0)).setCell ⟨p6, 2, none⟩ (.int .i64 l0)) = w7 at R7 BF z7 ⊢
    have K7 : Hid (Below W.heap.size W w7) := K2.out.trans (BF.out.mono z2')
    go_wp2_with fail
    refine (TO.out w7 BF.out).mono ?_; rintro e w8 ⟨r2, rfl, a8, hb8⟩
    have A8 : Hid (AtL (fun b => w7.heap.size ≤ b ∧ b < w8.heap.size) w8 r r2) := a8
    have R8 : Hid (w8.heap[p6]? = some (.cells #[.string x0, .int .i64 n0, .int .i64 l0] 29 (0, 0))) := (hb8.block _ z7.2).trans R7.out
    have K8 : Hid (Below W.heap.size W w8) := K7.out.trans (hb8.mono K7.out.size)
    have z8 := hb8.size
    have z8' := K8.out.size
    clear a8 hb8 R7 BF K7 MM
    obtain ⟨c0, c1, c2, c3, c4⟩ := E.out w8 K8.out
    have q0 := fun d os => cell_regrown c0 d os
    have q1 := fun d os => cell_regrown c1 d os
    have q2 := fun d os => cell_regrown c2 d os
    have q3 := fun d os => cell_regrown c3 d os
    have q4 := fun d os => cell_regrown c4 d os
    go_wp2_with fail
    have hdr8 : Hid (Below w8.heap.size w8 w8.drew) := (Below.refl _ _).drew
    refine wp_region_head 11 [0, 1, 3] (by kernel_rfl) (by kernel_rfl) ?_
    simp only [List.filterMap_cons, List.filterMap_nil, List.getElem?_cons_succ, List.getElem?_cons_zero]
    repeat (first | go_big_quiet_step (fail) | quiet_step (fail))
    refine wpQuiet_nil ?_
    clear q0 q1 q2 q3 q4 c0 c1 c2 c3 c4
    have P8 : Hid (∀ u, Below w8.heap.size w8 u → Calls Try.prog 10 #[r2, .agg #[.string x, .int .i64 now, .int .i64 lf], .agg #[.int .i64 t, .bool well]] u fun e w' => e = .returned (.tuple #[.agg #[.string x0, .int .i64 n0, .int .i64 l0], .bool b0]) ∧ Below u.heap.size u w') := fun u hu => PP.out _ r2 u (A8.out.same (Same.of_below hu (fun b hb => hb.2))) (fun b hb => Nat.lt_of_lt_of_le hb.2 hu.size) HM.out HX.out
    refine chainH_box0 (g := 4) (fun a0 o k a u => Below w8.heap.size w8 u ∧ (∀ p, o = some p → u.heap[p]? = some (.cells #[.string ⟨#[]⟩, .int .i64 0, .int .i64 0] 29 (0, 0)) ∧ w8.heap.size ≤ p) ∧ (match k with
      | 0 => a = bx 11 o a0
      | 1 => a = bx 11 o (a0.put (some 38) (.agg #[.string x, .int .i64 now, .int .i64 lf]))
      | 2 => a = bx 11 o ((a0.put (some 38) (.agg #[.string x, .int .i64 now, .int .i64 lf])).put (some 40) (.agg #[.int .i64 t, .bool well]))
      | _ => a = bx 11 o (((a0.put (some 38) (.agg #[.string x, .int .i64 now, .int .i64 lf])).put (some 40) (.agg #[.int .i64 t, .bool well])).put (some 41) (.tuple #[.agg #[.string x0, .int .i64 n0, .int .i64 l0], .bool b0])))) [2, 4, 5] 9 11 _ #[.string ⟨#[]⟩, .int .i64 0, .int .i64 0] 29 ⟨rfl, rfl, rfl, by decide⟩ (by decide) (by decide) ?exb (by kernel_rfl) ?halb ?hsb ?h0b ?heb ?heb1
    case exb => intro b u; go_simp
    case h0b => exact ⟨hdr8.out, fun p hp => (by cases hp), rfl⟩
    case halb =>
      intro k b u h
      obtain ⟨hb, _, h⟩ := h
      have hal := hb.alloc hb.size (.cells #[.string ⟨#[]⟩, .int .i64 0, .int .i64 0] 29)
      refine ⟨regrown_of_below hal, hal, fun p hp => (by cases hp; exact ⟨heap_alloc_new u _, hb.size⟩), ?_⟩
      match k, h with
      | 0, h => subst h; rfl
      | 1, h => subst h; rfl
      | 2, h => subst h; rfl
      | _ + 3, h => subst h; rfl
    case hsb =>
      intro o j hj b u h
      obtain ⟨hb, hp, h⟩ := h
      have ROW : ∀ w', Below u.heap.size u w' → ∀ p, o = some p → w'.heap[p]? = some (.cells #[.string ⟨#[]⟩, .int .i64 0, .int .i64 0] 29 (0, 0)) ∧ w8.heap.size ≤ p := fun w' hb' p hp' => ⟨(hb'.block p (Array.getElem?_eq_some_iff.1 (hp p hp').1).1).trans (hp p hp').1, (hp p hp').2⟩
      have BB : ∀ w', Below u.heap.size u w' → Below w8.heap.size w8 w' := fun w' hb' => hb.trans (hb'.mono hb.size)
      have : j = 0 ∨ j = 1 ∨ j = 2 := (by simp at hj; omega)
      rcases this with rfl | rfl | rfl
      · simp only at h
        subst h
        refine stepH_call (fn := 8) (args := #[.agg #[.string x, .int .i64 now, .int .i64 lf]]) rfl (wanted_none rfl _) (by cases o <;> simp only [bx, Act.put, List.setIfInBounds_toArray, List.set_cons_zero, List.set_cons_succ] <;> go_simp) ((toSt_any x now lf u).mono fun e w' ⟨he, hb'⟩ => ⟨_, he, regrown_of_below (BB w' hb'), BB w' hb', ROW w' hb', bx_put (by decide) o _ _⟩)
      · simp only at h
        subst h
        refine stepH_call (fn := 9) (args := #[.agg #[.int .i64 t, .bool well]]) rfl (wanted_none rfl _) (by cases o <;> simp only [bx, Act.put, List.setIfInBounds_toArray, List.set_cons_zero, List.set_cons_succ] <;> go_simp) ((toSy_any t well u).mono fun e w' ⟨he, hb'⟩ => ⟨_, he, regrown_of_below (BB w' hb'), BB w' hb', ROW w' hb', bx_put (by decide) o _ _⟩)
      · simp only at h
        subst h
        refine stepH_call (fn := 10) (args := #[r2, .agg #[.string x, .int .i64 now, .int .i64 lf], .agg #[.int .i64 t, .bool well]]) rfl (wanted_none rfl _) (by cases o <;> simp only [bx, Act.put, List.setIfInBounds_toArray, List.set_cons_zero, List.set_cons_succ] <;> go_simp) ((P8.out u hb).mono fun e w' ⟨he, hb'⟩ => ⟨_, he, regrown_of_below (BB w' hb'), BB w' hb', ROW w' hb', bx_put (by decide) o _ _⟩)
    case heb =>
      intro b u h
      obtain ⟨hb, _, h⟩ := h
      subst h
      have hbu : Below w8.heap.size w8 (u.alloc (.cells #[.string ⟨#[]⟩, .int .i64 0, .int .i64 0] 29)) := hb.alloc hb.size _
      have row : (u.alloc (.cells #[.string ⟨#[]⟩, .int .i64 0, .int .i64 0] 29)).heap[u.heap.size]? = some (.cells #[.string ⟨#[]⟩, .int .i64 0, .int .i64 0] 29 (0, 0)) := heap_alloc_new u _
      refine lexH 2 [6, 7, 8] (by kernel_rfl) (regrown_of_below hb) ?_
      simp only [List.filterMap_cons, List.filterMap_nil, List.getElem?_cons_succ, List.getElem?_cons_zero, bx, Act.put, List.setIfInBounds_toArray, List.set_cons_zero, List.set_cons_succ]
      repeat (first | go_big_quiet_step (fail) | quiet_step (fail))
      refine wpQuiet_nil ?_
      refine oneH (f := 1) (i := 9) (.pointer (some ⟨u.heap.size, 0, none⟩)) (u.alloc (.cells #[.string ⟨#[]⟩, .int .i64 0, .int .i64 0] 29)) ⟨rfl, by decide⟩ (by kernel_rfl) (wanted_none rfl _) ?run (regrown_of_below hbu) ?_
      case run => go_simp
      simp only [Act.put, List.setIfInBounds_toArray]
      have hge := hb.size
      clear hb
      generalize u.alloc (.cells #[.string ⟨#[]⟩, .int .i64 0, .int .i64 0] 29) = w11 at hbu row ⊢
      generalize u.heap.size = p11 at row hge ⊢
      obtain ⟨e0, f0⟩ := cell_row row 0 _ rfl
      obtain ⟨e1, f1⟩ := cell_row row 1 _ rfl
      obtain ⟨e2, f2⟩ := cell_row row 2 _ rfl
      have fin := set_row (set_row (set_row row 0 (.string x0)) 1 (.int .i64 n0)) 2 (.int .i64 l0)
      have bF := ((hbu.setCell (p := ⟨p11, 0, none⟩) hge (.string x0)).setCell (p := ⟨p11, 1, none⟩) hge (.int .i64 n0)).setCell (p := ⟨p11, 2, none⟩) hge (.int .i64 l0)
      refine storeH (f := 0) (i := 10) ((((w11.setCell ⟨p11, 0, none⟩ (.string x0)).setCell ⟨p11, 1, none⟩ (.int .i64 n0)).setCell ⟨p11, 2, none⟩ (.int .i64 l0))) ⟨rfl, by decide⟩ (by kernel_rfl) (wanted_none rfl _) ?st (regrown_of_below bF) ?_
      case st => go_simp
      refine ⟨by kernel_rfl, ?_⟩
      simp only [List.drop_succ_cons, List.drop_zero, Act.put]
      have N5 : (((w11.setCell ⟨p11, 0, none⟩ (.string x0)).setCell ⟨p11, 1, none⟩ (.int .i64 n0)).setCell ⟨p11, 2, none⟩ (.int .i64 l0)).heap[p11]? = some (.cells #[.string x0, .int .i64 n0, .int .i64 l0] 29 (0, 0)) := fin
      have BF : Hid (Below w8.heap.size w8 (((w11.setCell ⟨p11, 0, none⟩ (.string x0)).setCell ⟨p11, 1, none⟩ (.int .i64 n0)).setCell ⟨p11, 2, none⟩ (.int .i64 l0))) := bF
      clear fin bF e0 f0 e1 f1 e2 f2 row hbu hge
      generalize (((w11.setCell ⟨p11, 0, none⟩ (.string x0)).setCell ⟨p11, 1, none⟩ (.int .i64 n0)).setCell ⟨p11, 2, none⟩ (.int .i64 l0)) = w12 at N5 BF ⊢
      have R5 : w12.heap[p6]? = some (.cells #[.string x0, .int .i64 n0, .int .i64 l0] 29 (0, 0)) := (BF.out.block _ (by omega)).trans R8.out
      have z12 := BF.out.size
      have A12 : Hid (AtL (fun b => w7.heap.size ≤ b ∧ b < w8.heap.size) w12 r r2) := A8.out.same (Same.of_below BF.out (fun b hb => hb.2))
      have K12 : Hid (Below W.heap.size W w12) := K8.out.trans (BF.out.mono z8')
      have x0_ := (cell_row R5 0 _ rfl).1
      have x1_ := (cell_row R5 1 _ rfl).1
      have x2_ := (cell_row R5 2 _ rfl).1
      have y0_ := (cell_row N5 0 _ rfl).1
      have y1_ := (cell_row N5 1 _ rfl).1
      have y2_ := (cell_row N5 2 _ rfl).1
      clear R5 N5
      go_wp2_with fail
      clear x0_ x1_ x2_ y0_ y1_ y2_
      refine (eqSt_any x0 n0 l0 w12).mono ?_; rintro e w13 ⟨rfl, hb13⟩
      have z13 := hb13.size
      have A13 : Hid (AtL (fun b => w7.heap.size ≤ b ∧ b < w8.heap.size) w13 r r2) := A12.out.same (Same.of_below hb13 (fun b hb => by omega))
      have K13 : Hid (Below W.heap.size W w13) := K12.out.trans (hb13.mono K12.out.size)
      clear hb13
      go_wp2_with fail
      refine (toRecPhaseS_any S r v _ (H.out _ K13.out).1 (H.out _ K13.out).2 HM.out).mono ?_; rintro e w14 ⟨r3, rfl, a3, hb14⟩
      have z14 := hb14.size
      have A3 : Hid (AtL (fun b => w13.heap.size ≤ b ∧ b < w14.heap.size) w14 r r3) := a3
      have A14 : Hid (AtL (fun b => w7.heap.size ≤ b ∧ b < w8.heap.size) w14 r r2) := A13.out.same (Same.of_below hb14 (fun b hb => by omega))
      have K14 : Hid (Below W.heap.size W w14) := K13.out.trans (hb14.mono K13.out.size)
      clear a3 hb14
      go_wp2_with fail
      refine (eqRecPhaseS_any _ _ r r2 r3 w14 A14.out A3.out (fun b hb => by omega) (fun b hb => hb.2)).mono ?_; rintro e w15 ⟨rfl, hb15⟩
      have K15 : Hid (Below W.heap.size W w15) := K14.out.trans (hb15.mono K14.out.size)
      clear hb15
      go_wp2_with fail
      go_ret
      exact ⟨rfl, FIN.out _ K15.out⟩
    case heb1 =>
      intro p11 b w11 h
      obtain ⟨hbu, hp, h⟩ := h
      obtain ⟨row, hge⟩ := hp p11 rfl
      subst h
      refine lexH 1 [6, 7, 8] (by kernel_rfl) (regrown_of_below hbu) ?_
      simp only [List.filterMap_cons, List.filterMap_nil, List.getElem?_cons_succ, List.getElem?_cons_zero, bx, Act.put, List.setIfInBounds_toArray, List.set_cons_zero, List.set_cons_succ]
      repeat (first | go_big_quiet_step (fail) | quiet_step (fail))
      refine wpQuiet_nil ?_
      obtain ⟨e0, f0⟩ := cell_row row 0 _ rfl
      obtain ⟨e1, f1⟩ := cell_row row 1 _ rfl
      obtain ⟨e2, f2⟩ := cell_row row 2 _ rfl
      have fin := set_row (set_row (set_row row 0 (.string x0)) 1 (.int .i64 n0)) 2 (.int .i64 l0)
      have bF := ((hbu.setCell (p := ⟨p11, 0, none⟩) hge (.string x0)).setCell (p := ⟨p11, 1, none⟩) hge (.int .i64 n0)).setCell (p := ⟨p11, 2, none⟩) hge (.int .i64 l0)
      refine storeH (f := 0) (i := 10) ((((w11.setCell ⟨p11, 0, none⟩ (.string x0)).setCell ⟨p11, 1, none⟩ (.int .i64 n0)).setCell ⟨p11, 2, none⟩ (.int .i64 l0))) ⟨rfl, by decide⟩ (by kernel_rfl) (wanted_none rfl _) ?st (regrown_of_below bF) ?_
      case st => go_simp
      refine ⟨by kernel_rfl, ?_⟩
      simp only [List.drop_succ_cons, List.drop_zero, Act.put]
      have N5 : (((w11.setCell ⟨p11, 0, none⟩ (.string x0)).setCell ⟨p11, 1, none⟩ (.int .i64 n0)).setCell ⟨p11, 2, none⟩ (.int .i64 l0)).heap[p11]? = some (.cells #[.string x0, .int .i64 n0, .int .i64 l0] 29 (0, 0)) := fin
      have BF : Hid (Below w8.heap.size w8 (((w11.setCell ⟨p11, 0, none⟩ (.string x0)).setCell ⟨p11, 1, none⟩ (.int .i64 n0)).setCell ⟨p11, 2, none⟩ (.int .i64 l0))) := bF
      clear fin bF e0 f0 e1 f1 e2 f2 row hbu hge
      generalize (((w11.setCell ⟨p11, 0, none⟩ (.string x0)).setCell ⟨p11, 1, none⟩ (.int .i64 n0)).setCell ⟨p11, 2, none⟩ (.int .i64 l0)) = w12 at N5 BF ⊢
      have R5 : w12.heap[p6]? = some (.cells #[.string x0, .int .i64 n0, .int .i64 l0] 29 (0, 0)) := (BF.out.block _ (by omega)).trans R8.out
      have z12 := BF.out.size
      have A12 : Hid (AtL (fun b => w7.heap.size ≤ b ∧ b < w8.heap.size) w12 r r2) := A8.out.same (Same.of_below BF.out (fun b hb => hb.2))
      have K12 : Hid (Below W.heap.size W w12) := K8.out.trans (BF.out.mono z8')
      have x0_ := (cell_row R5 0 _ rfl).1
      have x1_ := (cell_row R5 1 _ rfl).1
      have x2_ := (cell_row R5 2 _ rfl).1
      have y0_ := (cell_row N5 0 _ rfl).1
      have y1_ := (cell_row N5 1 _ rfl).1
      have y2_ := (cell_row N5 2 _ rfl).1
      clear R5 N5
      go_wp2_with fail
      clear x0_ x1_ x2_ y0_ y1_ y2_
      refine (eqSt_any x0 n0 l0 w12).mono ?_; rintro e w13 ⟨rfl, hb13⟩
      have z13 := hb13.size
      have A13 : Hid (AtL (fun b => w7.heap.size ≤ b ∧ b < w8.heap.size) w13 r r2) := A12.out.same (Same.of_below hb13 (fun b hb => by omega))
      have K13 : Hid (Below W.heap.size W w13) := K12.out.trans (hb13.mono K12.out.size)
      clear hb13
      go_wp2_with fail
      refine (toRecPhaseS_any S r v _ (H.out _ K13.out).1 (H.out _ K13.out).2 HM.out).mono ?_; rintro e w14 ⟨r3, rfl, a3, hb14⟩
      have z14 := hb14.size
      have A3 : Hid (AtL (fun b => w13.heap.size ≤ b ∧ b < w14.heap.size) w14 r r3) := a3
      have A14 : Hid (AtL (fun b => w7.heap.size ≤ b ∧ b < w8.heap.size) w14 r r2) := A13.out.same (Same.of_below hb14 (fun b hb => by omega))
      have K14 : Hid (Below W.heap.size W w14) := K13.out.trans (hb14.mono K13.out.size)
      clear a3 hb14
      go_wp2_with fail
      refine (eqRecPhaseS_any _ _ r r2 r3 w14 A14.out A3.out (fun b hb => by omega) (fun b hb => hb.2)).mono ?_; rintro e w15 ⟨rfl, hb15⟩
      have K15 : Hid (Below W.heap.size W w15) := K14.out.trans (hb15.mono K14.out.size)
      clear hb15
      go_wp2_with fail
      go_ret
      exact ⟨rfl, FIN.out _ K15.out⟩
  case he1 =>
    intro p6 b w6 h
    obtain ⟨hbu, hp, r1, h⟩ := h
    obtain ⟨row, hge⟩ := hp p6 rfl
    subst h
    refine lexH 1 [7, 8, 9] (by kernel_rfl) (regrown_of_below hbu) ?_
    simp only [List.filterMap_cons, List.filterMap_nil, List.getElem?_cons_succ, List.getElem?_cons_zero, bx, Act.put, List.setIfInBounds_toArray, List.set_cons_zero, List.set_cons_succ]
    repeat (first | go_big_quiet_step (fail) | quiet_step (fail))
    refine wpQuiet_nil ?_
    have lt6 : p6 < w6.heap.size := (Array.getElem?_eq_some_iff.1 row).1
    obtain ⟨e0, f0⟩ := cell_row row 0 _ rfl
    obtain ⟨e1, f1⟩ := cell_row row 1 _ rfl
    obtain ⟨e2, f2⟩ := cell_row row 2 _ rfl
    have fin := set_row (set_row (set_row row 0 (.string x0)) 1 (.int .i64 n0)) 2 (.int .i64 l0)
    have bF := ((hbu.setCell (p := ⟨p6, 0, none⟩) hge (.string x0)).setCell (p := ⟨p6, 1, none⟩) hge (.int .i64 n0)).setCell (p := ⟨p6, 2, none⟩) hge (.int .i64 l0)
    refine storeH (f := 0) (i := 11) (((w6.setCell ⟨p6, 0, none⟩ (.string x0)).setCell ⟨p6, 1, none⟩ (.int .i64 n0)).setCell ⟨p6, 2, none⟩ (.int .i64 l0)) ⟨rfl, by decide⟩ (by kernel_rfl) (wanted_none rfl _) ?st (regrown_of_below bF) ?_
    case st => go_simp
    refine ⟨by kernel_rfl, ?_⟩
    simp only [List.drop_succ_cons, List.drop_zero, Act.put]
    have R7 : Hid ((((w6.setCell ⟨p6, 0, none⟩ (.string x0)).setCell ⟨p6, 1, none⟩ (.int .i64 n0)).setCell ⟨p6, 2, none⟩ (.int .i64 l0)).heap[p6]? = some (.cells #[.string x0, .int .i64 n0, .int .i64 l0] 29 (0, 0))) := fin
    have BF : Hid (Below w2.heap.size w2 (((w6.setCell ⟨p6, 0, none⟩ (.string x0)).setCell ⟨p6, 1, none⟩ (.int .i64 n0)).setCell ⟨p6, 2, none⟩ (.int .i64 l0))) := bF
    have z7 : w2.heap.size ≤ p6 ∧ p6 < (((w6.setCell ⟨p6, 0, none⟩ (.string x0)).setCell ⟨p6, 1, none⟩ (.int .i64 n0)).setCell ⟨p6, 2, none⟩ (.int .i64 l0)).heap.size := ⟨hge, (Array.getElem?_eq_some_iff.1 fin).1⟩
    clear fin bF e0 f0 e1 f1 e2 f2 lt6 row hbu hge
    generalize (((w6.setCell ⟨p6, 0, none⟩ (.string x0)).setCell ⟨p6, 1, none⟩ (.int .i64 n0)).setCell ⟨p6, 2, none⟩ (.int .i64 l0)) = w7 at R7 BF z7 ⊢
    have K7 : Hid (Below W.heap.size W w7) := K2.out.trans (BF.out.mono z2')
    go_wp2_with fail
    refine (TO.out w7 BF.out).mono ?_; rintro e w8 ⟨r2, rfl, a8, hb8⟩
    have A8 : Hid (AtL (fun b => w7.heap.size ≤ b ∧ b < w8.heap.size) w8 r r2) := a8
    have R8 : Hid (w8.heap[p6]? = some (.cells #[.string x0, .int .i64 n0, .int .i64 l0] 29 (0, 0))) := (hb8.block _ z7.2).trans R7.out
    have K8 : Hid (Below W.heap.size W w8) := K7.out.trans (hb8.mono K7.out.size)
    have z8 := hb8.size
    have z8' := K8.out.size
    clear a8 hb8 R7 BF K7 MM
    obtain ⟨c0, c1, c2, c3, c4⟩ := E.out w8 K8.out
    have q0 := fun d os => cell_regrown c0 d os
    have q1 := fun d os => cell_regrown c1 d os
    have q2 := fun d os => cell_regrown c2 d os
    have q3 := fun d os => cell_regrown c3 d os
    have q4 := fun d os => cell_regrown c4 d os
    go_wp2_with fail
    have hdr8 : Hid (Below w8.heap.size w8 w8.drew) := (Below.refl _ _).drew
    refine wp_region_head 11 [0, 1, 3] (by kernel_rfl) (by kernel_rfl) ?_
    simp only [List.filterMap_cons, List.filterMap_nil, List.getElem?_cons_succ, List.getElem?_cons_zero]
    repeat (first | go_big_quiet_step (fail) | quiet_step (fail))
    refine wpQuiet_nil ?_
    clear q0 q1 q2 q3 q4 c0 c1 c2 c3 c4
    have P8 : Hid (∀ u, Below w8.heap.size w8 u → Calls Try.prog 10 #[r2, .agg #[.string x, .int .i64 now, .int .i64 lf], .agg #[.int .i64 t, .bool well]] u fun e w' => e = .returned (.tuple #[.agg #[.string x0, .int .i64 n0, .int .i64 l0], .bool b0]) ∧ Below u.heap.size u w') := fun u hu => PP.out _ r2 u (A8.out.same (Same.of_below hu (fun b hb => hb.2))) (fun b hb => Nat.lt_of_lt_of_le hb.2 hu.size) HM.out HX.out
    refine chainH_box0 (g := 4) (fun a0 o k a u => Below w8.heap.size w8 u ∧ (∀ p, o = some p → u.heap[p]? = some (.cells #[.string ⟨#[]⟩, .int .i64 0, .int .i64 0] 29 (0, 0)) ∧ w8.heap.size ≤ p) ∧ (match k with
      | 0 => a = bx 11 o a0
      | 1 => a = bx 11 o (a0.put (some 38) (.agg #[.string x, .int .i64 now, .int .i64 lf]))
      | 2 => a = bx 11 o ((a0.put (some 38) (.agg #[.string x, .int .i64 now, .int .i64 lf])).put (some 40) (.agg #[.int .i64 t, .bool well]))
      | _ => a = bx 11 o (((a0.put (some 38) (.agg #[.string x, .int .i64 now, .int .i64 lf])).put (some 40) (.agg #[.int .i64 t, .bool well])).put (some 41) (.tuple #[.agg #[.string x0, .int .i64 n0, .int .i64 l0], .bool b0])))) [2, 4, 5] 9 11 _ #[.string ⟨#[]⟩, .int .i64 0, .int .i64 0] 29 ⟨rfl, rfl, rfl, by decide⟩ (by decide) (by decide) ?exb (by kernel_rfl) ?halb ?hsb ?h0b ?heb ?heb1
    case exb => intro b u; go_simp
    case h0b => exact ⟨hdr8.out, fun p hp => (by cases hp), rfl⟩
    case halb =>
      intro k b u h
      obtain ⟨hb, _, h⟩ := h
      have hal := hb.alloc hb.size (.cells #[.string ⟨#[]⟩, .int .i64 0, .int .i64 0] 29)
      refine ⟨regrown_of_below hal, hal, fun p hp => (by cases hp; exact ⟨heap_alloc_new u _, hb.size⟩), ?_⟩
      match k, h with
      | 0, h => subst h; rfl
      | 1, h => subst h; rfl
      | 2, h => subst h; rfl
      | _ + 3, h => subst h; rfl
    case hsb =>
      intro o j hj b u h
      obtain ⟨hb, hp, h⟩ := h
      have ROW : ∀ w', Below u.heap.size u w' → ∀ p, o = some p → w'.heap[p]? = some (.cells #[.string ⟨#[]⟩, .int .i64 0, .int .i64 0] 29 (0, 0)) ∧ w8.heap.size ≤ p := fun w' hb' p hp' => ⟨(hb'.block p (Array.getElem?_eq_some_iff.1 (hp p hp').1).1).trans (hp p hp').1, (hp p hp').2⟩
      have BB : ∀ w', Below u.heap.size u w' → Below w8.heap.size w8 w' := fun w' hb' => hb.trans (hb'.mono hb.size)
      have : j = 0 ∨ j = 1 ∨ j = 2 := (by simp at hj; omega)
      rcases this with rfl | rfl | rfl
      · simp only at h
        subst h
        refine stepH_call (fn := 8) (args := #[.agg #[.string x, .int .i64 now, .int .i64 lf]]) rfl (wanted_none rfl _) (by cases o <;> simp only [bx, Act.put, List.setIfInBounds_toArray, List.set_cons_zero, List.set_cons_succ] <;> go_simp) ((toSt_any x now lf u).mono fun e w' ⟨he, hb'⟩ => ⟨_, he, regrown_of_below (BB w' hb'), BB w' hb', ROW w' hb', bx_put (by decide) o _ _⟩)
      · simp only at h
        subst h
        refine stepH_call (fn := 9) (args := #[.agg #[.int .i64 t, .bool well]]) rfl (wanted_none rfl _) (by cases o <;> simp only [bx, Act.put, List.setIfInBounds_toArray, List.set_cons_zero, List.set_cons_succ] <;> go_simp) ((toSy_any t well u).mono fun e w' ⟨he, hb'⟩ => ⟨_, he, regrown_of_below (BB w' hb'), BB w' hb', ROW w' hb', bx_put (by decide) o _ _⟩)
      · simp only at h
        subst h
        refine stepH_call (fn := 10) (args := #[r2, .agg #[.string x, .int .i64 now, .int .i64 lf], .agg #[.int .i64 t, .bool well]]) rfl (wanted_none rfl _) (by cases o <;> simp only [bx, Act.put, List.setIfInBounds_toArray, List.set_cons_zero, List.set_cons_succ] <;> go_simp) ((P8.out u hb).mono fun e w' ⟨he, hb'⟩ => ⟨_, he, regrown_of_below (BB w' hb'), BB w' hb', ROW w' hb', bx_put (by decide) o _ _⟩)
    case heb =>
      intro b u h
      obtain ⟨hb, _, h⟩ := h
      subst h
      have hbu : Below w8.heap.size w8 (u.alloc (.cells #[.string ⟨#[]⟩, .int .i64 0, .int .i64 0] 29)) := hb.alloc hb.size _
      have row : (u.alloc (.cells #[.string ⟨#[]⟩, .int .i64 0, .int .i64 0] 29)).heap[u.heap.size]? = some (.cells #[.string ⟨#[]⟩, .int .i64 0, .int .i64 0] 29 (0, 0)) := heap_alloc_new u _
      refine lexH 2 [6, 7, 8] (by kernel_rfl) (regrown_of_below hb) ?_
      simp only [List.filterMap_cons, List.filterMap_nil, List.getElem?_cons_succ, List.getElem?_cons_zero, bx, Act.put, List.setIfInBounds_toArray, List.set_cons_zero, List.set_cons_succ]
      repeat (first | go_big_quiet_step (fail) | quiet_step (fail))
      refine wpQuiet_nil ?_
      refine oneH (f := 1) (i := 9) (.pointer (some ⟨u.heap.size, 0, none⟩)) (u.alloc (.cells #[.string ⟨#[]⟩, .int .i64 0, .int .i64 0] 29)) ⟨rfl, by decide⟩ (by kernel_rfl) (wanted_none rfl _) ?run (regrown_of_below hbu) ?_
      case run => go_simp
      simp only [Act.put, List.setIfInBounds_toArray]
      have hge := hb.size
      clear hb
      generalize u.alloc (.cells #[.string ⟨#[]⟩, .int .i64 0, .int .i64 0] 29) = w11 at hbu row ⊢
      generalize u.heap.size = p11 at row hge ⊢
      obtain ⟨e0, f0⟩ := cell_row row 0 _ rfl
      obtain ⟨e1, f1⟩ := cell_row row 1 _ rfl
      obtain ⟨e2, f2⟩ := cell_row row 2 _ rfl
      have fin := set_row (set_row (set_row row 0 (.string x0)) 1 (.int .i64 n0)) 2 (.int .i64 l0)
      have bF := ((hbu.setCell (p := ⟨p11, 0, none⟩) hge (.string x0)).setCell (p := ⟨p11, 1, none⟩) hge (.int .i64 n0)).setCell (p := ⟨p11, 2, none⟩) hge (.int .i64 l0)
      refine storeH (f := 0) (i := 10) ((((w11.setCell ⟨p11, 0, none⟩ (.string x0)).setCell ⟨p11, 1, none⟩ (.int .i64 n0)).setCell ⟨p11, 2, none⟩ (.int .i64 l0))) ⟨rfl, by decide⟩ (by kernel_rfl) (wanted_none rfl _) ?st (regrown_of_below bF) ?_
      case st => go_simp
      refine ⟨by kernel_rfl, ?_⟩
      simp only [List.drop_succ_cons, List.drop_zero, Act.put]
      have N5 : (((w11.setCell ⟨p11, 0, none⟩ (.string x0)).setCell ⟨p11, 1, none⟩ (.int .i64 n0)).setCell ⟨p11, 2, none⟩ (.int .i64 l0)).heap[p11]? = some (.cells #[.string x0, .int .i64 n0, .int .i64 l0] 29 (0, 0)) := fin
      have BF : Hid (Below w8.heap.size w8 (((w11.setCell ⟨p11, 0, none⟩ (.string x0)).setCell ⟨p11, 1, none⟩ (.int .i64 n0)).setCell ⟨p11, 2, none⟩ (.int .i64 l0))) := bF
      clear fin bF e0 f0 e1 f1 e2 f2 row hbu hge
      generalize (((w11.setCell ⟨p11, 0, none⟩ (.string x0)).setCell ⟨p11, 1, none⟩ (.int .i64 n0)).setCell ⟨p11, 2, none⟩ (.int .i64 l0)) = w12 at N5 BF ⊢
      have R5 : w12.heap[p6]? = some (.cells #[.string x0, .int .i64 n0, .int .i64 l0] 29 (0, 0)) := (BF.out.block _ (by omega)).trans R8.out
      have z12 := BF.out.size
      have A12 : Hid (AtL (fun b => w7.heap.size ≤ b ∧ b < w8.heap.size) w12 r r2) := A8.out.same (Same.of_below BF.out (fun b hb => hb.2))
      have K12 : Hid (Below W.heap.size W w12) := K8.out.trans (BF.out.mono z8')
      have x0_ := (cell_row R5 0 _ rfl).1
      have x1_ := (cell_row R5 1 _ rfl).1
      have x2_ := (cell_row R5 2 _ rfl).1
      have y0_ := (cell_row N5 0 _ rfl).1
      have y1_ := (cell_row N5 1 _ rfl).1
      have y2_ := (cell_row N5 2 _ rfl).1
      clear R5 N5
      go_wp2_with fail
      clear x0_ x1_ x2_ y0_ y1_ y2_
      refine (eqSt_any x0 n0 l0 w12).mono ?_; rintro e w13 ⟨rfl, hb13⟩
      have z13 := hb13.size
      have A13 : Hid (AtL (fun b => w7.heap.size ≤ b ∧ b < w8.heap.size) w13 r r2) := A12.out.same (Same.of_below hb13 (fun b hb => by omega))
      have K13 : Hid (Below W.heap.size W w13) := K12.out.trans (hb13.mono K12.out.size)
      clear hb13
      go_wp2_with fail
      refine (toRecPhaseS_any S r v _ (H.out _ K13.out).1 (H.out _ K13.out).2 HM.out).mono ?_; rintro e w14 ⟨r3, rfl, a3, hb14⟩
      have z14 := hb14.size
      have A3 : Hid (AtL (fun b => w13.heap.size ≤ b ∧ b < w14.heap.size) w14 r r3) := a3
      have A14 : Hid (AtL (fun b => w7.heap.size ≤ b ∧ b < w8.heap.size) w14 r r2) := A13.out.same (Same.of_below hb14 (fun b hb => by omega))
      have K14 : Hid (Below W.heap.size W w14) := K13.out.trans (hb14.mono K13.out.size)
      clear a3 hb14
      go_wp2_with fail
      refine (eqRecPhaseS_any _ _ r r2 r3 w14 A14.out A3.out (fun b hb => by omega) (fun b hb => hb.2)).mono ?_; rintro e w15 ⟨rfl, hb15⟩
      have K15 : Hid (Below W.heap.size W w15) := K14.out.trans (hb15.mono K14.out.size)
      clear hb15
      go_wp2_with fail
      go_ret
      exact ⟨rfl, FIN.out _ K15.out⟩
    case heb1 =>
      intro p11 b w11 h
      obtain ⟨hbu, hp, h⟩ := h
      obtain ⟨row, hge⟩ := hp p11 rfl
      subst h
      refine lexH 1 [6, 7, 8] (by kernel_rfl) (regrown_of_below hbu) ?_
      simp only [List.filterMap_cons, List.filterMap_nil, List.getElem?_cons_succ, List.getElem?_cons_zero, bx, Act.put, List.setIfInBounds_toArray, List.set_cons_zero, List.set_cons_succ]
      repeat (first | go_big_quiet_step (fail) | quiet_step (fail))
      refine wpQuiet_nil ?_
      obtain ⟨e0, f0⟩ := cell_row row 0 _ rfl
      obtain ⟨e1, f1⟩ := cell_row row 1 _ rfl
      obtain ⟨e2, f2⟩ := cell_row row 2 _ rfl
      have fin := set_row (set_row (set_row row 0 (.string x0)) 1 (.int .i64 n0)) 2 (.int .i64 l0)
      have bF := ((hbu.setCell (p := ⟨p11, 0, none⟩) hge (.string x0)).setCell (p := ⟨p11, 1, none⟩) hge (.int .i64 n0)).setCell (p := ⟨p11, 2, none⟩) hge (.int .i64 l0)
      refine storeH (f := 0) (i := 10) ((((w11.setCell ⟨p11, 0, none⟩ (.string x0)).setCell ⟨p11, 1, none⟩ (.int .i64 n0)).setCell ⟨p11, 2, none⟩ (.int .i64 l0))) ⟨rfl, by decide⟩ (by kernel_rfl) (wanted_none rfl _) ?st (regrown_of_below bF) ?_
      case st => go_simp
      refine ⟨by kernel_rfl, ?_⟩
      simp only [List.drop_succ_cons, List.drop_zero, Act.put]
      have N5 : (((w11.setCell ⟨p11, 0, none⟩ (.string x0)).setCell ⟨p11, 1, none⟩ (.int .i64 n0)).setCell ⟨p11, 2, none⟩ (.int .i64 l0)).heap[p11]? = some (.cells #[.string x0, .int .i64 n0, .int .i64 l0] 29 (0, 0)) := fin
      have BF : Hid (Below w8.heap.size w8 (((w11.setCell ⟨p11, 0, none⟩ (.string x0)).setCell ⟨p11, 1, none⟩ (.int .i64 n0)).setCell ⟨p11, 2, none⟩ (.int .i64 l0))) := bF
      clear fin bF e0 f0 e1 f1 e2 f2 row hbu hge
      generalize (((w11.setCell ⟨p11, 0, none⟩ (.string x0)).setCell ⟨p11, 1, none⟩ (.int .i64 n0)).setCell ⟨p11, 2, none⟩ (.int .i64 l0)) = w12 at N5 BF ⊢
      have R5 : w12.heap[p6]? = some (.cells #[.string x0, .int .i64 n0, .int .i64 l0] 29 (0, 0)) := (BF.out.block _ (by omega)).trans R8.out
      have z12 := BF.out.size
      have A12 : Hid (AtL (fun b => w7.heap.size ≤ b ∧ b < w8.heap.size) w12 r r2) := A8.out.same (Same.of_below BF.out (fun b hb => hb.2))
      have K12 : Hid (Below W.heap.size W w12) := K8.out.trans (BF.out.mono z8')
      have x0_ := (cell_row R5 0 _ rfl).1
      have x1_ := (cell_row R5 1 _ rfl).1
      have x2_ := (cell_row R5 2 _ rfl).1
      have y0_ := (cell_row N5 0 _ rfl).1
      have y1_ := (cell_row N5 1 _ rfl).1
      have y2_ := (cell_row N5 2 _ rfl).1
      clear R5 N5
      go_wp2_with fail
      clear x0_ x1_ x2_ y0_ y1_ y2_
      refine (eqSt_any x0 n0 l0 w12).mono ?_; rintro e w13 ⟨rfl, hb13⟩
      have z13 := hb13.size
      have A13 : Hid (AtL (fun b => w7.heap.size ≤ b ∧ b < w8.heap.size) w13 r r2) := A12.out.same (Same.of_below hb13 (fun b hb => by omega))
      have K13 : Hid (Below W.heap.size W w13) := K12.out.trans (hb13.mono K12.out.size)
      clear hb13
      go_wp2_with fail
      refine (toRecPhaseS_any S r v _ (H.out _ K13.out).1 (H.out _ K13.out).2 HM.out).mono ?_; rintro e w14 ⟨r3, rfl, a3, hb14⟩
      have z14 := hb14.size
      have A3 : Hid (AtL (fun b => w13.heap.size ≤ b ∧ b < w14.heap.size) w14 r r3) := a3
      have A14 : Hid (AtL (fun b => w7.heap.size ≤ b ∧ b < w8.heap.size) w14 r r2) := A13.out.same (Same.of_below hb14 (fun b hb => by omega))
      have K14 : Hid (Below W.heap.size W w14) := K13.out.trans (hb14.mono K13.out.size)
      clear a3 hb14
      go_wp2_with fail
      refine (eqRecPhaseS_any _ _ r r2 r3 w14 A14.out A3.out (fun b hb => by omega) (fun b hb => hb.2)).mono ?_; rintro e w15 ⟨rfl, hb15⟩
      have K15 : Hid (Below W.heap.size W w15) := K14.out.trans (hb15.mono K14.out.size)
      clear hb15
      go_wp2_with fail
      go_ret
      exact ⟨rfl, FIN.out _ K15.out⟩

end Go.Proofs.Ytkongeofapbblad
