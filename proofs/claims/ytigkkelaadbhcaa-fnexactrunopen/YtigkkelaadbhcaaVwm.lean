/-
  The model's RunOpen: a house with things, nothing going on; nothing, if they are no book.
-/
import Derived.Test.YtigkkelaadbhcaaZmb
import Derived.Test.YtigkkelaadbhcaaZrap
namespace Go.Proofs.Ytigkkelaadbhcaa
open Go.RowKit Go.Sort

/-- The things of the house that is opened. -/
noncomputable def opT (T : List ByteArray) : List ByteArray := if bokB (T, []) = true then T else []
theorem opT_no {T : List ByteArray} (h : bokB (T, []) = false) : opT T = [] := by unfold opT; rw [if_neg (by rw [h]; simp)]
theorem opT_yes {T : List ByteArray} (h : bokB (T, []) = true) : opT T = T := by unfold opT; rw [if_pos h]
theorem atl_noneV {α : Type} [Lay α] (S : Nat → Prop) (w : World) : AtL S w ([] : List α) (.slice none 0 0) := ⟨none, 0, rfl, ⟨Nat.zero_le _, Nat.le_refl _, fun _ => rfl⟩, fun _ hi => absurd hi (Nat.not_lt_zero _)⟩

set_option maxRecDepth 100000 in
set_option maxHeartbeats 16000000 in
theorem openX_any (S : Nat → Prop) (T : List ByteArray) (o0 : Option Addr) (n0 k0 : Nat) (w : World) (h0 : AtL S w T (.slice o0 n0 k0)) (hT : T.length ≤ 1048576) (hS : ∀ b, S b → b < w.heap.size) :
    Calls Try.prog 5 #[.slice o0 n0 k0] w fun e w' => ∃ r0, e = .returned (.tuple #[.agg #[.int .i64 0, .int .i64 0, r0, .slice none 0 0, .slice none 0 0, .slice none 0 0], .bool (bokB (T, []))]) ∧ AtL (fun b => w.heap.size ≤ b ∧ b < w'.heap.size) w' (opT T) r0 ∧ Below w.heap.size w w' := by
  have H0 : Hid (∀ u, Below w.heap.size w u → AtL S u T (.slice o0 n0 k0)) := fun u hu => h0.same (Same.of_below hu hS)
  have HS : Hid (∀ u, Below w.heap.size w u → ∀ b, S b → b < u.heap.size) := fun u hu b hb => Nat.lt_of_lt_of_le (hS b hb) hu.size
  clear h0
  obtain ⟨W, hW⟩ : ∃ W, W = w.alloc (.cells #[.int .i64 0, .int .i64 0, .slice none 0 0, .slice none 0 0, .slice none 0 0, .slice none 0 0] 30) := ⟨_, rfl⟩
  have EW : Hid (W = w.alloc (.cells #[.int .i64 0, .int .i64 0, .slice none 0 0, .slice none 0 0, .slice none 0 0, .slice none 0 0] 30)) := hW
  have BW : Hid (Below w.heap.size w W) := by rw [hW]; exact (Below.refl _ _).alloc (Nat.le_refl _) _
  have R1 : Hid (W.heap[w.heap.size]? = some (.cells #[.int .i64 0, .int .i64 0, .slice none 0 0, .slice none 0 0, .slice none 0 0, .slice none 0 0] 30 (0, 0))) := by rw [hW]; exact heap_alloc_new w _
  have sW : w.heap.size + 1 ≤ W.heap.size := by rw [hW]; simp
  clear hW
  have BOX : Hid (∀ u, Below W.heap.size W u → u.heap[w.heap.size]? = some (.cells #[.int .i64 0, .int .i64 0, .slice none 0 0, .slice none 0 0, .slice none 0 0, .slice none 0 0] 30 (0, 0)) ∧ Below w.heap.size w u) := fun u hu => ⟨(hu.block _ (by omega)).trans R1.out, BW.out.trans (hu.mono (by omega))⟩
  go_enter Try.func5, Try.ntmps5
  go_upto_region 1 with fail
  rw [← EW.out]
  go_wp2_with fail
  refine (namesC_any S _ T W (H0.out W BW.out) hT (HS.out W BW.out)).mono ?_
  rintro e u1 ⟨r, rfl, hr, -, hb1⟩
  obtain ⟨oc, kc, rfl⟩ := Row.form hr
  obtain ⟨m, em⟩ : ∃ n, T.length = n := ⟨_, rfl⟩
  rw [em] at hr
  rw [em]
  have s1 := hb1.size
  have HZ : Hid (∀ s ∈ T, s.size ≤ maxLen) := flatS.ok_all (H0.out W BW.out)
  obtain ⟨X, hX⟩ : ∃ X, X = u1.alloc (.cells #[.slice oc m kc, .slice none 0 0] 26) := ⟨_, rfl⟩
  have EX : Hid (X = u1.alloc (.cells #[.slice oc m kc, .slice none 0 0] 26)) := hX
  have BX2 : Below u1.heap.size u1 X := by rw [hX]; exact (Below.refl _ _).alloc (Nat.le_refl _) _
  have RX : Hid (X.heap[u1.heap.size]? = some (.cells #[.slice oc m kc, .slice none 0 0] 26 (0, 0))) := by rw [hX]; exact heap_alloc_new u1 _
  have sX : u1.heap.size + 1 ≤ X.heap.size := by rw [hX]; simp
  have BX : Hid (Below W.heap.size W X) := hb1.trans (BX2.mono s1)
  have AX : Hid (AtL (fun b => W.heap.size ≤ b ∧ b < X.heap.size) X T (.slice oc m kc)) := (str_at (Row.below hr BX2) HZ.out)
  obtain ⟨gx, hgx⟩ : ∃ g, g = u1.heap.size := ⟨_, rfl⟩
  have EGX : Hid (gx = u1.heap.size) := hgx
  rw [← hgx] at RX
  have hgX : gx < X.heap.size := by omega
  clear hX hgx BX2 hr em hb1 HZ
  go_upto_region 2 with fail
  rw [← EX.out]
  rw [← EGX.out]
  have y0 := (cell_row RX.out 0 (.slice oc m kc) rfl).1
  have y1 := (cell_row RX.out 1 (.slice none 0 0) rfl).1
  have CB : Hid (Calls Try.prog 14 #[.agg #[.slice oc m kc, .slice none 0 0]] X fun e w' => e = .returned (.bool (bokB (T, []))) ∧ Below X.heap.size X w') := bookZ_any _ (T, []) _ _ X AX.out (atl_noneV _ _) (fun b hb => hb.2)
  go_wp2_with fail
  refine CB.out.mono ?_
  rintro e u2 ⟨rfl, hb2⟩
  have s2 := hb2.size
  have B2 : Hid (Below W.heap.size W u2) := BX.out.trans (hb2.mono BX.out.size)
  have R2 : Hid (u2.heap[gx]? = some (.cells #[.slice oc m kc, .slice none 0 0] 26 (0, 0))) := (hb2.block _ hgX).trans RX.out
  have A2 : Hid (AtL (fun b => W.heap.size ≤ b ∧ b < X.heap.size) u2 T (.slice oc m kc)) := AX.out.same (Same.of_below hb2 fun b hb => hb.2)
  have FB := (BOX.out u2 B2.out).1
  have FW : Hid (Below w.heap.size w u2) := (BOX.out u2 B2.out).2
  have sB : W.heap.size ≤ u2.heap.size := B2.out.size
  clear y0 y1 CB hb2 RX AX BX
  cases hB : bokB (T, [])
  · have FA : Hid (AtL (fun b => W.heap.size ≤ b ∧ b < X.heap.size) u2 (opT T) (.slice none 0 0)) := by rw [opT_no hB]; exact atl_noneV _ _
    obtain ⟨z0, f0⟩ := cell_row FB 0 (.int .i64 0) rfl
    obtain ⟨z1, f1⟩ := cell_row FB 1 (.int .i64 0) rfl
    obtain ⟨z2, f2⟩ := cell_row FB 2 (.slice none 0 0) rfl
    obtain ⟨z3, f3⟩ := cell_row FB 3 (.slice none 0 0) rfl
    obtain ⟨z4, f4⟩ := cell_row FB 4 (.slice none 0 0) rfl
    obtain ⟨z5, f5⟩ := cell_row FB 5 (.slice none 0 0) rfl
    go_wp2_with fail
    have FIN := (set_row (set_row (set_row (set_row (set_row (set_row FB 0 (.int .i64 0)) 1 (.int .i64 0)) 2 (.slice none 0 0)) 3 (.slice none 0 0)) 4 (.slice none 0 0)) 5 (.slice none 0 0))
    have OTH : ∀ q, q ≠ w.heap.size → (((((((u2.setCell ⟨w.heap.size, 0, none⟩ (.int .i64 0)).setCell ⟨w.heap.size, 1, none⟩ (.int .i64 0)).setCell ⟨w.heap.size, 2, none⟩ (.slice none 0 0)).setCell ⟨w.heap.size, 3, none⟩ (.slice none 0 0)).setCell ⟨w.heap.size, 4, none⟩ (.slice none 0 0)).setCell ⟨w.heap.size, 5, none⟩ (.slice none 0 0))).heap[q]? = u2.heap[q]? := fun q hq => (((((Below.heap_setCell _ _ _ _ hq).trans (Below.heap_setCell _ _ _ _ hq)).trans (Below.heap_setCell _ _ _ _ hq)).trans (Below.heap_setCell _ _ _ _ hq)).trans (Below.heap_setCell _ _ _ _ hq)).trans (Below.heap_setCell _ _ _ _ hq)
    have BF : Below w.heap.size w ((((((u2.setCell ⟨w.heap.size, 0, none⟩ (.int .i64 0)).setCell ⟨w.heap.size, 1, none⟩ (.int .i64 0)).setCell ⟨w.heap.size, 2, none⟩ (.slice none 0 0)).setCell ⟨w.heap.size, 3, none⟩ (.slice none 0 0)).setCell ⟨w.heap.size, 4, none⟩ (.slice none 0 0)).setCell ⟨w.heap.size, 5, none⟩ (.slice none 0 0)) := ((((((FW.out.setCell (p := ⟨w.heap.size, 0, none⟩) (Nat.le_refl _) _).setCell (p := ⟨w.heap.size, 1, none⟩) (Nat.le_refl _) _).setCell (p := ⟨w.heap.size, 2, none⟩) (Nat.le_refl _) _).setCell (p := ⟨w.heap.size, 3, none⟩) (Nat.le_refl _) _).setCell (p := ⟨w.heap.size, 4, none⟩) (Nat.le_refl _) _).setCell (p := ⟨w.heap.size, 5, none⟩) (Nat.le_refl _) _)
    have SZ : (((((((u2.setCell ⟨w.heap.size, 0, none⟩ (.int .i64 0)).setCell ⟨w.heap.size, 1, none⟩ (.int .i64 0)).setCell ⟨w.heap.size, 2, none⟩ (.slice none 0 0)).setCell ⟨w.heap.size, 3, none⟩ (.slice none 0 0)).setCell ⟨w.heap.size, 4, none⟩ (.slice none 0 0)).setCell ⟨w.heap.size, 5, none⟩ (.slice none 0 0))).heap.size = u2.heap.size := by simp
    generalize ((((((u2.setCell ⟨w.heap.size, 0, none⟩ (.int .i64 0)).setCell ⟨w.heap.size, 1, none⟩ (.int .i64 0)).setCell ⟨w.heap.size, 2, none⟩ (.slice none 0 0)).setCell ⟨w.heap.size, 3, none⟩ (.slice none 0 0)).setCell ⟨w.heap.size, 4, none⟩ (.slice none 0 0)).setCell ⟨w.heap.size, 5, none⟩ (.slice none 0 0)) = F at FIN OTH BF SZ ⊢
    have g0 := (cell_row FIN 0 (.int .i64 0) rfl).1
    have g1 := (cell_row FIN 1 (.int .i64 0) rfl).1
    have g2 := (cell_row FIN 2 (.slice none 0 0) rfl).1
    have g3 := (cell_row FIN 3 (.slice none 0 0) rfl).1
    have g4 := (cell_row FIN 4 (.slice none 0 0) rfl).1
    have g5 := (cell_row FIN 5 (.slice none 0 0) rfl).1
    refine bodyPost_ret (v := .tuple #[.agg #[.int .i64 0, .int .i64 0, .slice none 0 0, .slice none 0 0, .slice none 0 0, .slice none 0 0], .bool false]) (by simp [results, Try.results5, go_sem, g0, g1, g2, g3, g4, g5]) rfl ⟨_, by rw [hB], ?_, BF⟩
    exact AtL.up (FA.out.same (fun b hb => OTH b (by omega))) (fun b hb => ⟨by omega, by omega⟩)
  · have FA : Hid (AtL (fun b => W.heap.size ≤ b ∧ b < X.heap.size) u2 (opT T) (.slice oc m kc)) := by rw [opT_yes hB]; exact A2.out
    have y0 := (cell_row R2.out 0 (.slice oc m kc) rfl).1
    have y1 := (cell_row R2.out 1 (.slice none 0 0) rfl).1
    obtain ⟨z0, f0⟩ := cell_row FB 0 (.int .i64 0) rfl
    obtain ⟨z1, f1⟩ := cell_row FB 1 (.int .i64 0) rfl
    obtain ⟨z2, f2⟩ := cell_row FB 2 (.slice none 0 0) rfl
    obtain ⟨z3, f3⟩ := cell_row FB 3 (.slice none 0 0) rfl
    obtain ⟨z4, f4⟩ := cell_row FB 4 (.slice none 0 0) rfl
    obtain ⟨z5, f5⟩ := cell_row FB 5 (.slice none 0 0) rfl
    go_wp2_with fail
    have FIN := (set_row (set_row (set_row (set_row (set_row (set_row FB 0 (.int .i64 0)) 1 (.int .i64 0)) 2 (.slice oc m kc)) 3 (.slice none 0 0)) 4 (.slice none 0 0)) 5 (.slice none 0 0))
    have OTH : ∀ q, q ≠ w.heap.size → (((((((u2.setCell ⟨w.heap.size, 0, none⟩ (.int .i64 0)).setCell ⟨w.heap.size, 1, none⟩ (.int .i64 0)).setCell ⟨w.heap.size, 2, none⟩ (.slice oc m kc)).setCell ⟨w.heap.size, 3, none⟩ (.slice none 0 0)).setCell ⟨w.heap.size, 4, none⟩ (.slice none 0 0)).setCell ⟨w.heap.size, 5, none⟩ (.slice none 0 0))).heap[q]? = u2.heap[q]? := fun q hq => (((((Below.heap_setCell _ _ _ _ hq).trans (Below.heap_setCell _ _ _ _ hq)).trans (Below.heap_setCell _ _ _ _ hq)).trans (Below.heap_setCell _ _ _ _ hq)).trans (Below.heap_setCell _ _ _ _ hq)).trans (Below.heap_setCell _ _ _ _ hq)
    have BF : Below w.heap.size w ((((((u2.setCell ⟨w.heap.size, 0, none⟩ (.int .i64 0)).setCell ⟨w.heap.size, 1, none⟩ (.int .i64 0)).setCell ⟨w.heap.size, 2, none⟩ (.slice oc m kc)).setCell ⟨w.heap.size, 3, none⟩ (.slice none 0 0)).setCell ⟨w.heap.size, 4, none⟩ (.slice none 0 0)).setCell ⟨w.heap.size, 5, none⟩ (.slice none 0 0)) := ((((((FW.out.setCell (p := ⟨w.heap.size, 0, none⟩) (Nat.le_refl _) _).setCell (p := ⟨w.heap.size, 1, none⟩) (Nat.le_refl _) _).setCell (p := ⟨w.heap.size, 2, none⟩) (Nat.le_refl _) _).setCell (p := ⟨w.heap.size, 3, none⟩) (Nat.le_refl _) _).setCell (p := ⟨w.heap.size, 4, none⟩) (Nat.le_refl _) _).setCell (p := ⟨w.heap.size, 5, none⟩) (Nat.le_refl _) _)
    have SZ : (((((((u2.setCell ⟨w.heap.size, 0, none⟩ (.int .i64 0)).setCell ⟨w.heap.size, 1, none⟩ (.int .i64 0)).setCell ⟨w.heap.size, 2, none⟩ (.slice oc m kc)).setCell ⟨w.heap.size, 3, none⟩ (.slice none 0 0)).setCell ⟨w.heap.size, 4, none⟩ (.slice none 0 0)).setCell ⟨w.heap.size, 5, none⟩ (.slice none 0 0))).heap.size = u2.heap.size := by simp
    generalize ((((((u2.setCell ⟨w.heap.size, 0, none⟩ (.int .i64 0)).setCell ⟨w.heap.size, 1, none⟩ (.int .i64 0)).setCell ⟨w.heap.size, 2, none⟩ (.slice oc m kc)).setCell ⟨w.heap.size, 3, none⟩ (.slice none 0 0)).setCell ⟨w.heap.size, 4, none⟩ (.slice none 0 0)).setCell ⟨w.heap.size, 5, none⟩ (.slice none 0 0)) = F at FIN OTH BF SZ ⊢
    have g0 := (cell_row FIN 0 (.int .i64 0) rfl).1
    have g1 := (cell_row FIN 1 (.int .i64 0) rfl).1
    have g2 := (cell_row FIN 2 (.slice oc m kc) rfl).1
    have g3 := (cell_row FIN 3 (.slice none 0 0) rfl).1
    have g4 := (cell_row FIN 4 (.slice none 0 0) rfl).1
    have g5 := (cell_row FIN 5 (.slice none 0 0) rfl).1
    refine bodyPost_ret (v := .tuple #[.agg #[.int .i64 0, .int .i64 0, .slice oc m kc, .slice none 0 0, .slice none 0 0, .slice none 0 0], .bool true]) (by simp [results, Try.results5, go_sem, g0, g1, g2, g3, g4, g5]) rfl ⟨_, by rw [hB], ?_, BF⟩
    exact AtL.up (FA.out.same (fun b hb => OTH b (by omega))) (fun b hb => ⟨by omega, by omega⟩)

end Go.Proofs.Ytigkkelaadbhcaa
