/-
  The program's RunOpen: it answers as the model's; the house owns its memory.
-/
import Derived.Test.YtigkkelaadbhcaaVwm
import Derived.Test.YtigkkelaadbhcaaZqb
import Derived.Test.YtigkkelaadbhcaaZpk
namespace Go.Proofs.Ytigkkelaadbhcaa
open Go.RowKit Go.Sort

theorem onl_noneV {α : Type} [Own α] (S : Nat → Prop) (w : World) : OnL S w ([] : List α) (.slice none 0 0) := ⟨none, 0, rfl, ⟨Nat.zero_le _, Nat.le_refl _, fun _ => rfl⟩, .inl rfl⟩
theorem own_noneV (S : Nat → Prop) (w : World) : Own.On S w (([], []) : DShareBook) (cs [.slice none 0 0, .slice none 0 0]) := on_DShareBook.2 ⟨fun _ => False, S, fun _ h => h.elim, fun _ h => h, onl_noneV _ _, onl_noneV _ _⟩

set_option maxRecDepth 100000 in
set_option maxHeartbeats 16000000 in
theorem openP_any (S : Nat → Prop) (T : List ByteArray) (o0 : Option Addr) (n0 k0 : Nat) (w : World) (h0 : AtL S w T (.slice o0 n0 k0)) (hS : ∀ b, S b → b < w.heap.size) :
    Calls Try.prog 7 #[.slice o0 n0 k0] w fun e w' => ∃ r0 r1, e = .returned (.tuple #[.agg #[.int .i64 0, .int .i64 0, r0, r1, .slice none 0 0, .slice none 0 0], .bool (bokB (T, []))]) ∧ Own.On (fun b => w.heap.size ≤ b ∧ b < w'.heap.size) w' ((opT T, []) : DShareBook) (cs [r0, r1]) ∧ Below w.heap.size w w' := by
  have H0 : Hid (∀ u, Below w.heap.size w u → AtL S u T (.slice o0 n0 k0)) := fun u hu => h0.same (Same.of_below hu hS)
  have HS : Hid (∀ u, Below w.heap.size w u → ∀ b, S b → b < u.heap.size) := fun u hu b hb => Nat.lt_of_lt_of_le (hS b hb) hu.size
  clear h0
  obtain ⟨W, hW⟩ : ∃ W, W = w.alloc (.cells #[.int .i64 0, .int .i64 0, .slice none 0 0, .slice none 0 0, .slice none 0 0, .slice none 0 0] 30) := ⟨_, rfl⟩
  have EW : Hid (W = w.alloc (.cells #[.int .i64 0, .int .i64 0, .slice none 0 0, .slice none 0 0, .slice none 0 0, .slice none 0 0] 30)) := hW
  have BW : Hid (Below w.heap.size w W) := by rw [hW]; exact (Below.refl _ _).alloc (Nat.le_refl _) _
  have R1 : Hid (W.heap[w.heap.size]? = some (.cells #[.int .i64 0, .int .i64 0, .slice none 0 0, .slice none 0 0, .slice none 0 0, .slice none 0 0] 30 (0, 0))) := by rw [hW]; exact heap_alloc_new w _
  have sW : w.heap.size + 1 ≤ W.heap.size := by rw [hW]; simp
  clear hW
  have BOX : Hid (∀ u, Below W.heap.size W u → u.heap[w.heap.size]? = some (.cells #[.int .i64 0, .int .i64 0, .slice none 0 0, .slice none 0 0, .slice none 0 0, .slice none 0 0] 30 (0, 0)) ∧ Below w.heap.size w u) := fun u hu => ⟨(hu.block _ (by omega)).trans R1.out, BW.out.trans (hu.mono (by omega))⟩
  obtain ⟨X, hX⟩ : ∃ X, X = W.alloc (.cells #[.slice o0 n0 k0, .slice none 0 0] 26) := ⟨_, rfl⟩
  have EX : Hid (X = W.alloc (.cells #[.slice o0 n0 k0, .slice none 0 0] 26)) := hX
  have BX : Hid (Below W.heap.size W X) := by rw [hX]; exact (Below.refl _ _).alloc (Nat.le_refl _) _
  have eW : W.heap.size = w.heap.size + 1 := by rw [EW.out]; simp
  have RX : Hid (X.heap[w.heap.size + 1]? = some (.cells #[.slice o0 n0 k0, .slice none 0 0] 26 (0, 0))) := by rw [hX, ← eW]; exact heap_alloc_new W _
  have sX : W.heap.size + 1 ≤ X.heap.size := by rw [hX]; simp
  clear hX
  go_enter Try.func7, Try.ntmps7
  go_upto_region 2 with fail
  rw [← EW.out]
  rw [← EX.out]
  have y0 := (cell_row RX.out 0 (.slice o0 n0 k0) rfl).1
  have y1 := (cell_row RX.out 1 (.slice none 0 0) rfl).1
  have CB : Hid (Calls Try.prog 15 #[.agg #[.slice o0 n0 k0, .slice none 0 0]] X fun e w' => e = .returned (.bool (bokB (T, []))) ∧ Below X.heap.size X w') := bookP_any S T [] o0 none n0 k0 0 0 X (H0.out X (BOX.out X BX.out).2) (atl_noneV _ _) (HS.out X (BOX.out X BX.out).2)
  go_wp2_with fail
  refine CB.out.mono ?_
  rintro e u2 ⟨rfl, hb2⟩
  have s2 := hb2.size
  have B2 : Hid (Below W.heap.size W u2) := BX.out.trans (hb2.mono (by omega))
  have R2 : Hid (u2.heap[w.heap.size + 1]? = some (.cells #[.slice o0 n0 k0, .slice none 0 0] 26 (0, 0))) := (hb2.block _ (by omega)).trans RX.out
  have FB := (BOX.out u2 B2.out).1
  have FW : Hid (Below w.heap.size w u2) := (BOX.out u2 B2.out).2
  clear y0 y1 CB hb2 RX
  cases hB : bokB (T, [])
  · have FA : Hid (∀ F : World, Own.On (fun b => w.heap.size ≤ b ∧ b < F.heap.size) F ((opT T, []) : DShareBook) (cs [.slice none 0 0, .slice none 0 0])) := by intro F; rw [opT_no hB]; exact own_noneV _ _
    clear FW
    have FW : Hid (Below w.heap.size w u2) := (BOX.out u2 B2.out).2
    obtain ⟨z0, f0⟩ := cell_row FB 0 (.int .i64 0) rfl
    obtain ⟨z1, f1⟩ := cell_row FB 1 (.int .i64 0) rfl
    obtain ⟨z2, f2⟩ := cell_row FB 2 (.slice none 0 0) rfl
    obtain ⟨z3, f3⟩ := cell_row FB 3 (.slice none 0 0) rfl
    obtain ⟨z4, f4⟩ := cell_row FB 4 (.slice none 0 0) rfl
    obtain ⟨z5, f5⟩ := cell_row FB 5 (.slice none 0 0) rfl
    go_wp2_with fail
    have FIN := (set_row (set_row (set_row (set_row (set_row (set_row FB 0 (.int .i64 0)) 1 (.int .i64 0)) 2 (.slice none 0 0)) 3 (.slice none 0 0)) 4 (.slice none 0 0)) 5 (.slice none 0 0))
    have OTH : ∀ q, q ≠ w.heap.size → (((((((u2.setCell ⟨w.heap.size, 0, none⟩ (.int .i64 0)).setCell ⟨w.heap.size, 1, none⟩ (.int .i64 0)).setCell ⟨w.heap.size, 2, none⟩ (.slice none 0 0)).setCell ⟨w.heap.size, 3, none⟩ (.slice none 0 0)).setCell ⟨w.heap.size, 4, none⟩ (.slice none 0 0)).setCell ⟨w.heap.size, 5, none⟩ (.slice none 0 0))).heap[q]? = u2.heap[q]? := fun q hq => (((((Below.heap_setCell _ _ _ _ hq).trans (Below.heap_setCell _ _ _ _ hq)).trans (Below.heap_setCell _ _ _ _ hq)).trans (Below.heap_setCell _ _ _ _ hq)).trans (Below.heap_setCell _ _ _ _ hq)).trans (Below.heap_setCell _ _ _ _ hq)
    have BF : Below w.heap.size w ((((((u2.setCell ⟨w.heap.size, 0, none⟩ (.int .i64 0)).setCell ⟨w.heap.size, 1, none⟩ (.int .i64 0)).setCell ⟨w.heap.size, 2, none⟩ (.slice none 0 0)).setCell ⟨w.heap.size, 3, none⟩ (.slice none 0 0)).setCell ⟨w.heap.size, 4, none⟩ (.slice none 0 0)).setCell ⟨w.heap.size, 5, none⟩ (.slice none 0 0)) := ((((((FW.out.setCell (p := ⟨w.heap.size, 0, none⟩) (Nat.le_refl _) _).setCell (p := ⟨w.heap.size, 1, none⟩) (Nat.le_refl _) _).setCell (p := ⟨w.heap.size, 2, none⟩) (Nat.le_refl _) _).setCell (p := ⟨w.heap.size, 3, none⟩) (Nat.le_refl _) _).setCell (p := ⟨w.heap.size, 4, none⟩) (Nat.le_refl _) _).setCell (p := ⟨w.heap.size, 5, none⟩) (Nat.le_refl _) _)
    have SZ : (((((((u2.setCell ⟨w.heap.size, 0, none⟩ (.int .i64 0)).setCell ⟨w.heap.size, 1, none⟩ (.int .i64 0)).setCell ⟨w.heap.size, 2, none⟩ (.slice none 0 0)).setCell ⟨w.heap.size, 3, none⟩ (.slice none 0 0)).setCell ⟨w.heap.size, 4, none⟩ (.slice none 0 0)).setCell ⟨w.heap.size, 5, none⟩ (.slice none 0 0))).heap.size = u2.heap.size := by simp
    generalize ((((((u2.setCell ⟨w.heap.size, 0, none⟩ (.int .i64 0)).setCell ⟨w.heap.size, 1, none⟩ (.int .i64 0)).setCell ⟨w.heap.size, 2, none⟩ (.slice none 0 0)).setCell ⟨w.heap.size, 3, none⟩ (.slice none 0 0)).setCell ⟨w.heap.size, 4, none⟩ (.slice none 0 0)).setCell ⟨w.heap.size, 5, none⟩ (.slice none 0 0)) = F at FIN OTH BF SZ ⊢
    have g0 := (cell_row FIN 0 (.int .i64 0) rfl).1
    have g1 := (cell_row FIN 1 (.int .i64 0) rfl).1
    have g2 := (cell_row FIN 2 (.slice none 0 0) rfl).1
    have g3 := (cell_row FIN 3 (.slice none 0 0) rfl).1
    have g4 := (cell_row FIN 4 (.slice none 0 0) rfl).1
    have g5 := (cell_row FIN 5 (.slice none 0 0) rfl).1
    refine bodyPost_ret (v := .tuple #[.agg #[.int .i64 0, .int .i64 0, .slice none 0 0, .slice none 0 0, .slice none 0 0, .slice none 0 0], .bool false]) (by simp [results, Try.results7, go_sem, g0, g1, g2, g3, g4, g5]) rfl ⟨_, _, by rw [hB], FA.out F, BF⟩
  · have SM : SmD (T, []) := (bok_small (bok_iff.1 hB)).1
    have y0 := (cell_row R2.out 0 (.slice o0 n0 k0) rfl).1
    have y1 := (cell_row R2.out 1 (.slice none 0 0) rfl).1
    have CF : Hid (Calls Try.prog 16 #[.agg #[.slice o0 n0 k0, .slice none 0 0]] u2 fun e w' => ∃ r0 r1 L, e = .returned (.agg #[r0, r1]) ∧ PkO u2.heap.size w' r0 r1 T L ∧ L.map dH = [] ∧ Below u2.heap.size u2 w') := freshP_any S T [] o0 none n0 k0 0 0 u2 (H0.out u2 FW.out) (atl_noneV _ _) (HS.out u2 FW.out) SM
    go_wp2_with fail
    refine Calls.mono CF.out ?_
    rintro e u3 ⟨r0, r1, L, rfl, hp, hm, hb3⟩
    have hon : Own.On (fun b => u2.heap.size ≤ b ∧ b < u3.heap.size) u3 ((T, []) : DShareBook) (cs [r0, r1]) := by have := hp.on; rw [hm] at this; exact this
    obtain ⟨p0, j0, e0, -⟩ := id (at_DShareBook.1 (Own.on_at hon)).1
    obtain ⟨p1, j1, e1, -⟩ := id (at_DShareBook.1 (Own.on_at hon)).2
    obtain ⟨m0, em0⟩ : ∃ n, T.length = n := ⟨_, rfl⟩
    rw [em0] at e0
    subst e0
    subst e1
    clear em0 hp hm CF y0 y1
    have s3 := hb3.size
    have HON : Hid (Own.On (fun b => u2.heap.size ≤ b ∧ b < u3.heap.size) u3 ((T, []) : DShareBook) (cs [.slice p0 m0 j0, .slice p1 0 j1])) := hon
    have B3 : Hid (Below W.heap.size W u3) := B2.out.trans (hb3.mono (by omega))
    have FB := (BOX.out u3 B3.out).1
    clear FW
    have FW : Hid (Below w.heap.size w u3) := (BOX.out u3 B3.out).2
    clear hon hb3
    obtain ⟨z0, f0⟩ := cell_row FB 0 (.int .i64 0) rfl
    obtain ⟨z1, f1⟩ := cell_row FB 1 (.int .i64 0) rfl
    obtain ⟨z2, f2⟩ := cell_row FB 2 (.slice none 0 0) rfl
    obtain ⟨z3, f3⟩ := cell_row FB 3 (.slice none 0 0) rfl
    obtain ⟨z4, f4⟩ := cell_row FB 4 (.slice none 0 0) rfl
    obtain ⟨z5, f5⟩ := cell_row FB 5 (.slice none 0 0) rfl
    go_wp2_with fail
    have FIN := (set_row (set_row (set_row (set_row (set_row (set_row FB 0 (.int .i64 0)) 1 (.int .i64 0)) 2 (.slice p0 m0 j0)) 3 (.slice p1 0 j1)) 4 (.slice none 0 0)) 5 (.slice none 0 0))
    have OTH : ∀ q, q ≠ w.heap.size → (((((((u3.setCell ⟨w.heap.size, 0, none⟩ (.int .i64 0)).setCell ⟨w.heap.size, 1, none⟩ (.int .i64 0)).setCell ⟨w.heap.size, 2, none⟩ (.slice p0 m0 j0)).setCell ⟨w.heap.size, 3, none⟩ (.slice p1 0 j1)).setCell ⟨w.heap.size, 4, none⟩ (.slice none 0 0)).setCell ⟨w.heap.size, 5, none⟩ (.slice none 0 0))).heap[q]? = u3.heap[q]? := fun q hq => (((((Below.heap_setCell _ _ _ _ hq).trans (Below.heap_setCell _ _ _ _ hq)).trans (Below.heap_setCell _ _ _ _ hq)).trans (Below.heap_setCell _ _ _ _ hq)).trans (Below.heap_setCell _ _ _ _ hq)).trans (Below.heap_setCell _ _ _ _ hq)
    have BF : Below w.heap.size w ((((((u3.setCell ⟨w.heap.size, 0, none⟩ (.int .i64 0)).setCell ⟨w.heap.size, 1, none⟩ (.int .i64 0)).setCell ⟨w.heap.size, 2, none⟩ (.slice p0 m0 j0)).setCell ⟨w.heap.size, 3, none⟩ (.slice p1 0 j1)).setCell ⟨w.heap.size, 4, none⟩ (.slice none 0 0)).setCell ⟨w.heap.size, 5, none⟩ (.slice none 0 0)) := ((((((FW.out.setCell (p := ⟨w.heap.size, 0, none⟩) (Nat.le_refl _) _).setCell (p := ⟨w.heap.size, 1, none⟩) (Nat.le_refl _) _).setCell (p := ⟨w.heap.size, 2, none⟩) (Nat.le_refl _) _).setCell (p := ⟨w.heap.size, 3, none⟩) (Nat.le_refl _) _).setCell (p := ⟨w.heap.size, 4, none⟩) (Nat.le_refl _) _).setCell (p := ⟨w.heap.size, 5, none⟩) (Nat.le_refl _) _)
    have SZ : (((((((u3.setCell ⟨w.heap.size, 0, none⟩ (.int .i64 0)).setCell ⟨w.heap.size, 1, none⟩ (.int .i64 0)).setCell ⟨w.heap.size, 2, none⟩ (.slice p0 m0 j0)).setCell ⟨w.heap.size, 3, none⟩ (.slice p1 0 j1)).setCell ⟨w.heap.size, 4, none⟩ (.slice none 0 0)).setCell ⟨w.heap.size, 5, none⟩ (.slice none 0 0))).heap.size = u3.heap.size := by simp
    generalize ((((((u3.setCell ⟨w.heap.size, 0, none⟩ (.int .i64 0)).setCell ⟨w.heap.size, 1, none⟩ (.int .i64 0)).setCell ⟨w.heap.size, 2, none⟩ (.slice p0 m0 j0)).setCell ⟨w.heap.size, 3, none⟩ (.slice p1 0 j1)).setCell ⟨w.heap.size, 4, none⟩ (.slice none 0 0)).setCell ⟨w.heap.size, 5, none⟩ (.slice none 0 0)) = F at FIN OTH BF SZ ⊢
    have g0 := (cell_row FIN 0 (.int .i64 0) rfl).1
    have g1 := (cell_row FIN 1 (.int .i64 0) rfl).1
    have g2 := (cell_row FIN 2 (.slice p0 m0 j0) rfl).1
    have g3 := (cell_row FIN 3 (.slice p1 0 j1) rfl).1
    have g4 := (cell_row FIN 4 (.slice none 0 0) rfl).1
    have g5 := (cell_row FIN 5 (.slice none 0 0) rfl).1
    refine bodyPost_ret (v := .tuple #[.agg #[.int .i64 0, .int .i64 0, .slice p0 m0 j0, .slice p1 0 j1, .slice none 0 0, .slice none 0 0], .bool true]) (by simp [results, Try.results7, go_sem, g0, g1, g2, g3, g4, g5]) rfl ⟨_, _, by rw [hB], ?_, BF⟩
    rw [opT_yes hB]
    exact Own.on_up (Own.on_same HON.out (fun b hb => OTH b (by omega))) (fun b hb => ⟨by omega, by omega⟩)

end Go.Proofs.Ytigkkelaadbhcaa
