/-
  The phase that the law draws.
-/
import Derived.Test.YtmccbkmfcldbgaaXdd
namespace Go.Proofs.Ytmccbkmfcldbgaa
open Go.RowKit


set_option maxRecDepth 100000 in
set_option maxHeartbeats 4000000 in
theorem names_any (w : World) : Calls Try.prog 13 #[] w fun e w' => e = .returned (.slice (some ⟨w.heap.size, 0, none⟩) 8 8) ∧ w' = w.alloc (.cells #[.string ⟨#[98, 114, 101, 119]⟩, .string ⟨#[102, 49]⟩, .string ⟨#[102, 50]⟩, .string ⟨#[103]⟩, .string ⟨#[104]⟩, .string ⟨#[109, 97, 115, 104]⟩, .string ⟨#[114, 101, 115, 116]⟩, .string ⟨#[120, 45, 57]⟩] 9) := by
  go_enter Try.func13, Try.ntmps13
  go_wp2
  go_ret
  exact ⟨rfl, rfl⟩

set_option maxRecDepth 100000 in
set_option maxHeartbeats 4000000 in
theorem drawP_any (ob : Option Addr) (n cb : Nat) (f : Nat → Int) (w : World) (hn : n ≤ maxLen) (hnc : n ≤ cb) (fb : ∀ i, 0 ≤ f i ∧ f i ≤ 255)
    (ce : ∀ i, i < n → ∃ b off, ob = some ⟨b, off, none⟩ ∧ b < w.heap.size ∧ w.cell? ⟨b, off + i, none⟩ = some (.int .u8 (f i))) :
    Calls Try.prog 4 #[.slice ob n cb] w fun e w' => ∃ nm kd a b m wi th el, e = .returned (.agg #[.string nm, .int .i64 kd, .string a, .string b, .int .i64 m, .int .i64 wi, .string th, .string el]) ∧ Pz 2000 nm a b th el kd m wi ∧ Below w.heap.size w w' := by
  have HOP : Hid (1 ≤ n → ∃ a, ob = some a) := fun h => by obtain ⟨b, off, h1, _⟩ := ce 0 (by omega); exact ⟨_, h1⟩
  have HCE : Hid _ := ce
  have HFB : Hid _ := fb
  clear ce fb
  obtain ⟨W0, hW0⟩ : ∃ u, u = w.alloc (.cells #[.string ⟨#[]⟩, .int .i64 0, .string ⟨#[]⟩, .string ⟨#[]⟩, .int .i64 0, .int .i64 0, .string ⟨#[]⟩, .string ⟨#[]⟩] 24) := ⟨_, rfl⟩
  have HE0 : Hid (W0 = w.alloc (.cells #[.string ⟨#[]⟩, .int .i64 0, .string ⟨#[]⟩, .string ⟨#[]⟩, .int .i64 0, .int .i64 0, .string ⟨#[]⟩, .string ⟨#[]⟩] 24)) := hW0
  have s0 : w.heap.size + 1 ≤ W0.heap.size ∧ W0.heap.size ≤ w.heap.size + 1 := by rw [hW0]; simp
  have B0 : Hid (Below w.heap.size w W0) := by rw [hW0]; exact (Below.refl _ _).alloc (Nat.le_refl _) _
  have Y0 : Hid (W0.heap[w.heap.size]? = some (.cells #[.string ⟨#[]⟩, .int .i64 0, .string ⟨#[]⟩, .string ⟨#[]⟩, .int .i64 0, .int .i64 0, .string ⟨#[]⟩, .string ⟨#[]⟩] 24 (0, 0))) := by rw [hW0]; exact heap_alloc_new w _
  clear hW0
  go_enter Try.func4, Try.ntmps4
  go_upto_region 1 with fail
  rw [← HE0.out]
  clear HE0
  go_wp2_with fail
  refine (open_any ob n cb W0 hn hnc HOP.out).mono ?_
  rintro e W1 ⟨n', hn1, hn2, rfl, hW1⟩
  obtain ⟨R, hR⟩ : ∃ R, R = W0.heap.size := ⟨_, rfl⟩
  have hrd : Rd R W1 ob n' cb 0 f := by
    rw [hW1, hR]
    refine ⟨heap_alloc_new W0 _, hn1, by omega, by omega, HFB.out, fun i hi => ?_⟩
    obtain ⟨b, off, h1, h2, h3⟩ := HCE.out i (by omega)
    exact ⟨b, off, h1, by omega, (World.cell?_of_block (w := W0) (a := ⟨b, off + i, none⟩) (Below.heap_alloc W0 _ b (by omega))).trans ((B0.out.cell (p := ⟨b, off + i, none⟩) h2).trans h3)⟩
  have RD1 : Hid (Rd R W1 ob n' cb 0 f) := hrd
  have BT1 : Hid (But (fun q => q = R) W0 W1) := by show But _ W0 W1; rw [hW1]; exact but_alloc (But.refl _ W0) _
  have s1 : R < W1.heap.size := hrd.lt
  have rlo : W0.heap.size ≤ R ∧ R ≤ W0.heap.size := by omega
  rw [← hR]
  clear hR hW1 hrd hn2 hn hnc HCE HFB HOP
  go_wp2_with fail
  refine (names_any W1).mono ?_
  rintro e W2' ⟨rfl, hW2⟩
  obtain ⟨W2, h2⟩ : ∃ u, u = W2' := ⟨_, rfl⟩
  subst h2
  have hL : AtL (fun b => b = W1.heap.size) W2 ([⟨#[98, 114, 101, 119]⟩, ⟨#[102, 49]⟩, ⟨#[102, 50]⟩, ⟨#[103]⟩, ⟨#[104]⟩, ⟨#[109, 97, 115, 104]⟩, ⟨#[114, 101, 115, 116]⟩, ⟨#[120, 45, 57]⟩] : List ByteArray) (.slice (some ⟨W1.heap.size, 0, none⟩) 8 8) := by rw [hW2]; exact lit_at 9 W1 ([⟨#[98, 114, 101, 119]⟩, ⟨#[102, 49]⟩, ⟨#[102, 50]⟩, ⟨#[103]⟩, ⟨#[104]⟩, ⟨#[109, 97, 115, 104]⟩, ⟨#[114, 101, 115, 116]⟩, ⟨#[120, 45, 57]⟩] : List ByteArray) (by unfold maxLen; decide) (fun s hs => Nat.le_trans ((fun s hs => by simp only [List.mem_cons, List.not_mem_nil, or_false] at hs; rcases hs with rfl | rfl | rfl | rfl | rfl | rfl | rfl | rfl <;> decide : ∀ s ∈ ([⟨#[98, 114, 101, 119]⟩, ⟨#[102, 49]⟩, ⟨#[102, 50]⟩, ⟨#[103]⟩, ⟨#[104]⟩, ⟨#[109, 97, 115, 104]⟩, ⟨#[114, 101, 115, 116]⟩, ⟨#[120, 45, 57]⟩] : List ByteArray), s.size ≤ 16) s hs) (by decide))
  have RD2 : Hid (Rd R W2 ob n' cb 0 f) := by show Rd R W2 ob n' cb 0 f; rw [hW2]; exact RD1.out.but (fun b hb => Below.heap_alloc W1 _ b (by omega))
  have BT2 : Hid (But (fun q => q = R) W0 W2) := by show But _ W0 W2; rw [hW2]; exact but_alloc BT1.out _
  have s2 : W1.heap.size + 1 ≤ W2.heap.size := by rw [hW2]; simp
  clear hW2 RD1 BT1
  have C : Hid _ := of_rd R ob n' cb f 0 (fun b => b = W1.heap.size) ([⟨#[98, 114, 101, 119]⟩, ⟨#[102, 49]⟩, ⟨#[102, 50]⟩, ⟨#[103]⟩, ⟨#[104]⟩, ⟨#[109, 97, 115, 104]⟩, ⟨#[114, 101, 115, 116]⟩, ⟨#[120, 45, 57]⟩] : List ByteArray) _ W2 RD2.out (by omega) hL (fun b hb => by subst hb; omega) (by decide) (by decide)
  clear hL
  go_wp2_with fail
  refine Calls.mono C.out ?_
  rintro e W3 ⟨nm, hs, rfl, p3, hp3, RD3, bt⟩
  have nmz := (fun s hs => by simp only [List.mem_cons, List.not_mem_nil, or_false] at hs; rcases hs with rfl | rfl | rfl | rfl | rfl | rfl | rfl | rfl <;> decide : ∀ s ∈ ([⟨#[98, 114, 101, 119]⟩, ⟨#[102, 49]⟩, ⟨#[102, 50]⟩, ⟨#[103]⟩, ⟨#[104]⟩, ⟨#[109, 97, 115, 104]⟩, ⟨#[114, 101, 115, 116]⟩, ⟨#[120, 45, 57]⟩] : List ByteArray), s.size ≤ 16) nm hs
  have BT3 : Hid (But (fun q => q = R) W0 W3) := BT2.out.trans bt.out
  have s3 := bt.out.size
  clear C hs bt BT2 RD2
  have hL := lit_at 9 W3 ([⟨#[114, 101, 115, 116]⟩] : List ByteArray) (by unfold maxLen; decide) (fun s hs => Nat.le_trans (((fun s hs => by simp only [List.mem_cons, List.not_mem_nil, or_false] at hs; subst hs; decide) : ∀ s ∈ ([⟨#[114, 101, 115, 116]⟩] : List ByteArray), s.size ≤ 16) s hs) (by decide))
  have C : Hid _ := phase_rd R ob n' cb f p3 (fun b => b = W3.heap.size) ([⟨#[114, 101, 115, 116]⟩] : List ByteArray) nm (some ⟨W3.heap.size, 0, none⟩) 1 1 (W3.alloc (.cells #[.string ⟨#[114, 101, 115, 116]⟩] 9)) (RD3.out.but (fun b hb => Below.heap_alloc W3 _ b (by omega))) (by omega) nmz hL (fun b hb => by subst hb; simp; omega) (by omega) (fun s hs => by simp only [List.mem_cons, List.not_mem_nil, or_false] at hs; subst hs; decide)
  clear hL
  go_wp2_with fail
  refine Calls.mono C.out ?_
  rintro e W4 ⟨kd, a, b, m, wi, th, el, rfl, pz, p4, hp4, RD4, bt⟩
  have BT4 : Hid (But (fun q => q = R) W0 W4) := (but_alloc BT3.out _).trans bt.out
  have PZ : Hid (Pz 1000 nm a b th el kd m wi) := pz
  have s4 : W3.heap.size + 1 ≤ W4.heap.size := by have := bt.out.size; simpa using this
  clear C bt BT3 RD3 pz
  obtain ⟨W5, hW5⟩ : ∃ u, u = W4.alloc (.cells #[.string nm, .int .i64 kd, .string a, .string b, .int .i64 m, .int .i64 wi, .string th, .string el] 24) := ⟨_, rfl⟩
  have HE5 : Hid (W5 = W4.alloc (.cells #[.string nm, .int .i64 kd, .string a, .string b, .int .i64 m, .int .i64 wi, .string th, .string el] 24)) := hW5
  have RD5 : Hid (Rd R W5 ob n' cb p4 f) := by show Rd R W5 ob n' cb p4 f; rw [hW5]; exact RD4.out.but (fun b hb => Below.heap_alloc W4 _ b (by omega))
  have BT5 : Hid (But (fun q => q = R) W0 W5) := by show But _ W0 W5; rw [hW5]; exact but_alloc BT4.out _
  have X5 : Hid (W5.heap[W4.heap.size]? = some (.cells #[.string nm, .int .i64 kd, .string a, .string b, .int .i64 m, .int .i64 wi, .string th, .string el] 24 (0, 0))) := by rw [hW5]; exact heap_alloc_new W4 _
  have s5 : W4.heap.size + 1 ≤ W5.heap.size := by rw [hW5]; simp
  clear hW5 RD4 BT4
  go_upto_region 3 with fail
  rw [← HE5.out]
  clear HE5
  have C : Hid _ := pick_rd R ob n' cb f p4 2 W5 RD5.out (by omega) (by omega) (by omega)
  go_wp2_with fail
  refine Calls.mono C.out ?_
  rintro e W6 ⟨x, rfl, x0, x1, p6, hp6, RD6, bt⟩
  have BT6 : Hid (But (fun q => q = R) W0 W6) := BT5.out.trans bt.out
  have X6 : Hid (W6.heap[W4.heap.size]? = some (.cells #[.string nm, .int .i64 kd, .string a, .string b, .int .i64 m, .int .i64 wi, .string th, .string el] 24 (0, 0))) := (bt.out.block W4.heap.size (by omega) (by omega)).trans X5.out
  have s6 := bt.out.size
  clear C bt BT5 X5 RD5
  obtain ⟨q0, _⟩ := cell_row X6.out 0 (.string nm) rfl
  obtain ⟨q1, _⟩ := cell_row X6.out 1 (.int .i64 kd) rfl
  obtain ⟨q2, _⟩ := cell_row X6.out 2 (.string a) rfl
  obtain ⟨q3, _⟩ := cell_row X6.out 3 (.string b) rfl
  obtain ⟨q4, _⟩ := cell_row X6.out 4 (.int .i64 m) rfl
  obtain ⟨q5, _⟩ := cell_row X6.out 5 (.int .i64 wi) rfl
  obtain ⟨q6, _⟩ := cell_row X6.out 6 (.string th) rfl
  obtain ⟨q7, _⟩ := cell_row X6.out 7 (.string el) rfl
  by_cases hx : x = 0
  · subst hx
    have C : Hid _ := spoil_rd R ob n' cb f p6 nm a b th el kd m wi W6 RD6.out (by omega) PZ.out
    go_wp2_with fail
    refine Calls.mono C.out ?_
    rintro e W7 ⟨nm7, kd7, a7, b7, m7, wi7, th7, el7, rfl, pz7, p7, hp7, RD7, bt⟩
    have BT7 : Hid (But (fun q => q = R) W0 W7) := BT6.out.trans bt.out
    have PZ7 : Hid _ := pz7
    have s7 := bt.out.size
    clear C bt BT6 RD7 pz7
    have YY : Hid (W7.heap[w.heap.size]? = some (.cells #[.string ⟨#[]⟩, .int .i64 0, .string ⟨#[]⟩, .string ⟨#[]⟩, .int .i64 0, .int .i64 0, .string ⟨#[]⟩, .string ⟨#[]⟩] 24 (0, 0))) := (BT7.out.block w.heap.size (by omega) (by omega)).trans Y0.out
    obtain ⟨r0, t0⟩ := cell_row YY.out 0 (.string ⟨#[]⟩) rfl
    obtain ⟨r1, t1⟩ := cell_row YY.out 1 (.int .i64 0) rfl
    obtain ⟨r2, t2⟩ := cell_row YY.out 2 (.string ⟨#[]⟩) rfl
    obtain ⟨r3, t3⟩ := cell_row YY.out 3 (.string ⟨#[]⟩) rfl
    obtain ⟨r4, t4⟩ := cell_row YY.out 4 (.int .i64 0) rfl
    obtain ⟨r5, t5⟩ := cell_row YY.out 5 (.int .i64 0) rfl
    obtain ⟨r6, t6⟩ := cell_row YY.out 6 (.string ⟨#[]⟩) rfl
    obtain ⟨r7, t7⟩ := cell_row YY.out 7 (.string ⟨#[]⟩) rfl
    have HF : Hid _ := ret8 YY.out (.string nm7) (.int .i64 kd7) (.string a7) (.string b7) (.int .i64 m7) (.int .i64 wi7) (.string th7) (.string el7)
    go_wp2_with fail
    have F := HF.out
    obtain ⟨FW, hF⟩ : ∃ u', u' = (((((((W7.setCell ⟨w.heap.size, 0, none⟩ (.string nm7)).setCell ⟨w.heap.size, 1, none⟩ (.int .i64 kd7)).setCell ⟨w.heap.size, 2, none⟩ (.string a7)).setCell ⟨w.heap.size, 3, none⟩ (.string b7)).setCell ⟨w.heap.size, 4, none⟩ (.int .i64 m7)).setCell ⟨w.heap.size, 5, none⟩ (.int .i64 wi7)).setCell ⟨w.heap.size, 6, none⟩ (.string th7)).setCell ⟨w.heap.size, 7, none⟩ (.string el7) := ⟨_, rfl⟩
    rw [← hF]
    rw [← hF] at F
    clear hF HF
    obtain ⟨F0, F1, F2⟩ := F
    have u0 := (cell_row F0 0 (.string nm7) rfl).1
    have u1 := (cell_row F0 1 (.int .i64 kd7) rfl).1
    have u2 := (cell_row F0 2 (.string a7) rfl).1
    have u3 := (cell_row F0 3 (.string b7) rfl).1
    have u4 := (cell_row F0 4 (.int .i64 m7) rfl).1
    have u5 := (cell_row F0 5 (.int .i64 wi7) rfl).1
    have u6 := (cell_row F0 6 (.string th7) rfl).1
    have u7 := (cell_row F0 7 (.string el7) rfl).1
    exact bodyPost_ret (v := .agg #[.string nm7, .int .i64 kd7, .string a7, .string b7, .int .i64 m7, .int .i64 wi7, .string th7, .string el7]) (by simp [results, Try.results4, go_sem, u0, u1, u2, u3, u4, u5, u6, u7]) rfl ⟨_, _, _, _, _, _, _, _, rfl, PZ7.out, (B0.out.trans (BT7.out.below (B := w.heap.size) (fun b hb => by omega) (by omega))).trans (F2.mono (Nat.le_refl _))⟩
  · have PZ2 : Hid (Pz 2000 nm a b th el kd m wi) := by
      obtain ⟨z1, z2, z3, z4, z5, z6, z7, z8⟩ := PZ.out
      exact ⟨z1, z2, z3, z4, z5, ⟨by omega, by omega⟩, ⟨by omega, by omega⟩, ⟨by omega, by omega⟩⟩
    have YY : Hid (W6.heap[w.heap.size]? = some (.cells #[.string ⟨#[]⟩, .int .i64 0, .string ⟨#[]⟩, .string ⟨#[]⟩, .int .i64 0, .int .i64 0, .string ⟨#[]⟩, .string ⟨#[]⟩] 24 (0, 0))) := (BT6.out.block w.heap.size (by omega) (by omega)).trans Y0.out
    obtain ⟨r0, t0⟩ := cell_row YY.out 0 (.string ⟨#[]⟩) rfl
    obtain ⟨r1, t1⟩ := cell_row YY.out 1 (.int .i64 0) rfl
    obtain ⟨r2, t2⟩ := cell_row YY.out 2 (.string ⟨#[]⟩) rfl
    obtain ⟨r3, t3⟩ := cell_row YY.out 3 (.string ⟨#[]⟩) rfl
    obtain ⟨r4, t4⟩ := cell_row YY.out 4 (.int .i64 0) rfl
    obtain ⟨r5, t5⟩ := cell_row YY.out 5 (.int .i64 0) rfl
    obtain ⟨r6, t6⟩ := cell_row YY.out 6 (.string ⟨#[]⟩) rfl
    obtain ⟨r7, t7⟩ := cell_row YY.out 7 (.string ⟨#[]⟩) rfl
    have HF : Hid _ := ret8 YY.out (.string nm) (.int .i64 kd) (.string a) (.string b) (.int .i64 m) (.int .i64 wi) (.string th) (.string el)
    go_wp2_with fail
    have F := HF.out
    obtain ⟨FW, hF⟩ : ∃ u', u' = (((((((W6.setCell ⟨w.heap.size, 0, none⟩ (.string nm)).setCell ⟨w.heap.size, 1, none⟩ (.int .i64 kd)).setCell ⟨w.heap.size, 2, none⟩ (.string a)).setCell ⟨w.heap.size, 3, none⟩ (.string b)).setCell ⟨w.heap.size, 4, none⟩ (.int .i64 m)).setCell ⟨w.heap.size, 5, none⟩ (.int .i64 wi)).setCell ⟨w.heap.size, 6, none⟩ (.string th)).setCell ⟨w.heap.size, 7, none⟩ (.string el) := ⟨_, rfl⟩
    rw [← hF]
    rw [← hF] at F
    clear hF HF
    obtain ⟨F0, F1, F2⟩ := F
    have u0 := (cell_row F0 0 (.string nm) rfl).1
    have u1 := (cell_row F0 1 (.int .i64 kd) rfl).1
    have u2 := (cell_row F0 2 (.string a) rfl).1
    have u3 := (cell_row F0 3 (.string b) rfl).1
    have u4 := (cell_row F0 4 (.int .i64 m) rfl).1
    have u5 := (cell_row F0 5 (.int .i64 wi) rfl).1
    have u6 := (cell_row F0 6 (.string th) rfl).1
    have u7 := (cell_row F0 7 (.string el) rfl).1
    exact bodyPost_ret (v := .agg #[.string nm, .int .i64 kd, .string a, .string b, .int .i64 m, .int .i64 wi, .string th, .string el]) (by simp [results, Try.results4, go_sem, u0, u1, u2, u3, u4, u5, u6, u7]) rfl ⟨_, _, _, _, _, _, _, _, rfl, PZ2.out, (B0.out.trans (BT6.out.below (B := w.heap.size) (fun b hb => by omega) (by omega))).trans (F2.mono (Nat.le_refl _))⟩

end Go.Proofs.Ytmccbkmfcldbgaa
