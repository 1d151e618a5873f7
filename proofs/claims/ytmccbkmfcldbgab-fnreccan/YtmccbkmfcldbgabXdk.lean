/-
  The recipe that the law FnRecCan draws.
-/
import Derived.Test.YtmccbkmfcldbgabXdj
namespace Go.Proofs.Ytmccbkmfcldbgab
open Go.RowKit Go.Sort

/-- What is answered by the drawing of a recipe, where it begins, and a number. -/
def DcE (w : World) (e : Ending) (w' : World) : Prop := ∃ v M s x, e = .returned (.tuple #[v, .string s, .int .i64 x]) ∧ M.length ≤ 14 ∧ (∀ x ∈ M, PzL 2000 x) ∧ s.size ≤ 16 ∧ 0 ≤ x ∧ x < 5 ∧ Hid (Row w' w.heap.size 30 8 eR v M) ∧ Hid (Below w.heap.size w w')
theorem DcE.of {w : World} {e : Ending} {w' : World} (h : ∃ v M s x, e = .returned (.tuple #[v, .string s, .int .i64 x]) ∧ M.length ≤ 14 ∧ (∀ x ∈ M, PzL 2000 x) ∧ s.size ≤ 16 ∧ 0 ≤ x ∧ x < 5 ∧ Hid (Row w' w.heap.size 30 8 eR v M) ∧ Hid (Below w.heap.size w w')) : DcE w e w' := h

set_option maxRecDepth 100000 in
set_option maxHeartbeats 4000000 in
theorem drawC_any (ob : Option Addr) (n cb : Nat) (f : Nat → Int) (w : World) (hn : n ≤ maxLen) (hnc : n ≤ cb) (fb : ∀ i, 0 ≤ f i ∧ f i ≤ 255)
    (ce : ∀ i, i < n → ∃ b off, ob = some ⟨b, off, none⟩ ∧ b < w.heap.size ∧ w.cell? ⟨b, off + i, none⟩ = some (.int .u8 (f i))) :
    Calls Try.prog 4 #[.slice ob n cb] w fun e w' => DcE w e w' := by
  have HOP : Hid (1 ≤ n → ∃ a, ob = some a) := fun h => by obtain ⟨b, off, h1, _⟩ := ce 0 (by omega); exact ⟨_, h1⟩
  have HCE : Hid _ := ce
  have HFB : Hid _ := fb
  clear ce fb
  go_enter Try.func4, Try.ntmps4
  go_wp2_with fail
  refine (open_any ob n cb w hn hnc HOP.out).mono ?_
  rintro e W1 ⟨n', hn1, hn2, rfl, hW1⟩
  obtain ⟨R, hR⟩ : ∃ R, R = w.heap.size := ⟨_, rfl⟩
  have hrd : Rd R W1 ob n' cb 0 f := by
    rw [hW1, hR]
    refine ⟨heap_alloc_new w _, hn1, by omega, by omega, HFB.out, fun i hi => ?_⟩
    obtain ⟨b, off, h1, h2, h3⟩ := HCE.out i (by omega)
    exact ⟨b, off, h1, by omega, (World.cell?_of_block (w := w) (a := ⟨b, off + i, none⟩) (Below.heap_alloc w _ b (by omega))).trans h3⟩
  have RD1 : Hid (Rd R W1 ob n' cb 0 f) := hrd
  have B1 : Hid (Below w.heap.size w W1) := by show Below w.heap.size w W1; rw [hW1]; exact (Below.refl _ _).alloc (Nat.le_refl _) _
  have s1 : w.heap.size + 1 ≤ W1.heap.size := by rw [hW1]; simp
  have rlo : w.heap.size ≤ R ∧ R ≤ w.heap.size := by omega
  rw [← hR]
  clear hR hW1 hrd hn2 hn hnc HCE HFB HOP
  have C : Hid _ := any_rd R ob n' cb f 0 W1 RD1.out (by omega)
  go_wp2_with fail
  refine Calls.mono C.out ?_
  rintro e W2 ⟨v, M, rfl, hm, hz, p2, hp2, RD2, BT2, RW2⟩
  have HZ : Hid (∀ x ∈ M, PzL 2000 x) := hz
  clear C hz RD1
  obtain ⟨oo, ko, hf⟩ := Row.form RW2.out
  subst hf
  obtain ⟨nl, hnl⟩ : ∃ nl, M.length = nl := ⟨_, rfl⟩
  have HLK : Hid (M.length = nl) := hnl
  rw [hnl] at hm RW2
  rw [hnl]
  clear hnl
  have s2 := BT2.out.size
  have C : Hid _ := from_rd R ob n' cb f p2 (fun b => W1.heap.size ≤ b ∧ b < W2.heap.size) M oo nl ko W2 RD2.out (by omega) (flatR.row_at RW2.out (fun q hq => World.ownsRow.lt RW2.out q hq) (fun x hx => (HZ.out x hx).ok (by omega))) (fun b hb => ⟨hb.2, by omega⟩) hm HZ.out
  go_wp2_with fail
  refine Calls.mono C.out ?_
  rintro e W3 ⟨s, sz, rfl, p3, hp3, RD3, BT3⟩
  have BT3' : Hid (But (fun q => q = R) W1 W3) := BT2.out.trans BT3.out
  have RW3 : Hid (Row W3 W1.heap.size 30 8 eR (.slice oo nl ko) M) := Row.block RW2.out (fun q hq => BT3.out.block q (World.ownsRow.lt RW2.out q hq).2 (by have := (World.ownsRow.lt RW2.out q hq).1; omega))
  clear C RD2 BT2 BT3 RW2
  have C : Hid _ := pick_rd R ob n' cb f p3 5 W3 RD3.out (by omega) (by omega) (by omega)
  go_wp2_with fail
  refine Calls.mono C.out ?_
  rintro e W4 ⟨x, rfl, x0, x1, p4, hp4, RD4, BT4⟩
  have BT4' : Hid (But (fun q => q = R) W1 W4) := BT3'.out.trans BT4.out
  have RW4 : Hid (Row W4 w.heap.size 30 8 eR (.slice oo nl ko) M) := (Row.block RW3.out (fun q hq => BT4.out.block q (World.ownsRow.lt RW3.out q hq).2 (by have := (World.ownsRow.lt RW3.out q hq).1; omega))).low (by omega)
  have BE : Hid (Below w.heap.size w W4) := B1.out.trans (BT4'.out.below (B := w.heap.size) (fun b hb => by omega) (by omega))
  clear C RD3 BT3' BT4 BT4' RW3 RD4
  go_wp2_with fail
  exact bodyPost_ret (v := .tuple #[.slice oo nl ko, .string s, .int .i64 x]) (by simp [results, Try.results4, go_sem]) rfl (DcE.of ⟨_, M, s, x, rfl, by have := HLK.out; omega, HZ.out, sz, x0, x1, RW4, BE⟩)

end Go.Proofs.Ytmccbkmfcldbgab
