/-
  A phase is drawn.
-/
import Derived.Test.YtkongeofapbblaaXdb
import Derived.Deep.Cut
namespace Go.Proofs.Ytkongeofapbblaa
open Go.RowKit

theorem alloc_atD {W : World} (o : Obj) {k : Nat} (h : W.heap.size = k) : (W.alloc o).heap[k]? = some o := by subst h; exact heap_alloc_new W o
theorem alloc_upD {W : World} (o : Obj) {k : Nat} {x : Obj} (h : W.heap[k]? = some x) : (W.alloc o).heap[k]? = some x := (Below.heap_alloc W o k (Array.getElem?_eq_some_iff.1 h).1).trans h
theorem ret8 {w : World} {g : Nat} {x0 x1 x2 x3 x4 x5 x6 x7 : Value} {t : TypeId} (h : w.heap[g]? = some (.cells #[x0, x1, x2, x3, x4, x5, x6, x7] t (0, 0))) (a0 a1 a2 a3 a4 a5 a6 a7 : Value) :
    ((((((((w.setCell ⟨g, 0, none⟩ a0).setCell ⟨g, 1, none⟩ a1).setCell ⟨g, 2, none⟩ a2).setCell ⟨g, 3, none⟩ a3).setCell ⟨g, 4, none⟩ a4).setCell ⟨g, 5, none⟩ a5).setCell ⟨g, 6, none⟩ a6).setCell ⟨g, 7, none⟩ a7).heap[g]? = some (.cells #[a0, a1, a2, a3, a4, a5, a6, a7] t (0, 0)) ∧ (∀ q, q ≠ g → ((((((((w.setCell ⟨g, 0, none⟩ a0).setCell ⟨g, 1, none⟩ a1).setCell ⟨g, 2, none⟩ a2).setCell ⟨g, 3, none⟩ a3).setCell ⟨g, 4, none⟩ a4).setCell ⟨g, 5, none⟩ a5).setCell ⟨g, 6, none⟩ a6).setCell ⟨g, 7, none⟩ a7).heap[q]? = w.heap[q]?) ∧ Below g w ((((((((w.setCell ⟨g, 0, none⟩ a0).setCell ⟨g, 1, none⟩ a1).setCell ⟨g, 2, none⟩ a2).setCell ⟨g, 3, none⟩ a3).setCell ⟨g, 4, none⟩ a4).setCell ⟨g, 5, none⟩ a5).setCell ⟨g, 6, none⟩ a6).setCell ⟨g, 7, none⟩ a7) := by
  refine ⟨?_, ?_, ?_⟩
  · have := set_row (set_row (set_row (set_row (set_row (set_row (set_row (set_row h 0 a0) 1 a1) 2 a2) 3 a3) 4 a4) 5 a5) 6 a6) 7 a7
    simpa using this
  · intro q hq
    exact (Below.heap_setCell _ ⟨g, 7, none⟩ a7 q hq).trans ((Below.heap_setCell _ ⟨g, 6, none⟩ a6 q hq).trans ((Below.heap_setCell _ ⟨g, 5, none⟩ a5 q hq).trans ((Below.heap_setCell _ ⟨g, 4, none⟩ a4 q hq).trans ((Below.heap_setCell _ ⟨g, 3, none⟩ a3 q hq).trans ((Below.heap_setCell _ ⟨g, 2, none⟩ a2 q hq).trans ((Below.heap_setCell _ ⟨g, 1, none⟩ a1 q hq).trans ((Below.heap_setCell _ ⟨g, 0, none⟩ a0 q hq))))))))
  · exact ((((((((Below.refl _ _).setCell (p := ⟨g, 0, none⟩) (Nat.le_refl _) a0).setCell (p := ⟨g, 1, none⟩) (Nat.le_refl _) a1).setCell (p := ⟨g, 2, none⟩) (Nat.le_refl _) a2).setCell (p := ⟨g, 3, none⟩) (Nat.le_refl _) a3).setCell (p := ⟨g, 4, none⟩) (Nat.le_refl _) a4).setCell (p := ⟨g, 5, none⟩) (Nat.le_refl _) a5).setCell (p := ⟨g, 6, none⟩) (Nat.le_refl _) a6).setCell (p := ⟨g, 7, none⟩) (Nat.le_refl _) a7

/-- Where the drawing of a phase stands: the reader, the phase in its box g, the answer's box. -/
structure Dp (R : Nat) (ob : Option Addr) (n cb : Nat) (f : Nat → Int) (w : World) (g : Nat) (W : World) (p : Int) (row : Array Value) : Prop where
  rd : Rd R W ob n cb p f
  but : But (fun q => q = R) w W
  box : W.heap[g]? = some (.cells row 37 (0, 0))
  res : W.heap[w.heap.size]? = some (.cells #[.string ⟨#[]⟩, .int .i64 0, .string ⟨#[]⟩, .string ⟨#[]⟩, .int .i64 0, .int .i64 0, .string ⟨#[]⟩, .string ⟨#[]⟩] 37 (0, 0))
  lo : w.heap.size < g
  rlt : R < w.heap.size
section
variable {R : Nat} {ob : Option Addr} {n cb : Nat} {f : Nat → Int} {w : World} {g : Nat} {W W' : World} {p p' : Int} {row row' : Array Value}
theorem Dp.glt (h : Dp R ob n cb f w g W p row) : g < W.heap.size := (Array.getElem?_eq_some_iff.1 h.box).1
theorem Dp.call (h : Dp R ob n cb f w g W p row) (rd : Rd R W' ob n cb p' f) (bt : But (fun q => q = R) W W') : Dp R ob n cb f w g W' p' row :=
  have h1 := h.glt; have h2 := h.lo; have h3 := h.rlt
  ⟨rd, h.but.trans bt, (bt.block g h1 (by omega)).trans h.box, (bt.block w.heap.size (by omega) (by omega)).trans h.res, h2, h3⟩
theorem Dp.alloc (h : Dp R ob n cb f w g W p row) (o : Obj) : Dp R ob n cb f w g (W.alloc o) p row :=
  have h1 := h.glt; have h2 := h.lo; have h3 := h.rlt
  ⟨h.rd.but (fun b hb => Below.heap_alloc W o b (by omega)), but_alloc h.but o, alloc_upD _ h.box, alloc_upD _ h.res, h2, h3⟩
theorem Dp.put (h : Dp R ob n cb f w g W p row) (j : Nat) (v : Value) (hr : row.setIfInBounds j v = row') : Dp R ob n cb f w g (W.setCell ⟨g, j, none⟩ v) p row' :=
  have h1 := h.glt; have h2 := h.lo; have h3 := h.rlt
  ⟨h.rd.but (fun b hb => Below.heap_setCell W ⟨g, j, none⟩ v b (by show b ≠ g; omega)), but_new h.but (by omega) _ _, by rw [← hr]; exact set_row h.box j v, (Below.heap_setCell W ⟨g, j, none⟩ v _ (by show w.heap.size ≠ g; omega)).trans h.res, h2, h3⟩
theorem Dp.grow (h : Dp R ob n cb f w g W p row) {rw : Option Nat} (hg : W.grownBy W' rw) (hr : ∀ k, rw = some k → g < k) : Dp R ob n cb f w g W' p row :=
  have h1 := h.glt; have h2 := h.lo; have h3 := h.rlt
  have ne : ∀ b, b ≤ g → some b ≠ rw := fun b hb e => by have := hr b e.symm; omega
  ⟨h.rd.but (fun b hb => hg.block b (by omega) (ne b (by omega))), ⟨hg.os.trans h.but.os, hg.tape.trans h.but.tape, hg.output.trans h.but.output, Nat.le_trans h.but.size hg.size, fun b h4 h5 => (hg.block b (by have := h.but.size; omega) (ne b (by omega))).trans (h.but.block b h4 h5)⟩, (hg.block g h1 (ne g (Nat.le_refl _))).trans h.box, (hg.block w.heap.size (by omega) (ne _ (by omega))).trans h.res, h2, h3⟩
end
/-- What is known of a phase that is drawn. -/
def Pz (K : Int) (nm a b th el : ByteArray) (kd n wi : Int) : Prop := nm.size ≤ 16 ∧ a.size ≤ 16 ∧ b.size ≤ 16 ∧ th.size ≤ 16 ∧ el.size ≤ 16 ∧ (-K ≤ kd ∧ kd ≤ K) ∧ (-K ≤ n ∧ n ≤ K) ∧ (-K ≤ wi ∧ wi ≤ K)

set_option maxRecDepth 100000 in
set_option maxHeartbeats 4000000 in
theorem phase_rd (R : Nat) (ob : Option Addr) (n cb : Nat) (f : Nat → Int) (p : Int) (S : Nat → Prop) (l : List ByteArray) (nm : ByteArray) (ol : Option Addr) (nl cl : Nat) (w : World) (h : Rd R w ob n cb p f) (hp : p ≤ 80000) (hnm : nm.size ≤ 16) (hat : AtL S w l (.slice ol nl cl)) (hS : ∀ b, S b → b < w.heap.size ∧ b ≠ R) (hll : nl ≤ 20) (hlz : ∀ s ∈ l, s.size ≤ 16) :
    Calls Try.prog 69 #[.pointer (some ⟨R, 0, none⟩), .string nm, .slice ol nl cl] w fun e w' => ∃ kd a b m wi th el, e = .returned (.agg #[.string nm, .int .i64 kd, .string a, .string b, .int .i64 m, .int .i64 wi, .string th, .string el]) ∧ Pz 1000 nm a b th el kd m wi ∧ ∃ p', p' ≤ p + 20 ∧ Hid (Rd R w' ob n cb p' f) ∧ Hid (But (fun k => k = R) w w') := by
  have HL : Hid (AtL S w l (.slice ol nl cl)) := hat
  have HS : Hid (∀ b, S b → b < w.heap.size ∧ b ≠ R) := hS
  have HZ : Hid (∀ s ∈ l, s.size ≤ 16) := hlz
  have HN : Hid (l.length = nl) := by obtain ⟨_, _, e, _⟩ := hat; injection e with _ e _; exact e.symm
  have rlt := h.lt
  have RW : Hid (Rd R (w.alloc (.cells #[.string ⟨#[]⟩, .int .i64 0, .string ⟨#[]⟩, .string ⟨#[]⟩, .int .i64 0, .int .i64 0, .string ⟨#[]⟩, .string ⟨#[]⟩] 37)) ob n cb p f) := h.but (fun b hb => Below.heap_alloc w _ b (by omega))
  have C1 : Hid _ := pick_rd R ob n cb f p 5 _ RW.out (by omega) (by omega) (by omega)
  clear hat hS hlz h
  go_enter Try.func69, Try.ntmps69
  go_wp2_with fail
  refine Calls.mono C1.out ?_
  rintro e W1 ⟨x, rfl, x0, x1, p1, hp1, rd1, bt1⟩
  clear C1 RW
  have C2 : Hid _ := slot_rd R ob n cb f p1 W1 rd1.out (by omega)
  go_wp2_with fail
  refine Calls.mono C2.out ?_
  rintro e W2 ⟨a, az, rfl, p2, hp2, rd2, bt2⟩
  clear C2 rd1
  have C3 : Hid _ := pick_rd R ob n cb f p2 20 W2 rd2.out (by omega) (by omega) (by omega)
  go_wp2_with fail
  refine Calls.mono C3.out ?_
  rintro e W3 ⟨y, rfl, y0, y1, p4, hp3, rd3, bt3⟩
  clear C3 rd2
  have B3 : Hid (But (fun q => q = R) (w.alloc (.cells #[.string ⟨#[]⟩, .int .i64 0, .string ⟨#[]⟩, .string ⟨#[]⟩, .int .i64 0, .int .i64 0, .string ⟨#[]⟩, .string ⟨#[]⟩] 37)) W3) := (bt1.out.trans bt2.out).trans bt3.out
  have RE3 : Hid (W3.heap[w.heap.size]? = some (.cells #[.string ⟨#[]⟩, .int .i64 0, .string ⟨#[]⟩, .string ⟨#[]⟩, .int .i64 0, .int .i64 0, .string ⟨#[]⟩, .string ⟨#[]⟩] 37 (0, 0))) := (B3.out.block _ (by simp) (by omega)).trans (heap_alloc_new w _)
  have s3 : w.heap.size + 1 ≤ W3.heap.size := by have := B3.out.size; simpa using this
  clear bt1 bt2 bt3
  rcases (show x = 0 ∨ x = 1 ∨ x = 2 ∨ x = 3 ∨ x = 4 by omega) with rfl | rfl | rfl | rfl | rfl
  · obtain ⟨g, hg⟩ : ∃ g, g = W3.heap.size := ⟨_, rfl⟩
    obtain ⟨W4, hW4⟩ : ∃ u, u = W3.alloc (.cells #[.string nm, .int .i64 1, .string a, .string ⟨#[]⟩, .int .i64 0, .int .i64 (1 + y), .string ⟨#[]⟩, .string ⟨#[]⟩] 37) := ⟨_, rfl⟩
    have HE4 : Hid (W4 = W3.alloc (.cells #[.string nm, .int .i64 1, .string a, .string ⟨#[]⟩, .int .i64 0, .int .i64 (1 + y), .string ⟨#[]⟩, .string ⟨#[]⟩] 37)) := hW4
    have D4 : Hid (Dp R ob n cb f w g W4 p4 #[.string nm, .int .i64 1, .string a, .string ⟨#[]⟩, .int .i64 0, .int .i64 (1 + y), .string ⟨#[]⟩, .string ⟨#[]⟩]) := by
      rw [hW4, hg]
      exact ⟨rd3.out.but (fun b hb => Below.heap_alloc W3 _ b (by omega)), (but_alloc (But.refl _ w) _).trans (but_alloc B3.out _), heap_alloc_new W3 _, alloc_upD _ RE3.out, by omega, rlt⟩
    have HG : Hid (g = W3.heap.size) := hg
    clear hW4 hg
    go_upto_region 2 with fail
    rw [← HE4.out, ← HG.out]
    clear HE4 HG B3 RE3 rd3
    obtain ⟨c1, f1⟩ := cell_row D4.out.box 1 (.int .i64 1) rfl
    have hL := lit_at 9 W4 [⟨#[97, 108, 101]⟩, ⟨#[109, 97, 108, 116]⟩] (by unfold maxLen; decide) (fun s hs => Nat.le_trans ((fun s hs => by simp only [List.mem_cons, List.not_mem_nil, or_false] at hs; rcases hs with rfl | rfl <;> decide : ∀ s ∈ ([⟨#[97, 108, 101]⟩, ⟨#[109, 97, 108, 116]⟩] : List ByteArray), s.size ≤ 16) s hs) (by decide))
    have glt := D4.out.glt
    have lo := D4.out.lo
    have rlt := D4.out.rlt
    have C : Hid _ := of_rd R ob n cb f _ (fun b => b = W4.heap.size) [⟨#[97, 108, 101]⟩, ⟨#[109, 97, 108, 116]⟩] _ _ (D4.out.alloc _).rd (by omega) hL (fun b hb => by subst hb; simp; omega) (by decide) (by decide)
    go_wp2_with fail
    refine Calls.mono C.out ?_
    clear C
    rintro e W5 ⟨b, hs, rfl, p5, hp5, rd, bt⟩
    have D5 : Hid (Dp R ob n cb f w g W5 p5 #[.string nm, .int .i64 1, .string a, .string ⟨#[]⟩, .int .i64 0, .int .i64 (1 + y), .string ⟨#[]⟩, .string ⟨#[]⟩]) := (D4.out.alloc _).call rd.out bt.out
    have bz := (fun s hs => by simp only [List.mem_cons, List.not_mem_nil, or_false] at hs; rcases hs with rfl | rfl <;> decide : ∀ s ∈ ([⟨#[97, 108, 101]⟩, ⟨#[109, 97, 108, 116]⟩] : List ByteArray), s.size ≤ 16) b hs
    clear hs hL glt lo rlt rd bt D4
    obtain ⟨c3, f3⟩ := cell_row D5.out.box 3 (.string ⟨#[]⟩) rfl
    obtain ⟨W6, E6⟩ : ∃ u, u = W5.setCell ⟨g, 3, none⟩ (.string b) := ⟨_, rfl⟩
    have HE6 : Hid (W6 = W5.setCell ⟨g, 3, none⟩ (.string b)) := E6
    have D6 : Hid (Dp R ob n cb f w g W6 p5 #[.string nm, .int .i64 1, .string a, .string b, .int .i64 0, .int .i64 (1 + y), .string ⟨#[]⟩, .string ⟨#[]⟩]) := by rw [E6]; exact D5.out.put 3 _ rfl
    clear E6
    go_upto_region 5 with fail
    rw [← HE6.out]
    clear HE6 D5 c3 f3
    have C : Hid _ := pick_rd R ob n cb f _ 30 W6 D6.out.rd (by omega) (by omega) (by omega)
    go_wp2_with fail
    refine Calls.mono C.out ?_
    clear C
    rintro e W7 ⟨z, rfl, z0, z1, p7, hp7, rd, bt⟩
    have D7 : Hid (Dp R ob n cb f w g W7 p7 #[.string nm, .int .i64 1, .string a, .string b, .int .i64 0, .int .i64 (1 + y), .string ⟨#[]⟩, .string ⟨#[]⟩]) := D6.out.call rd.out bt.out
    clear rd bt D6
    obtain ⟨c4, f4⟩ := cell_row D7.out.box 4 (.int .i64 0) rfl
    obtain ⟨W8, E8⟩ : ∃ u, u = W7.setCell ⟨g, 4, none⟩ (.int .i64 (1 + z)) := ⟨_, rfl⟩
    have HE8 : Hid (W8 = W7.setCell ⟨g, 4, none⟩ (.int .i64 (1 + z))) := E8
    have D8 : Hid (Dp R ob n cb f w g W8 p7 #[.string nm, .int .i64 1, .string a, .string b, .int .i64 (1 + z), .int .i64 (1 + y), .string ⟨#[]⟩, .string ⟨#[]⟩]) := by rw [E8]; exact D7.out.put 4 _ rfl
    clear E8
    go_upto_region 13 with fail
    rw [← HE8.out]
    clear HE8 D7 c4 f4
    have glt := D8.out.glt
    have lo := D8.out.lo
    have rlt0 := D8.out.rlt
    have BW : Hid (But (fun q => q = R) w W8) := D8.out.but
    have hat : AtL S W8 l (.slice ol nl cl) := HL.out.same (fun b hb => BW.out.block b (HS.out b hb).1 (HS.out b hb).2)
    have hsr : Hid (Src (W8.alloc (.cells #[.string ⟨#[103, 111, 111, 100]⟩, .string ⟨#[115, 97, 118, 101, 100]⟩, .string ⟨#[115, 99, 114, 97, 112, 112, 101, 100]⟩] 9)) (.slice ol nl cl) nl 1 (enc 1 eS l)) := by
      have := flatS.src (hat.same (fun b hb => Below.heap_alloc W8 (.cells #[.string ⟨#[103, 111, 111, 100]⟩, .string ⟨#[115, 97, 118, 101, 100]⟩, .string ⟨#[115, 99, 114, 97, 112, 112, 101, 100]⟩] 9) b (by have := (HS.out b hb).1; have := BW.out.size; omega)))
      rw [HN.out] at this; exact this
    have hr0 : Hid ((W8.alloc (.cells #[.string ⟨#[103, 111, 111, 100]⟩, .string ⟨#[115, 97, 118, 101, 100]⟩, .string ⟨#[115, 99, 114, 97, 112, 112, 101, 100]⟩] 9)).ownsRow W8.heap.size 9 1 (.slice (some ⟨W8.heap.size, 0, none⟩) 3 3) 3 (enc 1 eS ([⟨#[103, 111, 111, 100]⟩, ⟨#[115, 97, 118, 101, 100]⟩, ⟨#[115, 99, 114, 97, 112, 112, 101, 100]⟩] : List ByteArray))) := own_built (c := #[.string ⟨#[103, 111, 111, 100]⟩, .string ⟨#[115, 97, 118, 101, 100]⟩, .string ⟨#[115, 99, 114, 97, 112, 112, 101, 100]⟩]) (Nat.le_refl _) (by unfold maxLen; omega) rfl
    have HDA : Hid (Dp R ob n cb f w g (W8.alloc (.cells #[.string ⟨#[103, 111, 111, 100]⟩, .string ⟨#[115, 97, 118, 101, 100]⟩, .string ⟨#[115, 99, 114, 97, 112, 112, 101, 100]⟩] 9)) p7 #[.string nm, .int .i64 1, .string a, .string b, .int .i64 (1 + z), .int .i64 (1 + y), .string ⟨#[]⟩, .string ⟨#[]⟩]) := D8.out.alloc _
    clear hat BW
    go_wp2_with (at_builtin; refine wpList_app elS rfl _ _ rfl rfl rfl hr0.out hsr.out (flatS.enc_one _) (by unfold maxLen; omega) (by omega) (by simp) ?_; intro vE WE hown hgE hbk; obtain ⟨oE, kE, hvE⟩ : ∃ o k, vE = .slice o (3 + nl) k := (Row.form (l := ([⟨#[103, 111, 111, 100]⟩, ⟨#[115, 97, 118, 101, 100]⟩, ⟨#[115, 99, 114, 97, 112, 112, 101, 100]⟩] : List ByteArray) ++ l) (e := eS) (k := 1) (t := 9) (B := W8.heap.size) (w := WE) (by show World.ownsRow _ _ _ _ _ _ _; rw [List.length_append, enc_append, HN.out]; exact hown)).imp (fun o h => h.imp (fun c e => by rw [e, List.length_append, HN.out]; rfl)); subst hvE)
    have RE : Hid (Row WE W8.heap.size 9 1 eS (.slice oE (3 + nl) kE) (([⟨#[103, 111, 111, 100]⟩, ⟨#[115, 97, 118, 101, 100]⟩, ⟨#[115, 99, 114, 97, 112, 112, 101, 100]⟩] : List ByteArray) ++ l)) := by show World.ownsRow _ _ _ _ _ _ _; rw [List.length_append, enc_append, HN.out]; exact hown
    have WNEW_ : ∃ u, u = WE := ⟨_, rfl⟩
    obtain ⟨W9, hW9⟩ := WNEW_
    have D9 : Hid (Dp R ob n cb f w g WE p7 #[.string nm, .int .i64 1, .string a, .string b, .int .i64 (1 + z), .int .i64 (1 + y), .string ⟨#[]⟩, .string ⟨#[]⟩]) := HDA.out.grow hgE (fun q hq => by cases hq; omega)
    subst hW9
    have sE : W8.heap.size < W9.heap.size := by have := hgE.size; simp at this; omega
    clear hown hgE hbk hsr hr0 HDA D8
    have EZ : Hid (∀ s ∈ ([⟨#[103, 111, 111, 100]⟩, ⟨#[115, 97, 118, 101, 100]⟩, ⟨#[115, 99, 114, 97, 112, 112, 101, 100]⟩] : List ByteArray) ++ l, s.size ≤ 16) := fun s hs => by
      rcases List.mem_append.1 hs with h | h
      · exact (fun s hs => by simp only [List.mem_cons, List.not_mem_nil, or_false] at hs; rcases hs with rfl | rfl | rfl <;> decide : ∀ s ∈ ([⟨#[103, 111, 111, 100]⟩, ⟨#[115, 97, 118, 101, 100]⟩, ⟨#[115, 99, 114, 97, 112, 112, 101, 100]⟩] : List ByteArray), s.size ≤ 16) s h
      · exact HZ.out s h
    have EN : Hid (1 ≤ (([⟨#[103, 111, 111, 100]⟩, ⟨#[115, 97, 118, 101, 100]⟩, ⟨#[115, 99, 114, 97, 112, 112, 101, 100]⟩] : List ByteArray) ++ l).length ∧ (([⟨#[103, 111, 111, 100]⟩, ⟨#[115, 97, 118, 101, 100]⟩, ⟨#[115, 99, 114, 97, 112, 112, 101, 100]⟩] : List ByteArray) ++ l).length ≤ 1000) := by show _ ∧ _; rw [List.length_append, HN.out]; simp; omega
    have SE : ∀ q, (Value.slice oE (3 + nl) kE).ownBlock = some q → W8.heap.size ≤ q ∧ q < W9.heap.size := fun q hq => World.ownsRow.lt RE.out q hq
    have C : Hid _ := of_rd R ob n cb f _ (fun q => W8.heap.size ≤ q ∧ q < W9.heap.size) (([⟨#[103, 111, 111, 100]⟩, ⟨#[115, 97, 118, 101, 100]⟩, ⟨#[115, 99, 114, 97, 112, 112, 101, 100]⟩] : List ByteArray) ++ l) _ W9 D9.out.rd (by omega) (flatS.row_at RE.out SE (fun s hs => Nat.le_trans (EZ.out s hs) (by decide))) (fun q hq => ⟨hq.2, by omega⟩) EN.out.1 EN.out.2
    go_wp2_with fail
    refine Calls.mono C.out ?_
    clear C
    rintro e W10 ⟨th, hs, rfl, p10, hp10, rd, bt⟩
    have D10 : Hid (Dp R ob n cb f w g W10 p10 #[.string nm, .int .i64 1, .string a, .string b, .int .i64 (1 + z), .int .i64 (1 + y), .string ⟨#[]⟩, .string ⟨#[]⟩]) := D9.out.call rd.out bt.out
    have thz := EZ.out th hs
    have RE2 : Hid (Row W10 W8.heap.size 9 1 eS (.slice oE (3 + nl) kE) (([⟨#[103, 111, 111, 100]⟩, ⟨#[115, 97, 118, 101, 100]⟩, ⟨#[115, 99, 114, 97, 112, 112, 101, 100]⟩] : List ByteArray) ++ l)) := Row.block RE.out (fun q hq => bt.out.block q (SE q hq).2 (by have := (SE q hq).1; omega))
    clear hs SE RE rd bt D9
    obtain ⟨c6, f6⟩ := cell_row D10.out.box 6 (.string ⟨#[]⟩) rfl
    obtain ⟨W11, E11⟩ : ∃ u, u = W10.setCell ⟨g, 6, none⟩ (.string th) := ⟨_, rfl⟩
    have HE11 : Hid (W11 = W10.setCell ⟨g, 6, none⟩ (.string th)) := E11
    have D11 : Hid (Dp R ob n cb f w g W11 p10 #[.string nm, .int .i64 1, .string a, .string b, .int .i64 (1 + z), .int .i64 (1 + y), .string th, .string ⟨#[]⟩]) := by rw [E11]; exact D10.out.put 6 _ rfl
    clear E11
    have RE : Hid (Row W11 W8.heap.size 9 1 eS (.slice oE (3 + nl) kE) (([⟨#[103, 111, 111, 100]⟩, ⟨#[115, 97, 118, 101, 100]⟩, ⟨#[115, 99, 114, 97, 112, 112, 101, 100]⟩] : List ByteArray) ++ l)) := by
      rw [HE11.out]
      exact Row.block RE2.out (fun q hq => Below.heap_setCell _ _ _ _ (by have := (World.ownsRow.lt RE2.out q hq).1; show q ≠ g; omega))
    clear RE2
    go_upto_region 15 with fail
    rw [← HE11.out]
    clear HE11 D10 c6 f6
    have SE : ∀ q, (Value.slice oE (3 + nl) kE).ownBlock = some q → W8.heap.size ≤ q ∧ q < W11.heap.size := fun q hq => World.ownsRow.lt RE.out q hq
    have C : Hid _ := of_rd R ob n cb f _ (fun q => W8.heap.size ≤ q ∧ q < W11.heap.size) (([⟨#[103, 111, 111, 100]⟩, ⟨#[115, 97, 118, 101, 100]⟩, ⟨#[115, 99, 114, 97, 112, 112, 101, 100]⟩] : List ByteArray) ++ l) _ W11 D11.out.rd (by omega) (flatS.row_at RE.out SE (fun s hs => Nat.le_trans (EZ.out s hs) (by decide))) (fun q hq => ⟨hq.2, by omega⟩) EN.out.1 EN.out.2
    go_wp2_with fail
    refine Calls.mono C.out ?_
    clear C
    rintro e W12 ⟨el, hs, rfl, p12, hp12, rd, bt⟩
    have D12 : Hid (Dp R ob n cb f w g W12 p12 #[.string nm, .int .i64 1, .string a, .string b, .int .i64 (1 + z), .int .i64 (1 + y), .string th, .string ⟨#[]⟩]) := D11.out.call rd.out bt.out
    have elz := EZ.out el hs
    have RE2 : Hid (Row W12 W8.heap.size 9 1 eS (.slice oE (3 + nl) kE) (([⟨#[103, 111, 111, 100]⟩, ⟨#[115, 97, 118, 101, 100]⟩, ⟨#[115, 99, 114, 97, 112, 112, 101, 100]⟩] : List ByteArray) ++ l)) := Row.block RE.out (fun q hq => bt.out.block q (SE q hq).2 (by have := (SE q hq).1; omega))
    clear hs SE RE rd bt D11
    obtain ⟨c7, f7⟩ := cell_row D12.out.box 7 (.string ⟨#[]⟩) rfl
    obtain ⟨W13, E13⟩ : ∃ u, u = W12.setCell ⟨g, 7, none⟩ (.string el) := ⟨_, rfl⟩
    have HE13 : Hid (W13 = W12.setCell ⟨g, 7, none⟩ (.string el)) := E13
    have D13 : Hid (Dp R ob n cb f w g W13 p12 #[.string nm, .int .i64 1, .string a, .string b, .int .i64 (1 + z), .int .i64 (1 + y), .string th, .string el]) := by rw [E13]; exact D12.out.put 7 _ rfl
    clear E13
    have RE : Hid (Row W13 W8.heap.size 9 1 eS (.slice oE (3 + nl) kE) (([⟨#[103, 111, 111, 100]⟩, ⟨#[115, 97, 118, 101, 100]⟩, ⟨#[115, 99, 114, 97, 112, 112, 101, 100]⟩] : List ByteArray) ++ l)) := by
      rw [HE13.out]
      exact Row.block RE2.out (fun q hq => Below.heap_setCell _ _ _ _ (by have := (World.ownsRow.lt RE2.out q hq).1; show q ≠ g; omega))
    clear RE2
    go_upto_region 16 with fail
    rw [← HE13.out]
    clear HE13 D12 c7 f7
    clear RE EZ EN sE
    by_cases h0 : nl = 0
    · subst h0
      obtain ⟨l0, _⟩ := cell_row D13.out.box 0 (.string nm) rfl
      obtain ⟨l1, _⟩ := cell_row D13.out.box 1 (.int .i64 1) rfl
      obtain ⟨l2, _⟩ := cell_row D13.out.box 2 (.string a) rfl
      obtain ⟨l3, _⟩ := cell_row D13.out.box 3 (.string b) rfl
      obtain ⟨l4, _⟩ := cell_row D13.out.box 4 (.int .i64 (1 + z)) rfl
      obtain ⟨l5, _⟩ := cell_row D13.out.box 5 (.int .i64 (1 + y)) rfl
      obtain ⟨l6, _⟩ := cell_row D13.out.box 6 (.string th) rfl
      obtain ⟨l7, _⟩ := cell_row D13.out.box 7 (.string el) rfl
      obtain ⟨r0, t0⟩ := cell_row D13.out.res 0 (.string ⟨#[]⟩) rfl
      obtain ⟨r1, t1⟩ := cell_row D13.out.res 1 (.int .i64 0) rfl
      obtain ⟨r2, t2⟩ := cell_row D13.out.res 2 (.string ⟨#[]⟩) rfl
      obtain ⟨r3, t3⟩ := cell_row D13.out.res 3 (.string ⟨#[]⟩) rfl
      obtain ⟨r4, t4⟩ := cell_row D13.out.res 4 (.int .i64 0) rfl
      obtain ⟨r5, t5⟩ := cell_row D13.out.res 5 (.int .i64 0) rfl
      obtain ⟨r6, t6⟩ := cell_row D13.out.res 6 (.string ⟨#[]⟩) rfl
      obtain ⟨r7, t7⟩ := cell_row D13.out.res 7 (.string ⟨#[]⟩) rfl
      have HF : Hid _ := ret8 D13.out.res (.string nm) (.int .i64 1) (.string a) (.string b) (.int .i64 (1 + z)) (.int .i64 (1 + y)) (.string th) (.string el)
      go_wp2_with fail
      have F := HF.out
      obtain ⟨FW, hF⟩ : ∃ u', u' = (((((((W13.setCell ⟨w.heap.size, 0, none⟩ (.string nm)).setCell ⟨w.heap.size, 1, none⟩ (.int .i64 1)).setCell ⟨w.heap.size, 2, none⟩ (.string a)).setCell ⟨w.heap.size, 3, none⟩ (.string b)).setCell ⟨w.heap.size, 4, none⟩ (.int .i64 (1 + z))).setCell ⟨w.heap.size, 5, none⟩ (.int .i64 (1 + y))).setCell ⟨w.heap.size, 6, none⟩ (.string th)).setCell ⟨w.heap.size, 7, none⟩ (.string el) := ⟨_, rfl⟩
      rw [← hF]
      rw [← hF] at F
      clear hF HF
      obtain ⟨F0, F1, F2⟩ := F
      have u0 := (cell_row F0 0 (.string nm) rfl).1
      have u1 := (cell_row F0 1 (.int .i64 1) rfl).1
      have u2 := (cell_row F0 2 (.string a) rfl).1
      have u3 := (cell_row F0 3 (.string b) rfl).1
      have u4 := (cell_row F0 4 (.int .i64 (1 + z)) rfl).1
      have u5 := (cell_row F0 5 (.int .i64 (1 + y)) rfl).1
      have u6 := (cell_row F0 6 (.string th) rfl).1
      have u7 := (cell_row F0 7 (.string el) rfl).1
      have rlt' := D13.out.rlt
      have hRd : Rd R FW ob n cb p12 f := D13.out.rd.but (fun b hb => F1 b (by omega))
      have hBt : But (fun q => q = R) w FW := ⟨F2.os.trans D13.out.but.os, F2.tape.trans D13.out.but.tape, F2.output.trans D13.out.but.output, Nat.le_trans D13.out.but.size F2.size, fun b h1 h2 => (F1 b (by omega)).trans (D13.out.but.block b h1 h2)⟩
      exact bodyPost_ret (v := .agg #[.string nm, .int .i64 1, .string a, .string b, .int .i64 (1 + z), .int .i64 (1 + y), .string th, .string el]) (by simp [results, Try.results69, go_sem, u0, u1, u2, u3, u4, u5, u6, u7]) rfl ⟨_, _, _, _, _, _, _, rfl, ⟨hnm, az, bz, thz, elz, ⟨by omega, by omega⟩, ⟨by omega, by omega⟩, ⟨by omega, by omega⟩⟩, p12, by omega, hRd, hBt⟩
    · have d0 : (0 : Int) < (nl : Int) := by omega
      have C : Hid _ := pick_rd R ob n cb f _ 4 W13 D13.out.rd (by omega) (by omega) (by omega)
      go_wp2_with fail
      refine Calls.mono C.out ?_
      clear C
      rintro e W14 ⟨v, rfl, v0, v1, p14, hp14, rd, bt⟩
      have D14 : Hid (Dp R ob n cb f w g W14 p14 #[.string nm, .int .i64 1, .string a, .string b, .int .i64 (1 + z), .int .i64 (1 + y), .string th, .string el]) := D13.out.call rd.out bt.out
      clear rd bt D13
      by_cases v0 : 0 < v
      · obtain ⟨b0, off0, fs, hol, e0, fsz⟩ : ∃ b0 off0 fs, ol = some ⟨b0, off0, none⟩ ∧ W14.cell? ⟨b0, off0, none⟩ = some (.string fs) ∧ fs.size ≤ 16 := by
          obtain ⟨oa, c, e, hn, hc⟩ := HL.out
          injection e with e1 e2 e3
          obtain ⟨b0, off0, h1, h2, cc, h3, h4⟩ := hc 0 (by have := HN.out; omega)
          have e0 := h3 0 (by decide)
          rw [h4.1, Nat.zero_mul, Nat.add_zero] at e0
          exact ⟨b0, off0, _, e1.trans h1, (World.cell?_of_block (w := w) (a := ⟨b0, off0, none⟩) (D14.out.but.block b0 (HS.out b0 h2).1 (HS.out b0 h2).2)).trans e0, HZ.out _ (List.getElem_mem (by have := HN.out; omega))⟩
        subst hol
        obtain ⟨c6, f6⟩ := cell_row D14.out.box 6 (.string th) rfl
        obtain ⟨W15, E15⟩ : ∃ u, u = W14.setCell ⟨g, 6, none⟩ (.string fs) := ⟨_, rfl⟩
        have HE15 : Hid (W15 = W14.setCell ⟨g, 6, none⟩ (.string fs)) := E15
        have D15 : Hid (Dp R ob n cb f w g W15 p14 #[.string nm, .int .i64 1, .string a, .string b, .int .i64 (1 + z), .int .i64 (1 + y), .string fs, .string el]) := by rw [E15]; exact D14.out.put 6 _ rfl
        clear E15
        go_upto_region 18 with fail
        rw [← HE15.out]
        clear HE15 D14 c6 f6
        obtain ⟨l0, _⟩ := cell_row D15.out.box 0 (.string nm) rfl
        obtain ⟨l1, _⟩ := cell_row D15.out.box 1 (.int .i64 1) rfl
        obtain ⟨l2, _⟩ := cell_row D15.out.box 2 (.string a) rfl
        obtain ⟨l3, _⟩ := cell_row D15.out.box 3 (.string b) rfl
        obtain ⟨l4, _⟩ := cell_row D15.out.box 4 (.int .i64 (1 + z)) rfl
        obtain ⟨l5, _⟩ := cell_row D15.out.box 5 (.int .i64 (1 + y)) rfl
        obtain ⟨l6, _⟩ := cell_row D15.out.box 6 (.string fs) rfl
        obtain ⟨l7, _⟩ := cell_row D15.out.box 7 (.string el) rfl
        obtain ⟨r0, t0⟩ := cell_row D15.out.res 0 (.string ⟨#[]⟩) rfl
        obtain ⟨r1, t1⟩ := cell_row D15.out.res 1 (.int .i64 0) rfl
        obtain ⟨r2, t2⟩ := cell_row D15.out.res 2 (.string ⟨#[]⟩) rfl
        obtain ⟨r3, t3⟩ := cell_row D15.out.res 3 (.string ⟨#[]⟩) rfl
        obtain ⟨r4, t4⟩ := cell_row D15.out.res 4 (.int .i64 0) rfl
        obtain ⟨r5, t5⟩ := cell_row D15.out.res 5 (.int .i64 0) rfl
        obtain ⟨r6, t6⟩ := cell_row D15.out.res 6 (.string ⟨#[]⟩) rfl
        obtain ⟨r7, t7⟩ := cell_row D15.out.res 7 (.string ⟨#[]⟩) rfl
        have HF : Hid _ := ret8 D15.out.res (.string nm) (.int .i64 1) (.string a) (.string b) (.int .i64 (1 + z)) (.int .i64 (1 + y)) (.string fs) (.string el)
        go_wp2_with fail
        have F := HF.out
        obtain ⟨FW, hF⟩ : ∃ u', u' = (((((((W15.setCell ⟨w.heap.size, 0, none⟩ (.string nm)).setCell ⟨w.heap.size, 1, none⟩ (.int .i64 1)).setCell ⟨w.heap.size, 2, none⟩ (.string a)).setCell ⟨w.heap.size, 3, none⟩ (.string b)).setCell ⟨w.heap.size, 4, none⟩ (.int .i64 (1 + z))).setCell ⟨w.heap.size, 5, none⟩ (.int .i64 (1 + y))).setCell ⟨w.heap.size, 6, none⟩ (.string fs)).setCell ⟨w.heap.size, 7, none⟩ (.string el) := ⟨_, rfl⟩
        rw [← hF]
        rw [← hF] at F
        clear hF HF
        obtain ⟨F0, F1, F2⟩ := F
        have u0 := (cell_row F0 0 (.string nm) rfl).1
        have u1 := (cell_row F0 1 (.int .i64 1) rfl).1
        have u2 := (cell_row F0 2 (.string a) rfl).1
        have u3 := (cell_row F0 3 (.string b) rfl).1
        have u4 := (cell_row F0 4 (.int .i64 (1 + z)) rfl).1
        have u5 := (cell_row F0 5 (.int .i64 (1 + y)) rfl).1
        have u6 := (cell_row F0 6 (.string fs) rfl).1
        have u7 := (cell_row F0 7 (.string el) rfl).1
        have rlt' := D15.out.rlt
        have hRd : Rd R FW ob n cb p14 f := D15.out.rd.but (fun b hb => F1 b (by omega))
        have hBt : But (fun q => q = R) w FW := ⟨F2.os.trans D15.out.but.os, F2.tape.trans D15.out.but.tape, F2.output.trans D15.out.but.output, Nat.le_trans D15.out.but.size F2.size, fun b h1 h2 => (F1 b (by omega)).trans (D15.out.but.block b h1 h2)⟩
        exact bodyPost_ret (v := .agg #[.string nm, .int .i64 1, .string a, .string b, .int .i64 (1 + z), .int .i64 (1 + y), .string fs, .string el]) (by simp [results, Try.results69, go_sem, u0, u1, u2, u3, u4, u5, u6, u7]) rfl ⟨_, _, _, _, _, _, _, rfl, ⟨hnm, az, bz, fsz, elz, ⟨by omega, by omega⟩, ⟨by omega, by omega⟩, ⟨by omega, by omega⟩⟩, p14, by omega, hRd, hBt⟩
      · have v00 : v = 0 := by omega
        subst v00
        obtain ⟨l0, _⟩ := cell_row D14.out.box 0 (.string nm) rfl
        obtain ⟨l1, _⟩ := cell_row D14.out.box 1 (.int .i64 1) rfl
        obtain ⟨l2, _⟩ := cell_row D14.out.box 2 (.string a) rfl
        obtain ⟨l3, _⟩ := cell_row D14.out.box 3 (.string b) rfl
        obtain ⟨l4, _⟩ := cell_row D14.out.box 4 (.int .i64 (1 + z)) rfl
        obtain ⟨l5, _⟩ := cell_row D14.out.box 5 (.int .i64 (1 + y)) rfl
        obtain ⟨l6, _⟩ := cell_row D14.out.box 6 (.string th) rfl
        obtain ⟨l7, _⟩ := cell_row D14.out.box 7 (.string el) rfl
        obtain ⟨r0, t0⟩ := cell_row D14.out.res 0 (.string ⟨#[]⟩) rfl
        obtain ⟨r1, t1⟩ := cell_row D14.out.res 1 (.int .i64 0) rfl
        obtain ⟨r2, t2⟩ := cell_row D14.out.res 2 (.string ⟨#[]⟩) rfl
        obtain ⟨r3, t3⟩ := cell_row D14.out.res 3 (.string ⟨#[]⟩) rfl
        obtain ⟨r4, t4⟩ := cell_row D14.out.res 4 (.int .i64 0) rfl
        obtain ⟨r5, t5⟩ := cell_row D14.out.res 5 (.int .i64 0) rfl
        obtain ⟨r6, t6⟩ := cell_row D14.out.res 6 (.string ⟨#[]⟩) rfl
        obtain ⟨r7, t7⟩ := cell_row D14.out.res 7 (.string ⟨#[]⟩) rfl
        have HF : Hid _ := ret8 D14.out.res (.string nm) (.int .i64 1) (.string a) (.string b) (.int .i64 (1 + z)) (.int .i64 (1 + y)) (.string th) (.string el)
        go_wp2_with fail
        have F := HF.out
        obtain ⟨FW, hF⟩ : ∃ u', u' = (((((((W14.setCell ⟨w.heap.size, 0, none⟩ (.string nm)).setCell ⟨w.heap.size, 1, none⟩ (.int .i64 1)).setCell ⟨w.heap.size, 2, none⟩ (.string a)).setCell ⟨w.heap.size, 3, none⟩ (.string b)).setCell ⟨w.heap.size, 4, none⟩ (.int .i64 (1 + z))).setCell ⟨w.heap.size, 5, none⟩ (.int .i64 (1 + y))).setCell ⟨w.heap.size, 6, none⟩ (.string th)).setCell ⟨w.heap.size, 7, none⟩ (.string el) := ⟨_, rfl⟩
        rw [← hF]
        rw [← hF] at F
        clear hF HF
        obtain ⟨F0, F1, F2⟩ := F
        have u0 := (cell_row F0 0 (.string nm) rfl).1
        have u1 := (cell_row F0 1 (.int .i64 1) rfl).1
        have u2 := (cell_row F0 2 (.string a) rfl).1
        have u3 := (cell_row F0 3 (.string b) rfl).1
        have u4 := (cell_row F0 4 (.int .i64 (1 + z)) rfl).1
        have u5 := (cell_row F0 5 (.int .i64 (1 + y)) rfl).1
        have u6 := (cell_row F0 6 (.string th) rfl).1
        have u7 := (cell_row F0 7 (.string el) rfl).1
        have rlt' := D14.out.rlt
        have hRd : Rd R FW ob n cb p14 f := D14.out.rd.but (fun b hb => F1 b (by omega))
        have hBt : But (fun q => q = R) w FW := ⟨F2.os.trans D14.out.but.os, F2.tape.trans D14.out.but.tape, F2.output.trans D14.out.but.output, Nat.le_trans D14.out.but.size F2.size, fun b h1 h2 => (F1 b (by omega)).trans (D14.out.but.block b h1 h2)⟩
        exact bodyPost_ret (v := .agg #[.string nm, .int .i64 1, .string a, .string b, .int .i64 (1 + z), .int .i64 (1 + y), .string th, .string el]) (by simp [results, Try.results69, go_sem, u0, u1, u2, u3, u4, u5, u6, u7]) rfl ⟨_, _, _, _, _, _, _, rfl, ⟨hnm, az, bz, thz, elz, ⟨by omega, by omega⟩, ⟨by omega, by omega⟩, ⟨by omega, by omega⟩⟩, p14, by omega, hRd, hBt⟩
  · obtain ⟨g, hg⟩ : ∃ g, g = W3.heap.size := ⟨_, rfl⟩
    obtain ⟨W4, hW4⟩ : ∃ u, u = W3.alloc (.cells #[.string nm, .int .i64 2, .string a, .string ⟨#[]⟩, .int .i64 0, .int .i64 (1 + y), .string ⟨#[]⟩, .string ⟨#[]⟩] 37) := ⟨_, rfl⟩
    have HE4 : Hid (W4 = W3.alloc (.cells #[.string nm, .int .i64 2, .string a, .string ⟨#[]⟩, .int .i64 0, .int .i64 (1 + y), .string ⟨#[]⟩, .string ⟨#[]⟩] 37)) := hW4
    have D4 : Hid (Dp R ob n cb f w g W4 p4 #[.string nm, .int .i64 2, .string a, .string ⟨#[]⟩, .int .i64 0, .int .i64 (1 + y), .string ⟨#[]⟩, .string ⟨#[]⟩]) := by
      rw [hW4, hg]
      exact ⟨rd3.out.but (fun b hb => Below.heap_alloc W3 _ b (by omega)), (but_alloc (But.refl _ w) _).trans (but_alloc B3.out _), heap_alloc_new W3 _, alloc_upD _ RE3.out, by omega, rlt⟩
    have HG : Hid (g = W3.heap.size) := hg
    clear hW4 hg
    go_upto_region 2 with fail
    rw [← HE4.out, ← HG.out]
    clear HE4 HG B3 RE3 rd3
    obtain ⟨c1, f1⟩ := cell_row D4.out.box 1 (.int .i64 2) rfl
    have C : Hid _ := slot_rd R ob n cb f _ W4 D4.out.rd (by omega)
    go_wp2_with fail
    refine Calls.mono C.out ?_
    clear C
    rintro e W5 ⟨b, bz, rfl, p5, hp5, rd, bt⟩
    have D5 : Hid (Dp R ob n cb f w g W5 p5 #[.string nm, .int .i64 2, .string a, .string ⟨#[]⟩, .int .i64 0, .int .i64 (1 + y), .string ⟨#[]⟩, .string ⟨#[]⟩]) := D4.out.call rd.out bt.out
    clear rd bt D4
    obtain ⟨c3, f3⟩ := cell_row D5.out.box 3 (.string ⟨#[]⟩) rfl
    obtain ⟨W6, E6⟩ : ∃ u, u = W5.setCell ⟨g, 3, none⟩ (.string b) := ⟨_, rfl⟩
    have HE6 : Hid (W6 = W5.setCell ⟨g, 3, none⟩ (.string b)) := E6
    have D6 : Hid (Dp R ob n cb f w g W6 p5 #[.string nm, .int .i64 2, .string a, .string b, .int .i64 0, .int .i64 (1 + y), .string ⟨#[]⟩, .string ⟨#[]⟩]) := by rw [E6]; exact D5.out.put 3 _ rfl
    clear E6
    go_upto_region 8 with fail
    rw [← HE6.out]
    clear HE6 D5 c3 f3
    obtain ⟨c3, f3⟩ := cell_row D6.out.box 3 (.string b) rfl
    obtain ⟨c2, f2⟩ := cell_row D6.out.box 2 (.string a) rfl
    cases hq : (b.toList == a.toList)
    · have C : Hid _ := pick_rd R ob n cb f _ 30 W6 D6.out.rd (by omega) (by omega) (by omega)
      go_wp2_with fail
      refine Calls.mono C.out ?_
      clear C
      rintro e W7 ⟨z, rfl, z0, z1, p7, hp7, rd, bt⟩
      have D7 : Hid (Dp R ob n cb f w g W7 p7 #[.string nm, .int .i64 2, .string a, .string b, .int .i64 0, .int .i64 (1 + y), .string ⟨#[]⟩, .string ⟨#[]⟩]) := D6.out.call rd.out bt.out
      clear rd bt D6
      obtain ⟨c4, f4⟩ := cell_row D7.out.box 4 (.int .i64 0) rfl
      obtain ⟨W8, E8⟩ : ∃ u, u = W7.setCell ⟨g, 4, none⟩ (.int .i64 (1 + z)) := ⟨_, rfl⟩
      have HE8 : Hid (W8 = W7.setCell ⟨g, 4, none⟩ (.int .i64 (1 + z))) := E8
      have D8 : Hid (Dp R ob n cb f w g W8 p7 #[.string nm, .int .i64 2, .string a, .string b, .int .i64 (1 + z), .int .i64 (1 + y), .string ⟨#[]⟩, .string ⟨#[]⟩]) := by rw [E8]; exact D7.out.put 4 _ rfl
      clear E8
      go_upto_region 13 with fail
      rw [← HE8.out]
      clear HE8 D7 c4 f4
      have glt := D8.out.glt
      have lo := D8.out.lo
      have rlt0 := D8.out.rlt
      have BW : Hid (But (fun q => q = R) w W8) := D8.out.but
      have hat : AtL S W8 l (.slice ol nl cl) := HL.out.same (fun b hb => BW.out.block b (HS.out b hb).1 (HS.out b hb).2)
      have hsr : Hid (Src (W8.alloc (.cells #[.string ⟨#[103, 111, 111, 100]⟩, .string ⟨#[115, 97, 118, 101, 100]⟩, .string ⟨#[115, 99, 114, 97, 112, 112, 101, 100]⟩] 9)) (.slice ol nl cl) nl 1 (enc 1 eS l)) := by
        have := flatS.src (hat.same (fun b hb => Below.heap_alloc W8 (.cells #[.string ⟨#[103, 111, 111, 100]⟩, .string ⟨#[115, 97, 118, 101, 100]⟩, .string ⟨#[115, 99, 114, 97, 112, 112, 101, 100]⟩] 9) b (by have := (HS.out b hb).1; have := BW.out.size; omega)))
        rw [HN.out] at this; exact this
      have hr0 : Hid ((W8.alloc (.cells #[.string ⟨#[103, 111, 111, 100]⟩, .string ⟨#[115, 97, 118, 101, 100]⟩, .string ⟨#[115, 99, 114, 97, 112, 112, 101, 100]⟩] 9)).ownsRow W8.heap.size 9 1 (.slice (some ⟨W8.heap.size, 0, none⟩) 3 3) 3 (enc 1 eS ([⟨#[103, 111, 111, 100]⟩, ⟨#[115, 97, 118, 101, 100]⟩, ⟨#[115, 99, 114, 97, 112, 112, 101, 100]⟩] : List ByteArray))) := own_built (c := #[.string ⟨#[103, 111, 111, 100]⟩, .string ⟨#[115, 97, 118, 101, 100]⟩, .string ⟨#[115, 99, 114, 97, 112, 112, 101, 100]⟩]) (Nat.le_refl _) (by unfold maxLen; omega) rfl
      have HDA : Hid (Dp R ob n cb f w g (W8.alloc (.cells #[.string ⟨#[103, 111, 111, 100]⟩, .string ⟨#[115, 97, 118, 101, 100]⟩, .string ⟨#[115, 99, 114, 97, 112, 112, 101, 100]⟩] 9)) p7 #[.string nm, .int .i64 2, .string a, .string b, .int .i64 (1 + z), .int .i64 (1 + y), .string ⟨#[]⟩, .string ⟨#[]⟩]) := D8.out.alloc _
      clear hat BW
      go_wp2_with (at_builtin; refine wpList_app elS rfl _ _ rfl rfl rfl hr0.out hsr.out (flatS.enc_one _) (by unfold maxLen; omega) (by omega) (by simp) ?_; intro vE WE hown hgE hbk; obtain ⟨oE, kE, hvE⟩ : ∃ o k, vE = .slice o (3 + nl) k := (Row.form (l := ([⟨#[103, 111, 111, 100]⟩, ⟨#[115, 97, 118, 101, 100]⟩, ⟨#[115, 99, 114, 97, 112, 112, 101, 100]⟩] : List ByteArray) ++ l) (e := eS) (k := 1) (t := 9) (B := W8.heap.size) (w := WE) (by show World.ownsRow _ _ _ _ _ _ _; rw [List.length_append, enc_append, HN.out]; exact hown)).imp (fun o h => h.imp (fun c e => by rw [e, List.length_append, HN.out]; rfl)); subst hvE)
      have RE : Hid (Row WE W8.heap.size 9 1 eS (.slice oE (3 + nl) kE) (([⟨#[103, 111, 111, 100]⟩, ⟨#[115, 97, 118, 101, 100]⟩, ⟨#[115, 99, 114, 97, 112, 112, 101, 100]⟩] : List ByteArray) ++ l)) := by show World.ownsRow _ _ _ _ _ _ _; rw [List.length_append, enc_append, HN.out]; exact hown
      have WNEW_ : ∃ u, u = WE := ⟨_, rfl⟩
      obtain ⟨W9, hW9⟩ := WNEW_
      have D9 : Hid (Dp R ob n cb f w g WE p7 #[.string nm, .int .i64 2, .string a, .string b, .int .i64 (1 + z), .int .i64 (1 + y), .string ⟨#[]⟩, .string ⟨#[]⟩]) := HDA.out.grow hgE (fun q hq => by cases hq; omega)
      subst hW9
      have sE : W8.heap.size < W9.heap.size := by have := hgE.size; simp at this; omega
      clear hown hgE hbk hsr hr0 HDA D8
      have EZ : Hid (∀ s ∈ ([⟨#[103, 111, 111, 100]⟩, ⟨#[115, 97, 118, 101, 100]⟩, ⟨#[115, 99, 114, 97, 112, 112, 101, 100]⟩] : List ByteArray) ++ l, s.size ≤ 16) := fun s hs => by
        rcases List.mem_append.1 hs with h | h
        · exact (fun s hs => by simp only [List.mem_cons, List.not_mem_nil, or_false] at hs; rcases hs with rfl | rfl | rfl <;> decide : ∀ s ∈ ([⟨#[103, 111, 111, 100]⟩, ⟨#[115, 97, 118, 101, 100]⟩, ⟨#[115, 99, 114, 97, 112, 112, 101, 100]⟩] : List ByteArray), s.size ≤ 16) s h
        · exact HZ.out s h
      have EN : Hid (1 ≤ (([⟨#[103, 111, 111, 100]⟩, ⟨#[115, 97, 118, 101, 100]⟩, ⟨#[115, 99, 114, 97, 112, 112, 101, 100]⟩] : List ByteArray) ++ l).length ∧ (([⟨#[103, 111, 111, 100]⟩, ⟨#[115, 97, 118, 101, 100]⟩, ⟨#[115, 99, 114, 97, 112, 112, 101, 100]⟩] : List ByteArray) ++ l).length ≤ 1000) := by show _ ∧ _; rw [List.length_append, HN.out]; simp; omega
      have SE : ∀ q, (Value.slice oE (3 + nl) kE).ownBlock = some q → W8.heap.size ≤ q ∧ q < W9.heap.size := fun q hq => World.ownsRow.lt RE.out q hq
      have C : Hid _ := of_rd R ob n cb f _ (fun q => W8.heap.size ≤ q ∧ q < W9.heap.size) (([⟨#[103, 111, 111, 100]⟩, ⟨#[115, 97, 118, 101, 100]⟩, ⟨#[115, 99, 114, 97, 112, 112, 101, 100]⟩] : List ByteArray) ++ l) _ W9 D9.out.rd (by omega) (flatS.row_at RE.out SE (fun s hs => Nat.le_trans (EZ.out s hs) (by decide))) (fun q hq => ⟨hq.2, by omega⟩) EN.out.1 EN.out.2
      go_wp2_with fail
      refine Calls.mono C.out ?_
      clear C
      rintro e W10 ⟨th, hs, rfl, p10, hp10, rd, bt⟩
      have D10 : Hid (Dp R ob n cb f w g W10 p10 #[.string nm, .int .i64 2, .string a, .string b, .int .i64 (1 + z), .int .i64 (1 + y), .string ⟨#[]⟩, .string ⟨#[]⟩]) := D9.out.call rd.out bt.out
      have thz := EZ.out th hs
      have RE2 : Hid (Row W10 W8.heap.size 9 1 eS (.slice oE (3 + nl) kE) (([⟨#[103, 111, 111, 100]⟩, ⟨#[115, 97, 118, 101, 100]⟩, ⟨#[115, 99, 114, 97, 112, 112, 101, 100]⟩] : List ByteArray) ++ l)) := Row.block RE.out (fun q hq => bt.out.block q (SE q hq).2 (by have := (SE q hq).1; omega))
      clear hs SE RE rd bt D9
      obtain ⟨c6, f6⟩ := cell_row D10.out.box 6 (.string ⟨#[]⟩) rfl
      obtain ⟨W11, E11⟩ : ∃ u, u = W10.setCell ⟨g, 6, none⟩ (.string th) := ⟨_, rfl⟩
      have HE11 : Hid (W11 = W10.setCell ⟨g, 6, none⟩ (.string th)) := E11
      have D11 : Hid (Dp R ob n cb f w g W11 p10 #[.string nm, .int .i64 2, .string a, .string b, .int .i64 (1 + z), .int .i64 (1 + y), .string th, .string ⟨#[]⟩]) := by rw [E11]; exact D10.out.put 6 _ rfl
      clear E11
      have RE : Hid (Row W11 W8.heap.size 9 1 eS (.slice oE (3 + nl) kE) (([⟨#[103, 111, 111, 100]⟩, ⟨#[115, 97, 118, 101, 100]⟩, ⟨#[115, 99, 114, 97, 112, 112, 101, 100]⟩] : List ByteArray) ++ l)) := by
        rw [HE11.out]
        exact Row.block RE2.out (fun q hq => Below.heap_setCell _ _ _ _ (by have := (World.ownsRow.lt RE2.out q hq).1; show q ≠ g; omega))
      clear RE2
      go_upto_region 15 with fail
      rw [← HE11.out]
      clear HE11 D10 c6 f6
      have SE : ∀ q, (Value.slice oE (3 + nl) kE).ownBlock = some q → W8.heap.size ≤ q ∧ q < W11.heap.size := fun q hq => World.ownsRow.lt RE.out q hq
      have C : Hid _ := of_rd R ob n cb f _ (fun q => W8.heap.size ≤ q ∧ q < W11.heap.size) (([⟨#[103, 111, 111, 100]⟩, ⟨#[115, 97, 118, 101, 100]⟩, ⟨#[115, 99, 114, 97, 112, 112, 101, 100]⟩] : List ByteArray) ++ l) _ W11 D11.out.rd (by omega) (flatS.row_at RE.out SE (fun s hs => Nat.le_trans (EZ.out s hs) (by decide))) (fun q hq => ⟨hq.2, by omega⟩) EN.out.1 EN.out.2
      go_wp2_with fail
      refine Calls.mono C.out ?_
      clear C
      rintro e W12 ⟨el, hs, rfl, p12, hp12, rd, bt⟩
      have D12 : Hid (Dp R ob n cb f w g W12 p12 #[.string nm, .int .i64 2, .string a, .string b, .int .i64 (1 + z), .int .i64 (1 + y), .string th, .string ⟨#[]⟩]) := D11.out.call rd.out bt.out
      have elz := EZ.out el hs
      have RE2 : Hid (Row W12 W8.heap.size 9 1 eS (.slice oE (3 + nl) kE) (([⟨#[103, 111, 111, 100]⟩, ⟨#[115, 97, 118, 101, 100]⟩, ⟨#[115, 99, 114, 97, 112, 112, 101, 100]⟩] : List ByteArray) ++ l)) := Row.block RE.out (fun q hq => bt.out.block q (SE q hq).2 (by have := (SE q hq).1; omega))
      clear hs SE RE rd bt D11
      obtain ⟨c7, f7⟩ := cell_row D12.out.box 7 (.string ⟨#[]⟩) rfl
      obtain ⟨W13, E13⟩ : ∃ u, u = W12.setCell ⟨g, 7, none⟩ (.string el) := ⟨_, rfl⟩
      have HE13 : Hid (W13 = W12.setCell ⟨g, 7, none⟩ (.string el)) := E13
      have D13 : Hid (Dp R ob n cb f w g W13 p12 #[.string nm, .int .i64 2, .string a, .string b, .int .i64 (1 + z), .int .i64 (1 + y), .string th, .string el]) := by rw [E13]; exact D12.out.put 7 _ rfl
      clear E13
      have RE : Hid (Row W13 W8.heap.size 9 1 eS (.slice oE (3 + nl) kE) (([⟨#[103, 111, 111, 100]⟩, ⟨#[115, 97, 118, 101, 100]⟩, ⟨#[115, 99, 114, 97, 112, 112, 101, 100]⟩] : List ByteArray) ++ l)) := by
        rw [HE13.out]
        exact Row.block RE2.out (fun q hq => Below.heap_setCell _ _ _ _ (by have := (World.ownsRow.lt RE2.out q hq).1; show q ≠ g; omega))
      clear RE2
      go_upto_region 16 with fail
      rw [← HE13.out]
      clear HE13 D12 c7 f7
      clear RE EZ EN sE
      by_cases h0 : nl = 0
      · subst h0
        obtain ⟨l0, _⟩ := cell_row D13.out.box 0 (.string nm) rfl
        obtain ⟨l1, _⟩ := cell_row D13.out.box 1 (.int .i64 2) rfl
        obtain ⟨l2, _⟩ := cell_row D13.out.box 2 (.string a) rfl
        obtain ⟨l3, _⟩ := cell_row D13.out.box 3 (.string b) rfl
        obtain ⟨l4, _⟩ := cell_row D13.out.box 4 (.int .i64 (1 + z)) rfl
        obtain ⟨l5, _⟩ := cell_row D13.out.box 5 (.int .i64 (1 + y)) rfl
        obtain ⟨l6, _⟩ := cell_row D13.out.box 6 (.string th) rfl
        obtain ⟨l7, _⟩ := cell_row D13.out.box 7 (.string el) rfl
        obtain ⟨r0, t0⟩ := cell_row D13.out.res 0 (.string ⟨#[]⟩) rfl
        obtain ⟨r1, t1⟩ := cell_row D13.out.res 1 (.int .i64 0) rfl
        obtain ⟨r2, t2⟩ := cell_row D13.out.res 2 (.string ⟨#[]⟩) rfl
        obtain ⟨r3, t3⟩ := cell_row D13.out.res 3 (.string ⟨#[]⟩) rfl
        obtain ⟨r4, t4⟩ := cell_row D13.out.res 4 (.int .i64 0) rfl
        obtain ⟨r5, t5⟩ := cell_row D13.out.res 5 (.int .i64 0) rfl
        obtain ⟨r6, t6⟩ := cell_row D13.out.res 6 (.string ⟨#[]⟩) rfl
        obtain ⟨r7, t7⟩ := cell_row D13.out.res 7 (.string ⟨#[]⟩) rfl
        have HF : Hid _ := ret8 D13.out.res (.string nm) (.int .i64 2) (.string a) (.string b) (.int .i64 (1 + z)) (.int .i64 (1 + y)) (.string th) (.string el)
        go_wp2_with fail
        have F := HF.out
        obtain ⟨FW, hF⟩ : ∃ u', u' = (((((((W13.setCell ⟨w.heap.size, 0, none⟩ (.string nm)).setCell ⟨w.heap.size, 1, none⟩ (.int .i64 2)).setCell ⟨w.heap.size, 2, none⟩ (.string a)).setCell ⟨w.heap.size, 3, none⟩ (.string b)).setCell ⟨w.heap.size, 4, none⟩ (.int .i64 (1 + z))).setCell ⟨w.heap.size, 5, none⟩ (.int .i64 (1 + y))).setCell ⟨w.heap.size, 6, none⟩ (.string th)).setCell ⟨w.heap.size, 7, none⟩ (.string el) := ⟨_, rfl⟩
        rw [← hF]
        rw [← hF] at F
        clear hF HF
        obtain ⟨F0, F1, F2⟩ := F
        have u0 := (cell_row F0 0 (.string nm) rfl).1
        have u1 := (cell_row F0 1 (.int .i64 2) rfl).1
        have u2 := (cell_row F0 2 (.string a) rfl).1
        have u3 := (cell_row F0 3 (.string b) rfl).1
        have u4 := (cell_row F0 4 (.int .i64 (1 + z)) rfl).1
        have u5 := (cell_row F0 5 (.int .i64 (1 + y)) rfl).1
        have u6 := (cell_row F0 6 (.string th) rfl).1
        have u7 := (cell_row F0 7 (.string el) rfl).1
        have rlt' := D13.out.rlt
        have hRd : Rd R FW ob n cb p12 f := D13.out.rd.but (fun b hb => F1 b (by omega))
        have hBt : But (fun q => q = R) w FW := ⟨F2.os.trans D13.out.but.os, F2.tape.trans D13.out.but.tape, F2.output.trans D13.out.but.output, Nat.le_trans D13.out.but.size F2.size, fun b h1 h2 => (F1 b (by omega)).trans (D13.out.but.block b h1 h2)⟩
        exact bodyPost_ret (v := .agg #[.string nm, .int .i64 2, .string a, .string b, .int .i64 (1 + z), .int .i64 (1 + y), .string th, .string el]) (by simp [results, Try.results69, go_sem, u0, u1, u2, u3, u4, u5, u6, u7]) rfl ⟨_, _, _, _, _, _, _, rfl, ⟨hnm, az, bz, thz, elz, ⟨by omega, by omega⟩, ⟨by omega, by omega⟩, ⟨by omega, by omega⟩⟩, p12, by omega, hRd, hBt⟩
      · have d0 : (0 : Int) < (nl : Int) := by omega
        have C : Hid _ := pick_rd R ob n cb f _ 4 W13 D13.out.rd (by omega) (by omega) (by omega)
        go_wp2_with fail
        refine Calls.mono C.out ?_
        clear C
        rintro e W14 ⟨v, rfl, v0, v1, p14, hp14, rd, bt⟩
        have D14 : Hid (Dp R ob n cb f w g W14 p14 #[.string nm, .int .i64 2, .string a, .string b, .int .i64 (1 + z), .int .i64 (1 + y), .string th, .string el]) := D13.out.call rd.out bt.out
        clear rd bt D13
        by_cases v0 : 0 < v
        · obtain ⟨b0, off0, fs, hol, e0, fsz⟩ : ∃ b0 off0 fs, ol = some ⟨b0, off0, none⟩ ∧ W14.cell? ⟨b0, off0, none⟩ = some (.string fs) ∧ fs.size ≤ 16 := by
            obtain ⟨oa, c, e, hn, hc⟩ := HL.out
            injection e with e1 e2 e3
            obtain ⟨b0, off0, h1, h2, cc, h3, h4⟩ := hc 0 (by have := HN.out; omega)
            have e0 := h3 0 (by decide)
            rw [h4.1, Nat.zero_mul, Nat.add_zero] at e0
            exact ⟨b0, off0, _, e1.trans h1, (World.cell?_of_block (w := w) (a := ⟨b0, off0, none⟩) (D14.out.but.block b0 (HS.out b0 h2).1 (HS.out b0 h2).2)).trans e0, HZ.out _ (List.getElem_mem (by have := HN.out; omega))⟩
          subst hol
          obtain ⟨c6, f6⟩ := cell_row D14.out.box 6 (.string th) rfl
          obtain ⟨W15, E15⟩ : ∃ u, u = W14.setCell ⟨g, 6, none⟩ (.string fs) := ⟨_, rfl⟩
          have HE15 : Hid (W15 = W14.setCell ⟨g, 6, none⟩ (.string fs)) := E15
          have D15 : Hid (Dp R ob n cb f w g W15 p14 #[.string nm, .int .i64 2, .string a, .string b, .int .i64 (1 + z), .int .i64 (1 + y), .string fs, .string el]) := by rw [E15]; exact D14.out.put 6 _ rfl
          clear E15
          go_upto_region 18 with fail
          rw [← HE15.out]
          clear HE15 D14 c6 f6
          obtain ⟨l0, _⟩ := cell_row D15.out.box 0 (.string nm) rfl
          obtain ⟨l1, _⟩ := cell_row D15.out.box 1 (.int .i64 2) rfl
          obtain ⟨l2, _⟩ := cell_row D15.out.box 2 (.string a) rfl
          obtain ⟨l3, _⟩ := cell_row D15.out.box 3 (.string b) rfl
          obtain ⟨l4, _⟩ := cell_row D15.out.box 4 (.int .i64 (1 + z)) rfl
          obtain ⟨l5, _⟩ := cell_row D15.out.box 5 (.int .i64 (1 + y)) rfl
          obtain ⟨l6, _⟩ := cell_row D15.out.box 6 (.string fs) rfl
          obtain ⟨l7, _⟩ := cell_row D15.out.box 7 (.string el) rfl
          obtain ⟨r0, t0⟩ := cell_row D15.out.res 0 (.string ⟨#[]⟩) rfl
          obtain ⟨r1, t1⟩ := cell_row D15.out.res 1 (.int .i64 0) rfl
          obtain ⟨r2, t2⟩ := cell_row D15.out.res 2 (.string ⟨#[]⟩) rfl
          obtain ⟨r3, t3⟩ := cell_row D15.out.res 3 (.string ⟨#[]⟩) rfl
          obtain ⟨r4, t4⟩ := cell_row D15.out.res 4 (.int .i64 0) rfl
          obtain ⟨r5, t5⟩ := cell_row D15.out.res 5 (.int .i64 0) rfl
          obtain ⟨r6, t6⟩ := cell_row D15.out.res 6 (.string ⟨#[]⟩) rfl
          obtain ⟨r7, t7⟩ := cell_row D15.out.res 7 (.string ⟨#[]⟩) rfl
          have HF : Hid _ := ret8 D15.out.res (.string nm) (.int .i64 2) (.string a) (.string b) (.int .i64 (1 + z)) (.int .i64 (1 + y)) (.string fs) (.string el)
          go_wp2_with fail
          have F := HF.out
          obtain ⟨FW, hF⟩ : ∃ u', u' = (((((((W15.setCell ⟨w.heap.size, 0, none⟩ (.string nm)).setCell ⟨w.heap.size, 1, none⟩ (.int .i64 2)).setCell ⟨w.heap.size, 2, none⟩ (.string a)).setCell ⟨w.heap.size, 3, none⟩ (.string b)).setCell ⟨w.heap.size, 4, none⟩ (.int .i64 (1 + z))).setCell ⟨w.heap.size, 5, none⟩ (.int .i64 (1 + y))).setCell ⟨w.heap.size, 6, none⟩ (.string fs)).setCell ⟨w.heap.size, 7, none⟩ (.string el) := ⟨_, rfl⟩
          rw [← hF]
          rw [← hF] at F
          clear hF HF
          obtain ⟨F0, F1, F2⟩ := F
          have u0 := (cell_row F0 0 (.string nm) rfl).1
          have u1 := (cell_row F0 1 (.int .i64 2) rfl).1
          have u2 := (cell_row F0 2 (.string a) rfl).1
          have u3 := (cell_row F0 3 (.string b) rfl).1
          have u4 := (cell_row F0 4 (.int .i64 (1 + z)) rfl).1
          have u5 := (cell_row F0 5 (.int .i64 (1 + y)) rfl).1
          have u6 := (cell_row F0 6 (.string fs) rfl).1
          have u7 := (cell_row F0 7 (.string el) rfl).1
          have rlt' := D15.out.rlt
          have hRd : Rd R FW ob n cb p14 f := D15.out.rd.but (fun b hb => F1 b (by omega))
          have hBt : But (fun q => q = R) w FW := ⟨F2.os.trans D15.out.but.os, F2.tape.trans D15.out.but.tape, F2.output.trans D15.out.but.output, Nat.le_trans D15.out.but.size F2.size, fun b h1 h2 => (F1 b (by omega)).trans (D15.out.but.block b h1 h2)⟩
          exact bodyPost_ret (v := .agg #[.string nm, .int .i64 2, .string a, .string b, .int .i64 (1 + z), .int .i64 (1 + y), .string fs, .string el]) (by simp [results, Try.results69, go_sem, u0, u1, u2, u3, u4, u5, u6, u7]) rfl ⟨_, _, _, _, _, _, _, rfl, ⟨hnm, az, bz, fsz, elz, ⟨by omega, by omega⟩, ⟨by omega, by omega⟩, ⟨by omega, by omega⟩⟩, p14, by omega, hRd, hBt⟩
        · have v00 : v = 0 := by omega
          subst v00
          obtain ⟨l0, _⟩ := cell_row D14.out.box 0 (.string nm) rfl
          obtain ⟨l1, _⟩ := cell_row D14.out.box 1 (.int .i64 2) rfl
          obtain ⟨l2, _⟩ := cell_row D14.out.box 2 (.string a) rfl
          obtain ⟨l3, _⟩ := cell_row D14.out.box 3 (.string b) rfl
          obtain ⟨l4, _⟩ := cell_row D14.out.box 4 (.int .i64 (1 + z)) rfl
          obtain ⟨l5, _⟩ := cell_row D14.out.box 5 (.int .i64 (1 + y)) rfl
          obtain ⟨l6, _⟩ := cell_row D14.out.box 6 (.string th) rfl
          obtain ⟨l7, _⟩ := cell_row D14.out.box 7 (.string el) rfl
          obtain ⟨r0, t0⟩ := cell_row D14.out.res 0 (.string ⟨#[]⟩) rfl
          obtain ⟨r1, t1⟩ := cell_row D14.out.res 1 (.int .i64 0) rfl
          obtain ⟨r2, t2⟩ := cell_row D14.out.res 2 (.string ⟨#[]⟩) rfl
          obtain ⟨r3, t3⟩ := cell_row D14.out.res 3 (.string ⟨#[]⟩) rfl
          obtain ⟨r4, t4⟩ := cell_row D14.out.res 4 (.int .i64 0) rfl
          obtain ⟨r5, t5⟩ := cell_row D14.out.res 5 (.int .i64 0) rfl
          obtain ⟨r6, t6⟩ := cell_row D14.out.res 6 (.string ⟨#[]⟩) rfl
          obtain ⟨r7, t7⟩ := cell_row D14.out.res 7 (.string ⟨#[]⟩) rfl
          have HF : Hid _ := ret8 D14.out.res (.string nm) (.int .i64 2) (.string a) (.string b) (.int .i64 (1 + z)) (.int .i64 (1 + y)) (.string th) (.string el)
          go_wp2_with fail
          have F := HF.out
          obtain ⟨FW, hF⟩ : ∃ u', u' = (((((((W14.setCell ⟨w.heap.size, 0, none⟩ (.string nm)).setCell ⟨w.heap.size, 1, none⟩ (.int .i64 2)).setCell ⟨w.heap.size, 2, none⟩ (.string a)).setCell ⟨w.heap.size, 3, none⟩ (.string b)).setCell ⟨w.heap.size, 4, none⟩ (.int .i64 (1 + z))).setCell ⟨w.heap.size, 5, none⟩ (.int .i64 (1 + y))).setCell ⟨w.heap.size, 6, none⟩ (.string th)).setCell ⟨w.heap.size, 7, none⟩ (.string el) := ⟨_, rfl⟩
          rw [← hF]
          rw [← hF] at F
          clear hF HF
          obtain ⟨F0, F1, F2⟩ := F
          have u0 := (cell_row F0 0 (.string nm) rfl).1
          have u1 := (cell_row F0 1 (.int .i64 2) rfl).1
          have u2 := (cell_row F0 2 (.string a) rfl).1
          have u3 := (cell_row F0 3 (.string b) rfl).1
          have u4 := (cell_row F0 4 (.int .i64 (1 + z)) rfl).1
          have u5 := (cell_row F0 5 (.int .i64 (1 + y)) rfl).1
          have u6 := (cell_row F0 6 (.string th) rfl).1
          have u7 := (cell_row F0 7 (.string el) rfl).1
          have rlt' := D14.out.rlt
          have hRd : Rd R FW ob n cb p14 f := D14.out.rd.but (fun b hb => F1 b (by omega))
          have hBt : But (fun q => q = R) w FW := ⟨F2.os.trans D14.out.but.os, F2.tape.trans D14.out.but.tape, F2.output.trans D14.out.but.output, Nat.le_trans D14.out.but.size F2.size, fun b h1 h2 => (F1 b (by omega)).trans (D14.out.but.block b h1 h2)⟩
          exact bodyPost_ret (v := .agg #[.string nm, .int .i64 2, .string a, .string b, .int .i64 (1 + z), .int .i64 (1 + y), .string th, .string el]) (by simp [results, Try.results69, go_sem, u0, u1, u2, u3, u4, u5, u6, u7]) rfl ⟨_, _, _, _, _, _, _, rfl, ⟨hnm, az, bz, thz, elz, ⟨by omega, by omega⟩, ⟨by omega, by omega⟩, ⟨by omega, by omega⟩⟩, p14, by omega, hRd, hBt⟩
    · obtain ⟨c3, f3⟩ := cell_row D6.out.box 3 (.string b) rfl
      obtain ⟨W7, E7⟩ : ∃ u, u = W6.setCell ⟨g, 3, none⟩ (.string ⟨#[118, 97, 116]⟩) := ⟨_, rfl⟩
      have HE7 : Hid (W7 = W6.setCell ⟨g, 3, none⟩ (.string ⟨#[118, 97, 116]⟩)) := E7
      have D7 : Hid (Dp R ob n cb f w g W7 p5 #[.string nm, .int .i64 2, .string a, .string ⟨#[118, 97, 116]⟩, .int .i64 0, .int .i64 (1 + y), .string ⟨#[]⟩, .string ⟨#[]⟩]) := by rw [E7]; exact D6.out.put 3 _ rfl
      clear E7
      go_upto_region 10 with fail
      rw [← HE7.out]
      clear HE7 D6 c3 f3
      have C : Hid _ := pick_rd R ob n cb f _ 30 W7 D7.out.rd (by omega) (by omega) (by omega)
      go_wp2_with fail
      refine Calls.mono C.out ?_
      clear C
      rintro e W8 ⟨z, rfl, z0, z1, p8, hp8, rd, bt⟩
      have D8 : Hid (Dp R ob n cb f w g W8 p8 #[.string nm, .int .i64 2, .string a, .string ⟨#[118, 97, 116]⟩, .int .i64 0, .int .i64 (1 + y), .string ⟨#[]⟩, .string ⟨#[]⟩]) := D7.out.call rd.out bt.out
      clear rd bt D7
      obtain ⟨c4, f4⟩ := cell_row D8.out.box 4 (.int .i64 0) rfl
      obtain ⟨W9, E9⟩ : ∃ u, u = W8.setCell ⟨g, 4, none⟩ (.int .i64 (1 + z)) := ⟨_, rfl⟩
      have HE9 : Hid (W9 = W8.setCell ⟨g, 4, none⟩ (.int .i64 (1 + z))) := E9
      have D9 : Hid (Dp R ob n cb f w g W9 p8 #[.string nm, .int .i64 2, .string a, .string ⟨#[118, 97, 116]⟩, .int .i64 (1 + z), .int .i64 (1 + y), .string ⟨#[]⟩, .string ⟨#[]⟩]) := by rw [E9]; exact D8.out.put 4 _ rfl
      clear E9
      go_upto_region 13 with fail
      rw [← HE9.out]
      clear HE9 D8 c4 f4
      have glt := D9.out.glt
      have lo := D9.out.lo
      have rlt0 := D9.out.rlt
      have BW : Hid (But (fun q => q = R) w W9) := D9.out.but
      have hat : AtL S W9 l (.slice ol nl cl) := HL.out.same (fun b hb => BW.out.block b (HS.out b hb).1 (HS.out b hb).2)
      have hsr : Hid (Src (W9.alloc (.cells #[.string ⟨#[103, 111, 111, 100]⟩, .string ⟨#[115, 97, 118, 101, 100]⟩, .string ⟨#[115, 99, 114, 97, 112, 112, 101, 100]⟩] 9)) (.slice ol nl cl) nl 1 (enc 1 eS l)) := by
        have := flatS.src (hat.same (fun b hb => Below.heap_alloc W9 (.cells #[.string ⟨#[103, 111, 111, 100]⟩, .string ⟨#[115, 97, 118, 101, 100]⟩, .string ⟨#[115, 99, 114, 97, 112, 112, 101, 100]⟩] 9) b (by have := (HS.out b hb).1; have := BW.out.size; omega)))
        rw [HN.out] at this; exact this
      have hr0 : Hid ((W9.alloc (.cells #[.string ⟨#[103, 111, 111, 100]⟩, .string ⟨#[115, 97, 118, 101, 100]⟩, .string ⟨#[115, 99, 114, 97, 112, 112, 101, 100]⟩] 9)).ownsRow W9.heap.size 9 1 (.slice (some ⟨W9.heap.size, 0, none⟩) 3 3) 3 (enc 1 eS ([⟨#[103, 111, 111, 100]⟩, ⟨#[115, 97, 118, 101, 100]⟩, ⟨#[115, 99, 114, 97, 112, 112, 101, 100]⟩] : List ByteArray))) := own_built (c := #[.string ⟨#[103, 111, 111, 100]⟩, .string ⟨#[115, 97, 118, 101, 100]⟩, .string ⟨#[115, 99, 114, 97, 112, 112, 101, 100]⟩]) (Nat.le_refl _) (by unfold maxLen; omega) rfl
      have HDA : Hid (Dp R ob n cb f w g (W9.alloc (.cells #[.string ⟨#[103, 111, 111, 100]⟩, .string ⟨#[115, 97, 118, 101, 100]⟩, .string ⟨#[115, 99, 114, 97, 112, 112, 101, 100]⟩] 9)) p8 #[.string nm, .int .i64 2, .string a, .string ⟨#[118, 97, 116]⟩, .int .i64 (1 + z), .int .i64 (1 + y), .string ⟨#[]⟩, .string ⟨#[]⟩]) := D9.out.alloc _
      clear hat BW
      go_wp2_with (at_builtin; refine wpList_app elS rfl _ _ rfl rfl rfl hr0.out hsr.out (flatS.enc_one _) (by unfold maxLen; omega) (by omega) (by simp) ?_; intro vE WE hown hgE hbk; obtain ⟨oE, kE, hvE⟩ : ∃ o k, vE = .slice o (3 + nl) k := (Row.form (l := ([⟨#[103, 111, 111, 100]⟩, ⟨#[115, 97, 118, 101, 100]⟩, ⟨#[115, 99, 114, 97, 112, 112, 101, 100]⟩] : List ByteArray) ++ l) (e := eS) (k := 1) (t := 9) (B := W9.heap.size) (w := WE) (by show World.ownsRow _ _ _ _ _ _ _; rw [List.length_append, enc_append, HN.out]; exact hown)).imp (fun o h => h.imp (fun c e => by rw [e, List.length_append, HN.out]; rfl)); subst hvE)
      have RE : Hid (Row WE W9.heap.size 9 1 eS (.slice oE (3 + nl) kE) (([⟨#[103, 111, 111, 100]⟩, ⟨#[115, 97, 118, 101, 100]⟩, ⟨#[115, 99, 114, 97, 112, 112, 101, 100]⟩] : List ByteArray) ++ l)) := by show World.ownsRow _ _ _ _ _ _ _; rw [List.length_append, enc_append, HN.out]; exact hown
      have WNEW_ : ∃ u, u = WE := ⟨_, rfl⟩
      obtain ⟨W10, hW10⟩ := WNEW_
      have D10 : Hid (Dp R ob n cb f w g WE p8 #[.string nm, .int .i64 2, .string a, .string ⟨#[118, 97, 116]⟩, .int .i64 (1 + z), .int .i64 (1 + y), .string ⟨#[]⟩, .string ⟨#[]⟩]) := HDA.out.grow hgE (fun q hq => by cases hq; omega)
      subst hW10
      have sE : W9.heap.size < W10.heap.size := by have := hgE.size; simp at this; omega
      clear hown hgE hbk hsr hr0 HDA D9
      have EZ : Hid (∀ s ∈ ([⟨#[103, 111, 111, 100]⟩, ⟨#[115, 97, 118, 101, 100]⟩, ⟨#[115, 99, 114, 97, 112, 112, 101, 100]⟩] : List ByteArray) ++ l, s.size ≤ 16) := fun s hs => by
        rcases List.mem_append.1 hs with h | h
        · exact (fun s hs => by simp only [List.mem_cons, List.not_mem_nil, or_false] at hs; rcases hs with rfl | rfl | rfl <;> decide : ∀ s ∈ ([⟨#[103, 111, 111, 100]⟩, ⟨#[115, 97, 118, 101, 100]⟩, ⟨#[115, 99, 114, 97, 112, 112, 101, 100]⟩] : List ByteArray), s.size ≤ 16) s h
        · exact HZ.out s h
      have EN : Hid (1 ≤ (([⟨#[103, 111, 111, 100]⟩, ⟨#[115, 97, 118, 101, 100]⟩, ⟨#[115, 99, 114, 97, 112, 112, 101, 100]⟩] : List ByteArray) ++ l).length ∧ (([⟨#[103, 111, 111, 100]⟩, ⟨#[115, 97, 118, 101, 100]⟩, ⟨#[115, 99, 114, 97, 112, 112, 101, 100]⟩] : List ByteArray) ++ l).length ≤ 1000) := by show _ ∧ _; rw [List.length_append, HN.out]; simp; omega
      have SE : ∀ q, (Value.slice oE (3 + nl) kE).ownBlock = some q → W9.heap.size ≤ q ∧ q < W10.heap.size := fun q hq => World.ownsRow.lt RE.out q hq
      have C : Hid _ := of_rd R ob n cb f _ (fun q => W9.heap.size ≤ q ∧ q < W10.heap.size) (([⟨#[103, 111, 111, 100]⟩, ⟨#[115, 97, 118, 101, 100]⟩, ⟨#[115, 99, 114, 97, 112, 112, 101, 100]⟩] : List ByteArray) ++ l) _ W10 D10.out.rd (by omega) (flatS.row_at RE.out SE (fun s hs => Nat.le_trans (EZ.out s hs) (by decide))) (fun q hq => ⟨hq.2, by omega⟩) EN.out.1 EN.out.2
      go_wp2_with fail
      refine Calls.mono C.out ?_
      clear C
      rintro e W11 ⟨th, hs, rfl, p11, hp11, rd, bt⟩
      have D11 : Hid (Dp R ob n cb f w g W11 p11 #[.string nm, .int .i64 2, .string a, .string ⟨#[118, 97, 116]⟩, .int .i64 (1 + z), .int .i64 (1 + y), .string ⟨#[]⟩, .string ⟨#[]⟩]) := D10.out.call rd.out bt.out
      have thz := EZ.out th hs
      have RE2 : Hid (Row W11 W9.heap.size 9 1 eS (.slice oE (3 + nl) kE) (([⟨#[103, 111, 111, 100]⟩, ⟨#[115, 97, 118, 101, 100]⟩, ⟨#[115, 99, 114, 97, 112, 112, 101, 100]⟩] : List ByteArray) ++ l)) := Row.block RE.out (fun q hq => bt.out.block q (SE q hq).2 (by have := (SE q hq).1; omega))
      clear hs SE RE rd bt D10
      obtain ⟨c6, f6⟩ := cell_row D11.out.box 6 (.string ⟨#[]⟩) rfl
      obtain ⟨W12, E12⟩ : ∃ u, u = W11.setCell ⟨g, 6, none⟩ (.string th) := ⟨_, rfl⟩
      have HE12 : Hid (W12 = W11.setCell ⟨g, 6, none⟩ (.string th)) := E12
      have D12 : Hid (Dp R ob n cb f w g W12 p11 #[.string nm, .int .i64 2, .string a, .string ⟨#[118, 97, 116]⟩, .int .i64 (1 + z), .int .i64 (1 + y), .string th, .string ⟨#[]⟩]) := by rw [E12]; exact D11.out.put 6 _ rfl
      clear E12
      have RE : Hid (Row W12 W9.heap.size 9 1 eS (.slice oE (3 + nl) kE) (([⟨#[103, 111, 111, 100]⟩, ⟨#[115, 97, 118, 101, 100]⟩, ⟨#[115, 99, 114, 97, 112, 112, 101, 100]⟩] : List ByteArray) ++ l)) := by
        rw [HE12.out]
        exact Row.block RE2.out (fun q hq => Below.heap_setCell _ _ _ _ (by have := (World.ownsRow.lt RE2.out q hq).1; show q ≠ g; omega))
      clear RE2
      go_upto_region 15 with fail
      rw [← HE12.out]
      clear HE12 D11 c6 f6
      have SE : ∀ q, (Value.slice oE (3 + nl) kE).ownBlock = some q → W9.heap.size ≤ q ∧ q < W12.heap.size := fun q hq => World.ownsRow.lt RE.out q hq
      have C : Hid _ := of_rd R ob n cb f _ (fun q => W9.heap.size ≤ q ∧ q < W12.heap.size) (([⟨#[103, 111, 111, 100]⟩, ⟨#[115, 97, 118, 101, 100]⟩, ⟨#[115, 99, 114, 97, 112, 112, 101, 100]⟩] : List ByteArray) ++ l) _ W12 D12.out.rd (by omega) (flatS.row_at RE.out SE (fun s hs => Nat.le_trans (EZ.out s hs) (by decide))) (fun q hq => ⟨hq.2, by omega⟩) EN.out.1 EN.out.2
      go_wp2_with fail
      refine Calls.mono C.out ?_
      clear C
      rintro e W13 ⟨el, hs, rfl, p13, hp13, rd, bt⟩
      have D13 : Hid (Dp R ob n cb f w g W13 p13 #[.string nm, .int .i64 2, .string a, .string ⟨#[118, 97, 116]⟩, .int .i64 (1 + z), .int .i64 (1 + y), .string th, .string ⟨#[]⟩]) := D12.out.call rd.out bt.out
      have elz := EZ.out el hs
      have RE2 : Hid (Row W13 W9.heap.size 9 1 eS (.slice oE (3 + nl) kE) (([⟨#[103, 111, 111, 100]⟩, ⟨#[115, 97, 118, 101, 100]⟩, ⟨#[115, 99, 114, 97, 112, 112, 101, 100]⟩] : List ByteArray) ++ l)) := Row.block RE.out (fun q hq => bt.out.block q (SE q hq).2 (by have := (SE q hq).1; omega))
      clear hs SE RE rd bt D12
      obtain ⟨c7, f7⟩ := cell_row D13.out.box 7 (.string ⟨#[]⟩) rfl
      obtain ⟨W14, E14⟩ : ∃ u, u = W13.setCell ⟨g, 7, none⟩ (.string el) := ⟨_, rfl⟩
      have HE14 : Hid (W14 = W13.setCell ⟨g, 7, none⟩ (.string el)) := E14
      have D14 : Hid (Dp R ob n cb f w g W14 p13 #[.string nm, .int .i64 2, .string a, .string ⟨#[118, 97, 116]⟩, .int .i64 (1 + z), .int .i64 (1 + y), .string th, .string el]) := by rw [E14]; exact D13.out.put 7 _ rfl
      clear E14
      have RE : Hid (Row W14 W9.heap.size 9 1 eS (.slice oE (3 + nl) kE) (([⟨#[103, 111, 111, 100]⟩, ⟨#[115, 97, 118, 101, 100]⟩, ⟨#[115, 99, 114, 97, 112, 112, 101, 100]⟩] : List ByteArray) ++ l)) := by
        rw [HE14.out]
        exact Row.block RE2.out (fun q hq => Below.heap_setCell _ _ _ _ (by have := (World.ownsRow.lt RE2.out q hq).1; show q ≠ g; omega))
      clear RE2
      go_upto_region 16 with fail
      rw [← HE14.out]
      clear HE14 D13 c7 f7
      clear RE EZ EN sE
      by_cases h0 : nl = 0
      · subst h0
        obtain ⟨l0, _⟩ := cell_row D14.out.box 0 (.string nm) rfl
        obtain ⟨l1, _⟩ := cell_row D14.out.box 1 (.int .i64 2) rfl
        obtain ⟨l2, _⟩ := cell_row D14.out.box 2 (.string a) rfl
        obtain ⟨l3, _⟩ := cell_row D14.out.box 3 (.string ⟨#[118, 97, 116]⟩) rfl
        obtain ⟨l4, _⟩ := cell_row D14.out.box 4 (.int .i64 (1 + z)) rfl
        obtain ⟨l5, _⟩ := cell_row D14.out.box 5 (.int .i64 (1 + y)) rfl
        obtain ⟨l6, _⟩ := cell_row D14.out.box 6 (.string th) rfl
        obtain ⟨l7, _⟩ := cell_row D14.out.box 7 (.string el) rfl
        obtain ⟨r0, t0⟩ := cell_row D14.out.res 0 (.string ⟨#[]⟩) rfl
        obtain ⟨r1, t1⟩ := cell_row D14.out.res 1 (.int .i64 0) rfl
        obtain ⟨r2, t2⟩ := cell_row D14.out.res 2 (.string ⟨#[]⟩) rfl
        obtain ⟨r3, t3⟩ := cell_row D14.out.res 3 (.string ⟨#[]⟩) rfl
        obtain ⟨r4, t4⟩ := cell_row D14.out.res 4 (.int .i64 0) rfl
        obtain ⟨r5, t5⟩ := cell_row D14.out.res 5 (.int .i64 0) rfl
        obtain ⟨r6, t6⟩ := cell_row D14.out.res 6 (.string ⟨#[]⟩) rfl
        obtain ⟨r7, t7⟩ := cell_row D14.out.res 7 (.string ⟨#[]⟩) rfl
        have HF : Hid _ := ret8 D14.out.res (.string nm) (.int .i64 2) (.string a) (.string ⟨#[118, 97, 116]⟩) (.int .i64 (1 + z)) (.int .i64 (1 + y)) (.string th) (.string el)
        go_wp2_with fail
        have F := HF.out
        obtain ⟨FW, hF⟩ : ∃ u', u' = (((((((W14.setCell ⟨w.heap.size, 0, none⟩ (.string nm)).setCell ⟨w.heap.size, 1, none⟩ (.int .i64 2)).setCell ⟨w.heap.size, 2, none⟩ (.string a)).setCell ⟨w.heap.size, 3, none⟩ (.string ⟨#[118, 97, 116]⟩)).setCell ⟨w.heap.size, 4, none⟩ (.int .i64 (1 + z))).setCell ⟨w.heap.size, 5, none⟩ (.int .i64 (1 + y))).setCell ⟨w.heap.size, 6, none⟩ (.string th)).setCell ⟨w.heap.size, 7, none⟩ (.string el) := ⟨_, rfl⟩
        rw [← hF]
        rw [← hF] at F
        clear hF HF
        obtain ⟨F0, F1, F2⟩ := F
        have u0 := (cell_row F0 0 (.string nm) rfl).1
        have u1 := (cell_row F0 1 (.int .i64 2) rfl).1
        have u2 := (cell_row F0 2 (.string a) rfl).1
        have u3 := (cell_row F0 3 (.string ⟨#[118, 97, 116]⟩) rfl).1
        have u4 := (cell_row F0 4 (.int .i64 (1 + z)) rfl).1
        have u5 := (cell_row F0 5 (.int .i64 (1 + y)) rfl).1
        have u6 := (cell_row F0 6 (.string th) rfl).1
        have u7 := (cell_row F0 7 (.string el) rfl).1
        have rlt' := D14.out.rlt
        have hRd : Rd R FW ob n cb p13 f := D14.out.rd.but (fun b hb => F1 b (by omega))
        have hBt : But (fun q => q = R) w FW := ⟨F2.os.trans D14.out.but.os, F2.tape.trans D14.out.but.tape, F2.output.trans D14.out.but.output, Nat.le_trans D14.out.but.size F2.size, fun b h1 h2 => (F1 b (by omega)).trans (D14.out.but.block b h1 h2)⟩
        exact bodyPost_ret (v := .agg #[.string nm, .int .i64 2, .string a, .string ⟨#[118, 97, 116]⟩, .int .i64 (1 + z), .int .i64 (1 + y), .string th, .string el]) (by simp [results, Try.results69, go_sem, u0, u1, u2, u3, u4, u5, u6, u7]) rfl ⟨_, _, _, _, _, _, _, rfl, ⟨hnm, az, by decide, thz, elz, ⟨by omega, by omega⟩, ⟨by omega, by omega⟩, ⟨by omega, by omega⟩⟩, p13, by omega, hRd, hBt⟩
      · have d0 : (0 : Int) < (nl : Int) := by omega
        have C : Hid _ := pick_rd R ob n cb f _ 4 W14 D14.out.rd (by omega) (by omega) (by omega)
        go_wp2_with fail
        refine Calls.mono C.out ?_
        clear C
        rintro e W15 ⟨v, rfl, v0, v1, p15, hp15, rd, bt⟩
        have D15 : Hid (Dp R ob n cb f w g W15 p15 #[.string nm, .int .i64 2, .string a, .string ⟨#[118, 97, 116]⟩, .int .i64 (1 + z), .int .i64 (1 + y), .string th, .string el]) := D14.out.call rd.out bt.out
        clear rd bt D14
        by_cases v0 : 0 < v
        · obtain ⟨b0, off0, fs, hol, e0, fsz⟩ : ∃ b0 off0 fs, ol = some ⟨b0, off0, none⟩ ∧ W15.cell? ⟨b0, off0, none⟩ = some (.string fs) ∧ fs.size ≤ 16 := by
            obtain ⟨oa, c, e, hn, hc⟩ := HL.out
            injection e with e1 e2 e3
            obtain ⟨b0, off0, h1, h2, cc, h3, h4⟩ := hc 0 (by have := HN.out; omega)
            have e0 := h3 0 (by decide)
            rw [h4.1, Nat.zero_mul, Nat.add_zero] at e0
            exact ⟨b0, off0, _, e1.trans h1, (World.cell?_of_block (w := w) (a := ⟨b0, off0, none⟩) (D15.out.but.block b0 (HS.out b0 h2).1 (HS.out b0 h2).2)).trans e0, HZ.out _ (List.getElem_mem (by have := HN.out; omega))⟩
          subst hol
          obtain ⟨c6, f6⟩ := cell_row D15.out.box 6 (.string th) rfl
          obtain ⟨W16, E16⟩ : ∃ u, u = W15.setCell ⟨g, 6, none⟩ (.string fs) := ⟨_, rfl⟩
          have HE16 : Hid (W16 = W15.setCell ⟨g, 6, none⟩ (.string fs)) := E16
          have D16 : Hid (Dp R ob n cb f w g W16 p15 #[.string nm, .int .i64 2, .string a, .string ⟨#[118, 97, 116]⟩, .int .i64 (1 + z), .int .i64 (1 + y), .string fs, .string el]) := by rw [E16]; exact D15.out.put 6 _ rfl
          clear E16
          go_upto_region 18 with fail
          rw [← HE16.out]
          clear HE16 D15 c6 f6
          obtain ⟨l0, _⟩ := cell_row D16.out.box 0 (.string nm) rfl
          obtain ⟨l1, _⟩ := cell_row D16.out.box 1 (.int .i64 2) rfl
          obtain ⟨l2, _⟩ := cell_row D16.out.box 2 (.string a) rfl
          obtain ⟨l3, _⟩ := cell_row D16.out.box 3 (.string ⟨#[118, 97, 116]⟩) rfl
          obtain ⟨l4, _⟩ := cell_row D16.out.box 4 (.int .i64 (1 + z)) rfl
          obtain ⟨l5, _⟩ := cell_row D16.out.box 5 (.int .i64 (1 + y)) rfl
          obtain ⟨l6, _⟩ := cell_row D16.out.box 6 (.string fs) rfl
          obtain ⟨l7, _⟩ := cell_row D16.out.box 7 (.string el) rfl
          obtain ⟨r0, t0⟩ := cell_row D16.out.res 0 (.string ⟨#[]⟩) rfl
          obtain ⟨r1, t1⟩ := cell_row D16.out.res 1 (.int .i64 0) rfl
          obtain ⟨r2, t2⟩ := cell_row D16.out.res 2 (.string ⟨#[]⟩) rfl
          obtain ⟨r3, t3⟩ := cell_row D16.out.res 3 (.string ⟨#[]⟩) rfl
          obtain ⟨r4, t4⟩ := cell_row D16.out.res 4 (.int .i64 0) rfl
          obtain ⟨r5, t5⟩ := cell_row D16.out.res 5 (.int .i64 0) rfl
          obtain ⟨r6, t6⟩ := cell_row D16.out.res 6 (.string ⟨#[]⟩) rfl
          obtain ⟨r7, t7⟩ := cell_row D16.out.res 7 (.string ⟨#[]⟩) rfl
          have HF : Hid _ := ret8 D16.out.res (.string nm) (.int .i64 2) (.string a) (.string ⟨#[118, 97, 116]⟩) (.int .i64 (1 + z)) (.int .i64 (1 + y)) (.string fs) (.string el)
          go_wp2_with fail
          have F := HF.out
          obtain ⟨FW, hF⟩ : ∃ u', u' = (((((((W16.setCell ⟨w.heap.size, 0, none⟩ (.string nm)).setCell ⟨w.heap.size, 1, none⟩ (.int .i64 2)).setCell ⟨w.heap.size, 2, none⟩ (.string a)).setCell ⟨w.heap.size, 3, none⟩ (.string ⟨#[118, 97, 116]⟩)).setCell ⟨w.heap.size, 4, none⟩ (.int .i64 (1 + z))).setCell ⟨w.heap.size, 5, none⟩ (.int .i64 (1 + y))).setCell ⟨w.heap.size, 6, none⟩ (.string fs)).setCell ⟨w.heap.size, 7, none⟩ (.string el) := ⟨_, rfl⟩
          rw [← hF]
          rw [← hF] at F
          clear hF HF
          obtain ⟨F0, F1, F2⟩ := F
          have u0 := (cell_row F0 0 (.string nm) rfl).1
          have u1 := (cell_row F0 1 (.int .i64 2) rfl).1
          have u2 := (cell_row F0 2 (.string a) rfl).1
          have u3 := (cell_row F0 3 (.string ⟨#[118, 97, 116]⟩) rfl).1
          have u4 := (cell_row F0 4 (.int .i64 (1 + z)) rfl).1
          have u5 := (cell_row F0 5 (.int .i64 (1 + y)) rfl).1
          have u6 := (cell_row F0 6 (.string fs) rfl).1
          have u7 := (cell_row F0 7 (.string el) rfl).1
          have rlt' := D16.out.rlt
          have hRd : Rd R FW ob n cb p15 f := D16.out.rd.but (fun b hb => F1 b (by omega))
          have hBt : But (fun q => q = R) w FW := ⟨F2.os.trans D16.out.but.os, F2.tape.trans D16.out.but.tape, F2.output.trans D16.out.but.output, Nat.le_trans D16.out.but.size F2.size, fun b h1 h2 => (F1 b (by omega)).trans (D16.out.but.block b h1 h2)⟩
          exact bodyPost_ret (v := .agg #[.string nm, .int .i64 2, .string a, .string ⟨#[118, 97, 116]⟩, .int .i64 (1 + z), .int .i64 (1 + y), .string fs, .string el]) (by simp [results, Try.results69, go_sem, u0, u1, u2, u3, u4, u5, u6, u7]) rfl ⟨_, _, _, _, _, _, _, rfl, ⟨hnm, az, by decide, fsz, elz, ⟨by omega, by omega⟩, ⟨by omega, by omega⟩, ⟨by omega, by omega⟩⟩, p15, by omega, hRd, hBt⟩
        · have v00 : v = 0 := by omega
          subst v00
          obtain ⟨l0, _⟩ := cell_row D15.out.box 0 (.string nm) rfl
          obtain ⟨l1, _⟩ := cell_row D15.out.box 1 (.int .i64 2) rfl
          obtain ⟨l2, _⟩ := cell_row D15.out.box 2 (.string a) rfl
          obtain ⟨l3, _⟩ := cell_row D15.out.box 3 (.string ⟨#[118, 97, 116]⟩) rfl
          obtain ⟨l4, _⟩ := cell_row D15.out.box 4 (.int .i64 (1 + z)) rfl
          obtain ⟨l5, _⟩ := cell_row D15.out.box 5 (.int .i64 (1 + y)) rfl
          obtain ⟨l6, _⟩ := cell_row D15.out.box 6 (.string th) rfl
          obtain ⟨l7, _⟩ := cell_row D15.out.box 7 (.string el) rfl
          obtain ⟨r0, t0⟩ := cell_row D15.out.res 0 (.string ⟨#[]⟩) rfl
          obtain ⟨r1, t1⟩ := cell_row D15.out.res 1 (.int .i64 0) rfl
          obtain ⟨r2, t2⟩ := cell_row D15.out.res 2 (.string ⟨#[]⟩) rfl
          obtain ⟨r3, t3⟩ := cell_row D15.out.res 3 (.string ⟨#[]⟩) rfl
          obtain ⟨r4, t4⟩ := cell_row D15.out.res 4 (.int .i64 0) rfl
          obtain ⟨r5, t5⟩ := cell_row D15.out.res 5 (.int .i64 0) rfl
          obtain ⟨r6, t6⟩ := cell_row D15.out.res 6 (.string ⟨#[]⟩) rfl
          obtain ⟨r7, t7⟩ := cell_row D15.out.res 7 (.string ⟨#[]⟩) rfl
          have HF : Hid _ := ret8 D15.out.res (.string nm) (.int .i64 2) (.string a) (.string ⟨#[118, 97, 116]⟩) (.int .i64 (1 + z)) (.int .i64 (1 + y)) (.string th) (.string el)
          go_wp2_with fail
          have F := HF.out
          obtain ⟨FW, hF⟩ : ∃ u', u' = (((((((W15.setCell ⟨w.heap.size, 0, none⟩ (.string nm)).setCell ⟨w.heap.size, 1, none⟩ (.int .i64 2)).setCell ⟨w.heap.size, 2, none⟩ (.string a)).setCell ⟨w.heap.size, 3, none⟩ (.string ⟨#[118, 97, 116]⟩)).setCell ⟨w.heap.size, 4, none⟩ (.int .i64 (1 + z))).setCell ⟨w.heap.size, 5, none⟩ (.int .i64 (1 + y))).setCell ⟨w.heap.size, 6, none⟩ (.string th)).setCell ⟨w.heap.size, 7, none⟩ (.string el) := ⟨_, rfl⟩
          rw [← hF]
          rw [← hF] at F
          clear hF HF
          obtain ⟨F0, F1, F2⟩ := F
          have u0 := (cell_row F0 0 (.string nm) rfl).1
          have u1 := (cell_row F0 1 (.int .i64 2) rfl).1
          have u2 := (cell_row F0 2 (.string a) rfl).1
          have u3 := (cell_row F0 3 (.string ⟨#[118, 97, 116]⟩) rfl).1
          have u4 := (cell_row F0 4 (.int .i64 (1 + z)) rfl).1
          have u5 := (cell_row F0 5 (.int .i64 (1 + y)) rfl).1
          have u6 := (cell_row F0 6 (.string th) rfl).1
          have u7 := (cell_row F0 7 (.string el) rfl).1
          have rlt' := D15.out.rlt
          have hRd : Rd R FW ob n cb p15 f := D15.out.rd.but (fun b hb => F1 b (by omega))
          have hBt : But (fun q => q = R) w FW := ⟨F2.os.trans D15.out.but.os, F2.tape.trans D15.out.but.tape, F2.output.trans D15.out.but.output, Nat.le_trans D15.out.but.size F2.size, fun b h1 h2 => (F1 b (by omega)).trans (D15.out.but.block b h1 h2)⟩
          exact bodyPost_ret (v := .agg #[.string nm, .int .i64 2, .string a, .string ⟨#[118, 97, 116]⟩, .int .i64 (1 + z), .int .i64 (1 + y), .string th, .string el]) (by simp [results, Try.results69, go_sem, u0, u1, u2, u3, u4, u5, u6, u7]) rfl ⟨_, _, _, _, _, _, _, rfl, ⟨hnm, az, by decide, thz, elz, ⟨by omega, by omega⟩, ⟨by omega, by omega⟩, ⟨by omega, by omega⟩⟩, p15, by omega, hRd, hBt⟩
  · obtain ⟨g, hg⟩ : ∃ g, g = W3.heap.size := ⟨_, rfl⟩
    obtain ⟨W4, hW4⟩ : ∃ u, u = W3.alloc (.cells #[.string nm, .int .i64 3, .string a, .string ⟨#[]⟩, .int .i64 0, .int .i64 (1 + y), .string ⟨#[]⟩, .string ⟨#[]⟩] 37) := ⟨_, rfl⟩
    have HE4 : Hid (W4 = W3.alloc (.cells #[.string nm, .int .i64 3, .string a, .string ⟨#[]⟩, .int .i64 0, .int .i64 (1 + y), .string ⟨#[]⟩, .string ⟨#[]⟩] 37)) := hW4
    have D4 : Hid (Dp R ob n cb f w g W4 p4 #[.string nm, .int .i64 3, .string a, .string ⟨#[]⟩, .int .i64 0, .int .i64 (1 + y), .string ⟨#[]⟩, .string ⟨#[]⟩]) := by
      rw [hW4, hg]
      exact ⟨rd3.out.but (fun b hb => Below.heap_alloc W3 _ b (by omega)), (but_alloc (But.refl _ w) _).trans (but_alloc B3.out _), heap_alloc_new W3 _, alloc_upD _ RE3.out, by omega, rlt⟩
    have HG : Hid (g = W3.heap.size) := hg
    clear hW4 hg
    go_upto_region 2 with fail
    rw [← HE4.out, ← HG.out]
    clear HE4 HG B3 RE3 rd3
    obtain ⟨c1, f1⟩ := cell_row D4.out.box 1 (.int .i64 3) rfl
    obtain ⟨c5, f5⟩ := cell_row D4.out.box 5 (.int .i64 (1 + y)) rfl
    have C : Hid _ := pick_rd R ob n cb f _ (1 + y) W4 D4.out.rd (by omega) (by omega) (by omega)
    go_wp2_with fail
    refine Calls.mono C.out ?_
    clear C
    rintro e W5 ⟨z, rfl, z0, z1, p5, hp5, rd, bt⟩
    have D5 : Hid (Dp R ob n cb f w g W5 p5 #[.string nm, .int .i64 3, .string a, .string ⟨#[]⟩, .int .i64 0, .int .i64 (1 + y), .string ⟨#[]⟩, .string ⟨#[]⟩]) := D4.out.call rd.out bt.out
    clear rd bt D4
    obtain ⟨c4, f4⟩ := cell_row D5.out.box 4 (.int .i64 0) rfl
    obtain ⟨W6, E6⟩ : ∃ u, u = W5.setCell ⟨g, 4, none⟩ (.int .i64 (1 + z)) := ⟨_, rfl⟩
    have HE6 : Hid (W6 = W5.setCell ⟨g, 4, none⟩ (.int .i64 (1 + z))) := E6
    have D6 : Hid (Dp R ob n cb f w g W6 p5 #[.string nm, .int .i64 3, .string a, .string ⟨#[]⟩, .int .i64 (1 + z), .int .i64 (1 + y), .string ⟨#[]⟩, .string ⟨#[]⟩]) := by rw [E6]; exact D5.out.put 4 _ rfl
    clear E6
    go_upto_region 13 with fail
    rw [← HE6.out]
    clear HE6 D5 c4 f4
    have glt := D6.out.glt
    have lo := D6.out.lo
    have rlt0 := D6.out.rlt
    have BW : Hid (But (fun q => q = R) w W6) := D6.out.but
    have hat : AtL S W6 l (.slice ol nl cl) := HL.out.same (fun b hb => BW.out.block b (HS.out b hb).1 (HS.out b hb).2)
    have hsr : Hid (Src (W6.alloc (.cells #[.string ⟨#[103, 111, 111, 100]⟩, .string ⟨#[115, 97, 118, 101, 100]⟩, .string ⟨#[115, 99, 114, 97, 112, 112, 101, 100]⟩] 9)) (.slice ol nl cl) nl 1 (enc 1 eS l)) := by
      have := flatS.src (hat.same (fun b hb => Below.heap_alloc W6 (.cells #[.string ⟨#[103, 111, 111, 100]⟩, .string ⟨#[115, 97, 118, 101, 100]⟩, .string ⟨#[115, 99, 114, 97, 112, 112, 101, 100]⟩] 9) b (by have := (HS.out b hb).1; have := BW.out.size; omega)))
      rw [HN.out] at this; exact this
    have hr0 : Hid ((W6.alloc (.cells #[.string ⟨#[103, 111, 111, 100]⟩, .string ⟨#[115, 97, 118, 101, 100]⟩, .string ⟨#[115, 99, 114, 97, 112, 112, 101, 100]⟩] 9)).ownsRow W6.heap.size 9 1 (.slice (some ⟨W6.heap.size, 0, none⟩) 3 3) 3 (enc 1 eS ([⟨#[103, 111, 111, 100]⟩, ⟨#[115, 97, 118, 101, 100]⟩, ⟨#[115, 99, 114, 97, 112, 112, 101, 100]⟩] : List ByteArray))) := own_built (c := #[.string ⟨#[103, 111, 111, 100]⟩, .string ⟨#[115, 97, 118, 101, 100]⟩, .string ⟨#[115, 99, 114, 97, 112, 112, 101, 100]⟩]) (Nat.le_refl _) (by unfold maxLen; omega) rfl
    have HDA : Hid (Dp R ob n cb f w g (W6.alloc (.cells #[.string ⟨#[103, 111, 111, 100]⟩, .string ⟨#[115, 97, 118, 101, 100]⟩, .string ⟨#[115, 99, 114, 97, 112, 112, 101, 100]⟩] 9)) p5 #[.string nm, .int .i64 3, .string a, .string ⟨#[]⟩, .int .i64 (1 + z), .int .i64 (1 + y), .string ⟨#[]⟩, .string ⟨#[]⟩]) := D6.out.alloc _
    clear hat BW
    go_wp2_with (at_builtin; refine wpList_app elS rfl _ _ rfl rfl rfl hr0.out hsr.out (flatS.enc_one _) (by unfold maxLen; omega) (by omega) (by simp) ?_; intro vE WE hown hgE hbk; obtain ⟨oE, kE, hvE⟩ : ∃ o k, vE = .slice o (3 + nl) k := (Row.form (l := ([⟨#[103, 111, 111, 100]⟩, ⟨#[115, 97, 118, 101, 100]⟩, ⟨#[115, 99, 114, 97, 112, 112, 101, 100]⟩] : List ByteArray) ++ l) (e := eS) (k := 1) (t := 9) (B := W6.heap.size) (w := WE) (by show World.ownsRow _ _ _ _ _ _ _; rw [List.length_append, enc_append, HN.out]; exact hown)).imp (fun o h => h.imp (fun c e => by rw [e, List.length_append, HN.out]; rfl)); subst hvE)
    have RE : Hid (Row WE W6.heap.size 9 1 eS (.slice oE (3 + nl) kE) (([⟨#[103, 111, 111, 100]⟩, ⟨#[115, 97, 118, 101, 100]⟩, ⟨#[115, 99, 114, 97, 112, 112, 101, 100]⟩] : List ByteArray) ++ l)) := by show World.ownsRow _ _ _ _ _ _ _; rw [List.length_append, enc_append, HN.out]; exact hown
    have WNEW_ : ∃ u, u = WE := ⟨_, rfl⟩
    obtain ⟨W7, hW7⟩ := WNEW_
    have D7 : Hid (Dp R ob n cb f w g WE p5 #[.string nm, .int .i64 3, .string a, .string ⟨#[]⟩, .int .i64 (1 + z), .int .i64 (1 + y), .string ⟨#[]⟩, .string ⟨#[]⟩]) := HDA.out.grow hgE (fun q hq => by cases hq; omega)
    subst hW7
    have sE : W6.heap.size < W7.heap.size := by have := hgE.size; simp at this; omega
    clear hown hgE hbk hsr hr0 HDA D6
    have EZ : Hid (∀ s ∈ ([⟨#[103, 111, 111, 100]⟩, ⟨#[115, 97, 118, 101, 100]⟩, ⟨#[115, 99, 114, 97, 112, 112, 101, 100]⟩] : List ByteArray) ++ l, s.size ≤ 16) := fun s hs => by
      rcases List.mem_append.1 hs with h | h
      · exact (fun s hs => by simp only [List.mem_cons, List.not_mem_nil, or_false] at hs; rcases hs with rfl | rfl | rfl <;> decide : ∀ s ∈ ([⟨#[103, 111, 111, 100]⟩, ⟨#[115, 97, 118, 101, 100]⟩, ⟨#[115, 99, 114, 97, 112, 112, 101, 100]⟩] : List ByteArray), s.size ≤ 16) s h
      · exact HZ.out s h
    have EN : Hid (1 ≤ (([⟨#[103, 111, 111, 100]⟩, ⟨#[115, 97, 118, 101, 100]⟩, ⟨#[115, 99, 114, 97, 112, 112, 101, 100]⟩] : List ByteArray) ++ l).length ∧ (([⟨#[103, 111, 111, 100]⟩, ⟨#[115, 97, 118, 101, 100]⟩, ⟨#[115, 99, 114, 97, 112, 112, 101, 100]⟩] : List ByteArray) ++ l).length ≤ 1000) := by show _ ∧ _; rw [List.length_append, HN.out]; simp; omega
    have SE : ∀ q, (Value.slice oE (3 + nl) kE).ownBlock = some q → W6.heap.size ≤ q ∧ q < W7.heap.size := fun q hq => World.ownsRow.lt RE.out q hq
    have C : Hid _ := of_rd R ob n cb f _ (fun q => W6.heap.size ≤ q ∧ q < W7.heap.size) (([⟨#[103, 111, 111, 100]⟩, ⟨#[115, 97, 118, 101, 100]⟩, ⟨#[115, 99, 114, 97, 112, 112, 101, 100]⟩] : List ByteArray) ++ l) _ W7 D7.out.rd (by omega) (flatS.row_at RE.out SE (fun s hs => Nat.le_trans (EZ.out s hs) (by decide))) (fun q hq => ⟨hq.2, by omega⟩) EN.out.1 EN.out.2
    go_wp2_with fail
    refine Calls.mono C.out ?_
    clear C
    rintro e W8 ⟨th, hs, rfl, p8, hp8, rd, bt⟩
    have D8 : Hid (Dp R ob n cb f w g W8 p8 #[.string nm, .int .i64 3, .string a, .string ⟨#[]⟩, .int .i64 (1 + z), .int .i64 (1 + y), .string ⟨#[]⟩, .string ⟨#[]⟩]) := D7.out.call rd.out bt.out
    have thz := EZ.out th hs
    have RE2 : Hid (Row W8 W6.heap.size 9 1 eS (.slice oE (3 + nl) kE) (([⟨#[103, 111, 111, 100]⟩, ⟨#[115, 97, 118, 101, 100]⟩, ⟨#[115, 99, 114, 97, 112, 112, 101, 100]⟩] : List ByteArray) ++ l)) := Row.block RE.out (fun q hq => bt.out.block q (SE q hq).2 (by have := (SE q hq).1; omega))
    clear hs SE RE rd bt D7
    obtain ⟨c6, f6⟩ := cell_row D8.out.box 6 (.string ⟨#[]⟩) rfl
    obtain ⟨W9, E9⟩ : ∃ u, u = W8.setCell ⟨g, 6, none⟩ (.string th) := ⟨_, rfl⟩
    have HE9 : Hid (W9 = W8.setCell ⟨g, 6, none⟩ (.string th)) := E9
    have D9 : Hid (Dp R ob n cb f w g W9 p8 #[.string nm, .int .i64 3, .string a, .string ⟨#[]⟩, .int .i64 (1 + z), .int .i64 (1 + y), .string th, .string ⟨#[]⟩]) := by rw [E9]; exact D8.out.put 6 _ rfl
    clear E9
    have RE : Hid (Row W9 W6.heap.size 9 1 eS (.slice oE (3 + nl) kE) (([⟨#[103, 111, 111, 100]⟩, ⟨#[115, 97, 118, 101, 100]⟩, ⟨#[115, 99, 114, 97, 112, 112, 101, 100]⟩] : List ByteArray) ++ l)) := by
      rw [HE9.out]
      exact Row.block RE2.out (fun q hq => Below.heap_setCell _ _ _ _ (by have := (World.ownsRow.lt RE2.out q hq).1; show q ≠ g; omega))
    clear RE2
    go_upto_region 15 with fail
    rw [← HE9.out]
    clear HE9 D8 c6 f6
    have SE : ∀ q, (Value.slice oE (3 + nl) kE).ownBlock = some q → W6.heap.size ≤ q ∧ q < W9.heap.size := fun q hq => World.ownsRow.lt RE.out q hq
    have C : Hid _ := of_rd R ob n cb f _ (fun q => W6.heap.size ≤ q ∧ q < W9.heap.size) (([⟨#[103, 111, 111, 100]⟩, ⟨#[115, 97, 118, 101, 100]⟩, ⟨#[115, 99, 114, 97, 112, 112, 101, 100]⟩] : List ByteArray) ++ l) _ W9 D9.out.rd (by omega) (flatS.row_at RE.out SE (fun s hs => Nat.le_trans (EZ.out s hs) (by decide))) (fun q hq => ⟨hq.2, by omega⟩) EN.out.1 EN.out.2
    go_wp2_with fail
    refine Calls.mono C.out ?_
    clear C
    rintro e W10 ⟨el, hs, rfl, p10, hp10, rd, bt⟩
    have D10 : Hid (Dp R ob n cb f w g W10 p10 #[.string nm, .int .i64 3, .string a, .string ⟨#[]⟩, .int .i64 (1 + z), .int .i64 (1 + y), .string th, .string ⟨#[]⟩]) := D9.out.call rd.out bt.out
    have elz := EZ.out el hs
    have RE2 : Hid (Row W10 W6.heap.size 9 1 eS (.slice oE (3 + nl) kE) (([⟨#[103, 111, 111, 100]⟩, ⟨#[115, 97, 118, 101, 100]⟩, ⟨#[115, 99, 114, 97, 112, 112, 101, 100]⟩] : List ByteArray) ++ l)) := Row.block RE.out (fun q hq => bt.out.block q (SE q hq).2 (by have := (SE q hq).1; omega))
    clear hs SE RE rd bt D9
    obtain ⟨c7, f7⟩ := cell_row D10.out.box 7 (.string ⟨#[]⟩) rfl
    obtain ⟨W11, E11⟩ : ∃ u, u = W10.setCell ⟨g, 7, none⟩ (.string el) := ⟨_, rfl⟩
    have HE11 : Hid (W11 = W10.setCell ⟨g, 7, none⟩ (.string el)) := E11
    have D11 : Hid (Dp R ob n cb f w g W11 p10 #[.string nm, .int .i64 3, .string a, .string ⟨#[]⟩, .int .i64 (1 + z), .int .i64 (1 + y), .string th, .string el]) := by rw [E11]; exact D10.out.put 7 _ rfl
    clear E11
    have RE : Hid (Row W11 W6.heap.size 9 1 eS (.slice oE (3 + nl) kE) (([⟨#[103, 111, 111, 100]⟩, ⟨#[115, 97, 118, 101, 100]⟩, ⟨#[115, 99, 114, 97, 112, 112, 101, 100]⟩] : List ByteArray) ++ l)) := by
      rw [HE11.out]
      exact Row.block RE2.out (fun q hq => Below.heap_setCell _ _ _ _ (by have := (World.ownsRow.lt RE2.out q hq).1; show q ≠ g; omega))
    clear RE2
    go_upto_region 16 with fail
    rw [← HE11.out]
    clear HE11 D10 c7 f7
    clear RE EZ EN sE
    by_cases h0 : nl = 0
    · subst h0
      obtain ⟨l0, _⟩ := cell_row D11.out.box 0 (.string nm) rfl
      obtain ⟨l1, _⟩ := cell_row D11.out.box 1 (.int .i64 3) rfl
      obtain ⟨l2, _⟩ := cell_row D11.out.box 2 (.string a) rfl
      obtain ⟨l3, _⟩ := cell_row D11.out.box 3 (.string ⟨#[]⟩) rfl
      obtain ⟨l4, _⟩ := cell_row D11.out.box 4 (.int .i64 (1 + z)) rfl
      obtain ⟨l5, _⟩ := cell_row D11.out.box 5 (.int .i64 (1 + y)) rfl
      obtain ⟨l6, _⟩ := cell_row D11.out.box 6 (.string th) rfl
      obtain ⟨l7, _⟩ := cell_row D11.out.box 7 (.string el) rfl
      obtain ⟨r0, t0⟩ := cell_row D11.out.res 0 (.string ⟨#[]⟩) rfl
      obtain ⟨r1, t1⟩ := cell_row D11.out.res 1 (.int .i64 0) rfl
      obtain ⟨r2, t2⟩ := cell_row D11.out.res 2 (.string ⟨#[]⟩) rfl
      obtain ⟨r3, t3⟩ := cell_row D11.out.res 3 (.string ⟨#[]⟩) rfl
      obtain ⟨r4, t4⟩ := cell_row D11.out.res 4 (.int .i64 0) rfl
      obtain ⟨r5, t5⟩ := cell_row D11.out.res 5 (.int .i64 0) rfl
      obtain ⟨r6, t6⟩ := cell_row D11.out.res 6 (.string ⟨#[]⟩) rfl
      obtain ⟨r7, t7⟩ := cell_row D11.out.res 7 (.string ⟨#[]⟩) rfl
      have HF : Hid _ := ret8 D11.out.res (.string nm) (.int .i64 3) (.string a) (.string ⟨#[]⟩) (.int .i64 (1 + z)) (.int .i64 (1 + y)) (.string th) (.string el)
      go_wp2_with fail
      have F := HF.out
      obtain ⟨FW, hF⟩ : ∃ u', u' = (((((((W11.setCell ⟨w.heap.size, 0, none⟩ (.string nm)).setCell ⟨w.heap.size, 1, none⟩ (.int .i64 3)).setCell ⟨w.heap.size, 2, none⟩ (.string a)).setCell ⟨w.heap.size, 3, none⟩ (.string ⟨#[]⟩)).setCell ⟨w.heap.size, 4, none⟩ (.int .i64 (1 + z))).setCell ⟨w.heap.size, 5, none⟩ (.int .i64 (1 + y))).setCell ⟨w.heap.size, 6, none⟩ (.string th)).setCell ⟨w.heap.size, 7, none⟩ (.string el) := ⟨_, rfl⟩
      rw [← hF]
      rw [← hF] at F
      clear hF HF
      obtain ⟨F0, F1, F2⟩ := F
      have u0 := (cell_row F0 0 (.string nm) rfl).1
      have u1 := (cell_row F0 1 (.int .i64 3) rfl).1
      have u2 := (cell_row F0 2 (.string a) rfl).1
      have u3 := (cell_row F0 3 (.string ⟨#[]⟩) rfl).1
      have u4 := (cell_row F0 4 (.int .i64 (1 + z)) rfl).1
      have u5 := (cell_row F0 5 (.int .i64 (1 + y)) rfl).1
      have u6 := (cell_row F0 6 (.string th) rfl).1
      have u7 := (cell_row F0 7 (.string el) rfl).1
      have rlt' := D11.out.rlt
      have hRd : Rd R FW ob n cb p10 f := D11.out.rd.but (fun b hb => F1 b (by omega))
      have hBt : But (fun q => q = R) w FW := ⟨F2.os.trans D11.out.but.os, F2.tape.trans D11.out.but.tape, F2.output.trans D11.out.but.output, Nat.le_trans D11.out.but.size F2.size, fun b h1 h2 => (F1 b (by omega)).trans (D11.out.but.block b h1 h2)⟩
      exact bodyPost_ret (v := .agg #[.string nm, .int .i64 3, .string a, .string ⟨#[]⟩, .int .i64 (1 + z), .int .i64 (1 + y), .string th, .string el]) (by simp [results, Try.results69, go_sem, u0, u1, u2, u3, u4, u5, u6, u7]) rfl ⟨_, _, _, _, _, _, _, rfl, ⟨hnm, az, by decide, thz, elz, ⟨by omega, by omega⟩, ⟨by omega, by omega⟩, ⟨by omega, by omega⟩⟩, p10, by omega, hRd, hBt⟩
    · have d0 : (0 : Int) < (nl : Int) := by omega
      have C : Hid _ := pick_rd R ob n cb f _ 4 W11 D11.out.rd (by omega) (by omega) (by omega)
      go_wp2_with fail
      refine Calls.mono C.out ?_
      clear C
      rintro e W12 ⟨v, rfl, v0, v1, p12, hp12, rd, bt⟩
      have D12 : Hid (Dp R ob n cb f w g W12 p12 #[.string nm, .int .i64 3, .string a, .string ⟨#[]⟩, .int .i64 (1 + z), .int .i64 (1 + y), .string th, .string el]) := D11.out.call rd.out bt.out
      clear rd bt D11
      by_cases v0 : 0 < v
      · obtain ⟨b0, off0, fs, hol, e0, fsz⟩ : ∃ b0 off0 fs, ol = some ⟨b0, off0, none⟩ ∧ W12.cell? ⟨b0, off0, none⟩ = some (.string fs) ∧ fs.size ≤ 16 := by
          obtain ⟨oa, c, e, hn, hc⟩ := HL.out
          injection e with e1 e2 e3
          obtain ⟨b0, off0, h1, h2, cc, h3, h4⟩ := hc 0 (by have := HN.out; omega)
          have e0 := h3 0 (by decide)
          rw [h4.1, Nat.zero_mul, Nat.add_zero] at e0
          exact ⟨b0, off0, _, e1.trans h1, (World.cell?_of_block (w := w) (a := ⟨b0, off0, none⟩) (D12.out.but.block b0 (HS.out b0 h2).1 (HS.out b0 h2).2)).trans e0, HZ.out _ (List.getElem_mem (by have := HN.out; omega))⟩
        subst hol
        obtain ⟨c6, f6⟩ := cell_row D12.out.box 6 (.string th) rfl
        obtain ⟨W13, E13⟩ : ∃ u, u = W12.setCell ⟨g, 6, none⟩ (.string fs) := ⟨_, rfl⟩
        have HE13 : Hid (W13 = W12.setCell ⟨g, 6, none⟩ (.string fs)) := E13
        have D13 : Hid (Dp R ob n cb f w g W13 p12 #[.string nm, .int .i64 3, .string a, .string ⟨#[]⟩, .int .i64 (1 + z), .int .i64 (1 + y), .string fs, .string el]) := by rw [E13]; exact D12.out.put 6 _ rfl
        clear E13
        go_upto_region 18 with fail
        rw [← HE13.out]
        clear HE13 D12 c6 f6
        obtain ⟨l0, _⟩ := cell_row D13.out.box 0 (.string nm) rfl
        obtain ⟨l1, _⟩ := cell_row D13.out.box 1 (.int .i64 3) rfl
        obtain ⟨l2, _⟩ := cell_row D13.out.box 2 (.string a) rfl
        obtain ⟨l3, _⟩ := cell_row D13.out.box 3 (.string ⟨#[]⟩) rfl
        obtain ⟨l4, _⟩ := cell_row D13.out.box 4 (.int .i64 (1 + z)) rfl
        obtain ⟨l5, _⟩ := cell_row D13.out.box 5 (.int .i64 (1 + y)) rfl
        obtain ⟨l6, _⟩ := cell_row D13.out.box 6 (.string fs) rfl
        obtain ⟨l7, _⟩ := cell_row D13.out.box 7 (.string el) rfl
        obtain ⟨r0, t0⟩ := cell_row D13.out.res 0 (.string ⟨#[]⟩) rfl
        obtain ⟨r1, t1⟩ := cell_row D13.out.res 1 (.int .i64 0) rfl
        obtain ⟨r2, t2⟩ := cell_row D13.out.res 2 (.string ⟨#[]⟩) rfl
        obtain ⟨r3, t3⟩ := cell_row D13.out.res 3 (.string ⟨#[]⟩) rfl
        obtain ⟨r4, t4⟩ := cell_row D13.out.res 4 (.int .i64 0) rfl
        obtain ⟨r5, t5⟩ := cell_row D13.out.res 5 (.int .i64 0) rfl
        obtain ⟨r6, t6⟩ := cell_row D13.out.res 6 (.string ⟨#[]⟩) rfl
        obtain ⟨r7, t7⟩ := cell_row D13.out.res 7 (.string ⟨#[]⟩) rfl
        have HF : Hid _ := ret8 D13.out.res (.string nm) (.int .i64 3) (.string a) (.string ⟨#[]⟩) (.int .i64 (1 + z)) (.int .i64 (1 + y)) (.string fs) (.string el)
        go_wp2_with fail
        have F := HF.out
        obtain ⟨FW, hF⟩ : ∃ u', u' = (((((((W13.setCell ⟨w.heap.size, 0, none⟩ (.string nm)).setCell ⟨w.heap.size, 1, none⟩ (.int .i64 3)).setCell ⟨w.heap.size, 2, none⟩ (.string a)).setCell ⟨w.heap.size, 3, none⟩ (.string ⟨#[]⟩)).setCell ⟨w.heap.size, 4, none⟩ (.int .i64 (1 + z))).setCell ⟨w.heap.size, 5, none⟩ (.int .i64 (1 + y))).setCell ⟨w.heap.size, 6, none⟩ (.string fs)).setCell ⟨w.heap.size, 7, none⟩ (.string el) := ⟨_, rfl⟩
        rw [← hF]
        rw [← hF] at F
        clear hF HF
        obtain ⟨F0, F1, F2⟩ := F
        have u0 := (cell_row F0 0 (.string nm) rfl).1
        have u1 := (cell_row F0 1 (.int .i64 3) rfl).1
        have u2 := (cell_row F0 2 (.string a) rfl).1
        have u3 := (cell_row F0 3 (.string ⟨#[]⟩) rfl).1
        have u4 := (cell_row F0 4 (.int .i64 (1 + z)) rfl).1
        have u5 := (cell_row F0 5 (.int .i64 (1 + y)) rfl).1
        have u6 := (cell_row F0 6 (.string fs) rfl).1
        have u7 := (cell_row F0 7 (.string el) rfl).1
        have rlt' := D13.out.rlt
        have hRd : Rd R FW ob n cb p12 f := D13.out.rd.but (fun b hb => F1 b (by omega))
        have hBt : But (fun q => q = R) w FW := ⟨F2.os.trans D13.out.but.os, F2.tape.trans D13.out.but.tape, F2.output.trans D13.out.but.output, Nat.le_trans D13.out.but.size F2.size, fun b h1 h2 => (F1 b (by omega)).trans (D13.out.but.block b h1 h2)⟩
        exact bodyPost_ret (v := .agg #[.string nm, .int .i64 3, .string a, .string ⟨#[]⟩, .int .i64 (1 + z), .int .i64 (1 + y), .string fs, .string el]) (by simp [results, Try.results69, go_sem, u0, u1, u2, u3, u4, u5, u6, u7]) rfl ⟨_, _, _, _, _, _, _, rfl, ⟨hnm, az, by decide, fsz, elz, ⟨by omega, by omega⟩, ⟨by omega, by omega⟩, ⟨by omega, by omega⟩⟩, p12, by omega, hRd, hBt⟩
      · have v00 : v = 0 := by omega
        subst v00
        obtain ⟨l0, _⟩ := cell_row D12.out.box 0 (.string nm) rfl
        obtain ⟨l1, _⟩ := cell_row D12.out.box 1 (.int .i64 3) rfl
        obtain ⟨l2, _⟩ := cell_row D12.out.box 2 (.string a) rfl
        obtain ⟨l3, _⟩ := cell_row D12.out.box 3 (.string ⟨#[]⟩) rfl
        obtain ⟨l4, _⟩ := cell_row D12.out.box 4 (.int .i64 (1 + z)) rfl
        obtain ⟨l5, _⟩ := cell_row D12.out.box 5 (.int .i64 (1 + y)) rfl
        obtain ⟨l6, _⟩ := cell_row D12.out.box 6 (.string th) rfl
        obtain ⟨l7, _⟩ := cell_row D12.out.box 7 (.string el) rfl
        obtain ⟨r0, t0⟩ := cell_row D12.out.res 0 (.string ⟨#[]⟩) rfl
        obtain ⟨r1, t1⟩ := cell_row D12.out.res 1 (.int .i64 0) rfl
        obtain ⟨r2, t2⟩ := cell_row D12.out.res 2 (.string ⟨#[]⟩) rfl
        obtain ⟨r3, t3⟩ := cell_row D12.out.res 3 (.string ⟨#[]⟩) rfl
        obtain ⟨r4, t4⟩ := cell_row D12.out.res 4 (.int .i64 0) rfl
        obtain ⟨r5, t5⟩ := cell_row D12.out.res 5 (.int .i64 0) rfl
        obtain ⟨r6, t6⟩ := cell_row D12.out.res 6 (.string ⟨#[]⟩) rfl
        obtain ⟨r7, t7⟩ := cell_row D12.out.res 7 (.string ⟨#[]⟩) rfl
        have HF : Hid _ := ret8 D12.out.res (.string nm) (.int .i64 3) (.string a) (.string ⟨#[]⟩) (.int .i64 (1 + z)) (.int .i64 (1 + y)) (.string th) (.string el)
        go_wp2_with fail
        have F := HF.out
        obtain ⟨FW, hF⟩ : ∃ u', u' = (((((((W12.setCell ⟨w.heap.size, 0, none⟩ (.string nm)).setCell ⟨w.heap.size, 1, none⟩ (.int .i64 3)).setCell ⟨w.heap.size, 2, none⟩ (.string a)).setCell ⟨w.heap.size, 3, none⟩ (.string ⟨#[]⟩)).setCell ⟨w.heap.size, 4, none⟩ (.int .i64 (1 + z))).setCell ⟨w.heap.size, 5, none⟩ (.int .i64 (1 + y))).setCell ⟨w.heap.size, 6, none⟩ (.string th)).setCell ⟨w.heap.size, 7, none⟩ (.string el) := ⟨_, rfl⟩
        rw [← hF]
        rw [← hF] at F
        clear hF HF
        obtain ⟨F0, F1, F2⟩ := F
        have u0 := (cell_row F0 0 (.string nm) rfl).1
        have u1 := (cell_row F0 1 (.int .i64 3) rfl).1
        have u2 := (cell_row F0 2 (.string a) rfl).1
        have u3 := (cell_row F0 3 (.string ⟨#[]⟩) rfl).1
        have u4 := (cell_row F0 4 (.int .i64 (1 + z)) rfl).1
        have u5 := (cell_row F0 5 (.int .i64 (1 + y)) rfl).1
        have u6 := (cell_row F0 6 (.string th) rfl).1
        have u7 := (cell_row F0 7 (.string el) rfl).1
        have rlt' := D12.out.rlt
        have hRd : Rd R FW ob n cb p12 f := D12.out.rd.but (fun b hb => F1 b (by omega))
        have hBt : But (fun q => q = R) w FW := ⟨F2.os.trans D12.out.but.os, F2.tape.trans D12.out.but.tape, F2.output.trans D12.out.but.output, Nat.le_trans D12.out.but.size F2.size, fun b h1 h2 => (F1 b (by omega)).trans (D12.out.but.block b h1 h2)⟩
        exact bodyPost_ret (v := .agg #[.string nm, .int .i64 3, .string a, .string ⟨#[]⟩, .int .i64 (1 + z), .int .i64 (1 + y), .string th, .string el]) (by simp [results, Try.results69, go_sem, u0, u1, u2, u3, u4, u5, u6, u7]) rfl ⟨_, _, _, _, _, _, _, rfl, ⟨hnm, az, by decide, thz, elz, ⟨by omega, by omega⟩, ⟨by omega, by omega⟩, ⟨by omega, by omega⟩⟩, p12, by omega, hRd, hBt⟩
  · obtain ⟨g, hg⟩ : ∃ g, g = W3.heap.size := ⟨_, rfl⟩
    obtain ⟨W4, hW4⟩ : ∃ u, u = W3.alloc (.cells #[.string nm, .int .i64 4, .string a, .string ⟨#[]⟩, .int .i64 0, .int .i64 (1 + y), .string ⟨#[]⟩, .string ⟨#[]⟩] 37) := ⟨_, rfl⟩
    have HE4 : Hid (W4 = W3.alloc (.cells #[.string nm, .int .i64 4, .string a, .string ⟨#[]⟩, .int .i64 0, .int .i64 (1 + y), .string ⟨#[]⟩, .string ⟨#[]⟩] 37)) := hW4
    have D4 : Hid (Dp R ob n cb f w g W4 p4 #[.string nm, .int .i64 4, .string a, .string ⟨#[]⟩, .int .i64 0, .int .i64 (1 + y), .string ⟨#[]⟩, .string ⟨#[]⟩]) := by
      rw [hW4, hg]
      exact ⟨rd3.out.but (fun b hb => Below.heap_alloc W3 _ b (by omega)), (but_alloc (But.refl _ w) _).trans (but_alloc B3.out _), heap_alloc_new W3 _, alloc_upD _ RE3.out, by omega, rlt⟩
    have HG : Hid (g = W3.heap.size) := hg
    clear hW4 hg
    go_upto_region 2 with fail
    rw [← HE4.out, ← HG.out]
    clear HE4 HG B3 RE3 rd3
    obtain ⟨c1, f1⟩ := cell_row D4.out.box 1 (.int .i64 4) rfl
    have glt := D4.out.glt
    have lo := D4.out.lo
    have rlt0 := D4.out.rlt
    have BW : Hid (But (fun q => q = R) w W4) := D4.out.but
    have hat : AtL S W4 l (.slice ol nl cl) := HL.out.same (fun b hb => BW.out.block b (HS.out b hb).1 (HS.out b hb).2)
    have hsr : Hid (Src (W4.alloc (.cells #[.string ⟨#[103, 111, 111, 100]⟩, .string ⟨#[115, 97, 118, 101, 100]⟩, .string ⟨#[115, 99, 114, 97, 112, 112, 101, 100]⟩] 9)) (.slice ol nl cl) nl 1 (enc 1 eS l)) := by
      have := flatS.src (hat.same (fun b hb => Below.heap_alloc W4 (.cells #[.string ⟨#[103, 111, 111, 100]⟩, .string ⟨#[115, 97, 118, 101, 100]⟩, .string ⟨#[115, 99, 114, 97, 112, 112, 101, 100]⟩] 9) b (by have := (HS.out b hb).1; have := BW.out.size; omega)))
      rw [HN.out] at this; exact this
    have hr0 : Hid ((W4.alloc (.cells #[.string ⟨#[103, 111, 111, 100]⟩, .string ⟨#[115, 97, 118, 101, 100]⟩, .string ⟨#[115, 99, 114, 97, 112, 112, 101, 100]⟩] 9)).ownsRow W4.heap.size 9 1 (.slice (some ⟨W4.heap.size, 0, none⟩) 3 3) 3 (enc 1 eS ([⟨#[103, 111, 111, 100]⟩, ⟨#[115, 97, 118, 101, 100]⟩, ⟨#[115, 99, 114, 97, 112, 112, 101, 100]⟩] : List ByteArray))) := own_built (c := #[.string ⟨#[103, 111, 111, 100]⟩, .string ⟨#[115, 97, 118, 101, 100]⟩, .string ⟨#[115, 99, 114, 97, 112, 112, 101, 100]⟩]) (Nat.le_refl _) (by unfold maxLen; omega) rfl
    have HDA : Hid (Dp R ob n cb f w g (W4.alloc (.cells #[.string ⟨#[103, 111, 111, 100]⟩, .string ⟨#[115, 97, 118, 101, 100]⟩, .string ⟨#[115, 99, 114, 97, 112, 112, 101, 100]⟩] 9)) p4 #[.string nm, .int .i64 4, .string a, .string ⟨#[]⟩, .int .i64 0, .int .i64 (1 + y), .string ⟨#[]⟩, .string ⟨#[]⟩]) := D4.out.alloc _
    clear hat BW
    go_wp2_with (at_builtin; refine wpList_app elS rfl _ _ rfl rfl rfl hr0.out hsr.out (flatS.enc_one _) (by unfold maxLen; omega) (by omega) (by simp) ?_; intro vE WE hown hgE hbk; obtain ⟨oE, kE, hvE⟩ : ∃ o k, vE = .slice o (3 + nl) k := (Row.form (l := ([⟨#[103, 111, 111, 100]⟩, ⟨#[115, 97, 118, 101, 100]⟩, ⟨#[115, 99, 114, 97, 112, 112, 101, 100]⟩] : List ByteArray) ++ l) (e := eS) (k := 1) (t := 9) (B := W4.heap.size) (w := WE) (by show World.ownsRow _ _ _ _ _ _ _; rw [List.length_append, enc_append, HN.out]; exact hown)).imp (fun o h => h.imp (fun c e => by rw [e, List.length_append, HN.out]; rfl)); subst hvE)
    have RE : Hid (Row WE W4.heap.size 9 1 eS (.slice oE (3 + nl) kE) (([⟨#[103, 111, 111, 100]⟩, ⟨#[115, 97, 118, 101, 100]⟩, ⟨#[115, 99, 114, 97, 112, 112, 101, 100]⟩] : List ByteArray) ++ l)) := by show World.ownsRow _ _ _ _ _ _ _; rw [List.length_append, enc_append, HN.out]; exact hown
    have WNEW_ : ∃ u, u = WE := ⟨_, rfl⟩
    obtain ⟨W5, hW5⟩ := WNEW_
    have D5 : Hid (Dp R ob n cb f w g WE p4 #[.string nm, .int .i64 4, .string a, .string ⟨#[]⟩, .int .i64 0, .int .i64 (1 + y), .string ⟨#[]⟩, .string ⟨#[]⟩]) := HDA.out.grow hgE (fun q hq => by cases hq; omega)
    subst hW5
    have sE : W4.heap.size < W5.heap.size := by have := hgE.size; simp at this; omega
    clear hown hgE hbk hsr hr0 HDA D4
    have EZ : Hid (∀ s ∈ ([⟨#[103, 111, 111, 100]⟩, ⟨#[115, 97, 118, 101, 100]⟩, ⟨#[115, 99, 114, 97, 112, 112, 101, 100]⟩] : List ByteArray) ++ l, s.size ≤ 16) := fun s hs => by
      rcases List.mem_append.1 hs with h | h
      · exact (fun s hs => by simp only [List.mem_cons, List.not_mem_nil, or_false] at hs; rcases hs with rfl | rfl | rfl <;> decide : ∀ s ∈ ([⟨#[103, 111, 111, 100]⟩, ⟨#[115, 97, 118, 101, 100]⟩, ⟨#[115, 99, 114, 97, 112, 112, 101, 100]⟩] : List ByteArray), s.size ≤ 16) s h
      · exact HZ.out s h
    have EN : Hid (1 ≤ (([⟨#[103, 111, 111, 100]⟩, ⟨#[115, 97, 118, 101, 100]⟩, ⟨#[115, 99, 114, 97, 112, 112, 101, 100]⟩] : List ByteArray) ++ l).length ∧ (([⟨#[103, 111, 111, 100]⟩, ⟨#[115, 97, 118, 101, 100]⟩, ⟨#[115, 99, 114, 97, 112, 112, 101, 100]⟩] : List ByteArray) ++ l).length ≤ 1000) := by show _ ∧ _; rw [List.length_append, HN.out]; simp; omega
    have SE : ∀ q, (Value.slice oE (3 + nl) kE).ownBlock = some q → W4.heap.size ≤ q ∧ q < W5.heap.size := fun q hq => World.ownsRow.lt RE.out q hq
    have C : Hid _ := of_rd R ob n cb f _ (fun q => W4.heap.size ≤ q ∧ q < W5.heap.size) (([⟨#[103, 111, 111, 100]⟩, ⟨#[115, 97, 118, 101, 100]⟩, ⟨#[115, 99, 114, 97, 112, 112, 101, 100]⟩] : List ByteArray) ++ l) _ W5 D5.out.rd (by omega) (flatS.row_at RE.out SE (fun s hs => Nat.le_trans (EZ.out s hs) (by decide))) (fun q hq => ⟨hq.2, by omega⟩) EN.out.1 EN.out.2
    go_wp2_with fail
    refine Calls.mono C.out ?_
    clear C
    rintro e W6 ⟨th, hs, rfl, p6, hp6, rd, bt⟩
    have D6 : Hid (Dp R ob n cb f w g W6 p6 #[.string nm, .int .i64 4, .string a, .string ⟨#[]⟩, .int .i64 0, .int .i64 (1 + y), .string ⟨#[]⟩, .string ⟨#[]⟩]) := D5.out.call rd.out bt.out
    have thz := EZ.out th hs
    have RE2 : Hid (Row W6 W4.heap.size 9 1 eS (.slice oE (3 + nl) kE) (([⟨#[103, 111, 111, 100]⟩, ⟨#[115, 97, 118, 101, 100]⟩, ⟨#[115, 99, 114, 97, 112, 112, 101, 100]⟩] : List ByteArray) ++ l)) := Row.block RE.out (fun q hq => bt.out.block q (SE q hq).2 (by have := (SE q hq).1; omega))
    clear hs SE RE rd bt D5
    obtain ⟨c6, f6⟩ := cell_row D6.out.box 6 (.string ⟨#[]⟩) rfl
    obtain ⟨W7, E7⟩ : ∃ u, u = W6.setCell ⟨g, 6, none⟩ (.string th) := ⟨_, rfl⟩
    have HE7 : Hid (W7 = W6.setCell ⟨g, 6, none⟩ (.string th)) := E7
    have D7 : Hid (Dp R ob n cb f w g W7 p6 #[.string nm, .int .i64 4, .string a, .string ⟨#[]⟩, .int .i64 0, .int .i64 (1 + y), .string th, .string ⟨#[]⟩]) := by rw [E7]; exact D6.out.put 6 _ rfl
    clear E7
    have RE : Hid (Row W7 W4.heap.size 9 1 eS (.slice oE (3 + nl) kE) (([⟨#[103, 111, 111, 100]⟩, ⟨#[115, 97, 118, 101, 100]⟩, ⟨#[115, 99, 114, 97, 112, 112, 101, 100]⟩] : List ByteArray) ++ l)) := by
      rw [HE7.out]
      exact Row.block RE2.out (fun q hq => Below.heap_setCell _ _ _ _ (by have := (World.ownsRow.lt RE2.out q hq).1; show q ≠ g; omega))
    clear RE2
    go_upto_region 15 with fail
    rw [← HE7.out]
    clear HE7 D6 c6 f6
    have SE : ∀ q, (Value.slice oE (3 + nl) kE).ownBlock = some q → W4.heap.size ≤ q ∧ q < W7.heap.size := fun q hq => World.ownsRow.lt RE.out q hq
    have C : Hid _ := of_rd R ob n cb f _ (fun q => W4.heap.size ≤ q ∧ q < W7.heap.size) (([⟨#[103, 111, 111, 100]⟩, ⟨#[115, 97, 118, 101, 100]⟩, ⟨#[115, 99, 114, 97, 112, 112, 101, 100]⟩] : List ByteArray) ++ l) _ W7 D7.out.rd (by omega) (flatS.row_at RE.out SE (fun s hs => Nat.le_trans (EZ.out s hs) (by decide))) (fun q hq => ⟨hq.2, by omega⟩) EN.out.1 EN.out.2
    go_wp2_with fail
    refine Calls.mono C.out ?_
    clear C
    rintro e W8 ⟨el, hs, rfl, p8, hp8, rd, bt⟩
    have D8 : Hid (Dp R ob n cb f w g W8 p8 #[.string nm, .int .i64 4, .string a, .string ⟨#[]⟩, .int .i64 0, .int .i64 (1 + y), .string th, .string ⟨#[]⟩]) := D7.out.call rd.out bt.out
    have elz := EZ.out el hs
    have RE2 : Hid (Row W8 W4.heap.size 9 1 eS (.slice oE (3 + nl) kE) (([⟨#[103, 111, 111, 100]⟩, ⟨#[115, 97, 118, 101, 100]⟩, ⟨#[115, 99, 114, 97, 112, 112, 101, 100]⟩] : List ByteArray) ++ l)) := Row.block RE.out (fun q hq => bt.out.block q (SE q hq).2 (by have := (SE q hq).1; omega))
    clear hs SE RE rd bt D7
    obtain ⟨c7, f7⟩ := cell_row D8.out.box 7 (.string ⟨#[]⟩) rfl
    obtain ⟨W9, E9⟩ : ∃ u, u = W8.setCell ⟨g, 7, none⟩ (.string el) := ⟨_, rfl⟩
    have HE9 : Hid (W9 = W8.setCell ⟨g, 7, none⟩ (.string el)) := E9
    have D9 : Hid (Dp R ob n cb f w g W9 p8 #[.string nm, .int .i64 4, .string a, .string ⟨#[]⟩, .int .i64 0, .int .i64 (1 + y), .string th, .string el]) := by rw [E9]; exact D8.out.put 7 _ rfl
    clear E9
    have RE : Hid (Row W9 W4.heap.size 9 1 eS (.slice oE (3 + nl) kE) (([⟨#[103, 111, 111, 100]⟩, ⟨#[115, 97, 118, 101, 100]⟩, ⟨#[115, 99, 114, 97, 112, 112, 101, 100]⟩] : List ByteArray) ++ l)) := by
      rw [HE9.out]
      exact Row.block RE2.out (fun q hq => Below.heap_setCell _ _ _ _ (by have := (World.ownsRow.lt RE2.out q hq).1; show q ≠ g; omega))
    clear RE2
    go_upto_region 16 with fail
    rw [← HE9.out]
    clear HE9 D8 c7 f7
    clear RE EZ EN sE
    by_cases h0 : nl = 0
    · subst h0
      obtain ⟨l0, _⟩ := cell_row D9.out.box 0 (.string nm) rfl
      obtain ⟨l1, _⟩ := cell_row D9.out.box 1 (.int .i64 4) rfl
      obtain ⟨l2, _⟩ := cell_row D9.out.box 2 (.string a) rfl
      obtain ⟨l3, _⟩ := cell_row D9.out.box 3 (.string ⟨#[]⟩) rfl
      obtain ⟨l4, _⟩ := cell_row D9.out.box 4 (.int .i64 0) rfl
      obtain ⟨l5, _⟩ := cell_row D9.out.box 5 (.int .i64 (1 + y)) rfl
      obtain ⟨l6, _⟩ := cell_row D9.out.box 6 (.string th) rfl
      obtain ⟨l7, _⟩ := cell_row D9.out.box 7 (.string el) rfl
      obtain ⟨r0, t0⟩ := cell_row D9.out.res 0 (.string ⟨#[]⟩) rfl
      obtain ⟨r1, t1⟩ := cell_row D9.out.res 1 (.int .i64 0) rfl
      obtain ⟨r2, t2⟩ := cell_row D9.out.res 2 (.string ⟨#[]⟩) rfl
      obtain ⟨r3, t3⟩ := cell_row D9.out.res 3 (.string ⟨#[]⟩) rfl
      obtain ⟨r4, t4⟩ := cell_row D9.out.res 4 (.int .i64 0) rfl
      obtain ⟨r5, t5⟩ := cell_row D9.out.res 5 (.int .i64 0) rfl
      obtain ⟨r6, t6⟩ := cell_row D9.out.res 6 (.string ⟨#[]⟩) rfl
      obtain ⟨r7, t7⟩ := cell_row D9.out.res 7 (.string ⟨#[]⟩) rfl
      have HF : Hid _ := ret8 D9.out.res (.string nm) (.int .i64 4) (.string a) (.string ⟨#[]⟩) (.int .i64 0) (.int .i64 (1 + y)) (.string th) (.string el)
      go_wp2_with fail
      have F := HF.out
      obtain ⟨FW, hF⟩ : ∃ u', u' = (((((((W9.setCell ⟨w.heap.size, 0, none⟩ (.string nm)).setCell ⟨w.heap.size, 1, none⟩ (.int .i64 4)).setCell ⟨w.heap.size, 2, none⟩ (.string a)).setCell ⟨w.heap.size, 3, none⟩ (.string ⟨#[]⟩)).setCell ⟨w.heap.size, 4, none⟩ (.int .i64 0)).setCell ⟨w.heap.size, 5, none⟩ (.int .i64 (1 + y))).setCell ⟨w.heap.size, 6, none⟩ (.string th)).setCell ⟨w.heap.size, 7, none⟩ (.string el) := ⟨_, rfl⟩
      rw [← hF]
      rw [← hF] at F
      clear hF HF
      obtain ⟨F0, F1, F2⟩ := F
      have u0 := (cell_row F0 0 (.string nm) rfl).1
      have u1 := (cell_row F0 1 (.int .i64 4) rfl).1
      have u2 := (cell_row F0 2 (.string a) rfl).1
      have u3 := (cell_row F0 3 (.string ⟨#[]⟩) rfl).1
      have u4 := (cell_row F0 4 (.int .i64 0) rfl).1
      have u5 := (cell_row F0 5 (.int .i64 (1 + y)) rfl).1
      have u6 := (cell_row F0 6 (.string th) rfl).1
      have u7 := (cell_row F0 7 (.string el) rfl).1
      have rlt' := D9.out.rlt
      have hRd : Rd R FW ob n cb p8 f := D9.out.rd.but (fun b hb => F1 b (by omega))
      have hBt : But (fun q => q = R) w FW := ⟨F2.os.trans D9.out.but.os, F2.tape.trans D9.out.but.tape, F2.output.trans D9.out.but.output, Nat.le_trans D9.out.but.size F2.size, fun b h1 h2 => (F1 b (by omega)).trans (D9.out.but.block b h1 h2)⟩
      exact bodyPost_ret (v := .agg #[.string nm, .int .i64 4, .string a, .string ⟨#[]⟩, .int .i64 0, .int .i64 (1 + y), .string th, .string el]) (by simp [results, Try.results69, go_sem, u0, u1, u2, u3, u4, u5, u6, u7]) rfl ⟨_, _, _, _, _, _, _, rfl, ⟨hnm, az, by decide, thz, elz, ⟨by omega, by omega⟩, ⟨by omega, by omega⟩, ⟨by omega, by omega⟩⟩, p8, by omega, hRd, hBt⟩
    · have d0 : (0 : Int) < (nl : Int) := by omega
      have C : Hid _ := pick_rd R ob n cb f _ 4 W9 D9.out.rd (by omega) (by omega) (by omega)
      go_wp2_with fail
      refine Calls.mono C.out ?_
      clear C
      rintro e W10 ⟨v, rfl, v0, v1, p10, hp10, rd, bt⟩
      have D10 : Hid (Dp R ob n cb f w g W10 p10 #[.string nm, .int .i64 4, .string a, .string ⟨#[]⟩, .int .i64 0, .int .i64 (1 + y), .string th, .string el]) := D9.out.call rd.out bt.out
      clear rd bt D9
      by_cases v0 : 0 < v
      · obtain ⟨b0, off0, fs, hol, e0, fsz⟩ : ∃ b0 off0 fs, ol = some ⟨b0, off0, none⟩ ∧ W10.cell? ⟨b0, off0, none⟩ = some (.string fs) ∧ fs.size ≤ 16 := by
          obtain ⟨oa, c, e, hn, hc⟩ := HL.out
          injection e with e1 e2 e3
          obtain ⟨b0, off0, h1, h2, cc, h3, h4⟩ := hc 0 (by have := HN.out; omega)
          have e0 := h3 0 (by decide)
          rw [h4.1, Nat.zero_mul, Nat.add_zero] at e0
          exact ⟨b0, off0, _, e1.trans h1, (World.cell?_of_block (w := w) (a := ⟨b0, off0, none⟩) (D10.out.but.block b0 (HS.out b0 h2).1 (HS.out b0 h2).2)).trans e0, HZ.out _ (List.getElem_mem (by have := HN.out; omega))⟩
        subst hol
        obtain ⟨c6, f6⟩ := cell_row D10.out.box 6 (.string th) rfl
        obtain ⟨W11, E11⟩ : ∃ u, u = W10.setCell ⟨g, 6, none⟩ (.string fs) := ⟨_, rfl⟩
        have HE11 : Hid (W11 = W10.setCell ⟨g, 6, none⟩ (.string fs)) := E11
        have D11 : Hid (Dp R ob n cb f w g W11 p10 #[.string nm, .int .i64 4, .string a, .string ⟨#[]⟩, .int .i64 0, .int .i64 (1 + y), .string fs, .string el]) := by rw [E11]; exact D10.out.put 6 _ rfl
        clear E11
        go_upto_region 18 with fail
        rw [← HE11.out]
        clear HE11 D10 c6 f6
        obtain ⟨l0, _⟩ := cell_row D11.out.box 0 (.string nm) rfl
        obtain ⟨l1, _⟩ := cell_row D11.out.box 1 (.int .i64 4) rfl
        obtain ⟨l2, _⟩ := cell_row D11.out.box 2 (.string a) rfl
        obtain ⟨l3, _⟩ := cell_row D11.out.box 3 (.string ⟨#[]⟩) rfl
        obtain ⟨l4, _⟩ := cell_row D11.out.box 4 (.int .i64 0) rfl
        obtain ⟨l5, _⟩ := cell_row D11.out.box 5 (.int .i64 (1 + y)) rfl
        obtain ⟨l6, _⟩ := cell_row D11.out.box 6 (.string fs) rfl
        obtain ⟨l7, _⟩ := cell_row D11.out.box 7 (.string el) rfl
        obtain ⟨r0, t0⟩ := cell_row D11.out.res 0 (.string ⟨#[]⟩) rfl
        obtain ⟨r1, t1⟩ := cell_row D11.out.res 1 (.int .i64 0) rfl
        obtain ⟨r2, t2⟩ := cell_row D11.out.res 2 (.string ⟨#[]⟩) rfl
        obtain ⟨r3, t3⟩ := cell_row D11.out.res 3 (.string ⟨#[]⟩) rfl
        obtain ⟨r4, t4⟩ := cell_row D11.out.res 4 (.int .i64 0) rfl
        obtain ⟨r5, t5⟩ := cell_row D11.out.res 5 (.int .i64 0) rfl
        obtain ⟨r6, t6⟩ := cell_row D11.out.res 6 (.string ⟨#[]⟩) rfl
        obtain ⟨r7, t7⟩ := cell_row D11.out.res 7 (.string ⟨#[]⟩) rfl
        have HF : Hid _ := ret8 D11.out.res (.string nm) (.int .i64 4) (.string a) (.string ⟨#[]⟩) (.int .i64 0) (.int .i64 (1 + y)) (.string fs) (.string el)
        go_wp2_with fail
        have F := HF.out
        obtain ⟨FW, hF⟩ : ∃ u', u' = (((((((W11.setCell ⟨w.heap.size, 0, none⟩ (.string nm)).setCell ⟨w.heap.size, 1, none⟩ (.int .i64 4)).setCell ⟨w.heap.size, 2, none⟩ (.string a)).setCell ⟨w.heap.size, 3, none⟩ (.string ⟨#[]⟩)).setCell ⟨w.heap.size, 4, none⟩ (.int .i64 0)).setCell ⟨w.heap.size, 5, none⟩ (.int .i64 (1 + y))).setCell ⟨w.heap.size, 6, none⟩ (.string fs)).setCell ⟨w.heap.size, 7, none⟩ (.string el) := ⟨_, rfl⟩
        rw [← hF]
        rw [← hF] at F
        clear hF HF
        obtain ⟨F0, F1, F2⟩ := F
        have u0 := (cell_row F0 0 (.string nm) rfl).1
        have u1 := (cell_row F0 1 (.int .i64 4) rfl).1
        have u2 := (cell_row F0 2 (.string a) rfl).1
        have u3 := (cell_row F0 3 (.string ⟨#[]⟩) rfl).1
        have u4 := (cell_row F0 4 (.int .i64 0) rfl).1
        have u5 := (cell_row F0 5 (.int .i64 (1 + y)) rfl).1
        have u6 := (cell_row F0 6 (.string fs) rfl).1
        have u7 := (cell_row F0 7 (.string el) rfl).1
        have rlt' := D11.out.rlt
        have hRd : Rd R FW ob n cb p10 f := D11.out.rd.but (fun b hb => F1 b (by omega))
        have hBt : But (fun q => q = R) w FW := ⟨F2.os.trans D11.out.but.os, F2.tape.trans D11.out.but.tape, F2.output.trans D11.out.but.output, Nat.le_trans D11.out.but.size F2.size, fun b h1 h2 => (F1 b (by omega)).trans (D11.out.but.block b h1 h2)⟩
        exact bodyPost_ret (v := .agg #[.string nm, .int .i64 4, .string a, .string ⟨#[]⟩, .int .i64 0, .int .i64 (1 + y), .string fs, .string el]) (by simp [results, Try.results69, go_sem, u0, u1, u2, u3, u4, u5, u6, u7]) rfl ⟨_, _, _, _, _, _, _, rfl, ⟨hnm, az, by decide, fsz, elz, ⟨by omega, by omega⟩, ⟨by omega, by omega⟩, ⟨by omega, by omega⟩⟩, p10, by omega, hRd, hBt⟩
      · have v00 : v = 0 := by omega
        subst v00
        obtain ⟨l0, _⟩ := cell_row D10.out.box 0 (.string nm) rfl
        obtain ⟨l1, _⟩ := cell_row D10.out.box 1 (.int .i64 4) rfl
        obtain ⟨l2, _⟩ := cell_row D10.out.box 2 (.string a) rfl
        obtain ⟨l3, _⟩ := cell_row D10.out.box 3 (.string ⟨#[]⟩) rfl
        obtain ⟨l4, _⟩ := cell_row D10.out.box 4 (.int .i64 0) rfl
        obtain ⟨l5, _⟩ := cell_row D10.out.box 5 (.int .i64 (1 + y)) rfl
        obtain ⟨l6, _⟩ := cell_row D10.out.box 6 (.string th) rfl
        obtain ⟨l7, _⟩ := cell_row D10.out.box 7 (.string el) rfl
        obtain ⟨r0, t0⟩ := cell_row D10.out.res 0 (.string ⟨#[]⟩) rfl
        obtain ⟨r1, t1⟩ := cell_row D10.out.res 1 (.int .i64 0) rfl
        obtain ⟨r2, t2⟩ := cell_row D10.out.res 2 (.string ⟨#[]⟩) rfl
        obtain ⟨r3, t3⟩ := cell_row D10.out.res 3 (.string ⟨#[]⟩) rfl
        obtain ⟨r4, t4⟩ := cell_row D10.out.res 4 (.int .i64 0) rfl
        obtain ⟨r5, t5⟩ := cell_row D10.out.res 5 (.int .i64 0) rfl
        obtain ⟨r6, t6⟩ := cell_row D10.out.res 6 (.string ⟨#[]⟩) rfl
        obtain ⟨r7, t7⟩ := cell_row D10.out.res 7 (.string ⟨#[]⟩) rfl
        have HF : Hid _ := ret8 D10.out.res (.string nm) (.int .i64 4) (.string a) (.string ⟨#[]⟩) (.int .i64 0) (.int .i64 (1 + y)) (.string th) (.string el)
        go_wp2_with fail
        have F := HF.out
        obtain ⟨FW, hF⟩ : ∃ u', u' = (((((((W10.setCell ⟨w.heap.size, 0, none⟩ (.string nm)).setCell ⟨w.heap.size, 1, none⟩ (.int .i64 4)).setCell ⟨w.heap.size, 2, none⟩ (.string a)).setCell ⟨w.heap.size, 3, none⟩ (.string ⟨#[]⟩)).setCell ⟨w.heap.size, 4, none⟩ (.int .i64 0)).setCell ⟨w.heap.size, 5, none⟩ (.int .i64 (1 + y))).setCell ⟨w.heap.size, 6, none⟩ (.string th)).setCell ⟨w.heap.size, 7, none⟩ (.string el) := ⟨_, rfl⟩
        rw [← hF]
        rw [← hF] at F
        clear hF HF
        obtain ⟨F0, F1, F2⟩ := F
        have u0 := (cell_row F0 0 (.string nm) rfl).1
        have u1 := (cell_row F0 1 (.int .i64 4) rfl).1
        have u2 := (cell_row F0 2 (.string a) rfl).1
        have u3 := (cell_row F0 3 (.string ⟨#[]⟩) rfl).1
        have u4 := (cell_row F0 4 (.int .i64 0) rfl).1
        have u5 := (cell_row F0 5 (.int .i64 (1 + y)) rfl).1
        have u6 := (cell_row F0 6 (.string th) rfl).1
        have u7 := (cell_row F0 7 (.string el) rfl).1
        have rlt' := D10.out.rlt
        have hRd : Rd R FW ob n cb p10 f := D10.out.rd.but (fun b hb => F1 b (by omega))
        have hBt : But (fun q => q = R) w FW := ⟨F2.os.trans D10.out.but.os, F2.tape.trans D10.out.but.tape, F2.output.trans D10.out.but.output, Nat.le_trans D10.out.but.size F2.size, fun b h1 h2 => (F1 b (by omega)).trans (D10.out.but.block b h1 h2)⟩
        exact bodyPost_ret (v := .agg #[.string nm, .int .i64 4, .string a, .string ⟨#[]⟩, .int .i64 0, .int .i64 (1 + y), .string th, .string el]) (by simp [results, Try.results69, go_sem, u0, u1, u2, u3, u4, u5, u6, u7]) rfl ⟨_, _, _, _, _, _, _, rfl, ⟨hnm, az, by decide, thz, elz, ⟨by omega, by omega⟩, ⟨by omega, by omega⟩, ⟨by omega, by omega⟩⟩, p10, by omega, hRd, hBt⟩
  · obtain ⟨g, hg⟩ : ∃ g, g = W3.heap.size := ⟨_, rfl⟩
    obtain ⟨W4, hW4⟩ : ∃ u, u = W3.alloc (.cells #[.string nm, .int .i64 5, .string a, .string ⟨#[]⟩, .int .i64 0, .int .i64 (1 + y), .string ⟨#[]⟩, .string ⟨#[]⟩] 37) := ⟨_, rfl⟩
    have HE4 : Hid (W4 = W3.alloc (.cells #[.string nm, .int .i64 5, .string a, .string ⟨#[]⟩, .int .i64 0, .int .i64 (1 + y), .string ⟨#[]⟩, .string ⟨#[]⟩] 37)) := hW4
    have D4 : Hid (Dp R ob n cb f w g W4 p4 #[.string nm, .int .i64 5, .string a, .string ⟨#[]⟩, .int .i64 0, .int .i64 (1 + y), .string ⟨#[]⟩, .string ⟨#[]⟩]) := by
      rw [hW4, hg]
      exact ⟨rd3.out.but (fun b hb => Below.heap_alloc W3 _ b (by omega)), (but_alloc (But.refl _ w) _).trans (but_alloc B3.out _), heap_alloc_new W3 _, alloc_upD _ RE3.out, by omega, rlt⟩
    have HG : Hid (g = W3.heap.size) := hg
    clear hW4 hg
    go_upto_region 2 with fail
    rw [← HE4.out, ← HG.out]
    clear HE4 HG B3 RE3 rd3
    obtain ⟨c1, f1⟩ := cell_row D4.out.box 1 (.int .i64 5) rfl
    have glt := D4.out.glt
    have lo := D4.out.lo
    have rlt0 := D4.out.rlt
    have BW : Hid (But (fun q => q = R) w W4) := D4.out.but
    have hat : AtL S W4 l (.slice ol nl cl) := HL.out.same (fun b hb => BW.out.block b (HS.out b hb).1 (HS.out b hb).2)
    have hsr : Hid (Src (W4.alloc (.cells #[.string ⟨#[103, 111, 111, 100]⟩, .string ⟨#[115, 97, 118, 101, 100]⟩, .string ⟨#[115, 99, 114, 97, 112, 112, 101, 100]⟩] 9)) (.slice ol nl cl) nl 1 (enc 1 eS l)) := by
      have := flatS.src (hat.same (fun b hb => Below.heap_alloc W4 (.cells #[.string ⟨#[103, 111, 111, 100]⟩, .string ⟨#[115, 97, 118, 101, 100]⟩, .string ⟨#[115, 99, 114, 97, 112, 112, 101, 100]⟩] 9) b (by have := (HS.out b hb).1; have := BW.out.size; omega)))
      rw [HN.out] at this; exact this
    have hr0 : Hid ((W4.alloc (.cells #[.string ⟨#[103, 111, 111, 100]⟩, .string ⟨#[115, 97, 118, 101, 100]⟩, .string ⟨#[115, 99, 114, 97, 112, 112, 101, 100]⟩] 9)).ownsRow W4.heap.size 9 1 (.slice (some ⟨W4.heap.size, 0, none⟩) 3 3) 3 (enc 1 eS ([⟨#[103, 111, 111, 100]⟩, ⟨#[115, 97, 118, 101, 100]⟩, ⟨#[115, 99, 114, 97, 112, 112, 101, 100]⟩] : List ByteArray))) := own_built (c := #[.string ⟨#[103, 111, 111, 100]⟩, .string ⟨#[115, 97, 118, 101, 100]⟩, .string ⟨#[115, 99, 114, 97, 112, 112, 101, 100]⟩]) (Nat.le_refl _) (by unfold maxLen; omega) rfl
    have HDA : Hid (Dp R ob n cb f w g (W4.alloc (.cells #[.string ⟨#[103, 111, 111, 100]⟩, .string ⟨#[115, 97, 118, 101, 100]⟩, .string ⟨#[115, 99, 114, 97, 112, 112, 101, 100]⟩] 9)) p4 #[.string nm, .int .i64 5, .string a, .string ⟨#[]⟩, .int .i64 0, .int .i64 (1 + y), .string ⟨#[]⟩, .string ⟨#[]⟩]) := D4.out.alloc _
    clear hat BW
    go_wp2_with (at_builtin; refine wpList_app elS rfl _ _ rfl rfl rfl hr0.out hsr.out (flatS.enc_one _) (by unfold maxLen; omega) (by omega) (by simp) ?_; intro vE WE hown hgE hbk; obtain ⟨oE, kE, hvE⟩ : ∃ o k, vE = .slice o (3 + nl) k := (Row.form (l := ([⟨#[103, 111, 111, 100]⟩, ⟨#[115, 97, 118, 101, 100]⟩, ⟨#[115, 99, 114, 97, 112, 112, 101, 100]⟩] : List ByteArray) ++ l) (e := eS) (k := 1) (t := 9) (B := W4.heap.size) (w := WE) (by show World.ownsRow _ _ _ _ _ _ _; rw [List.length_append, enc_append, HN.out]; exact hown)).imp (fun o h => h.imp (fun c e => by rw [e, List.length_append, HN.out]; rfl)); subst hvE)
    have RE : Hid (Row WE W4.heap.size 9 1 eS (.slice oE (3 + nl) kE) (([⟨#[103, 111, 111, 100]⟩, ⟨#[115, 97, 118, 101, 100]⟩, ⟨#[115, 99, 114, 97, 112, 112, 101, 100]⟩] : List ByteArray) ++ l)) := by show World.ownsRow _ _ _ _ _ _ _; rw [List.length_append, enc_append, HN.out]; exact hown
    have WNEW_ : ∃ u, u = WE := ⟨_, rfl⟩
    obtain ⟨W5, hW5⟩ := WNEW_
    have D5 : Hid (Dp R ob n cb f w g WE p4 #[.string nm, .int .i64 5, .string a, .string ⟨#[]⟩, .int .i64 0, .int .i64 (1 + y), .string ⟨#[]⟩, .string ⟨#[]⟩]) := HDA.out.grow hgE (fun q hq => by cases hq; omega)
    subst hW5
    have sE : W4.heap.size < W5.heap.size := by have := hgE.size; simp at this; omega
    clear hown hgE hbk hsr hr0 HDA D4
    have EZ : Hid (∀ s ∈ ([⟨#[103, 111, 111, 100]⟩, ⟨#[115, 97, 118, 101, 100]⟩, ⟨#[115, 99, 114, 97, 112, 112, 101, 100]⟩] : List ByteArray) ++ l, s.size ≤ 16) := fun s hs => by
      rcases List.mem_append.1 hs with h | h
      · exact (fun s hs => by simp only [List.mem_cons, List.not_mem_nil, or_false] at hs; rcases hs with rfl | rfl | rfl <;> decide : ∀ s ∈ ([⟨#[103, 111, 111, 100]⟩, ⟨#[115, 97, 118, 101, 100]⟩, ⟨#[115, 99, 114, 97, 112, 112, 101, 100]⟩] : List ByteArray), s.size ≤ 16) s h
      · exact HZ.out s h
    have EN : Hid (1 ≤ (([⟨#[103, 111, 111, 100]⟩, ⟨#[115, 97, 118, 101, 100]⟩, ⟨#[115, 99, 114, 97, 112, 112, 101, 100]⟩] : List ByteArray) ++ l).length ∧ (([⟨#[103, 111, 111, 100]⟩, ⟨#[115, 97, 118, 101, 100]⟩, ⟨#[115, 99, 114, 97, 112, 112, 101, 100]⟩] : List ByteArray) ++ l).length ≤ 1000) := by show _ ∧ _; rw [List.length_append, HN.out]; simp; omega
    have SE : ∀ q, (Value.slice oE (3 + nl) kE).ownBlock = some q → W4.heap.size ≤ q ∧ q < W5.heap.size := fun q hq => World.ownsRow.lt RE.out q hq
    have C : Hid _ := of_rd R ob n cb f _ (fun q => W4.heap.size ≤ q ∧ q < W5.heap.size) (([⟨#[103, 111, 111, 100]⟩, ⟨#[115, 97, 118, 101, 100]⟩, ⟨#[115, 99, 114, 97, 112, 112, 101, 100]⟩] : List ByteArray) ++ l) _ W5 D5.out.rd (by omega) (flatS.row_at RE.out SE (fun s hs => Nat.le_trans (EZ.out s hs) (by decide))) (fun q hq => ⟨hq.2, by omega⟩) EN.out.1 EN.out.2
    go_wp2_with fail
    refine Calls.mono C.out ?_
    clear C
    rintro e W6 ⟨th, hs, rfl, p6, hp6, rd, bt⟩
    have D6 : Hid (Dp R ob n cb f w g W6 p6 #[.string nm, .int .i64 5, .string a, .string ⟨#[]⟩, .int .i64 0, .int .i64 (1 + y), .string ⟨#[]⟩, .string ⟨#[]⟩]) := D5.out.call rd.out bt.out
    have thz := EZ.out th hs
    have RE2 : Hid (Row W6 W4.heap.size 9 1 eS (.slice oE (3 + nl) kE) (([⟨#[103, 111, 111, 100]⟩, ⟨#[115, 97, 118, 101, 100]⟩, ⟨#[115, 99, 114, 97, 112, 112, 101, 100]⟩] : List ByteArray) ++ l)) := Row.block RE.out (fun q hq => bt.out.block q (SE q hq).2 (by have := (SE q hq).1; omega))
    clear hs SE RE rd bt D5
    obtain ⟨c6, f6⟩ := cell_row D6.out.box 6 (.string ⟨#[]⟩) rfl
    obtain ⟨W7, E7⟩ : ∃ u, u = W6.setCell ⟨g, 6, none⟩ (.string th) := ⟨_, rfl⟩
    have HE7 : Hid (W7 = W6.setCell ⟨g, 6, none⟩ (.string th)) := E7
    have D7 : Hid (Dp R ob n cb f w g W7 p6 #[.string nm, .int .i64 5, .string a, .string ⟨#[]⟩, .int .i64 0, .int .i64 (1 + y), .string th, .string ⟨#[]⟩]) := by rw [E7]; exact D6.out.put 6 _ rfl
    clear E7
    have RE : Hid (Row W7 W4.heap.size 9 1 eS (.slice oE (3 + nl) kE) (([⟨#[103, 111, 111, 100]⟩, ⟨#[115, 97, 118, 101, 100]⟩, ⟨#[115, 99, 114, 97, 112, 112, 101, 100]⟩] : List ByteArray) ++ l)) := by
      rw [HE7.out]
      exact Row.block RE2.out (fun q hq => Below.heap_setCell _ _ _ _ (by have := (World.ownsRow.lt RE2.out q hq).1; show q ≠ g; omega))
    clear RE2
    go_upto_region 15 with fail
    rw [← HE7.out]
    clear HE7 D6 c6 f6
    have SE : ∀ q, (Value.slice oE (3 + nl) kE).ownBlock = some q → W4.heap.size ≤ q ∧ q < W7.heap.size := fun q hq => World.ownsRow.lt RE.out q hq
    have C : Hid _ := of_rd R ob n cb f _ (fun q => W4.heap.size ≤ q ∧ q < W7.heap.size) (([⟨#[103, 111, 111, 100]⟩, ⟨#[115, 97, 118, 101, 100]⟩, ⟨#[115, 99, 114, 97, 112, 112, 101, 100]⟩] : List ByteArray) ++ l) _ W7 D7.out.rd (by omega) (flatS.row_at RE.out SE (fun s hs => Nat.le_trans (EZ.out s hs) (by decide))) (fun q hq => ⟨hq.2, by omega⟩) EN.out.1 EN.out.2
    go_wp2_with fail
    refine Calls.mono C.out ?_
    clear C
    rintro e W8 ⟨el, hs, rfl, p8, hp8, rd, bt⟩
    have D8 : Hid (Dp R ob n cb f w g W8 p8 #[.string nm, .int .i64 5, .string a, .string ⟨#[]⟩, .int .i64 0, .int .i64 (1 + y), .string th, .string ⟨#[]⟩]) := D7.out.call rd.out bt.out
    have elz := EZ.out el hs
    have RE2 : Hid (Row W8 W4.heap.size 9 1 eS (.slice oE (3 + nl) kE) (([⟨#[103, 111, 111, 100]⟩, ⟨#[115, 97, 118, 101, 100]⟩, ⟨#[115, 99, 114, 97, 112, 112, 101, 100]⟩] : List ByteArray) ++ l)) := Row.block RE.out (fun q hq => bt.out.block q (SE q hq).2 (by have := (SE q hq).1; omega))
    clear hs SE RE rd bt D7
    obtain ⟨c7, f7⟩ := cell_row D8.out.box 7 (.string ⟨#[]⟩) rfl
    obtain ⟨W9, E9⟩ : ∃ u, u = W8.setCell ⟨g, 7, none⟩ (.string el) := ⟨_, rfl⟩
    have HE9 : Hid (W9 = W8.setCell ⟨g, 7, none⟩ (.string el)) := E9
    have D9 : Hid (Dp R ob n cb f w g W9 p8 #[.string nm, .int .i64 5, .string a, .string ⟨#[]⟩, .int .i64 0, .int .i64 (1 + y), .string th, .string el]) := by rw [E9]; exact D8.out.put 7 _ rfl
    clear E9
    have RE : Hid (Row W9 W4.heap.size 9 1 eS (.slice oE (3 + nl) kE) (([⟨#[103, 111, 111, 100]⟩, ⟨#[115, 97, 118, 101, 100]⟩, ⟨#[115, 99, 114, 97, 112, 112, 101, 100]⟩] : List ByteArray) ++ l)) := by
      rw [HE9.out]
      exact Row.block RE2.out (fun q hq => Below.heap_setCell _ _ _ _ (by have := (World.ownsRow.lt RE2.out q hq).1; show q ≠ g; omega))
    clear RE2
    go_upto_region 16 with fail
    rw [← HE9.out]
    clear HE9 D8 c7 f7
    clear RE EZ EN sE
    by_cases h0 : nl = 0
    · subst h0
      obtain ⟨l0, _⟩ := cell_row D9.out.box 0 (.string nm) rfl
      obtain ⟨l1, _⟩ := cell_row D9.out.box 1 (.int .i64 5) rfl
      obtain ⟨l2, _⟩ := cell_row D9.out.box 2 (.string a) rfl
      obtain ⟨l3, _⟩ := cell_row D9.out.box 3 (.string ⟨#[]⟩) rfl
      obtain ⟨l4, _⟩ := cell_row D9.out.box 4 (.int .i64 0) rfl
      obtain ⟨l5, _⟩ := cell_row D9.out.box 5 (.int .i64 (1 + y)) rfl
      obtain ⟨l6, _⟩ := cell_row D9.out.box 6 (.string th) rfl
      obtain ⟨l7, _⟩ := cell_row D9.out.box 7 (.string el) rfl
      obtain ⟨r0, t0⟩ := cell_row D9.out.res 0 (.string ⟨#[]⟩) rfl
      obtain ⟨r1, t1⟩ := cell_row D9.out.res 1 (.int .i64 0) rfl
      obtain ⟨r2, t2⟩ := cell_row D9.out.res 2 (.string ⟨#[]⟩) rfl
      obtain ⟨r3, t3⟩ := cell_row D9.out.res 3 (.string ⟨#[]⟩) rfl
      obtain ⟨r4, t4⟩ := cell_row D9.out.res 4 (.int .i64 0) rfl
      obtain ⟨r5, t5⟩ := cell_row D9.out.res 5 (.int .i64 0) rfl
      obtain ⟨r6, t6⟩ := cell_row D9.out.res 6 (.string ⟨#[]⟩) rfl
      obtain ⟨r7, t7⟩ := cell_row D9.out.res 7 (.string ⟨#[]⟩) rfl
      have HF : Hid _ := ret8 D9.out.res (.string nm) (.int .i64 5) (.string a) (.string ⟨#[]⟩) (.int .i64 0) (.int .i64 (1 + y)) (.string th) (.string el)
      go_wp2_with fail
      have F := HF.out
      obtain ⟨FW, hF⟩ : ∃ u', u' = (((((((W9.setCell ⟨w.heap.size, 0, none⟩ (.string nm)).setCell ⟨w.heap.size, 1, none⟩ (.int .i64 5)).setCell ⟨w.heap.size, 2, none⟩ (.string a)).setCell ⟨w.heap.size, 3, none⟩ (.string ⟨#[]⟩)).setCell ⟨w.heap.size, 4, none⟩ (.int .i64 0)).setCell ⟨w.heap.size, 5, none⟩ (.int .i64 (1 + y))).setCell ⟨w.heap.size, 6, none⟩ (.string th)).setCell ⟨w.heap.size, 7, none⟩ (.string el) := ⟨_, rfl⟩
      rw [← hF]
      rw [← hF] at F
      clear hF HF
      obtain ⟨F0, F1, F2⟩ := F
      have u0 := (cell_row F0 0 (.string nm) rfl).1
      have u1 := (cell_row F0 1 (.int .i64 5) rfl).1
      have u2 := (cell_row F0 2 (.string a) rfl).1
      have u3 := (cell_row F0 3 (.string ⟨#[]⟩) rfl).1
      have u4 := (cell_row F0 4 (.int .i64 0) rfl).1
      have u5 := (cell_row F0 5 (.int .i64 (1 + y)) rfl).1
      have u6 := (cell_row F0 6 (.string th) rfl).1
      have u7 := (cell_row F0 7 (.string el) rfl).1
      have rlt' := D9.out.rlt
      have hRd : Rd R FW ob n cb p8 f := D9.out.rd.but (fun b hb => F1 b (by omega))
      have hBt : But (fun q => q = R) w FW := ⟨F2.os.trans D9.out.but.os, F2.tape.trans D9.out.but.tape, F2.output.trans D9.out.but.output, Nat.le_trans D9.out.but.size F2.size, fun b h1 h2 => (F1 b (by omega)).trans (D9.out.but.block b h1 h2)⟩
      exact bodyPost_ret (v := .agg #[.string nm, .int .i64 5, .string a, .string ⟨#[]⟩, .int .i64 0, .int .i64 (1 + y), .string th, .string el]) (by simp [results, Try.results69, go_sem, u0, u1, u2, u3, u4, u5, u6, u7]) rfl ⟨_, _, _, _, _, _, _, rfl, ⟨hnm, az, by decide, thz, elz, ⟨by omega, by omega⟩, ⟨by omega, by omega⟩, ⟨by omega, by omega⟩⟩, p8, by omega, hRd, hBt⟩
    · have d0 : (0 : Int) < (nl : Int) := by omega
      have C : Hid _ := pick_rd R ob n cb f _ 4 W9 D9.out.rd (by omega) (by omega) (by omega)
      go_wp2_with fail
      refine Calls.mono C.out ?_
      clear C
      rintro e W10 ⟨v, rfl, v0, v1, p10, hp10, rd, bt⟩
      have D10 : Hid (Dp R ob n cb f w g W10 p10 #[.string nm, .int .i64 5, .string a, .string ⟨#[]⟩, .int .i64 0, .int .i64 (1 + y), .string th, .string el]) := D9.out.call rd.out bt.out
      clear rd bt D9
      by_cases v0 : 0 < v
      · obtain ⟨b0, off0, fs, hol, e0, fsz⟩ : ∃ b0 off0 fs, ol = some ⟨b0, off0, none⟩ ∧ W10.cell? ⟨b0, off0, none⟩ = some (.string fs) ∧ fs.size ≤ 16 := by
          obtain ⟨oa, c, e, hn, hc⟩ := HL.out
          injection e with e1 e2 e3
          obtain ⟨b0, off0, h1, h2, cc, h3, h4⟩ := hc 0 (by have := HN.out; omega)
          have e0 := h3 0 (by decide)
          rw [h4.1, Nat.zero_mul, Nat.add_zero] at e0
          exact ⟨b0, off0, _, e1.trans h1, (World.cell?_of_block (w := w) (a := ⟨b0, off0, none⟩) (D10.out.but.block b0 (HS.out b0 h2).1 (HS.out b0 h2).2)).trans e0, HZ.out _ (List.getElem_mem (by have := HN.out; omega))⟩
        subst hol
        obtain ⟨c6, f6⟩ := cell_row D10.out.box 6 (.string th) rfl
        obtain ⟨W11, E11⟩ : ∃ u, u = W10.setCell ⟨g, 6, none⟩ (.string fs) := ⟨_, rfl⟩
        have HE11 : Hid (W11 = W10.setCell ⟨g, 6, none⟩ (.string fs)) := E11
        have D11 : Hid (Dp R ob n cb f w g W11 p10 #[.string nm, .int .i64 5, .string a, .string ⟨#[]⟩, .int .i64 0, .int .i64 (1 + y), .string fs, .string el]) := by rw [E11]; exact D10.out.put 6 _ rfl
        clear E11
        go_upto_region 18 with fail
        rw [← HE11.out]
        clear HE11 D10 c6 f6
        obtain ⟨l0, _⟩ := cell_row D11.out.box 0 (.string nm) rfl
        obtain ⟨l1, _⟩ := cell_row D11.out.box 1 (.int .i64 5) rfl
        obtain ⟨l2, _⟩ := cell_row D11.out.box 2 (.string a) rfl
        obtain ⟨l3, _⟩ := cell_row D11.out.box 3 (.string ⟨#[]⟩) rfl
        obtain ⟨l4, _⟩ := cell_row D11.out.box 4 (.int .i64 0) rfl
        obtain ⟨l5, _⟩ := cell_row D11.out.box 5 (.int .i64 (1 + y)) rfl
        obtain ⟨l6, _⟩ := cell_row D11.out.box 6 (.string fs) rfl
        obtain ⟨l7, _⟩ := cell_row D11.out.box 7 (.string el) rfl
        obtain ⟨r0, t0⟩ := cell_row D11.out.res 0 (.string ⟨#[]⟩) rfl
        obtain ⟨r1, t1⟩ := cell_row D11.out.res 1 (.int .i64 0) rfl
        obtain ⟨r2, t2⟩ := cell_row D11.out.res 2 (.string ⟨#[]⟩) rfl
        obtain ⟨r3, t3⟩ := cell_row D11.out.res 3 (.string ⟨#[]⟩) rfl
        obtain ⟨r4, t4⟩ := cell_row D11.out.res 4 (.int .i64 0) rfl
        obtain ⟨r5, t5⟩ := cell_row D11.out.res 5 (.int .i64 0) rfl
        obtain ⟨r6, t6⟩ := cell_row D11.out.res 6 (.string ⟨#[]⟩) rfl
        obtain ⟨r7, t7⟩ := cell_row D11.out.res 7 (.string ⟨#[]⟩) rfl
        have HF : Hid _ := ret8 D11.out.res (.string nm) (.int .i64 5) (.string a) (.string ⟨#[]⟩) (.int .i64 0) (.int .i64 (1 + y)) (.string fs) (.string el)
        go_wp2_with fail
        have F := HF.out
        obtain ⟨FW, hF⟩ : ∃ u', u' = (((((((W11.setCell ⟨w.heap.size, 0, none⟩ (.string nm)).setCell ⟨w.heap.size, 1, none⟩ (.int .i64 5)).setCell ⟨w.heap.size, 2, none⟩ (.string a)).setCell ⟨w.heap.size, 3, none⟩ (.string ⟨#[]⟩)).setCell ⟨w.heap.size, 4, none⟩ (.int .i64 0)).setCell ⟨w.heap.size, 5, none⟩ (.int .i64 (1 + y))).setCell ⟨w.heap.size, 6, none⟩ (.string fs)).setCell ⟨w.heap.size, 7, none⟩ (.string el) := ⟨_, rfl⟩
        rw [← hF]
        rw [← hF] at F
        clear hF HF
        obtain ⟨F0, F1, F2⟩ := F
        have u0 := (cell_row F0 0 (.string nm) rfl).1
        have u1 := (cell_row F0 1 (.int .i64 5) rfl).1
        have u2 := (cell_row F0 2 (.string a) rfl).1
        have u3 := (cell_row F0 3 (.string ⟨#[]⟩) rfl).1
        have u4 := (cell_row F0 4 (.int .i64 0) rfl).1
        have u5 := (cell_row F0 5 (.int .i64 (1 + y)) rfl).1
        have u6 := (cell_row F0 6 (.string fs) rfl).1
        have u7 := (cell_row F0 7 (.string el) rfl).1
        have rlt' := D11.out.rlt
        have hRd : Rd R FW ob n cb p10 f := D11.out.rd.but (fun b hb => F1 b (by omega))
        have hBt : But (fun q => q = R) w FW := ⟨F2.os.trans D11.out.but.os, F2.tape.trans D11.out.but.tape, F2.output.trans D11.out.but.output, Nat.le_trans D11.out.but.size F2.size, fun b h1 h2 => (F1 b (by omega)).trans (D11.out.but.block b h1 h2)⟩
        exact bodyPost_ret (v := .agg #[.string nm, .int .i64 5, .string a, .string ⟨#[]⟩, .int .i64 0, .int .i64 (1 + y), .string fs, .string el]) (by simp [results, Try.results69, go_sem, u0, u1, u2, u3, u4, u5, u6, u7]) rfl ⟨_, _, _, _, _, _, _, rfl, ⟨hnm, az, by decide, fsz, elz, ⟨by omega, by omega⟩, ⟨by omega, by omega⟩, ⟨by omega, by omega⟩⟩, p10, by omega, hRd, hBt⟩
      · have v00 : v = 0 := by omega
        subst v00
        obtain ⟨l0, _⟩ := cell_row D10.out.box 0 (.string nm) rfl
        obtain ⟨l1, _⟩ := cell_row D10.out.box 1 (.int .i64 5) rfl
        obtain ⟨l2, _⟩ := cell_row D10.out.box 2 (.string a) rfl
        obtain ⟨l3, _⟩ := cell_row D10.out.box 3 (.string ⟨#[]⟩) rfl
        obtain ⟨l4, _⟩ := cell_row D10.out.box 4 (.int .i64 0) rfl
        obtain ⟨l5, _⟩ := cell_row D10.out.box 5 (.int .i64 (1 + y)) rfl
        obtain ⟨l6, _⟩ := cell_row D10.out.box 6 (.string th) rfl
        obtain ⟨l7, _⟩ := cell_row D10.out.box 7 (.string el) rfl
        obtain ⟨r0, t0⟩ := cell_row D10.out.res 0 (.string ⟨#[]⟩) rfl
        obtain ⟨r1, t1⟩ := cell_row D10.out.res 1 (.int .i64 0) rfl
        obtain ⟨r2, t2⟩ := cell_row D10.out.res 2 (.string ⟨#[]⟩) rfl
        obtain ⟨r3, t3⟩ := cell_row D10.out.res 3 (.string ⟨#[]⟩) rfl
        obtain ⟨r4, t4⟩ := cell_row D10.out.res 4 (.int .i64 0) rfl
        obtain ⟨r5, t5⟩ := cell_row D10.out.res 5 (.int .i64 0) rfl
        obtain ⟨r6, t6⟩ := cell_row D10.out.res 6 (.string ⟨#[]⟩) rfl
        obtain ⟨r7, t7⟩ := cell_row D10.out.res 7 (.string ⟨#[]⟩) rfl
        have HF : Hid _ := ret8 D10.out.res (.string nm) (.int .i64 5) (.string a) (.string ⟨#[]⟩) (.int .i64 0) (.int .i64 (1 + y)) (.string th) (.string el)
        go_wp2_with fail
        have F := HF.out
        obtain ⟨FW, hF⟩ : ∃ u', u' = (((((((W10.setCell ⟨w.heap.size, 0, none⟩ (.string nm)).setCell ⟨w.heap.size, 1, none⟩ (.int .i64 5)).setCell ⟨w.heap.size, 2, none⟩ (.string a)).setCell ⟨w.heap.size, 3, none⟩ (.string ⟨#[]⟩)).setCell ⟨w.heap.size, 4, none⟩ (.int .i64 0)).setCell ⟨w.heap.size, 5, none⟩ (.int .i64 (1 + y))).setCell ⟨w.heap.size, 6, none⟩ (.string th)).setCell ⟨w.heap.size, 7, none⟩ (.string el) := ⟨_, rfl⟩
        rw [← hF]
        rw [← hF] at F
        clear hF HF
        obtain ⟨F0, F1, F2⟩ := F
        have u0 := (cell_row F0 0 (.string nm) rfl).1
        have u1 := (cell_row F0 1 (.int .i64 5) rfl).1
        have u2 := (cell_row F0 2 (.string a) rfl).1
        have u3 := (cell_row F0 3 (.string ⟨#[]⟩) rfl).1
        have u4 := (cell_row F0 4 (.int .i64 0) rfl).1
        have u5 := (cell_row F0 5 (.int .i64 (1 + y)) rfl).1
        have u6 := (cell_row F0 6 (.string th) rfl).1
        have u7 := (cell_row F0 7 (.string el) rfl).1
        have rlt' := D10.out.rlt
        have hRd : Rd R FW ob n cb p10 f := D10.out.rd.but (fun b hb => F1 b (by omega))
        have hBt : But (fun q => q = R) w FW := ⟨F2.os.trans D10.out.but.os, F2.tape.trans D10.out.but.tape, F2.output.trans D10.out.but.output, Nat.le_trans D10.out.but.size F2.size, fun b h1 h2 => (F1 b (by omega)).trans (D10.out.but.block b h1 h2)⟩
        exact bodyPost_ret (v := .agg #[.string nm, .int .i64 5, .string a, .string ⟨#[]⟩, .int .i64 0, .int .i64 (1 + y), .string th, .string el]) (by simp [results, Try.results69, go_sem, u0, u1, u2, u3, u4, u5, u6, u7]) rfl ⟨_, _, _, _, _, _, _, rfl, ⟨hnm, az, by decide, thz, elz, ⟨by omega, by omega⟩, ⟨by omega, by omega⟩, ⟨by omega, by omega⟩⟩, p10, by omega, hRd, hBt⟩

end Go.Proofs.Ytkongeofapbblaa
