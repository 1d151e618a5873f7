/-
  Several texts in one.
-/
import Derived.Test.YtkongeofapbblaaXdi
import Derived.Test.YtkongeofapbblaaXdc
import Derived.Test.YtkongeofapbblaaXn
import Derived.Test.YtkongeofapbblaaM9
import Derived.Deep.Cut
/-
  A recipe is drawn, whole, spoilt or none.
-/
namespace Go.Proofs.Ytkongeofapbblaa
open Go.RowKit Go.Sort

/-- What is answered by the drawing of any recipe. -/
def AnE (R : Nat) (ob : Option Addr) (n cb : Nat) (f : Nat → Int) (p : Int) (w : World) (e : Ending) (w' : World) : Prop := ∃ v M, e = .returned v ∧ M.length ≤ 14 ∧ (∀ x ∈ M, PzL 2000 x) ∧ ∃ p', p' ≤ p + 3000 ∧ Hid (Rd R w' ob n cb p' f) ∧ Hid (But (fun q => q = R) w w') ∧ Hid (Row w' w.heap.size 37 8 eR v M)
theorem AnE.of {R : Nat} {ob : Option Addr} {n cb : Nat} {f : Nat → Int} {p : Int} {w : World} {e : Ending} {w' : World} (h : ∃ v M, e = .returned v ∧ M.length ≤ 14 ∧ (∀ x ∈ M, PzL 2000 x) ∧ ∃ p', p' ≤ p + 3000 ∧ Hid (Rd R w' ob n cb p' f) ∧ Hid (But (fun q => q = R) w w') ∧ Hid (Row w' w.heap.size 37 8 eR v M)) : AnE R ob n cb f p w e w' := h

set_option maxRecDepth 100000 in
set_option maxHeartbeats 4000000 in
theorem any_rd (R : Nat) (ob : Option Addr) (n cb : Nat) (f : Nat → Int) (p : Int) (w : World) (h : Rd R w ob n cb p f) (hp : p ≤ 50000) :
    Calls Try.prog 17 #[.pointer (some ⟨R, 0, none⟩)] w fun e w' => AnE R ob n cb f p w e w' := by
  have rlt := h.lt
  have C : Hid _ := recipe_rd R ob n cb f p w h (by omega)
  clear h
  go_enter Try.func17, Try.ntmps17
  go_wp2_with fail
  refine Calls.mono C.out ?_
  rintro e W1 ⟨v, L, rfl, h1, h2, p1, hp1, D1⟩
  clear C
  obtain ⟨oo, ko, hf⟩ := Row.form D1.out.row
  subst hf
  obtain ⟨nl, hnl⟩ : ∃ nl, L.length = nl := ⟨_, rfl⟩
  have HLK : Hid (L.length = nl) := hnl
  rw [hnl] at h1 h2 D1
  rw [hnl]
  clear hnl
  have C : Hid _ := pick_rd R ob n cb f p1 24 W1 D1.out.rd (by omega) (by omega) (by omega)
  go_wp2_with fail
  refine Calls.mono C.out ?_
  rintro e W2 ⟨z, rfl, z0, z1, p2, hp2, RD2, bt⟩
  have D2 : Hid (Dr R ob n cb f w (w.heap.size + 1) W2 p2 (.slice oo nl ko) L) := D1.out.call RD2.out bt.out
  clear C bt RD2 D1
  have whi := D2.out.hi
  rcases (show z = 0 ∨ z = 1 ∨ 2 ≤ z by omega) with rfl | rfl | hz
  · have C : Hid _ := spoilL_rd R ob n cb f p2 (fun b => w.heap.size + 1 ≤ b ∧ b < W2.heap.size) L oo nl ko W2 D2.out.rd (by omega) (flatR.row_at D2.out.row (fun q hq => World.ownsRow.lt D2.out.row q hq) (fun x hx => (D2.out.pz x hx).ok (by omega))) (fun b hb => ⟨hb.2, by omega⟩) h1 h2 D2.out.pz
    go_wp2_with fail
    refine Calls.mono C.out ?_
    rintro e W3 ⟨v3, M, rfl, hm, hz, p3, hp3, RD3, BT3, RW3⟩
    have BT : Hid (But (fun q => q = R) w W3) := D2.out.but.trans BT3.out
    have RW : Hid (Row W3 w.heap.size 37 8 eR v3 M) := RW3.out.low (by omega)
    have HZM : Hid (∀ x ∈ M, PzL 2000 x) := hz
    clear C BT3 RW3 D2 hz
    obtain ⟨o3, k3, hf3⟩ := Row.form RW.out
    subst hf3
    go_wp2_with fail
    go_ret
    exact AnE.of ⟨_, M, rfl, hm, HZM.out, p3, by omega, RD3, BT, RW⟩
  · go_wp2_with fail
    go_ret
    exact AnE.of ⟨_, [], rfl, by simp, (fun _ h => by cases h), p2, by omega, D2.out.rd.but (fun b hb => Below.heap_alloc W2 _ b (by have := D2.out.rd.lt; omega)), but_alloc D2.out.but _, Row.made W2 37 8 eR (by omega)⟩
  · have hz0 : (z == 0) = false := by simp; omega
    have hz1 : (z == 1) = false := by simp; omega
    go_wp2_with fail
    go_ret
    exact AnE.of ⟨_, L, rfl, by have := HLK.out; omega, fun x hx => (D2.out.pz x hx).up (by omega), p2, by omega, D2.out.rd, D2.out.but, D2.out.row.low (by omega)⟩

end Go.Proofs.Ytkongeofapbblaa

/-
  A saying is drawn.
-/
namespace Go.Proofs.Ytkongeofapbblaa
open Go.RowKit

theorem ret2c {w : World} {g : Nat} {x0 x1 : Value} {t : TypeId} (h : w.heap[g]? = some (.cells #[x0, x1] t (0, 0))) (a0 a1 : Value) :
    ((w.setCell ⟨g, 0, none⟩ a0).setCell ⟨g, 1, none⟩ a1).heap[g]? = some (.cells #[a0, a1] t (0, 0)) ∧ (∀ q, q ≠ g → ((w.setCell ⟨g, 0, none⟩ a0).setCell ⟨g, 1, none⟩ a1).heap[q]? = w.heap[q]?) ∧ Below g w ((w.setCell ⟨g, 0, none⟩ a0).setCell ⟨g, 1, none⟩ a1) := by
  refine ⟨?_, ?_, ?_⟩
  · have := set_row (set_row h 0 a0) 1 a1
    simpa using this
  · intro q hq
    exact (Below.heap_setCell _ ⟨g, 1, none⟩ a1 q hq).trans (Below.heap_setCell _ ⟨g, 0, none⟩ a0 q hq)
  · exact ((Below.refl _ _).setCell (p := ⟨g, 0, none⟩) (Nat.le_refl _) a0).setCell (p := ⟨g, 1, none⟩) (Nat.le_refl _) a1

/-- Where the drawing of a saying stands: the reader, the saying in its box g, the answer's box. -/
structure Du (R : Nat) (ob : Option Addr) (n cb : Nat) (f : Nat → Int) (w : World) (g : Nat) (W : World) (p : Int) (row : Array Value) : Prop where
  rd : Rd R W ob n cb p f
  but : But (fun q => q = R) w W
  box : W.heap[g]? = some (.cells row 41 (0, 0))
  res : W.heap[w.heap.size]? = some (.cells #[.int .i64 0, .bool false] 41 (0, 0))
  lo : w.heap.size < g
  rlt : R < w.heap.size
section
variable {R : Nat} {ob : Option Addr} {n cb : Nat} {f : Nat → Int} {w : World} {g : Nat} {W W' : World} {p p' : Int} {row row' : Array Value}
theorem Du.glt (h : Du R ob n cb f w g W p row) : g < W.heap.size := (Array.getElem?_eq_some_iff.1 h.box).1
theorem Du.call (h : Du R ob n cb f w g W p row) (rd : Rd R W' ob n cb p' f) (bt : But (fun q => q = R) W W') : Du R ob n cb f w g W' p' row :=
  have h1 := h.glt; have h2 := h.lo; have h3 := h.rlt
  ⟨rd, h.but.trans bt, (bt.block g h1 (by omega)).trans h.box, (bt.block w.heap.size (by omega) (by omega)).trans h.res, h2, h3⟩
theorem Du.alloc (h : Du R ob n cb f w g W p row) (o : Obj) : Du R ob n cb f w g (W.alloc o) p row :=
  have h1 := h.glt; have h2 := h.lo; have h3 := h.rlt
  ⟨h.rd.but (fun b hb => Below.heap_alloc W o b (by omega)), but_alloc h.but o, alloc_upD _ h.box, alloc_upD _ h.res, h2, h3⟩
theorem Du.put (h : Du R ob n cb f w g W p row) (j : Nat) (v : Value) (hr : row.setIfInBounds j v = row') : Du R ob n cb f w g (W.setCell ⟨g, j, none⟩ v) p row' :=
  have h1 := h.glt; have h2 := h.lo; have h3 := h.rlt
  ⟨h.rd.but (fun b hb => Below.heap_setCell W ⟨g, j, none⟩ v b (by show b ≠ g; omega)), but_new h.but (by omega) _ _, by rw [← hr]; exact set_row h.box j v, (Below.heap_setCell W ⟨g, j, none⟩ v _ (by show w.heap.size ≠ g; omega)).trans h.res, h2, h3⟩
theorem Du.grow (h : Du R ob n cb f w g W p row) {rw : Option Nat} (hg : W.grownBy W' rw) (hr : ∀ k, rw = some k → g < k) : Du R ob n cb f w g W' p row :=
  have h1 := h.glt; have h2 := h.lo; have h3 := h.rlt
  have ne : ∀ b, b ≤ g → some b ≠ rw := fun b hb e => by have := hr b e.symm; omega
  ⟨h.rd.but (fun b hb => hg.block b (by omega) (ne b (by omega))), ⟨hg.os.trans h.but.os, hg.tape.trans h.but.tape, hg.output.trans h.but.output, Nat.le_trans h.but.size hg.size, fun b h4 h5 => (hg.block b (by have := h.but.size; omega) (ne b (by omega))).trans (h.but.block b h4 h5)⟩, (hg.block g h1 (ne g (Nat.le_refl _))).trans h.box, (hg.block w.heap.size (by omega) (ne _ (by omega))).trans h.res, h2, h3⟩
end

/-- What a drawn saying is. -/
def SyE (R : Nat) (ob : Option Addr) (n cb : Nat) (f : Nat → Int) (p : Int) (w : World) (e : Ending) (w' : World) : Prop := ∃ t b, e = .returned (.agg #[.int .i64 t, .bool b]) ∧ OkN t ∧ ∃ p', p' ≤ p + 4 ∧ Hid (Rd R w' ob n cb p' f) ∧ Hid (But (fun k => k = R) w w')
theorem SyE.of {R : Nat} {ob : Option Addr} {n cb : Nat} {f : Nat → Int} {p : Int} {w : World} {e : Ending} {w' : World} (h : ∃ t b, e = .returned (.agg #[.int .i64 t, .bool b]) ∧ OkN t ∧ ∃ p', p' ≤ p + 4 ∧ Hid (Rd R w' ob n cb p' f) ∧ Hid (But (fun k => k = R) w w')) : SyE R ob n cb f p w e w' := h

set_option maxRecDepth 100000 in
set_option maxHeartbeats 4000000 in
theorem say_rd (R : Nat) (ob : Option Addr) (n cb : Nat) (f : Nat → Int) (p : Int) (w : World) (h : Rd R w ob n cb p f) (hp : p ≤ 80000) :
    Calls Try.prog 19 #[.pointer (some ⟨R, 0, none⟩)] w fun e w' => SyE R ob n cb f p w e w' := by
  have rlt := h.lt
  obtain ⟨W, hW⟩ : ∃ W, W = w.alloc (.cells #[.int .i64 0, .bool false] 41) := ⟨_, rfl⟩
  have EW : Hid (W = w.alloc (.cells #[.int .i64 0, .bool false] 41)) := hW
  have RW : Hid (Rd R W ob n cb p f) := by rw [hW]; exact h.but (fun b hb => Below.heap_alloc w _ b (by omega))
  have BW : Hid (But (fun q => q = R) w W) := by rw [hW]; exact but_alloc (But.refl _ _) _
  have ZW : Hid (W.heap[w.heap.size]? = some (.cells #[.int .i64 0, .bool false] 41 (0, 0))) := by rw [hW]; exact heap_alloc_new w _
  have sW : W.heap.size = w.heap.size + 1 := by rw [hW]; simp
  have C : Hid _ := pick_rd R ob n cb f p 24 W RW.out (by omega) (by omega) (by omega)
  clear h hW
  go_enter Try.func19, Try.ntmps19
  go_upto_region 1 with fail
  rw [← EW.out]
  clear EW
  go_wp2_with fail
  refine Calls.mono C.out ?_
  rintro e W1 ⟨t, rfl, t0, t1, p1, hp1, RD1, bt1⟩
  have B1 : Hid (But (fun q => q = R) w W1) := BW.out.trans bt1.out
  have Z1 : Hid (W1.heap[w.heap.size]? = some (.cells #[.int .i64 0, .bool false] 41 (0, 0))) := (bt1.out.block w.heap.size (by omega) (by omega)).trans ZW.out
  have s1 := bt1.out.size
  clear C RW BW ZW bt1
  have C : Hid _ := pick_rd R ob n cb f p1 3 W1 RD1.out (by omega) (by omega) (by omega)
  go_wp2_with fail
  refine Calls.mono C.out ?_
  rintro e W2 ⟨y, rfl, y0, y1, p2, hp2, RD2, bt2⟩
  have B2 : Hid (But (fun q => q = R) w W2) := B1.out.trans bt2.out
  have Z2 : Hid (W2.heap[w.heap.size]? = some (.cells #[.int .i64 0, .bool false] 41 (0, 0))) := (bt2.out.block w.heap.size (by omega) (by omega)).trans Z1.out
  have s2 := bt2.out.size
  clear C RD1 B1 Z1 bt2
  obtain ⟨bb, hbb⟩ : ∃ bb, decide ((0 : Int) < y) = bb := ⟨_, rfl⟩
  obtain ⟨W3, hW3⟩ : ∃ W3, W3 = W2.alloc (.cells #[.int .i64 t, .bool bb] 41) := ⟨_, rfl⟩
  have E3 : Hid (W3 = W2.alloc (.cells #[.int .i64 t, .bool bb] 41)) := hW3
  have D3 : Hid (Du R ob n cb f w W2.heap.size W3 p2 #[.int .i64 t, .bool bb]) := by
    rw [hW3]
    exact ⟨RD2.out.but (fun b hb => Below.heap_alloc W2 _ b (by have := RD2.out.lt; omega)), but_alloc B2.out _, heap_alloc_new W2 _, alloc_upD _ Z2.out, by omega, rlt⟩
  clear hW3 RD2 B2 Z2
  have OKT : Hid (OkN t) := by show _ ∧ _; omega
  clear t0 t1
  go_upto_region 2 with fail
  rw [← E3.out]
  clear E3 hbb
  have C : Hid _ := pick_rd R ob n cb f p2 24 W3 D3.out.rd (by omega) (by omega) (by omega)
  go_wp2_with fail
  refine Calls.mono C.out ?_
  rintro e W4 ⟨z, rfl, z0, z1, p4, hp4, RD4, bt4⟩
  have D4 : Hid (Du R ob n cb f w W2.heap.size W4 p4 #[.int .i64 t, .bool bb]) := D3.out.call RD4.out bt4.out
  clear C D3 RD4 bt4
  by_cases hz : z = 0
  · subst hz
    have D5 : Hid (Du R ob n cb f w W2.heap.size (W4.alloc (.cells #[.int .i64 (-1), .int .i64 (-9223372036854775808), .int .i64 9223372036854775807, .int .i64 0] 3)) p4 #[.int .i64 t, .bool bb]) := D4.out.alloc _
    have C : Hid _ := pick_rd R ob n cb f p4 4 _ D5.out.rd (by omega) (by omega) (by omega)
    have r4 := D4.out.rd.lt
    go_wp2_with fail
    refine Calls.mono C.out ?_
    rintro e W6 ⟨x, rfl, x0, x1, p6, hp6, RD6, bt6⟩
    have D6 : Hid (Du R ob n cb f w W2.heap.size W6 p6 #[.int .i64 t, .bool bb]) := D5.out.call RD6.out bt6.out
    have L6 : Hid (W6.heap[W4.heap.size]? = some (.cells #[.int .i64 (-1), .int .i64 (-9223372036854775808), .int .i64 9223372036854775807, .int .i64 0] 3 (0, 0))) := (bt6.out.block W4.heap.size (by simp) (by omega)).trans (heap_alloc_new W4 _)
    clear C D4 D5 RD6 bt6
    obtain ⟨b0, _⟩ := cell_row D6.out.box 0 (.int .i64 t) rfl
    rcases (show x = 0 ∨ x = 1 ∨ x = 2 ∨ x = 3 by omega) with rfl | rfl | rfl | rfl
    · have k0 := (cell_row L6.out 0 (.int .i64 (-1)) rfl).1
      have D7 : Hid (Du R ob n cb f w W2.heap.size (W6.setCell ⟨W2.heap.size, 0, none⟩ (.int .i64 (-1))) p6 #[.int .i64 (-1), .bool bb]) := D6.out.put 0 _ rfl
      obtain ⟨W7, hW7⟩ : ∃ W7, W7 = W6.setCell ⟨W2.heap.size, 0, none⟩ (.int .i64 (-1)) := ⟨_, rfl⟩
      have E7 : Hid (W7 = W6.setCell ⟨W2.heap.size, 0, none⟩ (.int .i64 (-1))) := hW7
      rw [← hW7] at D7
      clear hW7
      go_upto_region 4 with fail
      rw [← E7.out]
      clear E7
      obtain ⟨l0, _⟩ := cell_row D7.out.box 0 (.int .i64 (-1)) rfl
      obtain ⟨l1, _⟩ := cell_row D7.out.box 1 (.bool bb) rfl
      obtain ⟨r0, c0⟩ := cell_row D7.out.res 0 (.int .i64 0) rfl
      obtain ⟨r1, c1⟩ := cell_row D7.out.res 1 (.bool false) rfl
      have HF : Hid _ := ret2c D7.out.res (.int .i64 (-1)) (.bool bb)
      go_wp2_with fail
      have F := HF.out
      obtain ⟨FW, hF⟩ : ∃ u', u' = (W7.setCell ⟨w.heap.size, 0, none⟩ (.int .i64 (-1))).setCell ⟨w.heap.size, 1, none⟩ (.bool bb) := ⟨_, rfl⟩
      rw [← hF]
      rw [← hF] at F
      clear hF HF
      obtain ⟨F0, F1, F2⟩ := F
      have u0 := (cell_row F0 0 (.int .i64 (-1)) rfl).1
      have u1 := (cell_row F0 1 (.bool bb) rfl).1
      have hRd : Rd R FW ob n cb p6 f := D7.out.rd.but (fun b hb => F1 b (by omega))
      have hBt : But (fun q => q = R) w FW := ⟨F2.os.trans D7.out.but.os, F2.tape.trans D7.out.but.tape, F2.output.trans D7.out.but.output, Nat.le_trans D7.out.but.size F2.size, fun b h1 h2 => (F1 b (by omega)).trans (D7.out.but.block b h1 h2)⟩
      exact bodyPost_ret (v := .agg #[(.int .i64 (-1)), .bool bb]) (by simp [results, Try.results19, go_sem, u0, u1]) rfl (SyE.of ⟨_, bb, rfl, (by show _ ∧ _; omega), p6, by omega, hRd, hBt⟩)
    · have k0 := (cell_row L6.out 1 (.int .i64 (-9223372036854775808)) rfl).1
      have D7 : Hid (Du R ob n cb f w W2.heap.size (W6.setCell ⟨W2.heap.size, 0, none⟩ (.int .i64 (-9223372036854775808))) p6 #[.int .i64 (-9223372036854775808), .bool bb]) := D6.out.put 0 _ rfl
      obtain ⟨W7, hW7⟩ : ∃ W7, W7 = W6.setCell ⟨W2.heap.size, 0, none⟩ (.int .i64 (-9223372036854775808)) := ⟨_, rfl⟩
      have E7 : Hid (W7 = W6.setCell ⟨W2.heap.size, 0, none⟩ (.int .i64 (-9223372036854775808))) := hW7
      rw [← hW7] at D7
      clear hW7
      go_upto_region 4 with fail
      rw [← E7.out]
      clear E7
      obtain ⟨l0, _⟩ := cell_row D7.out.box 0 (.int .i64 (-9223372036854775808)) rfl
      obtain ⟨l1, _⟩ := cell_row D7.out.box 1 (.bool bb) rfl
      obtain ⟨r0, c0⟩ := cell_row D7.out.res 0 (.int .i64 0) rfl
      obtain ⟨r1, c1⟩ := cell_row D7.out.res 1 (.bool false) rfl
      have HF : Hid _ := ret2c D7.out.res (.int .i64 (-9223372036854775808)) (.bool bb)
      go_wp2_with fail
      have F := HF.out
      obtain ⟨FW, hF⟩ : ∃ u', u' = (W7.setCell ⟨w.heap.size, 0, none⟩ (.int .i64 (-9223372036854775808))).setCell ⟨w.heap.size, 1, none⟩ (.bool bb) := ⟨_, rfl⟩
      rw [← hF]
      rw [← hF] at F
      clear hF HF
      obtain ⟨F0, F1, F2⟩ := F
      have u0 := (cell_row F0 0 (.int .i64 (-9223372036854775808)) rfl).1
      have u1 := (cell_row F0 1 (.bool bb) rfl).1
      have hRd : Rd R FW ob n cb p6 f := D7.out.rd.but (fun b hb => F1 b (by omega))
      have hBt : But (fun q => q = R) w FW := ⟨F2.os.trans D7.out.but.os, F2.tape.trans D7.out.but.tape, F2.output.trans D7.out.but.output, Nat.le_trans D7.out.but.size F2.size, fun b h1 h2 => (F1 b (by omega)).trans (D7.out.but.block b h1 h2)⟩
      exact bodyPost_ret (v := .agg #[(.int .i64 (-9223372036854775808)), .bool bb]) (by simp [results, Try.results19, go_sem, u0, u1]) rfl (SyE.of ⟨_, bb, rfl, (by show _ ∧ _; omega), p6, by omega, hRd, hBt⟩)
    · have k0 := (cell_row L6.out 2 (.int .i64 9223372036854775807) rfl).1
      have D7 : Hid (Du R ob n cb f w W2.heap.size (W6.setCell ⟨W2.heap.size, 0, none⟩ (.int .i64 9223372036854775807)) p6 #[.int .i64 9223372036854775807, .bool bb]) := D6.out.put 0 _ rfl
      obtain ⟨W7, hW7⟩ : ∃ W7, W7 = W6.setCell ⟨W2.heap.size, 0, none⟩ (.int .i64 9223372036854775807) := ⟨_, rfl⟩
      have E7 : Hid (W7 = W6.setCell ⟨W2.heap.size, 0, none⟩ (.int .i64 9223372036854775807)) := hW7
      rw [← hW7] at D7
      clear hW7
      go_upto_region 4 with fail
      rw [← E7.out]
      clear E7
      obtain ⟨l0, _⟩ := cell_row D7.out.box 0 (.int .i64 9223372036854775807) rfl
      obtain ⟨l1, _⟩ := cell_row D7.out.box 1 (.bool bb) rfl
      obtain ⟨r0, c0⟩ := cell_row D7.out.res 0 (.int .i64 0) rfl
      obtain ⟨r1, c1⟩ := cell_row D7.out.res 1 (.bool false) rfl
      have HF : Hid _ := ret2c D7.out.res (.int .i64 9223372036854775807) (.bool bb)
      go_wp2_with fail
      have F := HF.out
      obtain ⟨FW, hF⟩ : ∃ u', u' = (W7.setCell ⟨w.heap.size, 0, none⟩ (.int .i64 9223372036854775807)).setCell ⟨w.heap.size, 1, none⟩ (.bool bb) := ⟨_, rfl⟩
      rw [← hF]
      rw [← hF] at F
      clear hF HF
      obtain ⟨F0, F1, F2⟩ := F
      have u0 := (cell_row F0 0 (.int .i64 9223372036854775807) rfl).1
      have u1 := (cell_row F0 1 (.bool bb) rfl).1
      have hRd : Rd R FW ob n cb p6 f := D7.out.rd.but (fun b hb => F1 b (by omega))
      have hBt : But (fun q => q = R) w FW := ⟨F2.os.trans D7.out.but.os, F2.tape.trans D7.out.but.tape, F2.output.trans D7.out.but.output, Nat.le_trans D7.out.but.size F2.size, fun b h1 h2 => (F1 b (by omega)).trans (D7.out.but.block b h1 h2)⟩
      exact bodyPost_ret (v := .agg #[(.int .i64 9223372036854775807), .bool bb]) (by simp [results, Try.results19, go_sem, u0, u1]) rfl (SyE.of ⟨_, bb, rfl, (by show _ ∧ _; omega), p6, by omega, hRd, hBt⟩)
    · have k0 := (cell_row L6.out 3 (.int .i64 0) rfl).1
      have D7 : Hid (Du R ob n cb f w W2.heap.size (W6.setCell ⟨W2.heap.size, 0, none⟩ (.int .i64 0)) p6 #[.int .i64 0, .bool bb]) := D6.out.put 0 _ rfl
      obtain ⟨W7, hW7⟩ : ∃ W7, W7 = W6.setCell ⟨W2.heap.size, 0, none⟩ (.int .i64 0) := ⟨_, rfl⟩
      have E7 : Hid (W7 = W6.setCell ⟨W2.heap.size, 0, none⟩ (.int .i64 0)) := hW7
      rw [← hW7] at D7
      clear hW7
      go_upto_region 4 with fail
      rw [← E7.out]
      clear E7
      obtain ⟨l0, _⟩ := cell_row D7.out.box 0 (.int .i64 0) rfl
      obtain ⟨l1, _⟩ := cell_row D7.out.box 1 (.bool bb) rfl
      obtain ⟨r0, c0⟩ := cell_row D7.out.res 0 (.int .i64 0) rfl
      obtain ⟨r1, c1⟩ := cell_row D7.out.res 1 (.bool false) rfl
      have HF : Hid _ := ret2c D7.out.res (.int .i64 0) (.bool bb)
      go_wp2_with fail
      have F := HF.out
      obtain ⟨FW, hF⟩ : ∃ u', u' = (W7.setCell ⟨w.heap.size, 0, none⟩ (.int .i64 0)).setCell ⟨w.heap.size, 1, none⟩ (.bool bb) := ⟨_, rfl⟩
      rw [← hF]
      rw [← hF] at F
      clear hF HF
      obtain ⟨F0, F1, F2⟩ := F
      have u0 := (cell_row F0 0 (.int .i64 0) rfl).1
      have u1 := (cell_row F0 1 (.bool bb) rfl).1
      have hRd : Rd R FW ob n cb p6 f := D7.out.rd.but (fun b hb => F1 b (by omega))
      have hBt : But (fun q => q = R) w FW := ⟨F2.os.trans D7.out.but.os, F2.tape.trans D7.out.but.tape, F2.output.trans D7.out.but.output, Nat.le_trans D7.out.but.size F2.size, fun b h1 h2 => (F1 b (by omega)).trans (D7.out.but.block b h1 h2)⟩
      exact bodyPost_ret (v := .agg #[(.int .i64 0), .bool bb]) (by simp [results, Try.results19, go_sem, u0, u1]) rfl (SyE.of ⟨_, bb, rfl, (by show _ ∧ _; omega), p6, by omega, hRd, hBt⟩)
  · have hz' : (z == 0) = false := by simpa using hz
    obtain ⟨l0, _⟩ := cell_row D4.out.box 0 (.int .i64 t) rfl
    obtain ⟨l1, _⟩ := cell_row D4.out.box 1 (.bool bb) rfl
    obtain ⟨r0, c0⟩ := cell_row D4.out.res 0 (.int .i64 0) rfl
    obtain ⟨r1, c1⟩ := cell_row D4.out.res 1 (.bool false) rfl
    have HF : Hid _ := ret2c D4.out.res (.int .i64 t) (.bool bb)
    go_wp2_with fail
    have F := HF.out
    obtain ⟨FW, hF⟩ : ∃ u', u' = (W4.setCell ⟨w.heap.size, 0, none⟩ (.int .i64 t)).setCell ⟨w.heap.size, 1, none⟩ (.bool bb) := ⟨_, rfl⟩
    rw [← hF]
    rw [← hF] at F
    clear hF HF
    obtain ⟨F0, F1, F2⟩ := F
    have u0 := (cell_row F0 0 (.int .i64 t) rfl).1
    have u1 := (cell_row F0 1 (.bool bb) rfl).1
    have hRd : Rd R FW ob n cb p4 f := D4.out.rd.but (fun b hb => F1 b (by omega))
    have hBt : But (fun q => q = R) w FW := ⟨F2.os.trans D4.out.but.os, F2.tape.trans D4.out.but.tape, F2.output.trans D4.out.but.output, Nat.le_trans D4.out.but.size F2.size, fun b h1 h2 => (F1 b (by omega)).trans (D4.out.but.block b h1 h2)⟩
    exact bodyPost_ret (v := .agg #[(.int .i64 t), .bool bb]) (by simp [results, Try.results19, go_sem, u0, u1]) rfl (SyE.of ⟨_, bb, rfl, OKT.out, p4, by omega, hRd, hBt⟩)

end Go.Proofs.Ytkongeofapbblaa
