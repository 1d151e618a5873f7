/-
  A phase is spoilt.
-/
import Derived.Test.YtkongeofapbblaaXdc
import Derived.Test.YtkongeofapbblaaM17
namespace Go.Proofs.Ytkongeofapbblaa
open Go.RowKit Go.Sort

theorem wrap_s (n : Int) (h0 : -1000000 ≤ n) (h1 : n ≤ 1000000) : IntKind.i64.wrap n = n := by
  simp [IntKind.wrap, IntKind.bits, IntKind.signed]; omega
/-- Where the spoiling of a phase stands: the reader, the phase in its box g, the answer's box h. -/
structure Dq (R : Nat) (ob : Option Addr) (n cb : Nat) (f : Nat → Int) (w : World) (g h : Nat) (W : World) (p : Int) (row : Array Value) : Prop where
  rd : Rd R W ob n cb p f
  but : But (fun q => q = R) w W
  box : W.heap[g]? = some (.cells row 37 (0, 0))
  res : W.heap[h]? = some (.cells #[.string ⟨#[]⟩, .int .i64 0, .string ⟨#[]⟩, .string ⟨#[]⟩, .int .i64 0, .int .i64 0, .string ⟨#[]⟩, .string ⟨#[]⟩] 37 (0, 0))
  lo : w.heap.size ≤ g
  lh : w.heap.size ≤ h
  ne : g ≠ h
  rlt : R < w.heap.size
section
variable {R : Nat} {ob : Option Addr} {n cb : Nat} {f : Nat → Int} {w : World} {g h : Nat} {W W' : World} {p p' : Int} {row row' : Array Value}
theorem Dq.glt (H : Dq R ob n cb f w g h W p row) : g < W.heap.size := (Array.getElem?_eq_some_iff.1 H.box).1
theorem Dq.hlt (H : Dq R ob n cb f w g h W p row) : h < W.heap.size := (Array.getElem?_eq_some_iff.1 H.res).1
theorem Dq.call (H : Dq R ob n cb f w g h W p row) (rd : Rd R W' ob n cb p' f) (bt : But (fun q => q = R) W W') : Dq R ob n cb f w g h W' p' row :=
  have h1 := H.glt; have h2 := H.lo; have h3 := H.rlt; have h4 := H.lh; have h5 := H.hlt
  ⟨rd, H.but.trans bt, (bt.block g h1 (by omega)).trans H.box, (bt.block h h5 (by omega)).trans H.res, h2, h4, H.ne, h3⟩
theorem Dq.alloc (H : Dq R ob n cb f w g h W p row) (o : Obj) : Dq R ob n cb f w g h (W.alloc o) p row :=
  have h1 := H.glt; have h2 := H.lo; have h3 := H.rlt
  ⟨H.rd.but (fun b hb => Below.heap_alloc W o b (by omega)), but_alloc H.but o, alloc_upD _ H.box, alloc_upD _ H.res, h2, H.lh, H.ne, h3⟩
theorem Dq.put (H : Dq R ob n cb f w g h W p row) (j : Nat) (v : Value) (hr : row.setIfInBounds j v = row') : Dq R ob n cb f w g h (W.setCell ⟨g, j, none⟩ v) p row' :=
  have h1 := H.glt; have h2 := H.lo; have h3 := H.rlt; have h4 := H.ne
  ⟨H.rd.but (fun b hb => Below.heap_setCell W ⟨g, j, none⟩ v b (by show b ≠ g; omega)), but_new H.but (by omega) _ _, by rw [← hr]; exact set_row H.box j v, (Below.heap_setCell W ⟨g, j, none⟩ v _ (by show h ≠ g; omega)).trans H.res, h2, H.lh, h4, h3⟩
end

set_option maxRecDepth 100000 in
set_option maxHeartbeats 4000000 in
theorem spoil_rd (R : Nat) (ob : Option Addr) (n cb : Nat) (f : Nat → Int) (p : Int) (nm a b th el : ByteArray) (kd m wi : Int) (w : World) (h : Rd R w ob n cb p f) (hp : p ≤ 80000) (hz : Pz 1000 nm a b th el kd m wi) :
    Calls Try.prog 71 #[.pointer (some ⟨R, 0, none⟩), .agg #[.string nm, .int .i64 kd, .string a, .string b, .int .i64 m, .int .i64 wi, .string th, .string el]] w fun e w' => ∃ nm kd a b m wi th el, e = .returned (.agg #[.string nm, .int .i64 kd, .string a, .string b, .int .i64 m, .int .i64 wi, .string th, .string el]) ∧ Pz 2000 nm a b th el kd m wi ∧ ∃ p', p' ≤ p + 5 ∧ Hid (Rd R w' ob n cb p' f) ∧ Hid (But (fun k => k = R) w w') := by
  obtain ⟨hnm, az, bz, thz, elz, ⟨k0, k1⟩, ⟨m0, m1⟩, ⟨i0, i1⟩⟩ := hz
  have rlt := h.lt
  obtain ⟨W1, hW1⟩ : ∃ u, u = (w.alloc (.cells #[.string nm, .int .i64 kd, .string a, .string b, .int .i64 m, .int .i64 wi, .string th, .string el] 37)).alloc (.cells #[.string ⟨#[]⟩, .int .i64 0, .string ⟨#[]⟩, .string ⟨#[]⟩, .int .i64 0, .int .i64 0, .string ⟨#[]⟩, .string ⟨#[]⟩] 37) := ⟨_, rfl⟩
  have HE1 : Hid (W1 = (w.alloc (.cells #[.string nm, .int .i64 kd, .string a, .string b, .int .i64 m, .int .i64 wi, .string th, .string el] 37)).alloc (.cells #[.string ⟨#[]⟩, .int .i64 0, .string ⟨#[]⟩, .string ⟨#[]⟩, .int .i64 0, .int .i64 0, .string ⟨#[]⟩, .string ⟨#[]⟩] 37)) := hW1
  have D1 : Hid (Dq R ob n cb f w w.heap.size (w.heap.size + 1) W1 p #[.string nm, .int .i64 kd, .string a, .string b, .int .i64 m, .int .i64 wi, .string th, .string el]) := by
    rw [hW1]
    exact ⟨h.but (fun b hb => (Below.heap_alloc _ _ b (by simp; omega)).trans (Below.heap_alloc w _ b (by omega))), but_alloc (but_alloc (But.refl _ w) _) _, alloc_upD _ (alloc_atD _ rfl), alloc_atD _ (by simp), Nat.le_refl _, by omega, by omega, rlt⟩
  clear hW1 h
  go_enter Try.func71, Try.ntmps71
  go_upto_region 1 with fail
  rw [← HE1.out]
  clear HE1
  have C : Hid _ := pick_rd R ob n cb f _ 8 W1 D1.out.rd (by omega) (by omega) (by omega)
  go_wp2_with fail
  refine Calls.mono C.out ?_
  clear C
  rintro e W2 ⟨x, rfl, x0, x1, p2, hp2, rd, bt⟩
  have D2 : Hid (Dq R ob n cb f w w.heap.size (w.heap.size + 1) W2 p2 #[.string nm, .int .i64 kd, .string a, .string b, .int .i64 m, .int .i64 wi, .string th, .string el]) := D1.out.call rd.out bt.out
  clear rd bt D1
  rcases (show x = 0 ∨ x = 1 ∨ x = 2 ∨ x = 3 ∨ x = 4 ∨ x = 5 ∨ x = 6 ∨ x = 7 by omega) with rfl | rfl | rfl | rfl | rfl | rfl | rfl | rfl
  · have hL := lit_at 9 W2 [⟨#[]⟩, ⟨#[65]⟩, ⟨#[103, 111, 111, 100]⟩, ⟨#[102, 49]⟩, ⟨#[110, 105, 110, 101, 45, 98, 121, 116, 101, 115]⟩] (by unfold maxLen; simp) (fun s hs => Nat.le_trans ((fun s hs => by simp only [List.mem_cons, List.not_mem_nil, or_false] at hs; rcases hs with rfl | rfl | rfl | rfl | rfl <;> first | decide | assumption : ∀ s ∈ ([⟨#[]⟩, ⟨#[65]⟩, ⟨#[103, 111, 111, 100]⟩, ⟨#[102, 49]⟩, ⟨#[110, 105, 110, 101, 45, 98, 121, 116, 101, 115]⟩] : List ByteArray), s.size ≤ 16) s hs) (by decide))
    have glt := D2.out.glt
    have lo := D2.out.lo
    have rlt := D2.out.rlt
    have C : Hid _ := of_rd R ob n cb f _ (fun b => b = W2.heap.size) [⟨#[]⟩, ⟨#[65]⟩, ⟨#[103, 111, 111, 100]⟩, ⟨#[102, 49]⟩, ⟨#[110, 105, 110, 101, 45, 98, 121, 116, 101, 115]⟩] _ _ (D2.out.alloc _).rd (by omega) hL (fun b hb => by subst hb; simp; omega) (by simp) (by simp)
    go_wp2_with fail
    refine Calls.mono C.out ?_
    clear C
    rintro e W3 ⟨q, hs, rfl, p3, hp3, rd, bt⟩
    have D3 : Hid (Dq R ob n cb f w w.heap.size (w.heap.size + 1) W3 p3 #[.string nm, .int .i64 kd, .string a, .string b, .int .i64 m, .int .i64 wi, .string th, .string el]) := (D2.out.alloc _).call rd.out bt.out
    have qz := (fun s hs => by simp only [List.mem_cons, List.not_mem_nil, or_false] at hs; rcases hs with rfl | rfl | rfl | rfl | rfl <;> first | decide | assumption : ∀ s ∈ ([⟨#[]⟩, ⟨#[65]⟩, ⟨#[103, 111, 111, 100]⟩, ⟨#[102, 49]⟩, ⟨#[110, 105, 110, 101, 45, 98, 121, 116, 101, 115]⟩] : List ByteArray), s.size ≤ 16) q hs
    clear hs hL glt lo rlt rd bt D2
    obtain ⟨c0, f0⟩ := cell_row D3.out.box 0 (.string nm) rfl
    obtain ⟨W4, E4⟩ : ∃ u, u = W3.setCell ⟨w.heap.size, 0, none⟩ (.string q) := ⟨_, rfl⟩
    have HE4 : Hid (W4 = W3.setCell ⟨w.heap.size, 0, none⟩ (.string q)) := E4
    have D4 : Hid (Dq R ob n cb f w w.heap.size (w.heap.size + 1) W4 p3 #[.string q, .int .i64 kd, .string a, .string b, .int .i64 m, .int .i64 wi, .string th, .string el]) := by rw [E4]; exact D3.out.put 0 _ rfl
    clear E4
    go_upto_region 17 with fail
    rw [← HE4.out]
    clear HE4 D3 c0 f0
    obtain ⟨l0, _⟩ := cell_row D4.out.box 0 (.string q) rfl
    obtain ⟨l1, _⟩ := cell_row D4.out.box 1 (.int .i64 kd) rfl
    obtain ⟨l2, _⟩ := cell_row D4.out.box 2 (.string a) rfl
    obtain ⟨l3, _⟩ := cell_row D4.out.box 3 (.string b) rfl
    obtain ⟨l4, _⟩ := cell_row D4.out.box 4 (.int .i64 m) rfl
    obtain ⟨l5, _⟩ := cell_row D4.out.box 5 (.int .i64 wi) rfl
    obtain ⟨l6, _⟩ := cell_row D4.out.box 6 (.string th) rfl
    obtain ⟨l7, _⟩ := cell_row D4.out.box 7 (.string el) rfl
    obtain ⟨r0, t0⟩ := cell_row D4.out.res 0 (.string ⟨#[]⟩) rfl
    obtain ⟨r1, t1⟩ := cell_row D4.out.res 1 (.int .i64 0) rfl
    obtain ⟨r2, t2⟩ := cell_row D4.out.res 2 (.string ⟨#[]⟩) rfl
    obtain ⟨r3, t3⟩ := cell_row D4.out.res 3 (.string ⟨#[]⟩) rfl
    obtain ⟨r4, t4⟩ := cell_row D4.out.res 4 (.int .i64 0) rfl
    obtain ⟨r5, t5⟩ := cell_row D4.out.res 5 (.int .i64 0) rfl
    obtain ⟨r6, t6⟩ := cell_row D4.out.res 6 (.string ⟨#[]⟩) rfl
    obtain ⟨r7, t7⟩ := cell_row D4.out.res 7 (.string ⟨#[]⟩) rfl
    have HF : Hid _ := ret8 D4.out.res (.string q) (.int .i64 kd) (.string a) (.string b) (.int .i64 m) (.int .i64 wi) (.string th) (.string el)
    go_wp2_with fail
    have F := HF.out
    obtain ⟨FW, hF⟩ : ∃ u', u' = (((((((W4.setCell ⟨w.heap.size + 1, 0, none⟩ (.string q)).setCell ⟨w.heap.size + 1, 1, none⟩ (.int .i64 kd)).setCell ⟨w.heap.size + 1, 2, none⟩ (.string a)).setCell ⟨w.heap.size + 1, 3, none⟩ (.string b)).setCell ⟨w.heap.size + 1, 4, none⟩ (.int .i64 m)).setCell ⟨w.heap.size + 1, 5, none⟩ (.int .i64 wi)).setCell ⟨w.heap.size + 1, 6, none⟩ (.string th)).setCell ⟨w.heap.size + 1, 7, none⟩ (.string el) := ⟨_, rfl⟩
    rw [← hF]
    rw [← hF] at F
    clear hF HF
    obtain ⟨F0, F1, F2⟩ := F
    have u0 := (cell_row F0 0 (.string q) rfl).1
    have u1 := (cell_row F0 1 (.int .i64 kd) rfl).1
    have u2 := (cell_row F0 2 (.string a) rfl).1
    have u3 := (cell_row F0 3 (.string b) rfl).1
    have u4 := (cell_row F0 4 (.int .i64 m) rfl).1
    have u5 := (cell_row F0 5 (.int .i64 wi) rfl).1
    have u6 := (cell_row F0 6 (.string th) rfl).1
    have u7 := (cell_row F0 7 (.string el) rfl).1
    have rlt' := D4.out.rlt
    have hRd : Rd R FW ob n cb p3 f := D4.out.rd.but (fun b hb => F1 b (by omega))
    have hBt : But (fun q => q = R) w FW := ⟨F2.os.trans D4.out.but.os, F2.tape.trans D4.out.but.tape, F2.output.trans D4.out.but.output, Nat.le_trans D4.out.but.size F2.size, fun b h1 h2 => (F1 b (by omega)).trans (D4.out.but.block b h1 h2)⟩
    exact bodyPost_ret (v := .agg #[.string q, .int .i64 kd, .string a, .string b, .int .i64 m, .int .i64 wi, .string th, .string el]) (by simp [results, Try.results71, go_sem, u0, u1, u2, u3, u4, u5, u6, u7]) rfl ⟨_, _, _, _, _, _, _, _, rfl, ⟨qz, az, bz, thz, elz, ⟨by omega, by omega⟩, ⟨by omega, by omega⟩, ⟨by omega, by omega⟩⟩, p3, by omega, hRd, hBt⟩
  · have C : Hid _ := pick_rd R ob n cb f _ 8 W2 D2.out.rd (by omega) (by omega) (by omega)
    go_wp2_with fail
    refine Calls.mono C.out ?_
    clear C
    rintro e W3 ⟨z, rfl, z0, z1, p3, hp3, rd, bt⟩
    have D3 : Hid (Dq R ob n cb f w w.heap.size (w.heap.size + 1) W3 p3 #[.string nm, .int .i64 kd, .string a, .string b, .int .i64 m, .int .i64 wi, .string th, .string el]) := D2.out.call rd.out bt.out
    clear rd bt D2
    obtain ⟨c1, f1⟩ := cell_row D3.out.box 1 (.int .i64 kd) rfl
    obtain ⟨W4, E4⟩ : ∃ u, u = W3.setCell ⟨w.heap.size, 1, none⟩ (.int .i64 (z - 1)) := ⟨_, rfl⟩
    have HE4 : Hid (W4 = W3.setCell ⟨w.heap.size, 1, none⟩ (.int .i64 (z - 1))) := E4
    have D4 : Hid (Dq R ob n cb f w w.heap.size (w.heap.size + 1) W4 p3 #[.string nm, .int .i64 (z - 1), .string a, .string b, .int .i64 m, .int .i64 wi, .string th, .string el]) := by rw [E4]; exact D3.out.put 1 _ rfl
    clear E4
    go_upto_region 17 with fail
    rw [← HE4.out]
    clear HE4 D3 c1 f1
    obtain ⟨l0, _⟩ := cell_row D4.out.box 0 (.string nm) rfl
    obtain ⟨l1, _⟩ := cell_row D4.out.box 1 (.int .i64 (z - 1)) rfl
    obtain ⟨l2, _⟩ := cell_row D4.out.box 2 (.string a) rfl
    obtain ⟨l3, _⟩ := cell_row D4.out.box 3 (.string b) rfl
    obtain ⟨l4, _⟩ := cell_row D4.out.box 4 (.int .i64 m) rfl
    obtain ⟨l5, _⟩ := cell_row D4.out.box 5 (.int .i64 wi) rfl
    obtain ⟨l6, _⟩ := cell_row D4.out.box 6 (.string th) rfl
    obtain ⟨l7, _⟩ := cell_row D4.out.box 7 (.string el) rfl
    obtain ⟨r0, t0⟩ := cell_row D4.out.res 0 (.string ⟨#[]⟩) rfl
    obtain ⟨r1, t1⟩ := cell_row D4.out.res 1 (.int .i64 0) rfl
    obtain ⟨r2, t2⟩ := cell_row D4.out.res 2 (.string ⟨#[]⟩) rfl
    obtain ⟨r3, t3⟩ := cell_row D4.out.res 3 (.string ⟨#[]⟩) rfl
    obtain ⟨r4, t4⟩ := cell_row D4.out.res 4 (.int .i64 0) rfl
    obtain ⟨r5, t5⟩ := cell_row D4.out.res 5 (.int .i64 0) rfl
    obtain ⟨r6, t6⟩ := cell_row D4.out.res 6 (.string ⟨#[]⟩) rfl
    obtain ⟨r7, t7⟩ := cell_row D4.out.res 7 (.string ⟨#[]⟩) rfl
    have HF : Hid _ := ret8 D4.out.res (.string nm) (.int .i64 (z - 1)) (.string a) (.string b) (.int .i64 m) (.int .i64 wi) (.string th) (.string el)
    go_wp2_with fail
    have F := HF.out
    obtain ⟨FW, hF⟩ : ∃ u', u' = (((((((W4.setCell ⟨w.heap.size + 1, 0, none⟩ (.string nm)).setCell ⟨w.heap.size + 1, 1, none⟩ (.int .i64 (z - 1))).setCell ⟨w.heap.size + 1, 2, none⟩ (.string a)).setCell ⟨w.heap.size + 1, 3, none⟩ (.string b)).setCell ⟨w.heap.size + 1, 4, none⟩ (.int .i64 m)).setCell ⟨w.heap.size + 1, 5, none⟩ (.int .i64 wi)).setCell ⟨w.heap.size + 1, 6, none⟩ (.string th)).setCell ⟨w.heap.size + 1, 7, none⟩ (.string el) := ⟨_, rfl⟩
    rw [← hF]
    rw [← hF] at F
    clear hF HF
    obtain ⟨F0, F1, F2⟩ := F
    have u0 := (cell_row F0 0 (.string nm) rfl).1
    have u1 := (cell_row F0 1 (.int .i64 (z - 1)) rfl).1
    have u2 := (cell_row F0 2 (.string a) rfl).1
    have u3 := (cell_row F0 3 (.string b) rfl).1
    have u4 := (cell_row F0 4 (.int .i64 m) rfl).1
    have u5 := (cell_row F0 5 (.int .i64 wi) rfl).1
    have u6 := (cell_row F0 6 (.string th) rfl).1
    have u7 := (cell_row F0 7 (.string el) rfl).1
    have rlt' := D4.out.rlt
    have hRd : Rd R FW ob n cb p3 f := D4.out.rd.but (fun b hb => F1 b (by omega))
    have hBt : But (fun q => q = R) w FW := ⟨F2.os.trans D4.out.but.os, F2.tape.trans D4.out.but.tape, F2.output.trans D4.out.but.output, Nat.le_trans D4.out.but.size F2.size, fun b h1 h2 => (F1 b (by omega)).trans (D4.out.but.block b h1 h2)⟩
    exact bodyPost_ret (v := .agg #[.string nm, .int .i64 (z - 1), .string a, .string b, .int .i64 m, .int .i64 wi, .string th, .string el]) (by simp [results, Try.results71, go_sem, u0, u1, u2, u3, u4, u5, u6, u7]) rfl ⟨_, _, _, _, _, _, _, _, rfl, ⟨hnm, az, bz, thz, elz, ⟨by omega, by omega⟩, ⟨by omega, by omega⟩, ⟨by omega, by omega⟩⟩, p3, by omega, hRd, hBt⟩
  · obtain ⟨c3, f3⟩ := cell_row D2.out.box 3 (.string b) rfl
    have hL := lit_at 9 W2 [⟨#[]⟩, ⟨#[65]⟩, b, ⟨#[103, 111, 111, 100]⟩] (by unfold maxLen; simp) (fun s hs => Nat.le_trans ((fun s hs => by simp only [List.mem_cons, List.not_mem_nil, or_false] at hs; rcases hs with rfl | rfl | rfl | rfl <;> first | decide | assumption : ∀ s ∈ ([⟨#[]⟩, ⟨#[65]⟩, b, ⟨#[103, 111, 111, 100]⟩] : List ByteArray), s.size ≤ 16) s hs) (by decide))
    have glt := D2.out.glt
    have lo := D2.out.lo
    have rlt := D2.out.rlt
    have C : Hid _ := of_rd R ob n cb f _ (fun b => b = W2.heap.size) [⟨#[]⟩, ⟨#[65]⟩, b, ⟨#[103, 111, 111, 100]⟩] _ _ (D2.out.alloc _).rd (by omega) hL (fun b hb => by subst hb; simp; omega) (by simp) (by simp)
    go_wp2_with fail
    refine Calls.mono C.out ?_
    clear C
    rintro e W3 ⟨q, hs, rfl, p3, hp3, rd, bt⟩
    have D3 : Hid (Dq R ob n cb f w w.heap.size (w.heap.size + 1) W3 p3 #[.string nm, .int .i64 kd, .string a, .string b, .int .i64 m, .int .i64 wi, .string th, .string el]) := (D2.out.alloc _).call rd.out bt.out
    have qz := (fun s hs => by simp only [List.mem_cons, List.not_mem_nil, or_false] at hs; rcases hs with rfl | rfl | rfl | rfl <;> first | decide | assumption : ∀ s ∈ ([⟨#[]⟩, ⟨#[65]⟩, b, ⟨#[103, 111, 111, 100]⟩] : List ByteArray), s.size ≤ 16) q hs
    clear hs hL glt lo rlt rd bt D2
    obtain ⟨c2, f2⟩ := cell_row D3.out.box 2 (.string a) rfl
    obtain ⟨W4, E4⟩ : ∃ u, u = W3.setCell ⟨w.heap.size, 2, none⟩ (.string q) := ⟨_, rfl⟩
    have HE4 : Hid (W4 = W3.setCell ⟨w.heap.size, 2, none⟩ (.string q)) := E4
    have D4 : Hid (Dq R ob n cb f w w.heap.size (w.heap.size + 1) W4 p3 #[.string nm, .int .i64 kd, .string q, .string b, .int .i64 m, .int .i64 wi, .string th, .string el]) := by rw [E4]; exact D3.out.put 2 _ rfl
    clear E4
    go_upto_region 17 with fail
    rw [← HE4.out]
    clear HE4 D3 c2 f2
    obtain ⟨l0, _⟩ := cell_row D4.out.box 0 (.string nm) rfl
    obtain ⟨l1, _⟩ := cell_row D4.out.box 1 (.int .i64 kd) rfl
    obtain ⟨l2, _⟩ := cell_row D4.out.box 2 (.string q) rfl
    obtain ⟨l3, _⟩ := cell_row D4.out.box 3 (.string b) rfl
    obtain ⟨l4, _⟩ := cell_row D4.out.box 4 (.int .i64 m) rfl
    obtain ⟨l5, _⟩ := cell_row D4.out.box 5 (.int .i64 wi) rfl
    obtain ⟨l6, _⟩ := cell_row D4.out.box 6 (.string th) rfl
    obtain ⟨l7, _⟩ := cell_row D4.out.box 7 (.string el) rfl
    obtain ⟨r0, t0⟩ := cell_row D4.out.res 0 (.string ⟨#[]⟩) rfl
    obtain ⟨r1, t1⟩ := cell_row D4.out.res 1 (.int .i64 0) rfl
    obtain ⟨r2, t2⟩ := cell_row D4.out.res 2 (.string ⟨#[]⟩) rfl
    obtain ⟨r3, t3⟩ := cell_row D4.out.res 3 (.string ⟨#[]⟩) rfl
    obtain ⟨r4, t4⟩ := cell_row D4.out.res 4 (.int .i64 0) rfl
    obtain ⟨r5, t5⟩ := cell_row D4.out.res 5 (.int .i64 0) rfl
    obtain ⟨r6, t6⟩ := cell_row D4.out.res 6 (.string ⟨#[]⟩) rfl
    obtain ⟨r7, t7⟩ := cell_row D4.out.res 7 (.string ⟨#[]⟩) rfl
    have HF : Hid _ := ret8 D4.out.res (.string nm) (.int .i64 kd) (.string q) (.string b) (.int .i64 m) (.int .i64 wi) (.string th) (.string el)
    go_wp2_with fail
    have F := HF.out
    obtain ⟨FW, hF⟩ : ∃ u', u' = (((((((W4.setCell ⟨w.heap.size + 1, 0, none⟩ (.string nm)).setCell ⟨w.heap.size + 1, 1, none⟩ (.int .i64 kd)).setCell ⟨w.heap.size + 1, 2, none⟩ (.string q)).setCell ⟨w.heap.size + 1, 3, none⟩ (.string b)).setCell ⟨w.heap.size + 1, 4, none⟩ (.int .i64 m)).setCell ⟨w.heap.size + 1, 5, none⟩ (.int .i64 wi)).setCell ⟨w.heap.size + 1, 6, none⟩ (.string th)).setCell ⟨w.heap.size + 1, 7, none⟩ (.string el) := ⟨_, rfl⟩
    rw [← hF]
    rw [← hF] at F
    clear hF HF
    obtain ⟨F0, F1, F2⟩ := F
    have u0 := (cell_row F0 0 (.string nm) rfl).1
    have u1 := (cell_row F0 1 (.int .i64 kd) rfl).1
    have u2 := (cell_row F0 2 (.string q) rfl).1
    have u3 := (cell_row F0 3 (.string b) rfl).1
    have u4 := (cell_row F0 4 (.int .i64 m) rfl).1
    have u5 := (cell_row F0 5 (.int .i64 wi) rfl).1
    have u6 := (cell_row F0 6 (.string th) rfl).1
    have u7 := (cell_row F0 7 (.string el) rfl).1
    have rlt' := D4.out.rlt
    have hRd : Rd R FW ob n cb p3 f := D4.out.rd.but (fun b hb => F1 b (by omega))
    have hBt : But (fun q => q = R) w FW := ⟨F2.os.trans D4.out.but.os, F2.tape.trans D4.out.but.tape, F2.output.trans D4.out.but.output, Nat.le_trans D4.out.but.size F2.size, fun b h1 h2 => (F1 b (by omega)).trans (D4.out.but.block b h1 h2)⟩
    exact bodyPost_ret (v := .agg #[.string nm, .int .i64 kd, .string q, .string b, .int .i64 m, .int .i64 wi, .string th, .string el]) (by simp [results, Try.results71, go_sem, u0, u1, u2, u3, u4, u5, u6, u7]) rfl ⟨_, _, _, _, _, _, _, _, rfl, ⟨hnm, qz, bz, thz, elz, ⟨by omega, by omega⟩, ⟨by omega, by omega⟩, ⟨by omega, by omega⟩⟩, p3, by omega, hRd, hBt⟩
  · obtain ⟨c2, f2⟩ := cell_row D2.out.box 2 (.string a) rfl
    have hL := lit_at 9 W2 [⟨#[]⟩, ⟨#[65]⟩, a, ⟨#[103, 111, 111, 100]⟩] (by unfold maxLen; simp) (fun s hs => Nat.le_trans ((fun s hs => by simp only [List.mem_cons, List.not_mem_nil, or_false] at hs; rcases hs with rfl | rfl | rfl | rfl <;> first | decide | assumption : ∀ s ∈ ([⟨#[]⟩, ⟨#[65]⟩, a, ⟨#[103, 111, 111, 100]⟩] : List ByteArray), s.size ≤ 16) s hs) (by decide))
    have glt := D2.out.glt
    have lo := D2.out.lo
    have rlt := D2.out.rlt
    have C : Hid _ := of_rd R ob n cb f _ (fun b => b = W2.heap.size) [⟨#[]⟩, ⟨#[65]⟩, a, ⟨#[103, 111, 111, 100]⟩] _ _ (D2.out.alloc _).rd (by omega) hL (fun b hb => by subst hb; simp; omega) (by simp) (by simp)
    go_wp2_with fail
    refine Calls.mono C.out ?_
    clear C
    rintro e W3 ⟨q, hs, rfl, p3, hp3, rd, bt⟩
    have D3 : Hid (Dq R ob n cb f w w.heap.size (w.heap.size + 1) W3 p3 #[.string nm, .int .i64 kd, .string a, .string b, .int .i64 m, .int .i64 wi, .string th, .string el]) := (D2.out.alloc _).call rd.out bt.out
    have qz := (fun s hs => by simp only [List.mem_cons, List.not_mem_nil, or_false] at hs; rcases hs with rfl | rfl | rfl | rfl <;> first | decide | assumption : ∀ s ∈ ([⟨#[]⟩, ⟨#[65]⟩, a, ⟨#[103, 111, 111, 100]⟩] : List ByteArray), s.size ≤ 16) q hs
    clear hs hL glt lo rlt rd bt D2
    obtain ⟨c3, f3⟩ := cell_row D3.out.box 3 (.string b) rfl
    obtain ⟨W4, E4⟩ : ∃ u, u = W3.setCell ⟨w.heap.size, 3, none⟩ (.string q) := ⟨_, rfl⟩
    have HE4 : Hid (W4 = W3.setCell ⟨w.heap.size, 3, none⟩ (.string q)) := E4
    have D4 : Hid (Dq R ob n cb f w w.heap.size (w.heap.size + 1) W4 p3 #[.string nm, .int .i64 kd, .string a, .string q, .int .i64 m, .int .i64 wi, .string th, .string el]) := by rw [E4]; exact D3.out.put 3 _ rfl
    clear E4
    go_upto_region 17 with fail
    rw [← HE4.out]
    clear HE4 D3 c3 f3
    obtain ⟨l0, _⟩ := cell_row D4.out.box 0 (.string nm) rfl
    obtain ⟨l1, _⟩ := cell_row D4.out.box 1 (.int .i64 kd) rfl
    obtain ⟨l2, _⟩ := cell_row D4.out.box 2 (.string a) rfl
    obtain ⟨l3, _⟩ := cell_row D4.out.box 3 (.string q) rfl
    obtain ⟨l4, _⟩ := cell_row D4.out.box 4 (.int .i64 m) rfl
    obtain ⟨l5, _⟩ := cell_row D4.out.box 5 (.int .i64 wi) rfl
    obtain ⟨l6, _⟩ := cell_row D4.out.box 6 (.string th) rfl
    obtain ⟨l7, _⟩ := cell_row D4.out.box 7 (.string el) rfl
    obtain ⟨r0, t0⟩ := cell_row D4.out.res 0 (.string ⟨#[]⟩) rfl
    obtain ⟨r1, t1⟩ := cell_row D4.out.res 1 (.int .i64 0) rfl
    obtain ⟨r2, t2⟩ := cell_row D4.out.res 2 (.string ⟨#[]⟩) rfl
    obtain ⟨r3, t3⟩ := cell_row D4.out.res 3 (.string ⟨#[]⟩) rfl
    obtain ⟨r4, t4⟩ := cell_row D4.out.res 4 (.int .i64 0) rfl
    obtain ⟨r5, t5⟩ := cell_row D4.out.res 5 (.int .i64 0) rfl
    obtain ⟨r6, t6⟩ := cell_row D4.out.res 6 (.string ⟨#[]⟩) rfl
    obtain ⟨r7, t7⟩ := cell_row D4.out.res 7 (.string ⟨#[]⟩) rfl
    have HF : Hid _ := ret8 D4.out.res (.string nm) (.int .i64 kd) (.string a) (.string q) (.int .i64 m) (.int .i64 wi) (.string th) (.string el)
    go_wp2_with fail
    have F := HF.out
    obtain ⟨FW, hF⟩ : ∃ u', u' = (((((((W4.setCell ⟨w.heap.size + 1, 0, none⟩ (.string nm)).setCell ⟨w.heap.size + 1, 1, none⟩ (.int .i64 kd)).setCell ⟨w.heap.size + 1, 2, none⟩ (.string a)).setCell ⟨w.heap.size + 1, 3, none⟩ (.string q)).setCell ⟨w.heap.size + 1, 4, none⟩ (.int .i64 m)).setCell ⟨w.heap.size + 1, 5, none⟩ (.int .i64 wi)).setCell ⟨w.heap.size + 1, 6, none⟩ (.string th)).setCell ⟨w.heap.size + 1, 7, none⟩ (.string el) := ⟨_, rfl⟩
    rw [← hF]
    rw [← hF] at F
    clear hF HF
    obtain ⟨F0, F1, F2⟩ := F
    have u0 := (cell_row F0 0 (.string nm) rfl).1
    have u1 := (cell_row F0 1 (.int .i64 kd) rfl).1
    have u2 := (cell_row F0 2 (.string a) rfl).1
    have u3 := (cell_row F0 3 (.string q) rfl).1
    have u4 := (cell_row F0 4 (.int .i64 m) rfl).1
    have u5 := (cell_row F0 5 (.int .i64 wi) rfl).1
    have u6 := (cell_row F0 6 (.string th) rfl).1
    have u7 := (cell_row F0 7 (.string el) rfl).1
    have rlt' := D4.out.rlt
    have hRd : Rd R FW ob n cb p3 f := D4.out.rd.but (fun b hb => F1 b (by omega))
    have hBt : But (fun q => q = R) w FW := ⟨F2.os.trans D4.out.but.os, F2.tape.trans D4.out.but.tape, F2.output.trans D4.out.but.output, Nat.le_trans D4.out.but.size F2.size, fun b h1 h2 => (F1 b (by omega)).trans (D4.out.but.block b h1 h2)⟩
    exact bodyPost_ret (v := .agg #[.string nm, .int .i64 kd, .string a, .string q, .int .i64 m, .int .i64 wi, .string th, .string el]) (by simp [results, Try.results71, go_sem, u0, u1, u2, u3, u4, u5, u6, u7]) rfl ⟨_, _, _, _, _, _, _, _, rfl, ⟨hnm, az, qz, thz, elz, ⟨by omega, by omega⟩, ⟨by omega, by omega⟩, ⟨by omega, by omega⟩⟩, p3, by omega, hRd, hBt⟩
  · go_upto_region 12 with fail
    have glt := D2.out.glt
    have rlt2 := D2.out.rlt
    have HV : Hid (∀ v, But (fun q => q = R) W2.drew v → v.cell? ⟨w.heap.size, 5, none⟩ = some (.int .i64 wi)) := fun v hv => (cell_row ((hv.block w.heap.size glt (by omega)).trans D2.out.box) 5 _ rfl).1
    refine wp_region_movesC (fun v => But (fun q => q = R) W2.drew v) 8 [] (by kernel_rfl) (by kernel_rfl) (But.refl _ _) ?_
    simp only [List.filterMap_nil, movD]
    refine takeHQ (f := 7) (i := 0) (.pointer (some ⟨w.heap.size, 5, none⟩)) ⟨rfl, rfl⟩ (by kernel_rfl) rfl (But.refl _ _) ?r0 ?_
    case r0 => intro v hv; go_simp
    simp only [Act.put, List.setIfInBounds_toArray, List.set_cons_zero, List.set_cons_succ]
    refine takeHQ (f := 6) (i := 1) (.int .i64 wi) ⟨rfl, rfl⟩ (by kernel_rfl) rfl (But.refl _ _) ?r1 ?_
    case r1 => intro v hv; have k0 := HV.out v hv; go_simp
    simp only [Act.put, List.setIfInBounds_toArray, List.set_cons_zero, List.set_cons_succ]
    refine takeHQ (f := 5) (i := 2) (.pointer (some ⟨w.heap.size, 5, none⟩)) ⟨rfl, rfl⟩ (by kernel_rfl) rfl (But.refl _ _) ?r2 ?_
    case r2 => intro v hv; go_simp
    simp only [Act.put, List.setIfInBounds_toArray, List.set_cons_zero, List.set_cons_succ]
    refine takeHQ (f := 4) (i := 3) (.int .i64 wi) ⟨rfl, rfl⟩ (by kernel_rfl) rfl (But.refl _ _) ?r3 ?_
    case r3 => intro v hv; have k0 := HV.out v hv; go_simp
    simp only [Act.put, List.setIfInBounds_toArray, List.set_cons_zero, List.set_cons_succ]
    refine takeHQ (f := 3) (i := 4) (.int .i64 (wi + 1)) ⟨rfl, rfl⟩ (by kernel_rfl) rfl (But.refl _ _) ?r4 ?_
    case r4 => intro v hv; go_simp; exact wrap_s _ (by omega) (by omega)
    simp only [Act.put, List.setIfInBounds_toArray, List.set_cons_zero, List.set_cons_succ]
    refine takeHQ (f := 2) (i := 6) (.pointer (some ⟨R, 0, none⟩)) ⟨rfl, rfl⟩ (by kernel_rfl) rfl (But.refl _ _) ?r6 ?_
    case r6 => intro v hv; go_simp
    simp only [Act.put, List.setIfInBounds_toArray, List.set_cons_zero, List.set_cons_succ]
    have RDR : Hid (Rd R W2.drew ob n cb p2 f) := D2.out.rd.but (fun _ _ => rfl)
    have DR : Hid (Dq R ob n cb f w w.heap.size (w.heap.size + 1) W2.drew p2 #[.string nm, .int .i64 kd, .string a, .string b, .int .i64 m, .int .i64 wi, .string th, .string el]) := ⟨RDR.out, D2.out.but.trans (But.of_below (Below.refl _ _).drew), D2.out.box, D2.out.res, D2.out.lo, D2.out.lh, D2.out.ne, D2.out.rlt⟩
    have CA : Hid _ := pick_rd R ob n cb f p2 7 (W2.drew.alloc (.cells #[.int .i64 (-1), .int .i64 0, .int .i64 1, .int .i64 wi, .int .i64 (wi + 1), .int .i64 1000, .int .i64 1001] 3)) (DR.out.alloc _).rd (by omega) (by omega) (by omega)
    have CB : Hid _ := pick_rd R ob n cb f p2 7 W2.drew RDR.out (by omega) (by omega) (by omega)
    refine twoH (f := 1) 5 7 (by kernel_rfl) ⟨by decide, by decide⟩ ?brA ?brB
    case brA =>
      refine stepHd (.slice (some ⟨W2.heap.size, 0, none⟩) 7 7) (W2.drew.alloc (.cells #[.int .i64 (-1), .int .i64 0, .int .i64 1, .int .i64 wi, .int .i64 (wi + 1), .int .i64 1000, .int .i64 1001] 3)) ⟨rfl, rfl⟩ rfl ?rA ⟨but_alloc (But.refl _ _) _, ?_⟩
      case rA => go_simp
      simp only [Act.put, List.setIfInBounds_toArray, List.set_cons_zero, List.set_cons_succ]
      refine callHd (f := 0) (i := 7) ⟨rfl, rfl⟩ (by decide) (by kernel_rfl) rfl ?rB (Calls.mono CA.out ?_)
      case rB => go_simp
      rintro e W3 ⟨z, rfl, z0, z1, p3, hp3, rd, bt⟩
      refine ⟨_, rfl, (but_alloc (But.refl _ _) _).trans bt.out, ?_⟩
      simp only [Act.put, List.setIfInBounds_toArray, List.set_cons_zero, List.set_cons_succ]
      refine ⟨by kernel_rfl, ?_⟩
      simp only [List.drop_succ_cons, List.drop_zero]
      have D3 : Hid (Dq R ob n cb f w w.heap.size (w.heap.size + 1) W3 p3 #[.string nm, .int .i64 kd, .string a, .string b, .int .i64 m, .int .i64 wi, .string th, .string el]) := (DR.out.alloc _).call rd.out bt.out
      have LB : Hid (W3.heap[W2.heap.size]? = some (.cells #[.int .i64 (-1), .int .i64 0, .int .i64 1, .int .i64 wi, .int .i64 (wi + 1), .int .i64 1000, .int .i64 1001] 3 (0, 0))) := (bt.out.block W2.heap.size (by rw [World.size_alloc]; exact Nat.lt_succ_self _) (by omega)).trans (heap_alloc_new W2.drew (.cells #[.int .i64 (-1), .int .i64 0, .int .i64 1, .int .i64 wi, .int .i64 (wi + 1), .int .i64 1000, .int .i64 1001] 3))
      clear CA CB rd bt DR RDR HV
      obtain ⟨i, rfl⟩ := Int.eq_ofNat_of_zero_le z0
      obtain ⟨v, v0, v1, cv⟩ : ∃ v, -2000 ≤ v ∧ v ≤ 2000 ∧ W3.cell? ⟨W2.heap.size, i, none⟩ = some (.int .i64 v) := by
        rcases (show i = 0 ∨ i = 1 ∨ i = 2 ∨ i = 3 ∨ i = 4 ∨ i = 5 ∨ i = 6 by omega) with rfl | rfl | rfl | rfl | rfl | rfl | rfl
        · exact ⟨_, by omega, by omega, (cell_row LB.out 0 (.int .i64 (-1)) rfl).1⟩
        · exact ⟨_, by omega, by omega, (cell_row LB.out 1 (.int .i64 (0)) rfl).1⟩
        · exact ⟨_, by omega, by omega, (cell_row LB.out 2 (.int .i64 (1)) rfl).1⟩
        · exact ⟨_, by omega, by omega, (cell_row LB.out 3 (.int .i64 (wi)) rfl).1⟩
        · exact ⟨_, by omega, by omega, (cell_row LB.out 4 (.int .i64 (wi + 1)) rfl).1⟩
        · exact ⟨_, by omega, by omega, (cell_row LB.out 5 (.int .i64 (1000)) rfl).1⟩
        · exact ⟨_, by omega, by omega, (cell_row LB.out 6 (.int .i64 (1001)) rfl).1⟩
      obtain ⟨c4, f4⟩ := cell_row D3.out.box 4 (.int .i64 m) rfl
      obtain ⟨W4, E4⟩ : ∃ u, u = W3.setCell ⟨w.heap.size, 4, none⟩ (.int .i64 v) := ⟨_, rfl⟩
      have HE4 : Hid (W4 = W3.setCell ⟨w.heap.size, 4, none⟩ (.int .i64 v)) := E4
      have D4 : Hid (Dq R ob n cb f w w.heap.size (w.heap.size + 1) W4 p3 #[.string nm, .int .i64 kd, .string a, .string b, .int .i64 v, .int .i64 wi, .string th, .string el]) := by rw [E4]; exact D3.out.put 4 _ rfl
      clear E4
      go_upto_region 17 with fail
      rw [← HE4.out]
      clear HE4 D3 c4 f4
      obtain ⟨l0, _⟩ := cell_row D4.out.box 0 (.string nm) rfl
      obtain ⟨l1, _⟩ := cell_row D4.out.box 1 (.int .i64 kd) rfl
      obtain ⟨l2, _⟩ := cell_row D4.out.box 2 (.string a) rfl
      obtain ⟨l3, _⟩ := cell_row D4.out.box 3 (.string b) rfl
      obtain ⟨l4, _⟩ := cell_row D4.out.box 4 (.int .i64 v) rfl
      obtain ⟨l5, _⟩ := cell_row D4.out.box 5 (.int .i64 wi) rfl
      obtain ⟨l6, _⟩ := cell_row D4.out.box 6 (.string th) rfl
      obtain ⟨l7, _⟩ := cell_row D4.out.box 7 (.string el) rfl
      obtain ⟨r0, t0⟩ := cell_row D4.out.res 0 (.string ⟨#[]⟩) rfl
      obtain ⟨r1, t1⟩ := cell_row D4.out.res 1 (.int .i64 0) rfl
      obtain ⟨r2, t2⟩ := cell_row D4.out.res 2 (.string ⟨#[]⟩) rfl
      obtain ⟨r3, t3⟩ := cell_row D4.out.res 3 (.string ⟨#[]⟩) rfl
      obtain ⟨r4, t4⟩ := cell_row D4.out.res 4 (.int .i64 0) rfl
      obtain ⟨r5, t5⟩ := cell_row D4.out.res 5 (.int .i64 0) rfl
      obtain ⟨r6, t6⟩ := cell_row D4.out.res 6 (.string ⟨#[]⟩) rfl
      obtain ⟨r7, t7⟩ := cell_row D4.out.res 7 (.string ⟨#[]⟩) rfl
      have HF : Hid _ := ret8 D4.out.res (.string nm) (.int .i64 kd) (.string a) (.string b) (.int .i64 v) (.int .i64 wi) (.string th) (.string el)
      go_wp2_with fail
      have F := HF.out
      obtain ⟨FW, hF⟩ : ∃ u', u' = (((((((W4.setCell ⟨w.heap.size + 1, 0, none⟩ (.string nm)).setCell ⟨w.heap.size + 1, 1, none⟩ (.int .i64 kd)).setCell ⟨w.heap.size + 1, 2, none⟩ (.string a)).setCell ⟨w.heap.size + 1, 3, none⟩ (.string b)).setCell ⟨w.heap.size + 1, 4, none⟩ (.int .i64 v)).setCell ⟨w.heap.size + 1, 5, none⟩ (.int .i64 wi)).setCell ⟨w.heap.size + 1, 6, none⟩ (.string th)).setCell ⟨w.heap.size + 1, 7, none⟩ (.string el) := ⟨_, rfl⟩
      rw [← hF]
      rw [← hF] at F
      clear hF HF
      obtain ⟨F0, F1, F2⟩ := F
      have u0 := (cell_row F0 0 (.string nm) rfl).1
      have u1 := (cell_row F0 1 (.int .i64 kd) rfl).1
      have u2 := (cell_row F0 2 (.string a) rfl).1
      have u3 := (cell_row F0 3 (.string b) rfl).1
      have u4 := (cell_row F0 4 (.int .i64 v) rfl).1
      have u5 := (cell_row F0 5 (.int .i64 wi) rfl).1
      have u6 := (cell_row F0 6 (.string th) rfl).1
      have u7 := (cell_row F0 7 (.string el) rfl).1
      have rlt' := D4.out.rlt
      have hRd : Rd R FW ob n cb p3 f := D4.out.rd.but (fun b hb => F1 b (by omega))
      have hBt : But (fun q => q = R) w FW := ⟨F2.os.trans D4.out.but.os, F2.tape.trans D4.out.but.tape, F2.output.trans D4.out.but.output, Nat.le_trans D4.out.but.size F2.size, fun b h1 h2 => (F1 b (by omega)).trans (D4.out.but.block b h1 h2)⟩
      exact bodyPost_ret (v := .agg #[.string nm, .int .i64 kd, .string a, .string b, .int .i64 v, .int .i64 wi, .string th, .string el]) (by simp [results, Try.results71, go_sem, u0, u1, u2, u3, u4, u5, u6, u7]) rfl ⟨_, _, _, _, _, _, _, _, rfl, ⟨hnm, az, bz, thz, elz, ⟨by omega, by omega⟩, ⟨by omega, by omega⟩, ⟨by omega, by omega⟩⟩, p3, by omega, hRd, hBt⟩
    case brB =>
      refine stepHc ⟨rfl, rfl⟩ rfl ?rC (Calls.mono CB.out ?_)
      case rC => go_simp
      rintro e W3 ⟨z, rfl, z0, z1, p3, hp3, rd, bt⟩
      refine ⟨_, rfl, bt.out, ?_⟩
      simp only [Act.put, List.setIfInBounds_toArray, List.set_cons_zero, List.set_cons_succ]
      have D3' : Hid (Dq R ob n cb f w w.heap.size (w.heap.size + 1) W3 p3 #[.string nm, .int .i64 kd, .string a, .string b, .int .i64 m, .int .i64 wi, .string th, .string el]) := DR.out.call rd.out bt.out
      refine oneHd (f := 0) (i := 5) (.slice (some ⟨W3.heap.size, 0, none⟩) 7 7) (W3.alloc (.cells #[.int .i64 (-1), .int .i64 0, .int .i64 1, .int .i64 wi, .int .i64 (wi + 1), .int .i64 1000, .int .i64 1001] 3)) ⟨rfl, rfl⟩ (by decide) (by kernel_rfl) rfl ?rD (but_alloc bt.out _) ?_
      case rD => go_simp
      simp only [Act.put, List.setIfInBounds_toArray, List.set_cons_zero, List.set_cons_succ]
      refine ⟨by kernel_rfl, ?_⟩
      simp only [List.drop_succ_cons, List.drop_zero]
      obtain ⟨W4, hW4⟩ : ∃ u, u = W3.alloc (.cells #[.int .i64 (-1), .int .i64 0, .int .i64 1, .int .i64 wi, .int .i64 (wi + 1), .int .i64 1000, .int .i64 1001] 3) := ⟨_, rfl⟩
      have D4 : Hid (Dq R ob n cb f w w.heap.size (w.heap.size + 1) W4 p3 #[.string nm, .int .i64 kd, .string a, .string b, .int .i64 m, .int .i64 wi, .string th, .string el]) := by rw [hW4]; exact D3'.out.alloc _
      have LB : Hid (W4.heap[W3.heap.size]? = some (.cells #[.int .i64 (-1), .int .i64 0, .int .i64 1, .int .i64 wi, .int .i64 (wi + 1), .int .i64 1000, .int .i64 1001] 3 (0, 0))) := by rw [hW4]; exact heap_alloc_new W3 _
      rw [← hW4]
      clear hW4 CA CB rd bt DR RDR HV D3'
      obtain ⟨i, rfl⟩ := Int.eq_ofNat_of_zero_le z0
      obtain ⟨v, v0, v1, cv⟩ : ∃ v, -2000 ≤ v ∧ v ≤ 2000 ∧ W4.cell? ⟨W3.heap.size, i, none⟩ = some (.int .i64 v) := by
        rcases (show i = 0 ∨ i = 1 ∨ i = 2 ∨ i = 3 ∨ i = 4 ∨ i = 5 ∨ i = 6 by omega) with rfl | rfl | rfl | rfl | rfl | rfl | rfl
        · exact ⟨_, by omega, by omega, (cell_row LB.out 0 (.int .i64 (-1)) rfl).1⟩
        · exact ⟨_, by omega, by omega, (cell_row LB.out 1 (.int .i64 (0)) rfl).1⟩
        · exact ⟨_, by omega, by omega, (cell_row LB.out 2 (.int .i64 (1)) rfl).1⟩
        · exact ⟨_, by omega, by omega, (cell_row LB.out 3 (.int .i64 (wi)) rfl).1⟩
        · exact ⟨_, by omega, by omega, (cell_row LB.out 4 (.int .i64 (wi + 1)) rfl).1⟩
        · exact ⟨_, by omega, by omega, (cell_row LB.out 5 (.int .i64 (1000)) rfl).1⟩
        · exact ⟨_, by omega, by omega, (cell_row LB.out 6 (.int .i64 (1001)) rfl).1⟩
      obtain ⟨c4, f4⟩ := cell_row D4.out.box 4 (.int .i64 m) rfl
      obtain ⟨W5, E5⟩ : ∃ u, u = W4.setCell ⟨w.heap.size, 4, none⟩ (.int .i64 v) := ⟨_, rfl⟩
      have HE5 : Hid (W5 = W4.setCell ⟨w.heap.size, 4, none⟩ (.int .i64 v)) := E5
      have D5 : Hid (Dq R ob n cb f w w.heap.size (w.heap.size + 1) W5 p3 #[.string nm, .int .i64 kd, .string a, .string b, .int .i64 v, .int .i64 wi, .string th, .string el]) := by rw [E5]; exact D4.out.put 4 _ rfl
      clear E5
      go_upto_region 17 with fail
      rw [← HE5.out]
      clear HE5 D4 c4 f4
      obtain ⟨l0, _⟩ := cell_row D5.out.box 0 (.string nm) rfl
      obtain ⟨l1, _⟩ := cell_row D5.out.box 1 (.int .i64 kd) rfl
      obtain ⟨l2, _⟩ := cell_row D5.out.box 2 (.string a) rfl
      obtain ⟨l3, _⟩ := cell_row D5.out.box 3 (.string b) rfl
      obtain ⟨l4, _⟩ := cell_row D5.out.box 4 (.int .i64 v) rfl
      obtain ⟨l5, _⟩ := cell_row D5.out.box 5 (.int .i64 wi) rfl
      obtain ⟨l6, _⟩ := cell_row D5.out.box 6 (.string th) rfl
      obtain ⟨l7, _⟩ := cell_row D5.out.box 7 (.string el) rfl
      obtain ⟨r0, t0⟩ := cell_row D5.out.res 0 (.string ⟨#[]⟩) rfl
      obtain ⟨r1, t1⟩ := cell_row D5.out.res 1 (.int .i64 0) rfl
      obtain ⟨r2, t2⟩ := cell_row D5.out.res 2 (.string ⟨#[]⟩) rfl
      obtain ⟨r3, t3⟩ := cell_row D5.out.res 3 (.string ⟨#[]⟩) rfl
      obtain ⟨r4, t4⟩ := cell_row D5.out.res 4 (.int .i64 0) rfl
      obtain ⟨r5, t5⟩ := cell_row D5.out.res 5 (.int .i64 0) rfl
      obtain ⟨r6, t6⟩ := cell_row D5.out.res 6 (.string ⟨#[]⟩) rfl
      obtain ⟨r7, t7⟩ := cell_row D5.out.res 7 (.string ⟨#[]⟩) rfl
      have HF : Hid _ := ret8 D5.out.res (.string nm) (.int .i64 kd) (.string a) (.string b) (.int .i64 v) (.int .i64 wi) (.string th) (.string el)
      go_wp2_with fail
      have F := HF.out
      obtain ⟨FW, hF⟩ : ∃ u', u' = (((((((W5.setCell ⟨w.heap.size + 1, 0, none⟩ (.string nm)).setCell ⟨w.heap.size + 1, 1, none⟩ (.int .i64 kd)).setCell ⟨w.heap.size + 1, 2, none⟩ (.string a)).setCell ⟨w.heap.size + 1, 3, none⟩ (.string b)).setCell ⟨w.heap.size + 1, 4, none⟩ (.int .i64 v)).setCell ⟨w.heap.size + 1, 5, none⟩ (.int .i64 wi)).setCell ⟨w.heap.size + 1, 6, none⟩ (.string th)).setCell ⟨w.heap.size + 1, 7, none⟩ (.string el) := ⟨_, rfl⟩
      rw [← hF]
      rw [← hF] at F
      clear hF HF
      obtain ⟨F0, F1, F2⟩ := F
      have u0 := (cell_row F0 0 (.string nm) rfl).1
      have u1 := (cell_row F0 1 (.int .i64 kd) rfl).1
      have u2 := (cell_row F0 2 (.string a) rfl).1
      have u3 := (cell_row F0 3 (.string b) rfl).1
      have u4 := (cell_row F0 4 (.int .i64 v) rfl).1
      have u5 := (cell_row F0 5 (.int .i64 wi) rfl).1
      have u6 := (cell_row F0 6 (.string th) rfl).1
      have u7 := (cell_row F0 7 (.string el) rfl).1
      have rlt' := D5.out.rlt
      have hRd : Rd R FW ob n cb p3 f := D5.out.rd.but (fun b hb => F1 b (by omega))
      have hBt : But (fun q => q = R) w FW := ⟨F2.os.trans D5.out.but.os, F2.tape.trans D5.out.but.tape, F2.output.trans D5.out.but.output, Nat.le_trans D5.out.but.size F2.size, fun b h1 h2 => (F1 b (by omega)).trans (D5.out.but.block b h1 h2)⟩
      exact bodyPost_ret (v := .agg #[.string nm, .int .i64 kd, .string a, .string b, .int .i64 v, .int .i64 wi, .string th, .string el]) (by simp [results, Try.results71, go_sem, u0, u1, u2, u3, u4, u5, u6, u7]) rfl ⟨_, _, _, _, _, _, _, _, rfl, ⟨hnm, az, bz, thz, elz, ⟨by omega, by omega⟩, ⟨by omega, by omega⟩, ⟨by omega, by omega⟩⟩, p3, by omega, hRd, hBt⟩
  · have glt := D2.out.glt
    have lo := D2.out.lo
    have rlt2 := D2.out.rlt
    have C : Hid _ := pick_rd R ob n cb f _ 5 (W2.alloc (.cells #[.int .i64 (-1), .int .i64 0, .int .i64 1, .int .i64 1000, .int .i64 1001] 3)) (D2.out.alloc _).rd (by omega) (by omega) (by omega)
    go_wp2_with fail
    refine Calls.mono C.out ?_
    clear C
    rintro e W3 ⟨z, rfl, z0, z1, p3, hp3, rd, bt⟩
    have D3 : Hid (Dq R ob n cb f w w.heap.size (w.heap.size + 1) W3 p3 #[.string nm, .int .i64 kd, .string a, .string b, .int .i64 m, .int .i64 wi, .string th, .string el]) := (D2.out.alloc _).call rd.out bt.out
    have LB : Hid (W3.heap[W2.heap.size]? = some (.cells #[.int .i64 (-1), .int .i64 0, .int .i64 1, .int .i64 1000, .int .i64 1001] 3 (0, 0))) := (bt.out.block _ (by simp) (by omega)).trans (heap_alloc_new W2 _)
    clear rd bt D2
    obtain ⟨i, rfl⟩ := Int.eq_ofNat_of_zero_le z0
    obtain ⟨v, v0, v1, cv⟩ : ∃ v, -2000 ≤ v ∧ v ≤ 2000 ∧ W3.cell? ⟨W2.heap.size, i, none⟩ = some (.int .i64 v) := by
      rcases (show i = 0 ∨ i = 1 ∨ i = 2 ∨ i = 3 ∨ i = 4 by omega) with rfl | rfl | rfl | rfl | rfl
      · exact ⟨_, by omega, by omega, (cell_row LB.out 0 (.int .i64 (-1)) rfl).1⟩
      · exact ⟨_, by omega, by omega, (cell_row LB.out 1 (.int .i64 (0)) rfl).1⟩
      · exact ⟨_, by omega, by omega, (cell_row LB.out 2 (.int .i64 (1)) rfl).1⟩
      · exact ⟨_, by omega, by omega, (cell_row LB.out 3 (.int .i64 (1000)) rfl).1⟩
      · exact ⟨_, by omega, by omega, (cell_row LB.out 4 (.int .i64 (1001)) rfl).1⟩
    obtain ⟨c5, f5⟩ := cell_row D3.out.box 5 (.int .i64 wi) rfl
    obtain ⟨W4, E4⟩ : ∃ u, u = W3.setCell ⟨w.heap.size, 5, none⟩ (.int .i64 v) := ⟨_, rfl⟩
    have HE4 : Hid (W4 = W3.setCell ⟨w.heap.size, 5, none⟩ (.int .i64 v)) := E4
    have D4 : Hid (Dq R ob n cb f w w.heap.size (w.heap.size + 1) W4 p3 #[.string nm, .int .i64 kd, .string a, .string b, .int .i64 m, .int .i64 v, .string th, .string el]) := by rw [E4]; exact D3.out.put 5 _ rfl
    clear E4
    go_upto_region 17 with fail
    rw [← HE4.out]
    clear HE4 D3 c5 f5
    obtain ⟨l0, _⟩ := cell_row D4.out.box 0 (.string nm) rfl
    obtain ⟨l1, _⟩ := cell_row D4.out.box 1 (.int .i64 kd) rfl
    obtain ⟨l2, _⟩ := cell_row D4.out.box 2 (.string a) rfl
    obtain ⟨l3, _⟩ := cell_row D4.out.box 3 (.string b) rfl
    obtain ⟨l4, _⟩ := cell_row D4.out.box 4 (.int .i64 m) rfl
    obtain ⟨l5, _⟩ := cell_row D4.out.box 5 (.int .i64 v) rfl
    obtain ⟨l6, _⟩ := cell_row D4.out.box 6 (.string th) rfl
    obtain ⟨l7, _⟩ := cell_row D4.out.box 7 (.string el) rfl
    obtain ⟨r0, t0⟩ := cell_row D4.out.res 0 (.string ⟨#[]⟩) rfl
    obtain ⟨r1, t1⟩ := cell_row D4.out.res 1 (.int .i64 0) rfl
    obtain ⟨r2, t2⟩ := cell_row D4.out.res 2 (.string ⟨#[]⟩) rfl
    obtain ⟨r3, t3⟩ := cell_row D4.out.res 3 (.string ⟨#[]⟩) rfl
    obtain ⟨r4, t4⟩ := cell_row D4.out.res 4 (.int .i64 0) rfl
    obtain ⟨r5, t5⟩ := cell_row D4.out.res 5 (.int .i64 0) rfl
    obtain ⟨r6, t6⟩ := cell_row D4.out.res 6 (.string ⟨#[]⟩) rfl
    obtain ⟨r7, t7⟩ := cell_row D4.out.res 7 (.string ⟨#[]⟩) rfl
    have HF : Hid _ := ret8 D4.out.res (.string nm) (.int .i64 kd) (.string a) (.string b) (.int .i64 m) (.int .i64 v) (.string th) (.string el)
    go_wp2_with fail
    have F := HF.out
    obtain ⟨FW, hF⟩ : ∃ u', u' = (((((((W4.setCell ⟨w.heap.size + 1, 0, none⟩ (.string nm)).setCell ⟨w.heap.size + 1, 1, none⟩ (.int .i64 kd)).setCell ⟨w.heap.size + 1, 2, none⟩ (.string a)).setCell ⟨w.heap.size + 1, 3, none⟩ (.string b)).setCell ⟨w.heap.size + 1, 4, none⟩ (.int .i64 m)).setCell ⟨w.heap.size + 1, 5, none⟩ (.int .i64 v)).setCell ⟨w.heap.size + 1, 6, none⟩ (.string th)).setCell ⟨w.heap.size + 1, 7, none⟩ (.string el) := ⟨_, rfl⟩
    rw [← hF]
    rw [← hF] at F
    clear hF HF
    obtain ⟨F0, F1, F2⟩ := F
    have u0 := (cell_row F0 0 (.string nm) rfl).1
    have u1 := (cell_row F0 1 (.int .i64 kd) rfl).1
    have u2 := (cell_row F0 2 (.string a) rfl).1
    have u3 := (cell_row F0 3 (.string b) rfl).1
    have u4 := (cell_row F0 4 (.int .i64 m) rfl).1
    have u5 := (cell_row F0 5 (.int .i64 v) rfl).1
    have u6 := (cell_row F0 6 (.string th) rfl).1
    have u7 := (cell_row F0 7 (.string el) rfl).1
    have rlt' := D4.out.rlt
    have hRd : Rd R FW ob n cb p3 f := D4.out.rd.but (fun b hb => F1 b (by omega))
    have hBt : But (fun q => q = R) w FW := ⟨F2.os.trans D4.out.but.os, F2.tape.trans D4.out.but.tape, F2.output.trans D4.out.but.output, Nat.le_trans D4.out.but.size F2.size, fun b h1 h2 => (F1 b (by omega)).trans (D4.out.but.block b h1 h2)⟩
    exact bodyPost_ret (v := .agg #[.string nm, .int .i64 kd, .string a, .string b, .int .i64 m, .int .i64 v, .string th, .string el]) (by simp [results, Try.results71, go_sem, u0, u1, u2, u3, u4, u5, u6, u7]) rfl ⟨_, _, _, _, _, _, _, _, rfl, ⟨hnm, az, bz, thz, elz, ⟨by omega, by omega⟩, ⟨by omega, by omega⟩, ⟨by omega, by omega⟩⟩, p3, by omega, hRd, hBt⟩
  · have hL := lit_at 9 W2 [⟨#[]⟩, ⟨#[98, 114, 101, 119]⟩, ⟨#[102, 49]⟩, ⟨#[114, 101, 115, 116]⟩, ⟨#[110, 111, 110, 101]⟩] (by unfold maxLen; simp) (fun s hs => Nat.le_trans ((fun s hs => by simp only [List.mem_cons, List.not_mem_nil, or_false] at hs; rcases hs with rfl | rfl | rfl | rfl | rfl <;> first | decide | assumption : ∀ s ∈ ([⟨#[]⟩, ⟨#[98, 114, 101, 119]⟩, ⟨#[102, 49]⟩, ⟨#[114, 101, 115, 116]⟩, ⟨#[110, 111, 110, 101]⟩] : List ByteArray), s.size ≤ 16) s hs) (by decide))
    have glt := D2.out.glt
    have lo := D2.out.lo
    have rlt := D2.out.rlt
    have C : Hid _ := of_rd R ob n cb f _ (fun b => b = W2.heap.size) [⟨#[]⟩, ⟨#[98, 114, 101, 119]⟩, ⟨#[102, 49]⟩, ⟨#[114, 101, 115, 116]⟩, ⟨#[110, 111, 110, 101]⟩] _ _ (D2.out.alloc _).rd (by omega) hL (fun b hb => by subst hb; simp; omega) (by simp) (by simp)
    go_wp2_with fail
    refine Calls.mono C.out ?_
    clear C
    rintro e W3 ⟨q, hs, rfl, p3, hp3, rd, bt⟩
    have D3 : Hid (Dq R ob n cb f w w.heap.size (w.heap.size + 1) W3 p3 #[.string nm, .int .i64 kd, .string a, .string b, .int .i64 m, .int .i64 wi, .string th, .string el]) := (D2.out.alloc _).call rd.out bt.out
    have qz := (fun s hs => by simp only [List.mem_cons, List.not_mem_nil, or_false] at hs; rcases hs with rfl | rfl | rfl | rfl | rfl <;> first | decide | assumption : ∀ s ∈ ([⟨#[]⟩, ⟨#[98, 114, 101, 119]⟩, ⟨#[102, 49]⟩, ⟨#[114, 101, 115, 116]⟩, ⟨#[110, 111, 110, 101]⟩] : List ByteArray), s.size ≤ 16) q hs
    clear hs hL glt lo rlt rd bt D2
    obtain ⟨c6, f6⟩ := cell_row D3.out.box 6 (.string th) rfl
    obtain ⟨W4, E4⟩ : ∃ u, u = W3.setCell ⟨w.heap.size, 6, none⟩ (.string q) := ⟨_, rfl⟩
    have HE4 : Hid (W4 = W3.setCell ⟨w.heap.size, 6, none⟩ (.string q)) := E4
    have D4 : Hid (Dq R ob n cb f w w.heap.size (w.heap.size + 1) W4 p3 #[.string nm, .int .i64 kd, .string a, .string b, .int .i64 m, .int .i64 wi, .string q, .string el]) := by rw [E4]; exact D3.out.put 6 _ rfl
    clear E4
    go_upto_region 17 with fail
    rw [← HE4.out]
    clear HE4 D3 c6 f6
    obtain ⟨l0, _⟩ := cell_row D4.out.box 0 (.string nm) rfl
    obtain ⟨l1, _⟩ := cell_row D4.out.box 1 (.int .i64 kd) rfl
    obtain ⟨l2, _⟩ := cell_row D4.out.box 2 (.string a) rfl
    obtain ⟨l3, _⟩ := cell_row D4.out.box 3 (.string b) rfl
    obtain ⟨l4, _⟩ := cell_row D4.out.box 4 (.int .i64 m) rfl
    obtain ⟨l5, _⟩ := cell_row D4.out.box 5 (.int .i64 wi) rfl
    obtain ⟨l6, _⟩ := cell_row D4.out.box 6 (.string q) rfl
    obtain ⟨l7, _⟩ := cell_row D4.out.box 7 (.string el) rfl
    obtain ⟨r0, t0⟩ := cell_row D4.out.res 0 (.string ⟨#[]⟩) rfl
    obtain ⟨r1, t1⟩ := cell_row D4.out.res 1 (.int .i64 0) rfl
    obtain ⟨r2, t2⟩ := cell_row D4.out.res 2 (.string ⟨#[]⟩) rfl
    obtain ⟨r3, t3⟩ := cell_row D4.out.res 3 (.string ⟨#[]⟩) rfl
    obtain ⟨r4, t4⟩ := cell_row D4.out.res 4 (.int .i64 0) rfl
    obtain ⟨r5, t5⟩ := cell_row D4.out.res 5 (.int .i64 0) rfl
    obtain ⟨r6, t6⟩ := cell_row D4.out.res 6 (.string ⟨#[]⟩) rfl
    obtain ⟨r7, t7⟩ := cell_row D4.out.res 7 (.string ⟨#[]⟩) rfl
    have HF : Hid _ := ret8 D4.out.res (.string nm) (.int .i64 kd) (.string a) (.string b) (.int .i64 m) (.int .i64 wi) (.string q) (.string el)
    go_wp2_with fail
    have F := HF.out
    obtain ⟨FW, hF⟩ : ∃ u', u' = (((((((W4.setCell ⟨w.heap.size + 1, 0, none⟩ (.string nm)).setCell ⟨w.heap.size + 1, 1, none⟩ (.int .i64 kd)).setCell ⟨w.heap.size + 1, 2, none⟩ (.string a)).setCell ⟨w.heap.size + 1, 3, none⟩ (.string b)).setCell ⟨w.heap.size + 1, 4, none⟩ (.int .i64 m)).setCell ⟨w.heap.size + 1, 5, none⟩ (.int .i64 wi)).setCell ⟨w.heap.size + 1, 6, none⟩ (.string q)).setCell ⟨w.heap.size + 1, 7, none⟩ (.string el) := ⟨_, rfl⟩
    rw [← hF]
    rw [← hF] at F
    clear hF HF
    obtain ⟨F0, F1, F2⟩ := F
    have u0 := (cell_row F0 0 (.string nm) rfl).1
    have u1 := (cell_row F0 1 (.int .i64 kd) rfl).1
    have u2 := (cell_row F0 2 (.string a) rfl).1
    have u3 := (cell_row F0 3 (.string b) rfl).1
    have u4 := (cell_row F0 4 (.int .i64 m) rfl).1
    have u5 := (cell_row F0 5 (.int .i64 wi) rfl).1
    have u6 := (cell_row F0 6 (.string q) rfl).1
    have u7 := (cell_row F0 7 (.string el) rfl).1
    have rlt' := D4.out.rlt
    have hRd : Rd R FW ob n cb p3 f := D4.out.rd.but (fun b hb => F1 b (by omega))
    have hBt : But (fun q => q = R) w FW := ⟨F2.os.trans D4.out.but.os, F2.tape.trans D4.out.but.tape, F2.output.trans D4.out.but.output, Nat.le_trans D4.out.but.size F2.size, fun b h1 h2 => (F1 b (by omega)).trans (D4.out.but.block b h1 h2)⟩
    exact bodyPost_ret (v := .agg #[.string nm, .int .i64 kd, .string a, .string b, .int .i64 m, .int .i64 wi, .string q, .string el]) (by simp [results, Try.results71, go_sem, u0, u1, u2, u3, u4, u5, u6, u7]) rfl ⟨_, _, _, _, _, _, _, _, rfl, ⟨hnm, az, bz, qz, elz, ⟨by omega, by omega⟩, ⟨by omega, by omega⟩, ⟨by omega, by omega⟩⟩, p3, by omega, hRd, hBt⟩
  · have hL := lit_at 9 W2 [⟨#[]⟩, ⟨#[98, 114, 101, 119]⟩, ⟨#[102, 49]⟩, ⟨#[114, 101, 115, 116]⟩, ⟨#[110, 111, 110, 101]⟩] (by unfold maxLen; simp) (fun s hs => Nat.le_trans ((fun s hs => by simp only [List.mem_cons, List.not_mem_nil, or_false] at hs; rcases hs with rfl | rfl | rfl | rfl | rfl <;> first | decide | assumption : ∀ s ∈ ([⟨#[]⟩, ⟨#[98, 114, 101, 119]⟩, ⟨#[102, 49]⟩, ⟨#[114, 101, 115, 116]⟩, ⟨#[110, 111, 110, 101]⟩] : List ByteArray), s.size ≤ 16) s hs) (by decide))
    have glt := D2.out.glt
    have lo := D2.out.lo
    have rlt := D2.out.rlt
    have C : Hid _ := of_rd R ob n cb f _ (fun b => b = W2.heap.size) [⟨#[]⟩, ⟨#[98, 114, 101, 119]⟩, ⟨#[102, 49]⟩, ⟨#[114, 101, 115, 116]⟩, ⟨#[110, 111, 110, 101]⟩] _ _ (D2.out.alloc _).rd (by omega) hL (fun b hb => by subst hb; simp; omega) (by simp) (by simp)
    go_wp2_with fail
    refine Calls.mono C.out ?_
    clear C
    rintro e W3 ⟨q, hs, rfl, p3, hp3, rd, bt⟩
    have D3 : Hid (Dq R ob n cb f w w.heap.size (w.heap.size + 1) W3 p3 #[.string nm, .int .i64 kd, .string a, .string b, .int .i64 m, .int .i64 wi, .string th, .string el]) := (D2.out.alloc _).call rd.out bt.out
    have qz := (fun s hs => by simp only [List.mem_cons, List.not_mem_nil, or_false] at hs; rcases hs with rfl | rfl | rfl | rfl | rfl <;> first | decide | assumption : ∀ s ∈ ([⟨#[]⟩, ⟨#[98, 114, 101, 119]⟩, ⟨#[102, 49]⟩, ⟨#[114, 101, 115, 116]⟩, ⟨#[110, 111, 110, 101]⟩] : List ByteArray), s.size ≤ 16) q hs
    clear hs hL glt lo rlt rd bt D2
    obtain ⟨c7, f7⟩ := cell_row D3.out.box 7 (.string el) rfl
    obtain ⟨W4, E4⟩ : ∃ u, u = W3.setCell ⟨w.heap.size, 7, none⟩ (.string q) := ⟨_, rfl⟩
    have HE4 : Hid (W4 = W3.setCell ⟨w.heap.size, 7, none⟩ (.string q)) := E4
    have D4 : Hid (Dq R ob n cb f w w.heap.size (w.heap.size + 1) W4 p3 #[.string nm, .int .i64 kd, .string a, .string b, .int .i64 m, .int .i64 wi, .string th, .string q]) := by rw [E4]; exact D3.out.put 7 _ rfl
    clear E4
    go_upto_region 17 with fail
    rw [← HE4.out]
    clear HE4 D3 c7 f7
    obtain ⟨l0, _⟩ := cell_row D4.out.box 0 (.string nm) rfl
    obtain ⟨l1, _⟩ := cell_row D4.out.box 1 (.int .i64 kd) rfl
    obtain ⟨l2, _⟩ := cell_row D4.out.box 2 (.string a) rfl
    obtain ⟨l3, _⟩ := cell_row D4.out.box 3 (.string b) rfl
    obtain ⟨l4, _⟩ := cell_row D4.out.box 4 (.int .i64 m) rfl
    obtain ⟨l5, _⟩ := cell_row D4.out.box 5 (.int .i64 wi) rfl
    obtain ⟨l6, _⟩ := cell_row D4.out.box 6 (.string th) rfl
    obtain ⟨l7, _⟩ := cell_row D4.out.box 7 (.string q) rfl
    obtain ⟨r0, t0⟩ := cell_row D4.out.res 0 (.string ⟨#[]⟩) rfl
    obtain ⟨r1, t1⟩ := cell_row D4.out.res 1 (.int .i64 0) rfl
    obtain ⟨r2, t2⟩ := cell_row D4.out.res 2 (.string ⟨#[]⟩) rfl
    obtain ⟨r3, t3⟩ := cell_row D4.out.res 3 (.string ⟨#[]⟩) rfl
    obtain ⟨r4, t4⟩ := cell_row D4.out.res 4 (.int .i64 0) rfl
    obtain ⟨r5, t5⟩ := cell_row D4.out.res 5 (.int .i64 0) rfl
    obtain ⟨r6, t6⟩ := cell_row D4.out.res 6 (.string ⟨#[]⟩) rfl
    obtain ⟨r7, t7⟩ := cell_row D4.out.res 7 (.string ⟨#[]⟩) rfl
    have HF : Hid _ := ret8 D4.out.res (.string nm) (.int .i64 kd) (.string a) (.string b) (.int .i64 m) (.int .i64 wi) (.string th) (.string q)
    go_wp2_with fail
    have F := HF.out
    obtain ⟨FW, hF⟩ : ∃ u', u' = (((((((W4.setCell ⟨w.heap.size + 1, 0, none⟩ (.string nm)).setCell ⟨w.heap.size + 1, 1, none⟩ (.int .i64 kd)).setCell ⟨w.heap.size + 1, 2, none⟩ (.string a)).setCell ⟨w.heap.size + 1, 3, none⟩ (.string b)).setCell ⟨w.heap.size + 1, 4, none⟩ (.int .i64 m)).setCell ⟨w.heap.size + 1, 5, none⟩ (.int .i64 wi)).setCell ⟨w.heap.size + 1, 6, none⟩ (.string th)).setCell ⟨w.heap.size + 1, 7, none⟩ (.string q) := ⟨_, rfl⟩
    rw [← hF]
    rw [← hF] at F
    clear hF HF
    obtain ⟨F0, F1, F2⟩ := F
    have u0 := (cell_row F0 0 (.string nm) rfl).1
    have u1 := (cell_row F0 1 (.int .i64 kd) rfl).1
    have u2 := (cell_row F0 2 (.string a) rfl).1
    have u3 := (cell_row F0 3 (.string b) rfl).1
    have u4 := (cell_row F0 4 (.int .i64 m) rfl).1
    have u5 := (cell_row F0 5 (.int .i64 wi) rfl).1
    have u6 := (cell_row F0 6 (.string th) rfl).1
    have u7 := (cell_row F0 7 (.string q) rfl).1
    have rlt' := D4.out.rlt
    have hRd : Rd R FW ob n cb p3 f := D4.out.rd.but (fun b hb => F1 b (by omega))
    have hBt : But (fun q => q = R) w FW := ⟨F2.os.trans D4.out.but.os, F2.tape.trans D4.out.but.tape, F2.output.trans D4.out.but.output, Nat.le_trans D4.out.but.size F2.size, fun b h1 h2 => (F1 b (by omega)).trans (D4.out.but.block b h1 h2)⟩
    exact bodyPost_ret (v := .agg #[.string nm, .int .i64 kd, .string a, .string b, .int .i64 m, .int .i64 wi, .string th, .string q]) (by simp [results, Try.results71, go_sem, u0, u1, u2, u3, u4, u5, u6, u7]) rfl ⟨_, _, _, _, _, _, _, _, rfl, ⟨hnm, az, bz, thz, qz, ⟨by omega, by omega⟩, ⟨by omega, by omega⟩, ⟨by omega, by omega⟩⟩, p3, by omega, hRd, hBt⟩

end Go.Proofs.Ytkongeofapbblaa
