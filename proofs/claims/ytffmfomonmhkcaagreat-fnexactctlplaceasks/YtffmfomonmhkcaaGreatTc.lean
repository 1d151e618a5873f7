/-
  The contract of the law's own copying of a plant: the copy holds what the plant holds, in new memory.
-/
import Derived.Test.YtffmfomonmhkcaaGreatM12
namespace Go.Proofs.YtffmfomonmhkcaaGreat
open Go.RowKit

/-- Where the copying stands: the plant's box, the result's, the copy's. -/
structure CpT (w u : World) (a c : Array Value) : Prop where
  arg : u.heap[w.heap.size]? = some (.cells a 27 (0, 0))
  res : u.heap[w.heap.size + 1]? = some (.cells #[.slice none 0 0, .slice none 0 0, .slice none 0 0, .slice none 0 0] 36 (0, 0))
  out : u.heap[w.heap.size + 1 + 1]? = some (.cells c 36 (0, 0))
  bel : Below w.heap.size w u

theorem CpT.sz {w u : World} {a c : Array Value} (h : CpT w u a c) : w.heap.size + 3 ≤ u.heap.size := (Array.getElem?_eq_some_iff.1 h.out).1
theorem CpT.next {w u u' : World} {a c : Array Value} (h : CpT w u a c) (hb : Below u.heap.size u u') : CpT w u' a c := by
  have hs := h.sz
  exact ⟨(hb.block _ (by omega)).trans h.arg, (hb.block _ (by omega)).trans h.res, (hb.block _ (by omega)).trans h.out, h.bel.trans (hb.mono (by omega))⟩
theorem CpT.put {w u : World} {a c : Array Value} (h : CpT w u a c) (j : Nat) (x : Value) : CpT w (u.setCell ⟨w.heap.size + 1 + 1, j, none⟩ x) a (c.setIfInBounds j x) :=
  ⟨(Below.heap_setCell _ _ _ _ (by show w.heap.size ≠ w.heap.size + 1 + 1; omega)).trans h.arg, (Below.heap_setCell _ _ _ _ (by show w.heap.size + 1 ≠ w.heap.size + 1 + 1; omega)).trans h.res, set_row h.out j x, h.bel.setCell (by show w.heap.size ≤ w.heap.size + 1 + 1; omega) x⟩

theorem Lst.set {B : Nat} {w : World} {g n m k : Nat} {c : Nat → Nat → Value} (h : Lst B w (.slice (some ⟨g, 0, none⟩) n m) n k c) (p : Addr) (x : Value) (hne : p.block ≠ g) : Lst B (w.setCell p x) (.slice (some ⟨g, 0, none⟩) n m) n k c := by
  obtain ⟨oa, cap, hv, hn, hc⟩ := h
  cases hv
  refine ⟨_, _, rfl, hn, fun i hi => ?_⟩
  obtain ⟨b, off, e, h2, h3⟩ := hc i hi
  cases e
  exact ⟨g, 0, rfl, h2, fun j hj => (World.cell?_of_block (w := w) (a := ⟨g, 0 + i * k + j, none⟩) (Below.heap_setCell w p x g (fun e => hne e.symm))).trans (h3 j hj)⟩

theorem Lst.up {B B' : Nat} {w : World} {v : Value} {n k : Nat} {c : Nat → Nat → Value} (h : Lst B w v n k c) (hB : B ≤ B') : Lst B' w v n k c := by
  obtain ⟨oa, cap, hv, hn, hc⟩ := h
  refine ⟨oa, cap, hv, hn, fun i hi => ?_⟩
  obtain ⟨b, off, h1, h2, h3⟩ := hc i hi
  exact ⟨b, off, h1, by omega, h3⟩

theorem slice_lst {B : Nat} {w : World} {v : Value} {n k : Nat} {c : Nat → Nat → Value} (h : Lst B w v n k c) : ∃ oa cap, v = .slice oa n cap := by
  obtain ⟨oa, cap, hv, _⟩ := h; exact ⟨oa, cap, hv⟩

/-- How it begins. -/
theorem cpT_init (w : World) (a : Array Value) : CpT w (((w.alloc (.cells a 27)).alloc (.cells #[.slice none 0 0, .slice none 0 0, .slice none 0 0, .slice none 0 0] 36)).alloc (.cells #[.slice none 0 0, .slice none 0 0, .slice none 0 0, .slice none 0 0] 36)) a #[.slice none 0 0, .slice none 0 0, .slice none 0 0, .slice none 0 0] := by
  have e1 : (w.alloc (.cells a 27)).heap.size = w.heap.size + 1 := by simp
  have e2 : ((w.alloc (.cells a 27)).alloc (.cells #[.slice none 0 0, .slice none 0 0, .slice none 0 0, .slice none 0 0] 36)).heap.size = w.heap.size + 1 + 1 := by simp
  refine ⟨?_, ?_, ?_, ?_⟩
  · exact (Below.heap_alloc _ _ _ (by omega)).trans ((Below.heap_alloc _ _ _ (by omega)).trans (heap_alloc_new w _))
  · refine (Below.heap_alloc _ _ _ (by omega)).trans ?_
    rw [← e1]; exact heap_alloc_new _ _
  · rw [← e2]; exact heap_alloc_new _ _
  · exact (((Below.refl _ _).alloc (Nat.le_refl _) _).alloc (by omega) _).alloc (by omega) _

/-- A plant's four lists in blocks of their own. -/
structure PBlk (A B : Nat) (w : World) (g0 g1 g2 g3 : Nat) (D : PD) : Prop where
  a : A ≤ g0 ∧ A ≤ g1 ∧ A ≤ g2 ∧ A ≤ g3
  s : Blk B w g0 9 D.ns
  f : Blk B w g1 88 (D.nf * 2)
  p : Blk B w g2 90 (D.np * 3)
  v : Blk B w g3 85 (D.nv * 4)
/-- A list that lies at the beginning of a block. -/
abbrev sl (g n : Nat) : Value := .slice (some ⟨g, 0, none⟩) n n

set_option maxRecDepth 100000 in
set_option maxHeartbeats 2000000 in
theorem toPlant_blk (B : Nat) (v0 v1 v2 v3 : Value) (D : PD) (w : World) (h : PAt B w v0 v1 v2 v3 D) (hB : B ≤ w.heap.size) (hm : D.ns ≤ 1048576 ∧ D.nf ≤ 1048576 ∧ D.np ≤ 1048576 ∧ D.nv ≤ 1048576) :
    Calls Tryz.prog 7 #[.agg #[v0, v1, v2, v3]] w fun e w' => ∃ g0 g1 g2 g3, e = .returned (.agg #[sl g0 D.ns, sl g1 D.nf, sl g2 D.np, sl g3 D.nv]) ∧ PAt w'.heap.size w' (sl g0 D.ns) (sl g1 D.nf) (sl g2 D.np) (sl g3 D.nv) D ∧ PBlk w.heap.size w'.heap.size w' g0 g1 g2 g3 D ∧ Below w.heap.size w w' := by
  obtain ⟨m0, m1, m2, m3⟩ := hm
  have H : Hid (∀ w', Below w.heap.size w w' → PAt B w' v0 v1 v2 v3 D) := fun w' hb => h.kept hb hB
  clear h
  have C0 : Hid (CpT w _ #[v0, v1, v2, v3] _) := cpT_init w #[v0, v1, v2, v3]
  go_enter Tryz.func7, Tryz.ntmps7
  go_wp2_with fail
  have z0 := C0.out.sz
  refine (toS_blk B v0 D.ns D.fs _ (H.out _ C0.out.bel).s (by omega) m0).mono ?_; rintro e w1 ⟨rfl, L0, K0, hb1⟩
  have N1 : Hid (CpT w w1 #[v0, v1, v2, v3] _) := C0.out.next hb1
  obtain ⟨p0, r0⟩ := cell_row N1.out.out 0 _ rfl
  have HL0 : Hid (Lst w1.heap.size w1 (.slice (some ⟨w.heap.size + 1 + 1 + 1, 0, none⟩) D.ns D.ns) D.ns 1 (cS D.fs)) := by simpa [Hid] using L0
  have HB0 : Hid (Blk w1.heap.size w1 (w.heap.size + 1 + 1 + 1) 9 D.ns) := by simpa [Hid] using K0
  clear L0 K0
  have C1 : Hid (CpT w (w1.setCell ⟨w.heap.size + 1 + 1, 0, none⟩ (.slice (some ⟨w.heap.size + 1 + 1 + 1, 0, none⟩) D.ns D.ns)) #[v0, v1, v2, v3] _) := N1.out.put 0 (.slice (some ⟨w.heap.size + 1 + 1 + 1, 0, none⟩) D.ns D.ns)
  have y1 : w.heap.size + 1 + 1 + 1 ≤ w1.heap.size := by have := hb1.size; simpa using this
  obtain ⟨a1, _⟩ := cell_row C1.out.arg 1 _ rfl
  simp only [List.getElem_toArray, List.getElem_cons_zero, List.getElem_cons_succ] at a1
  go_wp2_with fail
  have z1 := C1.out.sz
  refine (toF_blk B v1 D.nf D.ff _ (H.out _ C1.out.bel).f (by omega) m1).mono ?_; rintro e w2 ⟨rfl, L1, K1, hb2⟩
  have N2 : Hid (CpT w w2 #[v0, v1, v2, v3] _) := C1.out.next hb2
  obtain ⟨p1, r1⟩ := cell_row N2.out.out 1 _ rfl
  have HL1 : Hid (Lst w2.heap.size w2 (.slice (some ⟨w1.heap.size, 0, none⟩) D.nf D.nf) D.nf 2 (cF D.ff)) := by simpa [Hid] using L1
  have HB1 : Hid (Blk w2.heap.size w2 (w1.heap.size) 88 (D.nf * 2)) := by simpa [Hid] using K1
  clear L1 K1
  have C2 : Hid (CpT w (w2.setCell ⟨w.heap.size + 1 + 1, 1, none⟩ (.slice (some ⟨w1.heap.size, 0, none⟩) D.nf D.nf)) #[v0, v1, v2, v3] _) := N2.out.put 1 (.slice (some ⟨w1.heap.size, 0, none⟩) D.nf D.nf)
  have y2 : w1.heap.size ≤ w2.heap.size := by have := hb2.size; simpa using this
  obtain ⟨a2, _⟩ := cell_row C2.out.arg 2 _ rfl
  simp only [List.getElem_toArray, List.getElem_cons_zero, List.getElem_cons_succ] at a2
  go_wp2_with fail
  have z2 := C2.out.sz
  refine (toP_blk B v2 D.np D.fp _ (H.out _ C2.out.bel).p (by omega) m2).mono ?_; rintro e w3 ⟨rfl, L2, K2, hb3⟩
  have N3 : Hid (CpT w w3 #[v0, v1, v2, v3] _) := C2.out.next hb3
  obtain ⟨p2, r2⟩ := cell_row N3.out.out 2 _ rfl
  have HL2 : Hid (Lst w3.heap.size w3 (.slice (some ⟨w2.heap.size, 0, none⟩) D.np D.np) D.np 3 (cP D.fp)) := by simpa [Hid] using L2
  have HB2 : Hid (Blk w3.heap.size w3 (w2.heap.size) 90 (D.np * 3)) := by simpa [Hid] using K2
  clear L2 K2
  have C3 : Hid (CpT w (w3.setCell ⟨w.heap.size + 1 + 1, 2, none⟩ (.slice (some ⟨w2.heap.size, 0, none⟩) D.np D.np)) #[v0, v1, v2, v3] _) := N3.out.put 2 (.slice (some ⟨w2.heap.size, 0, none⟩) D.np D.np)
  have y3 : w2.heap.size ≤ w3.heap.size := by have := hb3.size; simpa using this
  obtain ⟨a3, _⟩ := cell_row C3.out.arg 3 _ rfl
  simp only [List.getElem_toArray, List.getElem_cons_zero, List.getElem_cons_succ] at a3
  go_wp2_with fail
  have z3 := C3.out.sz
  refine (toV_blk B v3 D.nv D.fv _ (H.out _ C3.out.bel).v (by omega) m3).mono ?_; rintro e w4 ⟨rfl, L3, K3, hb4⟩
  have N4 : Hid (CpT w w4 #[v0, v1, v2, v3] _) := C3.out.next hb4
  obtain ⟨p3, r3⟩ := cell_row N4.out.out 3 _ rfl
  have HL3 : Hid (Lst w4.heap.size w4 (.slice (some ⟨w3.heap.size, 0, none⟩) D.nv D.nv) D.nv 4 (cV D.fv)) := by simpa [Hid] using L3
  have HB3 : Hid (Blk w4.heap.size w4 (w3.heap.size) 85 (D.nv * 4)) := by simpa [Hid] using K3
  clear L3 K3
  have C4 : Hid (CpT w (w4.setCell ⟨w.heap.size + 1 + 1, 3, none⟩ (.slice (some ⟨w3.heap.size, 0, none⟩) D.nv D.nv)) #[v0, v1, v2, v3] _) := N4.out.put 3 (.slice (some ⟨w3.heap.size, 0, none⟩) D.nv D.nv)
  have y4 : w3.heap.size ≤ w4.heap.size := by have := hb4.size; simpa using this
  obtain ⟨o0, _⟩ := cell_row C4.out.out 0 (.slice (some ⟨w.heap.size + 1 + 1 + 1, 0, none⟩) D.ns D.ns) rfl
  obtain ⟨rr0, rf0⟩ := cell_row C4.out.res 0 _ rfl
  obtain ⟨o1, _⟩ := cell_row C4.out.out 1 (.slice (some ⟨w1.heap.size, 0, none⟩) D.nf D.nf) rfl
  obtain ⟨rr1, rf1⟩ := cell_row C4.out.res 1 _ rfl
  obtain ⟨o2, _⟩ := cell_row C4.out.out 2 (.slice (some ⟨w2.heap.size, 0, none⟩) D.np D.np) rfl
  obtain ⟨rr2, rf2⟩ := cell_row C4.out.res 2 _ rfl
  obtain ⟨o3, _⟩ := cell_row C4.out.out 3 (.slice (some ⟨w3.heap.size, 0, none⟩) D.nv D.nv) rfl
  obtain ⟨rr3, rf3⟩ := cell_row C4.out.res 3 _ rfl
  have f0 := (cell_row (set_row (set_row (set_row (set_row C4.out.res 0 (.slice (some ⟨w.heap.size + 1 + 1 + 1, 0, none⟩) D.ns D.ns)) 1 (.slice (some ⟨w1.heap.size, 0, none⟩) D.nf D.nf)) 2 (.slice (some ⟨w2.heap.size, 0, none⟩) D.np D.np)) 3 (.slice (some ⟨w3.heap.size, 0, none⟩) D.nv D.nv)) 0 (.slice (some ⟨w.heap.size + 1 + 1 + 1, 0, none⟩) D.ns D.ns) rfl).1
  have f1 := (cell_row (set_row (set_row (set_row (set_row C4.out.res 0 (.slice (some ⟨w.heap.size + 1 + 1 + 1, 0, none⟩) D.ns D.ns)) 1 (.slice (some ⟨w1.heap.size, 0, none⟩) D.nf D.nf)) 2 (.slice (some ⟨w2.heap.size, 0, none⟩) D.np D.np)) 3 (.slice (some ⟨w3.heap.size, 0, none⟩) D.nv D.nv)) 1 (.slice (some ⟨w1.heap.size, 0, none⟩) D.nf D.nf) rfl).1
  have f2 := (cell_row (set_row (set_row (set_row (set_row C4.out.res 0 (.slice (some ⟨w.heap.size + 1 + 1 + 1, 0, none⟩) D.ns D.ns)) 1 (.slice (some ⟨w1.heap.size, 0, none⟩) D.nf D.nf)) 2 (.slice (some ⟨w2.heap.size, 0, none⟩) D.np D.np)) 3 (.slice (some ⟨w3.heap.size, 0, none⟩) D.nv D.nv)) 2 (.slice (some ⟨w2.heap.size, 0, none⟩) D.np D.np) rfl).1
  have f3 := (cell_row (set_row (set_row (set_row (set_row C4.out.res 0 (.slice (some ⟨w.heap.size + 1 + 1 + 1, 0, none⟩) D.ns D.ns)) 1 (.slice (some ⟨w1.heap.size, 0, none⟩) D.nf D.nf)) 2 (.slice (some ⟨w2.heap.size, 0, none⟩) D.np D.np)) 3 (.slice (some ⟨w3.heap.size, 0, none⟩) D.nv D.nv)) 3 (.slice (some ⟨w3.heap.size, 0, none⟩) D.nv D.nv) rfl).1
  have hF : Below w.heap.size w (((((w4.setCell ⟨w.heap.size + 1 + 1, 3, none⟩ (.slice (some ⟨w3.heap.size, 0, none⟩) D.nv D.nv)).setCell ⟨w.heap.size + 1, 0, none⟩ (.slice (some ⟨w.heap.size + 1 + 1 + 1, 0, none⟩) D.ns D.ns)).setCell ⟨w.heap.size + 1, 1, none⟩ (.slice (some ⟨w1.heap.size, 0, none⟩) D.nf D.nf)).setCell ⟨w.heap.size + 1, 2, none⟩ (.slice (some ⟨w2.heap.size, 0, none⟩) D.np D.np)).setCell ⟨w.heap.size + 1, 3, none⟩ (.slice (some ⟨w3.heap.size, 0, none⟩) D.nv D.nv)) := ((((C4.out.bel.setCell (p := ⟨w.heap.size + 1, 0, none⟩) (by show w.heap.size ≤ w.heap.size + 1; omega) (.slice (some ⟨w.heap.size + 1 + 1 + 1, 0, none⟩) D.ns D.ns)).setCell (p := ⟨w.heap.size + 1, 1, none⟩) (by show w.heap.size ≤ w.heap.size + 1; omega) (.slice (some ⟨w1.heap.size, 0, none⟩) D.nf D.nf)).setCell (p := ⟨w.heap.size + 1, 2, none⟩) (by show w.heap.size ≤ w.heap.size + 1; omega) (.slice (some ⟨w2.heap.size, 0, none⟩) D.np D.np)).setCell (p := ⟨w.heap.size + 1, 3, none⟩) (by show w.heap.size ≤ w.heap.size + 1; omega) (.slice (some ⟨w3.heap.size, 0, none⟩) D.nv D.nv))
  have g0 := ((((((((((((((HL0.out.set ⟨w.heap.size + 1 + 1, 0, none⟩ (.slice (some ⟨w.heap.size + 1 + 1 + 1, 0, none⟩) D.ns D.ns) (by show w.heap.size + 1 + 1 ≠ w.heap.size + 1 + 1 + 1; omega))).kept hb2 (by simp; try omega)).set ⟨w.heap.size + 1 + 1, 1, none⟩ (.slice (some ⟨w1.heap.size, 0, none⟩) D.nf D.nf) (by show w.heap.size + 1 + 1 ≠ w.heap.size + 1 + 1 + 1; omega))).kept hb3 (by simp; try omega)).set ⟨w.heap.size + 1 + 1, 2, none⟩ (.slice (some ⟨w2.heap.size, 0, none⟩) D.np D.np) (by show w.heap.size + 1 + 1 ≠ w.heap.size + 1 + 1 + 1; omega))).kept hb4 (by simp; try omega)).set ⟨w.heap.size + 1 + 1, 3, none⟩ (.slice (some ⟨w3.heap.size, 0, none⟩) D.nv D.nv) (by show w.heap.size + 1 + 1 ≠ w.heap.size + 1 + 1 + 1; omega)).set ⟨w.heap.size + 1, 0, none⟩ (.slice (some ⟨w.heap.size + 1 + 1 + 1, 0, none⟩) D.ns D.ns) (by show w.heap.size + 1 ≠ w.heap.size + 1 + 1 + 1; omega)).set ⟨w.heap.size + 1, 1, none⟩ (.slice (some ⟨w1.heap.size, 0, none⟩) D.nf D.nf) (by show w.heap.size + 1 ≠ w.heap.size + 1 + 1 + 1; omega)).set ⟨w.heap.size + 1, 2, none⟩ (.slice (some ⟨w2.heap.size, 0, none⟩) D.np D.np) (by show w.heap.size + 1 ≠ w.heap.size + 1 + 1 + 1; omega)).set ⟨w.heap.size + 1, 3, none⟩ (.slice (some ⟨w3.heap.size, 0, none⟩) D.nv D.nv) (by show w.heap.size + 1 ≠ w.heap.size + 1 + 1 + 1; omega))
  have q0 := ((((((((((((((HB0.out.set ⟨w.heap.size + 1 + 1, 0, none⟩ (.slice (some ⟨w.heap.size + 1 + 1 + 1, 0, none⟩) D.ns D.ns) (by show w.heap.size + 1 + 1 ≠ w.heap.size + 1 + 1 + 1; omega))).kept hb2 (by simp; try omega)).set ⟨w.heap.size + 1 + 1, 1, none⟩ (.slice (some ⟨w1.heap.size, 0, none⟩) D.nf D.nf) (by show w.heap.size + 1 + 1 ≠ w.heap.size + 1 + 1 + 1; omega))).kept hb3 (by simp; try omega)).set ⟨w.heap.size + 1 + 1, 2, none⟩ (.slice (some ⟨w2.heap.size, 0, none⟩) D.np D.np) (by show w.heap.size + 1 + 1 ≠ w.heap.size + 1 + 1 + 1; omega))).kept hb4 (by simp; try omega)).set ⟨w.heap.size + 1 + 1, 3, none⟩ (.slice (some ⟨w3.heap.size, 0, none⟩) D.nv D.nv) (by show w.heap.size + 1 + 1 ≠ w.heap.size + 1 + 1 + 1; omega)).set ⟨w.heap.size + 1, 0, none⟩ (.slice (some ⟨w.heap.size + 1 + 1 + 1, 0, none⟩) D.ns D.ns) (by show w.heap.size + 1 ≠ w.heap.size + 1 + 1 + 1; omega)).set ⟨w.heap.size + 1, 1, none⟩ (.slice (some ⟨w1.heap.size, 0, none⟩) D.nf D.nf) (by show w.heap.size + 1 ≠ w.heap.size + 1 + 1 + 1; omega)).set ⟨w.heap.size + 1, 2, none⟩ (.slice (some ⟨w2.heap.size, 0, none⟩) D.np D.np) (by show w.heap.size + 1 ≠ w.heap.size + 1 + 1 + 1; omega)).set ⟨w.heap.size + 1, 3, none⟩ (.slice (some ⟨w3.heap.size, 0, none⟩) D.nv D.nv) (by show w.heap.size + 1 ≠ w.heap.size + 1 + 1 + 1; omega))
  have g1 := (((((((((((HL1.out.set ⟨w.heap.size + 1 + 1, 1, none⟩ (.slice (some ⟨w1.heap.size, 0, none⟩) D.nf D.nf) (by show w.heap.size + 1 + 1 ≠ w1.heap.size; omega))).kept hb3 (by simp; try omega)).set ⟨w.heap.size + 1 + 1, 2, none⟩ (.slice (some ⟨w2.heap.size, 0, none⟩) D.np D.np) (by show w.heap.size + 1 + 1 ≠ w1.heap.size; omega))).kept hb4 (by simp; try omega)).set ⟨w.heap.size + 1 + 1, 3, none⟩ (.slice (some ⟨w3.heap.size, 0, none⟩) D.nv D.nv) (by show w.heap.size + 1 + 1 ≠ w1.heap.size; omega)).set ⟨w.heap.size + 1, 0, none⟩ (.slice (some ⟨w.heap.size + 1 + 1 + 1, 0, none⟩) D.ns D.ns) (by show w.heap.size + 1 ≠ w1.heap.size; omega)).set ⟨w.heap.size + 1, 1, none⟩ (.slice (some ⟨w1.heap.size, 0, none⟩) D.nf D.nf) (by show w.heap.size + 1 ≠ w1.heap.size; omega)).set ⟨w.heap.size + 1, 2, none⟩ (.slice (some ⟨w2.heap.size, 0, none⟩) D.np D.np) (by show w.heap.size + 1 ≠ w1.heap.size; omega)).set ⟨w.heap.size + 1, 3, none⟩ (.slice (some ⟨w3.heap.size, 0, none⟩) D.nv D.nv) (by show w.heap.size + 1 ≠ w1.heap.size; omega))
  have q1 := (((((((((((HB1.out.set ⟨w.heap.size + 1 + 1, 1, none⟩ (.slice (some ⟨w1.heap.size, 0, none⟩) D.nf D.nf) (by show w.heap.size + 1 + 1 ≠ w1.heap.size; omega))).kept hb3 (by simp; try omega)).set ⟨w.heap.size + 1 + 1, 2, none⟩ (.slice (some ⟨w2.heap.size, 0, none⟩) D.np D.np) (by show w.heap.size + 1 + 1 ≠ w1.heap.size; omega))).kept hb4 (by simp; try omega)).set ⟨w.heap.size + 1 + 1, 3, none⟩ (.slice (some ⟨w3.heap.size, 0, none⟩) D.nv D.nv) (by show w.heap.size + 1 + 1 ≠ w1.heap.size; omega)).set ⟨w.heap.size + 1, 0, none⟩ (.slice (some ⟨w.heap.size + 1 + 1 + 1, 0, none⟩) D.ns D.ns) (by show w.heap.size + 1 ≠ w1.heap.size; omega)).set ⟨w.heap.size + 1, 1, none⟩ (.slice (some ⟨w1.heap.size, 0, none⟩) D.nf D.nf) (by show w.heap.size + 1 ≠ w1.heap.size; omega)).set ⟨w.heap.size + 1, 2, none⟩ (.slice (some ⟨w2.heap.size, 0, none⟩) D.np D.np) (by show w.heap.size + 1 ≠ w1.heap.size; omega)).set ⟨w.heap.size + 1, 3, none⟩ (.slice (some ⟨w3.heap.size, 0, none⟩) D.nv D.nv) (by show w.heap.size + 1 ≠ w1.heap.size; omega))
  have g2 := ((((((((HL2.out.set ⟨w.heap.size + 1 + 1, 2, none⟩ (.slice (some ⟨w2.heap.size, 0, none⟩) D.np D.np) (by show w.heap.size + 1 + 1 ≠ w2.heap.size; omega))).kept hb4 (by simp; try omega)).set ⟨w.heap.size + 1 + 1, 3, none⟩ (.slice (some ⟨w3.heap.size, 0, none⟩) D.nv D.nv) (by show w.heap.size + 1 + 1 ≠ w2.heap.size; omega)).set ⟨w.heap.size + 1, 0, none⟩ (.slice (some ⟨w.heap.size + 1 + 1 + 1, 0, none⟩) D.ns D.ns) (by show w.heap.size + 1 ≠ w2.heap.size; omega)).set ⟨w.heap.size + 1, 1, none⟩ (.slice (some ⟨w1.heap.size, 0, none⟩) D.nf D.nf) (by show w.heap.size + 1 ≠ w2.heap.size; omega)).set ⟨w.heap.size + 1, 2, none⟩ (.slice (some ⟨w2.heap.size, 0, none⟩) D.np D.np) (by show w.heap.size + 1 ≠ w2.heap.size; omega)).set ⟨w.heap.size + 1, 3, none⟩ (.slice (some ⟨w3.heap.size, 0, none⟩) D.nv D.nv) (by show w.heap.size + 1 ≠ w2.heap.size; omega))
  have q2 := ((((((((HB2.out.set ⟨w.heap.size + 1 + 1, 2, none⟩ (.slice (some ⟨w2.heap.size, 0, none⟩) D.np D.np) (by show w.heap.size + 1 + 1 ≠ w2.heap.size; omega))).kept hb4 (by simp; try omega)).set ⟨w.heap.size + 1 + 1, 3, none⟩ (.slice (some ⟨w3.heap.size, 0, none⟩) D.nv D.nv) (by show w.heap.size + 1 + 1 ≠ w2.heap.size; omega)).set ⟨w.heap.size + 1, 0, none⟩ (.slice (some ⟨w.heap.size + 1 + 1 + 1, 0, none⟩) D.ns D.ns) (by show w.heap.size + 1 ≠ w2.heap.size; omega)).set ⟨w.heap.size + 1, 1, none⟩ (.slice (some ⟨w1.heap.size, 0, none⟩) D.nf D.nf) (by show w.heap.size + 1 ≠ w2.heap.size; omega)).set ⟨w.heap.size + 1, 2, none⟩ (.slice (some ⟨w2.heap.size, 0, none⟩) D.np D.np) (by show w.heap.size + 1 ≠ w2.heap.size; omega)).set ⟨w.heap.size + 1, 3, none⟩ (.slice (some ⟨w3.heap.size, 0, none⟩) D.nv D.nv) (by show w.heap.size + 1 ≠ w2.heap.size; omega))
  have g3 := (((((HL3.out.set ⟨w.heap.size + 1 + 1, 3, none⟩ (.slice (some ⟨w3.heap.size, 0, none⟩) D.nv D.nv) (by show w.heap.size + 1 + 1 ≠ w3.heap.size; omega)).set ⟨w.heap.size + 1, 0, none⟩ (.slice (some ⟨w.heap.size + 1 + 1 + 1, 0, none⟩) D.ns D.ns) (by show w.heap.size + 1 ≠ w3.heap.size; omega)).set ⟨w.heap.size + 1, 1, none⟩ (.slice (some ⟨w1.heap.size, 0, none⟩) D.nf D.nf) (by show w.heap.size + 1 ≠ w3.heap.size; omega)).set ⟨w.heap.size + 1, 2, none⟩ (.slice (some ⟨w2.heap.size, 0, none⟩) D.np D.np) (by show w.heap.size + 1 ≠ w3.heap.size; omega)).set ⟨w.heap.size + 1, 3, none⟩ (.slice (some ⟨w3.heap.size, 0, none⟩) D.nv D.nv) (by show w.heap.size + 1 ≠ w3.heap.size; omega))
  have q3 := (((((HB3.out.set ⟨w.heap.size + 1 + 1, 3, none⟩ (.slice (some ⟨w3.heap.size, 0, none⟩) D.nv D.nv) (by show w.heap.size + 1 + 1 ≠ w3.heap.size; omega)).set ⟨w.heap.size + 1, 0, none⟩ (.slice (some ⟨w.heap.size + 1 + 1 + 1, 0, none⟩) D.ns D.ns) (by show w.heap.size + 1 ≠ w3.heap.size; omega)).set ⟨w.heap.size + 1, 1, none⟩ (.slice (some ⟨w1.heap.size, 0, none⟩) D.nf D.nf) (by show w.heap.size + 1 ≠ w3.heap.size; omega)).set ⟨w.heap.size + 1, 2, none⟩ (.slice (some ⟨w2.heap.size, 0, none⟩) D.np D.np) (by show w.heap.size + 1 ≠ w3.heap.size; omega)).set ⟨w.heap.size + 1, 3, none⟩ (.slice (some ⟨w3.heap.size, 0, none⟩) D.nv D.nv) (by show w.heap.size + 1 ≠ w3.heap.size; omega))
  go_wp2_with fail
  exact bodyPost_ret (v := .agg #[.slice (some ⟨w.heap.size + 1 + 1 + 1, 0, none⟩) D.ns D.ns, .slice (some ⟨w1.heap.size, 0, none⟩) D.nf D.nf, .slice (some ⟨w2.heap.size, 0, none⟩) D.np D.np, .slice (some ⟨w3.heap.size, 0, none⟩) D.nv D.nv]) (by simp [results, Tryz.results7, go_sem, f0, f1, f2, f3]) rfl ⟨_, _, _, _, rfl, ⟨g0.up (by simp; try omega), g1.up (by simp; try omega), g2.up (by simp; try omega), g3.up (by simp; try omega)⟩, ⟨⟨by omega, by omega, by omega, by omega⟩, q0.up (by simp; try omega), q1.up (by simp; try omega), q2.up (by simp; try omega), q3.up (by simp; try omega)⟩, hF⟩

theorem toPlant_any (B : Nat) (v0 v1 v2 v3 : Value) (D : PD) (w : World) (h : PAt B w v0 v1 v2 v3 D) (hB : B ≤ w.heap.size) (hm : D.ns ≤ 1048576 ∧ D.nf ≤ 1048576 ∧ D.np ≤ 1048576 ∧ D.nv ≤ 1048576) :
    Calls Tryz.prog 7 #[.agg #[v0, v1, v2, v3]] w fun e w' => ∃ u0 u1 u2 u3, e = .returned (.agg #[u0, u1, u2, u3]) ∧ PAt w'.heap.size w' u0 u1 u2 u3 D ∧ Below w.heap.size w w' :=
  (toPlant_blk B v0 v1 v2 v3 D w h hB hm).mono fun _ _ ⟨_, _, _, _, h1, h2, _, h3⟩ => ⟨_, _, _, _, h1, h2, h3⟩

end Go.Proofs.YtffmfomonmhkcaaGreat
