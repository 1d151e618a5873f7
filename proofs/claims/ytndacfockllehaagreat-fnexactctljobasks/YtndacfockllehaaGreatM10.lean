/-
  Several texts in one.
-/
import Derived.Test.YtndacfockllehaaGreatM9
/-
  The contract of the law's own copying of a plant: the copy holds what the plant holds, in new memory.
-/
namespace Go.Proofs.YtndacfockllehaaGreat
open Go.RowKit

/-- Where the copying stands: the plant's box, the result's, the copy's. -/
structure CpT (w u : World) (a c : Array Value) : Prop where
  arg : u.heap[w.heap.size]? = some (.cells a 27 (0, 0))
  res : u.heap[w.heap.size + 1]? = some (.cells #[.slice none 0 0, .slice none 0 0, .slice none 0 0, .slice none 0 0] 40 (0, 0))
  out : u.heap[w.heap.size + 1 + 1]? = some (.cells c 40 (0, 0))
  bel : Below w.heap.size w u

theorem CpT.sz {w u : World} {a c : Array Value} (h : CpT w u a c) : w.heap.size + 3 ≤ u.heap.size := (Array.getElem?_eq_some_iff.1 h.out).1
theorem CpT.next {w u u' : World} {a c : Array Value} (h : CpT w u a c) (hb : Below u.heap.size u u') : CpT w u' a c := by
  have hs := h.sz
  exact ⟨(hb.block _ (by omega)).trans h.arg, (hb.block _ (by omega)).trans h.res, (hb.block _ (by omega)).trans h.out, h.bel.trans (hb.mono (by omega))⟩
theorem CpT.put {w u : World} {a c : Array Value} (h : CpT w u a c) (j : Nat) (x : Value) : CpT w (u.setCell ⟨w.heap.size + 1 + 1, j, none⟩ x) a (c.setIfInBounds j x) :=
  ⟨(Below.heap_setCell _ _ _ _ (by show w.heap.size ≠ w.heap.size + 1 + 1; omega)).trans h.arg, (Below.heap_setCell _ _ _ _ (by show w.heap.size + 1 ≠ w.heap.size + 1 + 1; omega)).trans h.res, set_row h.out j x, h.bel.setCell (by show w.heap.size ≤ w.heap.size + 1 + 1; omega) x⟩

theorem Lst.set {B : Nat} {w : World} {g n m k : Nat} {c : Nat → Nat → Value} (h : Lst B w (.slice (some ⟨g, 0, none⟩) n m) n k c) (p : Addr) (x : Value) (hne : p.block ≠ g) : Lst B (w.setCell p x) (.slice (some ⟨g, 0, none⟩) n m) n k c := by
  obtain ⟨oa, cap, hv, hn, hc⟩ := h
  cases hv
  refine ⟨_, _, rfl, hn, fun i hi => ?_⟩
  obtain ⟨b, off, e, h2, h3⟩ := hc i hi
  cases e
  exact ⟨g, 0, rfl, h2, fun j hj => (World.cell?_of_block (w := w) (a := ⟨g, 0 + i * k + j, none⟩) (Below.heap_setCell w p x g (fun e => hne e.symm))).trans (h3 j hj)⟩

theorem Lst.up {B B' : Nat} {w : World} {v : Value} {n k : Nat} {c : Nat → Nat → Value} (h : Lst B w v n k c) (hB : B ≤ B') : Lst B' w v n k c := by
  obtain ⟨oa, cap, hv, hn, hc⟩ := h
  refine ⟨oa, cap, hv, hn, fun i hi => ?_⟩
  obtain ⟨b, off, h1, h2, h3⟩ := hc i hi
  exact ⟨b, off, h1, by omega, h3⟩

theorem slice_lst {B : Nat} {w : World} {v : Value} {n k : Nat} {c : Nat → Nat → Value} (h : Lst B w v n k c) : ∃ oa cap, v = .slice oa n cap := by
  obtain ⟨oa, cap, hv, _⟩ := h; exact ⟨oa, cap, hv⟩

/-- How it begins. -/
theorem cpT_init (w : World) (a : Array Value) : CpT w (((w.alloc (.cells a 27)).alloc (.cells #[.slice none 0 0, .slice none 0 0, .slice none 0 0, .slice none 0 0] 40)).alloc (.cells #[.slice none 0 0, .slice none 0 0, .slice none 0 0, .slice none 0 0] 40)) a #[.slice none 0 0, .slice none 0 0, .slice none 0 0, .slice none 0 0] := by
  have e1 : (w.alloc (.cells a 27)).heap.size = w.heap.size + 1 := by simp
  have e2 : ((w.alloc (.cells a 27)).alloc (.cells #[.slice none 0 0, .slice none 0 0, .slice none 0 0, .slice none 0 0] 40)).heap.size = w.heap.size + 1 + 1 := by simp
  refine ⟨?_, ?_, ?_, ?_⟩
  · exact (Below.heap_alloc _ _ _ (by omega)).trans ((Below.heap_alloc _ _ _ (by omega)).trans (heap_alloc_new w _))
  · refine (Below.heap_alloc _ _ _ (by omega)).trans ?_
    rw [← e1]; exact heap_alloc_new _ _
  · rw [← e2]; exact heap_alloc_new _ _
  · exact (((Below.refl _ _).alloc (Nat.le_refl _) _).alloc (by omega) _).alloc (by omega) _

/-- A plant's four lists in blocks of their own. -/
structure PBlk (A B : Nat) (w : World) (g0 g1 g2 g3 : Nat) (D : PD) : Prop where
  a : A ≤ g0 ∧ A ≤ g1 ∧ A ≤ g2 ∧ A ≤ g3
  s : Blk B w g0 9 D.ns
  f : Blk B w g1 101 (D.nf * 2)
  p : Blk B w g2 103 (D.np * 3)
  v : Blk B w g3 105 (D.nv * 4)
/-- A list that lies at the beginning of a block. -/
abbrev sl (g n : Nat) : Value := .slice (some ⟨g, 0, none⟩) n n

set_option maxRecDepth 100000 in
set_option maxHeartbeats 2000000 in
theorem toPlant_blk (B : Nat) (v0 v1 v2 v3 : Value) (D : PD) (w : World) (h : PAt B w v0 v1 v2 v3 D) (hB : B ≤ w.heap.size) (hm : D.ns ≤ 1048576 ∧ D.nf ≤ 1048576 ∧ D.np ≤ 1048576 ∧ D.nv ≤ 1048576) :
    Calls Tryz.prog 7 #[.agg #[v0, v1, v2, v3]] w fun e w' => ∃ g0 g1 g2 g3, e = .returned (.agg #[sl g0 D.ns, sl g1 D.nf, sl g2 D.np, sl g3 D.nv]) ∧ PAt w'.heap.size w' (sl g0 D.ns) (sl g1 D.nf) (sl g2 D.np) (sl g3 D.nv) D ∧ PBlk w.heap.size w'.heap.size w' g0 g1 g2 g3 D ∧ Below w.heap.size w w' := by
  obtain ⟨m0, m1, m2, m3⟩ := hm
  have H : Hid (∀ w', Below w.heap.size w w' → PAt B w' v0 v1 v2 v3 D) := fun w' hb => h.kept hb hB
  clear h
  have C0 : Hid (CpT w _ #[v0, v1, v2, v3] _) := cpT_init w #[v0, v1, v2, v3]
  go_enter Tryz.func7, Tryz.ntmps7
  go_wp2_with fail
  have z0 := C0.out.sz
  refine (toS_blk B v0 D.ns D.fs _ (H.out _ C0.out.bel).s (by omega) m0).mono ?_; rintro e w1 ⟨rfl, L0, K0, hb1⟩
  have N1 : Hid (CpT w w1 #[v0, v1, v2, v3] _) := C0.out.next hb1
  obtain ⟨p0, r0⟩ := cell_row N1.out.out 0 _ rfl
  have HL0 : Hid (Lst w1.heap.size w1 (.slice (some ⟨w.heap.size + 1 + 1 + 1, 0, none⟩) D.ns D.ns) D.ns 1 (cS D.fs)) := by simpa [Hid] using L0
  have HB0 : Hid (Blk w1.heap.size w1 (w.heap.size + 1 + 1 + 1) 9 D.ns) := by simpa [Hid] using K0
  clear L0 K0
  have C1 : Hid (CpT w (w1.setCell ⟨w.heap.size + 1 + 1, 0, none⟩ (.slice (some ⟨w.heap.size + 1 + 1 + 1, 0, none⟩) D.ns D.ns)) #[v0, v1, v2, v3] _) := N1.out.put 0 (.slice (some ⟨w.heap.size + 1 + 1 + 1, 0, none⟩) D.ns D.ns)
  have y1 : w.heap.size + 1 + 1 + 1 ≤ w1.heap.size := by have := hb1.size; simpa using this
  obtain ⟨a1, _⟩ := cell_row C1.out.arg 1 _ rfl
  simp only [List.getElem_toArray, List.getElem_cons_zero, List.getElem_cons_succ] at a1
  go_wp2_with fail
  have z1 := C1.out.sz
  refine (toF_blk B v1 D.nf D.ff _ (H.out _ C1.out.bel).f (by omega) m1).mono ?_; rintro e w2 ⟨rfl, L1, K1, hb2⟩
  have N2 : Hid (CpT w w2 #[v0, v1, v2, v3] _) := C1.out.next hb2
  obtain ⟨p1, r1⟩ := cell_row N2.out.out 1 _ rfl
  have HL1 : Hid (Lst w2.heap.size w2 (.slice (some ⟨w1.heap.size, 0, none⟩) D.nf D.nf) D.nf 2 (cF D.ff)) := by simpa [Hid] using L1
  have HB1 : Hid (Blk w2.heap.size w2 (w1.heap.size) 101 (D.nf * 2)) := by simpa [Hid] using K1
  clear L1 K1
  have C2 : Hid (CpT w (w2.setCell ⟨w.heap.size + 1 + 1, 1, none⟩ (.slice (some ⟨w1.heap.size, 0, none⟩) D.nf D.nf)) #[v0, v1, v2, v3] _) := N2.out.put 1 (.slice (some ⟨w1.heap.size, 0, none⟩) D.nf D.nf)
  have y2 : w1.heap.size ≤ w2.heap.size := by have := hb2.size; simpa using this
  obtain ⟨a2, _⟩ := cell_row C2.out.arg 2 _ rfl
  simp only [List.getElem_toArray, List.getElem_cons_zero, List.getElem_cons_succ] at a2
  go_wp2_with fail
  have z2 := C2.out.sz
  refine (toP_blk B v2 D.np D.fp _ (H.out _ C2.out.bel).p (by omega) m2).mono ?_; rintro e w3 ⟨rfl, L2, K2, hb3⟩
  have N3 : Hid (CpT w w3 #[v0, v1, v2, v3] _) := C2.out.next hb3
  obtain ⟨p2, r2⟩ := cell_row N3.out.out 2 _ rfl
  have HL2 : Hid (Lst w3.heap.size w3 (.slice (some ⟨w2.heap.size, 0, none⟩) D.np D.np) D.np 3 (cP D.fp)) := by simpa [Hid] using L2
  have HB2 : Hid (Blk w3.heap.size w3 (w2.heap.size) 103 (D.np * 3)) := by simpa [Hid] using K2
  clear L2 K2
  have C3 : Hid (CpT w (w3.setCell ⟨w.heap.size + 1 + 1, 2, none⟩ (.slice (some ⟨w2.heap.size, 0, none⟩) D.np D.np)) #[v0, v1, v2, v3] _) := N3.out.put 2 (.slice (some ⟨w2.heap.size, 0, none⟩) D.np D.np)
  have y3 : w2.heap.size ≤ w3.heap.size := by have := hb3.size; simpa using this
  obtain ⟨a3, _⟩ := cell_row C3.out.arg 3 _ rfl
  simp only [List.getElem_toArray, List.getElem_cons_zero, List.getElem_cons_succ] at a3
  go_wp2_with fail
  have z3 := C3.out.sz
  refine (toV_blk B v3 D.nv D.fv _ (H.out _ C3.out.bel).v (by omega) m3).mono ?_; rintro e w4 ⟨rfl, L3, K3, hb4⟩
  have N4 : Hid (CpT w w4 #[v0, v1, v2, v3] _) := C3.out.next hb4
  obtain ⟨p3, r3⟩ := cell_row N4.out.out 3 _ rfl
  have HL3 : Hid (Lst w4.heap.size w4 (.slice (some ⟨w3.heap.size, 0, none⟩) D.nv D.nv) D.nv 4 (cV D.fv)) := by simpa [Hid] using L3
  have HB3 : Hid (Blk w4.heap.size w4 (w3.heap.size) 105 (D.nv * 4)) := by simpa [Hid] using K3
  clear L3 K3
  have C4 : Hid (CpT w (w4.setCell ⟨w.heap.size + 1 + 1, 3, none⟩ (.slice (some ⟨w3.heap.size, 0, none⟩) D.nv D.nv)) #[v0, v1, v2, v3] _) := N4.out.put 3 (.slice (some ⟨w3.heap.size, 0, none⟩) D.nv D.nv)
  have y4 : w3.heap.size ≤ w4.heap.size := by have := hb4.size; simpa using this
  obtain ⟨o0, _⟩ := cell_row C4.out.out 0 (.slice (some ⟨w.heap.size + 1 + 1 + 1, 0, none⟩) D.ns D.ns) rfl
  obtain ⟨rr0, rf0⟩ := cell_row C4.out.res 0 _ rfl
  obtain ⟨o1, _⟩ := cell_row C4.out.out 1 (.slice (some ⟨w1.heap.size, 0, none⟩) D.nf D.nf) rfl
  obtain ⟨rr1, rf1⟩ := cell_row C4.out.res 1 _ rfl
  obtain ⟨o2, _⟩ := cell_row C4.out.out 2 (.slice (some ⟨w2.heap.size, 0, none⟩) D.np D.np) rfl
  obtain ⟨rr2, rf2⟩ := cell_row C4.out.res 2 _ rfl
  obtain ⟨o3, _⟩ := cell_row C4.out.out 3 (.slice (some ⟨w3.heap.size, 0, none⟩) D.nv D.nv) rfl
  obtain ⟨rr3, rf3⟩ := cell_row C4.out.res 3 _ rfl
  have f0 := (cell_row (set_row (set_row (set_row (set_row C4.out.res 0 (.slice (some ⟨w.heap.size + 1 + 1 + 1, 0, none⟩) D.ns D.ns)) 1 (.slice (some ⟨w1.heap.size, 0, none⟩) D.nf D.nf)) 2 (.slice (some ⟨w2.heap.size, 0, none⟩) D.np D.np)) 3 (.slice (some ⟨w3.heap.size, 0, none⟩) D.nv D.nv)) 0 (.slice (some ⟨w.heap.size + 1 + 1 + 1, 0, none⟩) D.ns D.ns) rfl).1
  have f1 := (cell_row (set_row (set_row (set_row (set_row C4.out.res 0 (.slice (some ⟨w.heap.size + 1 + 1 + 1, 0, none⟩) D.ns D.ns)) 1 (.slice (some ⟨w1.heap.size, 0, none⟩) D.nf D.nf)) 2 (.slice (some ⟨w2.heap.size, 0, none⟩) D.np D.np)) 3 (.slice (some ⟨w3.heap.size, 0, none⟩) D.nv D.nv)) 1 (.slice (some ⟨w1.heap.size, 0, none⟩) D.nf D.nf) rfl).1
  have f2 := (cell_row (set_row (set_row (set_row (set_row C4.out.res 0 (.slice (some ⟨w.heap.size + 1 + 1 + 1, 0, none⟩) D.ns D.ns)) 1 (.slice (some ⟨w1.heap.size, 0, none⟩) D.nf D.nf)) 2 (.slice (some ⟨w2.heap.size, 0, none⟩) D.np D.np)) 3 (.slice (some ⟨w3.heap.size, 0, none⟩) D.nv D.nv)) 2 (.slice (some ⟨w2.heap.size, 0, none⟩) D.np D.np) rfl).1
  have f3 := (cell_row (set_row (set_row (set_row (set_row C4.out.res 0 (.slice (some ⟨w.heap.size + 1 + 1 + 1, 0, none⟩) D.ns D.ns)) 1 (.slice (some ⟨w1.heap.size, 0, none⟩) D.nf D.nf)) 2 (.slice (some ⟨w2.heap.size, 0, none⟩) D.np D.np)) 3 (.slice (some ⟨w3.heap.size, 0, none⟩) D.nv D.nv)) 3 (.slice (some ⟨w3.heap.size, 0, none⟩) D.nv D.nv) rfl).1
  have hF : Below w.heap.size w (((((w4.setCell ⟨w.heap.size + 1 + 1, 3, none⟩ (.slice (some ⟨w3.heap.size, 0, none⟩) D.nv D.nv)).setCell ⟨w.heap.size + 1, 0, none⟩ (.slice (some ⟨w.heap.size + 1 + 1 + 1, 0, none⟩) D.ns D.ns)).setCell ⟨w.heap.size + 1, 1, none⟩ (.slice (some ⟨w1.heap.size, 0, none⟩) D.nf D.nf)).setCell ⟨w.heap.size + 1, 2, none⟩ (.slice (some ⟨w2.heap.size, 0, none⟩) D.np D.np)).setCell ⟨w.heap.size + 1, 3, none⟩ (.slice (some ⟨w3.heap.size, 0, none⟩) D.nv D.nv)) := ((((C4.out.bel.setCell (p := ⟨w.heap.size + 1, 0, none⟩) (by show w.heap.size ≤ w.heap.size + 1; omega) (.slice (some ⟨w.heap.size + 1 + 1 + 1, 0, none⟩) D.ns D.ns)).setCell (p := ⟨w.heap.size + 1, 1, none⟩) (by show w.heap.size ≤ w.heap.size + 1; omega) (.slice (some ⟨w1.heap.size, 0, none⟩) D.nf D.nf)).setCell (p := ⟨w.heap.size + 1, 2, none⟩) (by show w.heap.size ≤ w.heap.size + 1; omega) (.slice (some ⟨w2.heap.size, 0, none⟩) D.np D.np)).setCell (p := ⟨w.heap.size + 1, 3, none⟩) (by show w.heap.size ≤ w.heap.size + 1; omega) (.slice (some ⟨w3.heap.size, 0, none⟩) D.nv D.nv))
  have g0 := ((((((((((((((HL0.out.set ⟨w.heap.size + 1 + 1, 0, none⟩ (.slice (some ⟨w.heap.size + 1 + 1 + 1, 0, none⟩) D.ns D.ns) (by show w.heap.size + 1 + 1 ≠ w.heap.size + 1 + 1 + 1; omega))).kept hb2 (by simp; try omega)).set ⟨w.heap.size + 1 + 1, 1, none⟩ (.slice (some ⟨w1.heap.size, 0, none⟩) D.nf D.nf) (by show w.heap.size + 1 + 1 ≠ w.heap.size + 1 + 1 + 1; omega))).kept hb3 (by simp; try omega)).set ⟨w.heap.size + 1 + 1, 2, none⟩ (.slice (some ⟨w2.heap.size, 0, none⟩) D.np D.np) (by show w.heap.size + 1 + 1 ≠ w.heap.size + 1 + 1 + 1; omega))).kept hb4 (by simp; try omega)).set ⟨w.heap.size + 1 + 1, 3, none⟩ (.slice (some ⟨w3.heap.size, 0, none⟩) D.nv D.nv) (by show w.heap.size + 1 + 1 ≠ w.heap.size + 1 + 1 + 1; omega)).set ⟨w.heap.size + 1, 0, none⟩ (.slice (some ⟨w.heap.size + 1 + 1 + 1, 0, none⟩) D.ns D.ns) (by show w.heap.size + 1 ≠ w.heap.size + 1 + 1 + 1; omega)).set ⟨w.heap.size + 1, 1, none⟩ (.slice (some ⟨w1.heap.size, 0, none⟩) D.nf D.nf) (by show w.heap.size + 1 ≠ w.heap.size + 1 + 1 + 1; omega)).set ⟨w.heap.size + 1, 2, none⟩ (.slice (some ⟨w2.heap.size, 0, none⟩) D.np D.np) (by show w.heap.size + 1 ≠ w.heap.size + 1 + 1 + 1; omega)).set ⟨w.heap.size + 1, 3, none⟩ (.slice (some ⟨w3.heap.size, 0, none⟩) D.nv D.nv) (by show w.heap.size + 1 ≠ w.heap.size + 1 + 1 + 1; omega))
  have q0 := ((((((((((((((HB0.out.set ⟨w.heap.size + 1 + 1, 0, none⟩ (.slice (some ⟨w.heap.size + 1 + 1 + 1, 0, none⟩) D.ns D.ns) (by show w.heap.size + 1 + 1 ≠ w.heap.size + 1 + 1 + 1; omega))).kept hb2 (by simp; try omega)).set ⟨w.heap.size + 1 + 1, 1, none⟩ (.slice (some ⟨w1.heap.size, 0, none⟩) D.nf D.nf) (by show w.heap.size + 1 + 1 ≠ w.heap.size + 1 + 1 + 1; omega))).kept hb3 (by simp; try omega)).set ⟨w.heap.size + 1 + 1, 2, none⟩ (.slice (some ⟨w2.heap.size, 0, none⟩) D.np D.np) (by show w.heap.size + 1 + 1 ≠ w.heap.size + 1 + 1 + 1; omega))).kept hb4 (by simp; try omega)).set ⟨w.heap.size + 1 + 1, 3, none⟩ (.slice (some ⟨w3.heap.size, 0, none⟩) D.nv D.nv) (by show w.heap.size + 1 + 1 ≠ w.heap.size + 1 + 1 + 1; omega)).set ⟨w.heap.size + 1, 0, none⟩ (.slice (some ⟨w.heap.size + 1 + 1 + 1, 0, none⟩) D.ns D.ns) (by show w.heap.size + 1 ≠ w.heap.size + 1 + 1 + 1; omega)).set ⟨w.heap.size + 1, 1, none⟩ (.slice (some ⟨w1.heap.size, 0, none⟩) D.nf D.nf) (by show w.heap.size + 1 ≠ w.heap.size + 1 + 1 + 1; omega)).set ⟨w.heap.size + 1, 2, none⟩ (.slice (some ⟨w2.heap.size, 0, none⟩) D.np D.np) (by show w.heap.size + 1 ≠ w.heap.size + 1 + 1 + 1; omega)).set ⟨w.heap.size + 1, 3, none⟩ (.slice (some ⟨w3.heap.size, 0, none⟩) D.nv D.nv) (by show w.heap.size + 1 ≠ w.heap.size + 1 + 1 + 1; omega))
  have g1 := (((((((((((HL1.out.set ⟨w.heap.size + 1 + 1, 1, none⟩ (.slice (some ⟨w1.heap.size, 0, none⟩) D.nf D.nf) (by show w.heap.size + 1 + 1 ≠ w1.heap.size; omega))).kept hb3 (by simp; try omega)).set ⟨w.heap.size + 1 + 1, 2, none⟩ (.slice (some ⟨w2.heap.size, 0, none⟩) D.np D.np) (by show w.heap.size + 1 + 1 ≠ w1.heap.size; omega))).kept hb4 (by simp; try omega)).set ⟨w.heap.size + 1 + 1, 3, none⟩ (.slice (some ⟨w3.heap.size, 0, none⟩) D.nv D.nv) (by show w.heap.size + 1 + 1 ≠ w1.heap.size; omega)).set ⟨w.heap.size + 1, 0, none⟩ (.slice (some ⟨w.heap.size + 1 + 1 + 1, 0, none⟩) D.ns D.ns) (by show w.heap.size + 1 ≠ w1.heap.size; omega)).set ⟨w.heap.size + 1, 1, none⟩ (.slice (some ⟨w1.heap.size, 0, none⟩) D.nf D.nf) (by show w.heap.size + 1 ≠ w1.heap.size; omega)).set ⟨w.heap.size + 1, 2, none⟩ (.slice (some ⟨w2.heap.size, 0, none⟩) D.np D.np) (by show w.heap.size + 1 ≠ w1.heap.size; omega)).set ⟨w.heap.size + 1, 3, none⟩ (.slice (some ⟨w3.heap.size, 0, none⟩) D.nv D.nv) (by show w.heap.size + 1 ≠ w1.heap.size; omega))
  have q1 := (((((((((((HB1.out.set ⟨w.heap.size + 1 + 1, 1, none⟩ (.slice (some ⟨w1.heap.size, 0, none⟩) D.nf D.nf) (by show w.heap.size + 1 + 1 ≠ w1.heap.size; omega))).kept hb3 (by simp; try omega)).set ⟨w.heap.size + 1 + 1, 2, none⟩ (.slice (some ⟨w2.heap.size, 0, none⟩) D.np D.np) (by show w.heap.size + 1 + 1 ≠ w1.heap.size; omega))).kept hb4 (by simp; try omega)).set ⟨w.heap.size + 1 + 1, 3, none⟩ (.slice (some ⟨w3.heap.size, 0, none⟩) D.nv D.nv) (by show w.heap.size + 1 + 1 ≠ w1.heap.size; omega)).set ⟨w.heap.size + 1, 0, none⟩ (.slice (some ⟨w.heap.size + 1 + 1 + 1, 0, none⟩) D.ns D.ns) (by show w.heap.size + 1 ≠ w1.heap.size; omega)).set ⟨w.heap.size + 1, 1, none⟩ (.slice (some ⟨w1.heap.size, 0, none⟩) D.nf D.nf) (by show w.heap.size + 1 ≠ w1.heap.size; omega)).set ⟨w.heap.size + 1, 2, none⟩ (.slice (some ⟨w2.heap.size, 0, none⟩) D.np D.np) (by show w.heap.size + 1 ≠ w1.heap.size; omega)).set ⟨w.heap.size + 1, 3, none⟩ (.slice (some ⟨w3.heap.size, 0, none⟩) D.nv D.nv) (by show w.heap.size + 1 ≠ w1.heap.size; omega))
  have g2 := ((((((((HL2.out.set ⟨w.heap.size + 1 + 1, 2, none⟩ (.slice (some ⟨w2.heap.size, 0, none⟩) D.np D.np) (by show w.heap.size + 1 + 1 ≠ w2.heap.size; omega))).kept hb4 (by simp; try omega)).set ⟨w.heap.size + 1 + 1, 3, none⟩ (.slice (some ⟨w3.heap.size, 0, none⟩) D.nv D.nv) (by show w.heap.size + 1 + 1 ≠ w2.heap.size; omega)).set ⟨w.heap.size + 1, 0, none⟩ (.slice (some ⟨w.heap.size + 1 + 1 + 1, 0, none⟩) D.ns D.ns) (by show w.heap.size + 1 ≠ w2.heap.size; omega)).set ⟨w.heap.size + 1, 1, none⟩ (.slice (some ⟨w1.heap.size, 0, none⟩) D.nf D.nf) (by show w.heap.size + 1 ≠ w2.heap.size; omega)).set ⟨w.heap.size + 1, 2, none⟩ (.slice (some ⟨w2.heap.size, 0, none⟩) D.np D.np) (by show w.heap.size + 1 ≠ w2.heap.size; omega)).set ⟨w.heap.size + 1, 3, none⟩ (.slice (some ⟨w3.heap.size, 0, none⟩) D.nv D.nv) (by show w.heap.size + 1 ≠ w2.heap.size; omega))
  have q2 := ((((((((HB2.out.set ⟨w.heap.size + 1 + 1, 2, none⟩ (.slice (some ⟨w2.heap.size, 0, none⟩) D.np D.np) (by show w.heap.size + 1 + 1 ≠ w2.heap.size; omega))).kept hb4 (by simp; try omega)).set ⟨w.heap.size + 1 + 1, 3, none⟩ (.slice (some ⟨w3.heap.size, 0, none⟩) D.nv D.nv) (by show w.heap.size + 1 + 1 ≠ w2.heap.size; omega)).set ⟨w.heap.size + 1, 0, none⟩ (.slice (some ⟨w.heap.size + 1 + 1 + 1, 0, none⟩) D.ns D.ns) (by show w.heap.size + 1 ≠ w2.heap.size; omega)).set ⟨w.heap.size + 1, 1, none⟩ (.slice (some ⟨w1.heap.size, 0, none⟩) D.nf D.nf) (by show w.heap.size + 1 ≠ w2.heap.size; omega)).set ⟨w.heap.size + 1, 2, none⟩ (.slice (some ⟨w2.heap.size, 0, none⟩) D.np D.np) (by show w.heap.size + 1 ≠ w2.heap.size; omega)).set ⟨w.heap.size + 1, 3, none⟩ (.slice (some ⟨w3.heap.size, 0, none⟩) D.nv D.nv) (by show w.heap.size + 1 ≠ w2.heap.size; omega))
  have g3 := (((((HL3.out.set ⟨w.heap.size + 1 + 1, 3, none⟩ (.slice (some ⟨w3.heap.size, 0, none⟩) D.nv D.nv) (by show w.heap.size + 1 + 1 ≠ w3.heap.size; omega)).set ⟨w.heap.size + 1, 0, none⟩ (.slice (some ⟨w.heap.size + 1 + 1 + 1, 0, none⟩) D.ns D.ns) (by show w.heap.size + 1 ≠ w3.heap.size; omega)).set ⟨w.heap.size + 1, 1, none⟩ (.slice (some ⟨w1.heap.size, 0, none⟩) D.nf D.nf) (by show w.heap.size + 1 ≠ w3.heap.size; omega)).set ⟨w.heap.size + 1, 2, none⟩ (.slice (some ⟨w2.heap.size, 0, none⟩) D.np D.np) (by show w.heap.size + 1 ≠ w3.heap.size; omega)).set ⟨w.heap.size + 1, 3, none⟩ (.slice (some ⟨w3.heap.size, 0, none⟩) D.nv D.nv) (by show w.heap.size + 1 ≠ w3.heap.size; omega))
  have q3 := (((((HB3.out.set ⟨w.heap.size + 1 + 1, 3, none⟩ (.slice (some ⟨w3.heap.size, 0, none⟩) D.nv D.nv) (by show w.heap.size + 1 + 1 ≠ w3.heap.size; omega)).set ⟨w.heap.size + 1, 0, none⟩ (.slice (some ⟨w.heap.size + 1 + 1 + 1, 0, none⟩) D.ns D.ns) (by show w.heap.size + 1 ≠ w3.heap.size; omega)).set ⟨w.heap.size + 1, 1, none⟩ (.slice (some ⟨w1.heap.size, 0, none⟩) D.nf D.nf) (by show w.heap.size + 1 ≠ w3.heap.size; omega)).set ⟨w.heap.size + 1, 2, none⟩ (.slice (some ⟨w2.heap.size, 0, none⟩) D.np D.np) (by show w.heap.size + 1 ≠ w3.heap.size; omega)).set ⟨w.heap.size + 1, 3, none⟩ (.slice (some ⟨w3.heap.size, 0, none⟩) D.nv D.nv) (by show w.heap.size + 1 ≠ w3.heap.size; omega))
  go_wp2_with fail
  exact bodyPost_ret (v := .agg #[.slice (some ⟨w.heap.size + 1 + 1 + 1, 0, none⟩) D.ns D.ns, .slice (some ⟨w1.heap.size, 0, none⟩) D.nf D.nf, .slice (some ⟨w2.heap.size, 0, none⟩) D.np D.np, .slice (some ⟨w3.heap.size, 0, none⟩) D.nv D.nv]) (by simp [results, Tryz.results7, go_sem, f0, f1, f2, f3]) rfl ⟨_, _, _, _, rfl, ⟨g0.up (by simp; try omega), g1.up (by simp; try omega), g2.up (by simp; try omega), g3.up (by simp; try omega)⟩, ⟨⟨by omega, by omega, by omega, by omega⟩, q0.up (by simp; try omega), q1.up (by simp; try omega), q2.up (by simp; try omega), q3.up (by simp; try omega)⟩, hF⟩

theorem toPlant_any (B : Nat) (v0 v1 v2 v3 : Value) (D : PD) (w : World) (h : PAt B w v0 v1 v2 v3 D) (hB : B ≤ w.heap.size) (hm : D.ns ≤ 1048576 ∧ D.nf ≤ 1048576 ∧ D.np ≤ 1048576 ∧ D.nv ≤ 1048576) :
    Calls Tryz.prog 7 #[.agg #[v0, v1, v2, v3]] w fun e w' => ∃ u0 u1 u2 u3, e = .returned (.agg #[u0, u1, u2, u3]) ∧ PAt w'.heap.size w' u0 u1 u2 u3 D ∧ Below w.heap.size w w' :=
  (toPlant_blk B v0 v1 v2 v3 D w h hB hm).mono fun _ _ ⟨_, _, _, _, h1, h2, _, h3⟩ => ⟨_, _, _, _, h1, h2, h3⟩

end Go.Proofs.YtndacfockllehaaGreat

/-
  Contracts of the law's own comparing of two plants that hold the same.
-/
namespace Go.Proofs.YtndacfockllehaaGreat
open Go.RowKit

set_option maxRecDepth 100000 in
set_option maxHeartbeats 1000000 in
theorem eqFoe (a b : ByteArray) (w : World) : Calls Tryz.prog 67 #[.agg #[.string a, .string b], .agg #[.string a, .string b]] w fun e w' => e = .returned (.bool true) ∧ Below w.heap.size w w' := by
  go_enter Tryz.func67, Tryz.ntmps67
  go_wp2
  go_ret
  exact ⟨rfl, ((Below.refl _ _).alloc (Nat.le_refl _) _).alloc (by simp) _⟩
open Go.Sort in
theorem eqFoeq (a b : ByteArray) (wr : World) (dr : Nat) (os : Array Obj) : Calls Tryz.prog 67 #[.agg #[.string a, .string b], .agg #[.string a, .string b]] (grow (redrawn wr dr) os) fun e w'' => e = .returned (.bool true) ∧ ∃ p : Regrown, w'' = grow (redrawn wr p.d) p.os :=
  Calls.regrown_of (eqFoe a b _)

set_option maxRecDepth 100000 in
set_option maxHeartbeats 1000000 in
theorem eqPlace (a b : ByteArray) (c : Int) (w : World) : Calls Tryz.prog 68 #[.agg #[.string a, .int .i64 c, .string b], .agg #[.string a, .int .i64 c, .string b]] w fun e w' => e = .returned (.bool true) ∧ Below w.heap.size w w' := by
  go_enter Tryz.func68, Tryz.ntmps68
  go_wp2
  go_ret
  exact ⟨rfl, ((Below.refl _ _).alloc (Nat.le_refl _) _).alloc (by simp) _⟩
open Go.Sort in
theorem eqPlaceq (a b : ByteArray) (c : Int) (wr : World) (dr : Nat) (os : Array Obj) : Calls Tryz.prog 68 #[.agg #[.string a, .int .i64 c, .string b], .agg #[.string a, .int .i64 c, .string b]] (grow (redrawn wr dr) os) fun e w'' => e = .returned (.bool true) ∧ ∃ p : Regrown, w'' = grow (redrawn wr p.d) p.os :=
  Calls.regrown_of (eqPlace a b c _)

set_option maxRecDepth 100000 in
set_option maxHeartbeats 1000000 in
theorem eqValve (a b c d : ByteArray) (w : World) : Calls Tryz.prog 69 #[.agg #[.string a, .string b, .string c, .string d], .agg #[.string a, .string b, .string c, .string d]] w fun e w' => e = .returned (.bool true) ∧ Below w.heap.size w w' := by
  go_enter Tryz.func69, Tryz.ntmps69
  go_wp2
  go_ret
  exact ⟨rfl, ((Below.refl _ _).alloc (Nat.le_refl _) _).alloc (by simp) _⟩
open Go.Sort in
theorem eqValveq (a b c d : ByteArray) (wr : World) (dr : Nat) (os : Array Obj) : Calls Tryz.prog 69 #[.agg #[.string a, .string b, .string c, .string d], .agg #[.string a, .string b, .string c, .string d]] (grow (redrawn wr dr) os) fun e w'' => e = .returned (.bool true) ∧ ∃ p : Regrown, w'' = grow (redrawn wr p.d) p.os :=
  Calls.regrown_of (eqValve a b c d _)

set_option maxRecDepth 100000 in
set_option maxHeartbeats 2000000 in
theorem eqS_lst (B B' : Nat) (va vb : Value) (n : Nat) (f : Nat → ByteArray) (w : World) (ha : Lst B w va n 1 (cS f)) (hb : Lst B' w vb n 1 (cS f)) (hB : B ≤ w.heap.size) (hB' : B' ≤ w.heap.size) :
    Calls Tryz.prog 32 #[va, vb] w fun e w' => e = .returned (.bool true) ∧ Below w.heap.size w w' := by
  obtain ⟨oa, ca, rfl, hn, hca⟩ := ha
  obtain ⟨ob, cb, rfl, _, hcb⟩ := hb
  unfold maxLen at hn
  have HA : Hid _ := hca
  have HB : Hid _ := hcb
  clear hca hcb
  go_enter Tryz.func32, Tryz.ntmps32
  go_wp2
  go_loopw [5] (fun i wr => ∃ k : Nat, k ≤ n ∧ i = .int .i64 k ∧ Hid (Below w.heap.size w wr)) (fun i _ => n - (intOf i).toNat)
  case atStart => exact ⟨0, Nat.zero_le _, rfl, Below.refl _ _⟩
  case round =>
    obtain ⟨k, hk, rfl, hbel⟩ := hrel
    have hs := hbel.out.size
    by_cases hlt : k < n
    · obtain ⟨ba, fa, rfl, hba, hxa⟩ := HA.out k hlt
      obtain ⟨bb, fb, rfl, hbb, hxb⟩ := HB.out k hlt
      have a0 : wr.cell? ⟨ba, fa + k, none⟩ = some (.string (f k)) := (hbel.out.cell (p := ⟨ba, fa + k, none⟩) (by show ba < _; omega)).trans (by simpa [cS] using hxa 0 (by omega))
      have qa0 := fun d os => cell_regrown a0 d os
      have c0 : wr.cell? ⟨bb, fb + k, none⟩ = some (.string (f k)) := (hbel.out.cell (p := ⟨bb, fb + k, none⟩) (by show bb < _; omega)).trans (by simpa [cS] using hxb 0 (by omega))
      have qc0 := fun d os => cell_regrown c0 d os
      go_wp2
      refine wp_region_quiet_below (by kernel_rfl) (by kernel_rfl) ?_
      repeat (first | go_big_quiet_step (fail) | quiet_step (fail))
      refine wpQuiet_nil ?_
      intro _ hw'
      obtain ⟨⟨dq, osq⟩, hw''⟩ := hw'
      subst hw''
      go_wp2
      go_roundw
      case rel => exact ⟨k + 1, by omega, by go_num, hbel.out.trans ((below_regrown _ dq osq).mono hs)⟩
      case measure => simp [intOf]; omega
    · go_wp2
      go_ret
      exact ⟨rfl, hbel.out⟩

set_option maxRecDepth 100000 in
set_option maxHeartbeats 2000000 in
theorem eqF_lst (B B' : Nat) (va vb : Value) (n : Nat) (f : Nat → ByteArray × ByteArray) (w : World) (ha : Lst B w va n 2 (cF f)) (hb : Lst B' w vb n 2 (cF f)) (hB : B ≤ w.heap.size) (hB' : B' ≤ w.heap.size) :
    Calls Tryz.prog 33 #[va, vb] w fun e w' => e = .returned (.bool true) ∧ Below w.heap.size w w' := by
  obtain ⟨oa, ca, rfl, hn, hca⟩ := ha
  obtain ⟨ob, cb, rfl, _, hcb⟩ := hb
  unfold maxLen at hn
  have HA : Hid _ := hca
  have HB : Hid _ := hcb
  clear hca hcb
  go_enter Tryz.func33, Tryz.ntmps33
  go_wp2
  go_loopw [5] (fun i wr => ∃ k : Nat, k ≤ n ∧ i = .int .i64 k ∧ Hid (Below w.heap.size w wr)) (fun i _ => n - (intOf i).toNat)
  case atStart => exact ⟨0, Nat.zero_le _, rfl, Below.refl _ _⟩
  case round =>
    obtain ⟨k, hk, rfl, hbel⟩ := hrel
    have hs := hbel.out.size
    by_cases hlt : k < n
    · obtain ⟨ba, fa, rfl, hba, hxa⟩ := HA.out k hlt
      obtain ⟨bb, fb, rfl, hbb, hxb⟩ := HB.out k hlt
      have a0 : wr.cell? ⟨ba, fa + k * 2, none⟩ = some (.string (f k).1) := (hbel.out.cell (p := ⟨ba, fa + k * 2, none⟩) (by show ba < _; omega)).trans (by simpa [cF] using hxa 0 (by omega))
      have qa0 := fun d os => cell_regrown a0 d os
      have a1 : wr.cell? ⟨ba, fa + k * 2 + 1, none⟩ = some (.string (f k).2) := (hbel.out.cell (p := ⟨ba, fa + k * 2 + 1, none⟩) (by show ba < _; omega)).trans (by simpa [cF] using hxa 1 (by omega))
      have qa1 := fun d os => cell_regrown a1 d os
      have c0 : wr.cell? ⟨bb, fb + k * 2, none⟩ = some (.string (f k).1) := (hbel.out.cell (p := ⟨bb, fb + k * 2, none⟩) (by show bb < _; omega)).trans (by simpa [cF] using hxb 0 (by omega))
      have qc0 := fun d os => cell_regrown c0 d os
      have c1 : wr.cell? ⟨bb, fb + k * 2 + 1, none⟩ = some (.string (f k).2) := (hbel.out.cell (p := ⟨bb, fb + k * 2 + 1, none⟩) (by show bb < _; omega)).trans (by simpa [cF] using hxb 1 (by omega))
      have qc1 := fun d os => cell_regrown c1 d os
      go_wp2
      refine wp_region_quiet_below (by kernel_rfl) (by kernel_rfl) ?_
      repeat (first | go_big_quiet_step (with_reducible exact eqFoeq _ _ _ _ _) | quiet_step (with_reducible exact eqFoeq _ _ _ _ _))
      refine wpQuiet_nil ?_
      intro _ hw'
      obtain ⟨⟨dq, osq⟩, hw''⟩ := hw'
      subst hw''
      go_wp2
      go_roundw
      case rel => exact ⟨k + 1, by omega, by go_num, hbel.out.trans ((below_regrown _ dq osq).mono hs)⟩
      case measure => simp [intOf]; omega
    · go_wp2
      go_ret
      exact ⟨rfl, hbel.out⟩

set_option maxRecDepth 100000 in
set_option maxHeartbeats 2000000 in
theorem eqP_lst (B B' : Nat) (va vb : Value) (n : Nat) (f : Nat → ByteArray × Int × ByteArray) (w : World) (ha : Lst B w va n 3 (cP f)) (hb : Lst B' w vb n 3 (cP f)) (hB : B ≤ w.heap.size) (hB' : B' ≤ w.heap.size) :
    Calls Tryz.prog 34 #[va, vb] w fun e w' => e = .returned (.bool true) ∧ Below w.heap.size w w' := by
  obtain ⟨oa, ca, rfl, hn, hca⟩ := ha
  obtain ⟨ob, cb, rfl, _, hcb⟩ := hb
  unfold maxLen at hn
  have HA : Hid _ := hca
  have HB : Hid _ := hcb
  clear hca hcb
  go_enter Tryz.func34, Tryz.ntmps34
  go_wp2
  go_loopw [5] (fun i wr => ∃ k : Nat, k ≤ n ∧ i = .int .i64 k ∧ Hid (Below w.heap.size w wr)) (fun i _ => n - (intOf i).toNat)
  case atStart => exact ⟨0, Nat.zero_le _, rfl, Below.refl _ _⟩
  case round =>
    obtain ⟨k, hk, rfl, hbel⟩ := hrel
    have hs := hbel.out.size
    by_cases hlt : k < n
    · obtain ⟨ba, fa, rfl, hba, hxa⟩ := HA.out k hlt
      obtain ⟨bb, fb, rfl, hbb, hxb⟩ := HB.out k hlt
      have a0 : wr.cell? ⟨ba, fa + k * 3, none⟩ = some (.string (f k).1) := (hbel.out.cell (p := ⟨ba, fa + k * 3, none⟩) (by show ba < _; omega)).trans (by simpa [cP] using hxa 0 (by omega))
      have qa0 := fun d os => cell_regrown a0 d os
      have a1 : wr.cell? ⟨ba, fa + k * 3 + 1, none⟩ = some (.int .i64 (f k).2.1) := (hbel.out.cell (p := ⟨ba, fa + k * 3 + 1, none⟩) (by show ba < _; omega)).trans (by simpa [cP] using hxa 1 (by omega))
      have qa1 := fun d os => cell_regrown a1 d os
      have a2 : wr.cell? ⟨ba, fa + k * 3 + 2, none⟩ = some (.string (f k).2.2) := (hbel.out.cell (p := ⟨ba, fa + k * 3 + 2, none⟩) (by show ba < _; omega)).trans (by simpa [cP] using hxa 2 (by omega))
      have qa2 := fun d os => cell_regrown a2 d os
      have c0 : wr.cell? ⟨bb, fb + k * 3, none⟩ = some (.string (f k).1) := (hbel.out.cell (p := ⟨bb, fb + k * 3, none⟩) (by show bb < _; omega)).trans (by simpa [cP] using hxb 0 (by omega))
      have qc0 := fun d os => cell_regrown c0 d os
      have c1 : wr.cell? ⟨bb, fb + k * 3 + 1, none⟩ = some (.int .i64 (f k).2.1) := (hbel.out.cell (p := ⟨bb, fb + k * 3 + 1, none⟩) (by show bb < _; omega)).trans (by simpa [cP] using hxb 1 (by omega))
      have qc1 := fun d os => cell_regrown c1 d os
      have c2 : wr.cell? ⟨bb, fb + k * 3 + 2, none⟩ = some (.string (f k).2.2) := (hbel.out.cell (p := ⟨bb, fb + k * 3 + 2, none⟩) (by show bb < _; omega)).trans (by simpa [cP] using hxb 2 (by omega))
      have qc2 := fun d os => cell_regrown c2 d os
      go_wp2
      refine wp_region_quiet_below (by kernel_rfl) (by kernel_rfl) ?_
      repeat (first | go_big_quiet_step (with_reducible exact eqPlaceq _ _ _ _ _ _) | quiet_step (with_reducible exact eqPlaceq _ _ _ _ _ _))
      refine wpQuiet_nil ?_
      intro _ hw'
      obtain ⟨⟨dq, osq⟩, hw''⟩ := hw'
      subst hw''
      go_wp2
      go_roundw
      case rel => exact ⟨k + 1, by omega, by go_num, hbel.out.trans ((below_regrown _ dq osq).mono hs)⟩
      case measure => simp [intOf]; omega
    · go_wp2
      go_ret
      exact ⟨rfl, hbel.out⟩

set_option maxRecDepth 100000 in
set_option maxHeartbeats 2000000 in
theorem eqV_lst (B B' : Nat) (va vb : Value) (n : Nat) (f : Nat → ByteArray × ByteArray × ByteArray × ByteArray) (w : World) (ha : Lst B w va n 4 (cV f)) (hb : Lst B' w vb n 4 (cV f)) (hB : B ≤ w.heap.size) (hB' : B' ≤ w.heap.size) :
    Calls Tryz.prog 35 #[va, vb] w fun e w' => e = .returned (.bool true) ∧ Below w.heap.size w w' := by
  obtain ⟨oa, ca, rfl, hn, hca⟩ := ha
  obtain ⟨ob, cb, rfl, _, hcb⟩ := hb
  unfold maxLen at hn
  have HA : Hid _ := hca
  have HB : Hid _ := hcb
  clear hca hcb
  go_enter Tryz.func35, Tryz.ntmps35
  go_wp2
  go_loopw [5] (fun i wr => ∃ k : Nat, k ≤ n ∧ i = .int .i64 k ∧ Hid (Below w.heap.size w wr)) (fun i _ => n - (intOf i).toNat)
  case atStart => exact ⟨0, Nat.zero_le _, rfl, Below.refl _ _⟩
  case round =>
    obtain ⟨k, hk, rfl, hbel⟩ := hrel
    have hs := hbel.out.size
    by_cases hlt : k < n
    · obtain ⟨ba, fa, rfl, hba, hxa⟩ := HA.out k hlt
      obtain ⟨bb, fb, rfl, hbb, hxb⟩ := HB.out k hlt
      have a0 : wr.cell? ⟨ba, fa + k * 4, none⟩ = some (.string (f k).1) := (hbel.out.cell (p := ⟨ba, fa + k * 4, none⟩) (by show ba < _; omega)).trans (by simpa [cV] using hxa 0 (by omega))
      have qa0 := fun d os => cell_regrown a0 d os
      have a1 : wr.cell? ⟨ba, fa + k * 4 + 1, none⟩ = some (.string (f k).2.1) := (hbel.out.cell (p := ⟨ba, fa + k * 4 + 1, none⟩) (by show ba < _; omega)).trans (by simpa [cV] using hxa 1 (by omega))
      have qa1 := fun d os => cell_regrown a1 d os
      have a2 : wr.cell? ⟨ba, fa + k * 4 + 2, none⟩ = some (.string (f k).2.2.1) := (hbel.out.cell (p := ⟨ba, fa + k * 4 + 2, none⟩) (by show ba < _; omega)).trans (by simpa [cV] using hxa 2 (by omega))
      have qa2 := fun d os => cell_regrown a2 d os
      have a3 : wr.cell? ⟨ba, fa + k * 4 + 3, none⟩ = some (.string (f k).2.2.2) := (hbel.out.cell (p := ⟨ba, fa + k * 4 + 3, none⟩) (by show ba < _; omega)).trans (by simpa [cV] using hxa 3 (by omega))
      have qa3 := fun d os => cell_regrown a3 d os
      have c0 : wr.cell? ⟨bb, fb + k * 4, none⟩ = some (.string (f k).1) := (hbel.out.cell (p := ⟨bb, fb + k * 4, none⟩) (by show bb < _; omega)).trans (by simpa [cV] using hxb 0 (by omega))
      have qc0 := fun d os => cell_regrown c0 d os
      have c1 : wr.cell? ⟨bb, fb + k * 4 + 1, none⟩ = some (.string (f k).2.1) := (hbel.out.cell (p := ⟨bb, fb + k * 4 + 1, none⟩) (by show bb < _; omega)).trans (by simpa [cV] using hxb 1 (by omega))
      have qc1 := fun d os => cell_regrown c1 d os
      have c2 : wr.cell? ⟨bb, fb + k * 4 + 2, none⟩ = some (.string (f k).2.2.1) := (hbel.out.cell (p := ⟨bb, fb + k * 4 + 2, none⟩) (by show bb < _; omega)).trans (by simpa [cV] using hxb 2 (by omega))
      have qc2 := fun d os => cell_regrown c2 d os
      have c3 : wr.cell? ⟨bb, fb + k * 4 + 3, none⟩ = some (.string (f k).2.2.2) := (hbel.out.cell (p := ⟨bb, fb + k * 4 + 3, none⟩) (by show bb < _; omega)).trans (by simpa [cV] using hxb 3 (by omega))
      have qc3 := fun d os => cell_regrown c3 d os
      go_wp2
      refine wp_region_quiet_below (by kernel_rfl) (by kernel_rfl) ?_
      repeat (first | go_big_quiet_step (with_reducible exact eqValveq _ _ _ _ _ _ _) | quiet_step (with_reducible exact eqValveq _ _ _ _ _ _ _))
      refine wpQuiet_nil ?_
      intro _ hw'
      obtain ⟨⟨dq, osq⟩, hw''⟩ := hw'
      subst hw''
      go_wp2
      go_roundw
      case rel => exact ⟨k + 1, by omega, by go_num, hbel.out.trans ((below_regrown _ dq osq).mono hs)⟩
      case measure => simp [intOf]; omega
    · go_wp2
      go_ret
      exact ⟨rfl, hbel.out⟩

set_option maxRecDepth 100000 in
set_option maxHeartbeats 2000000 in
theorem eqPlant_any (B B' : Nat) (a0 a1 a2 a3 b0 b1 b2 b3 : Value) (D : PD) (w : World) (ha : PAt B w a0 a1 a2 a3 D) (hb : PAt B' w b0 b1 b2 b3 D) (hB : B ≤ w.heap.size) (hB' : B' ≤ w.heap.size) :
    Calls Tryz.prog 11 #[.agg #[a0, a1, a2, a3], .agg #[b0, b1, b2, b3]] w fun e w' => e = .returned (.bool true) ∧ Below w.heap.size w w' := by
  have HA : Hid (∀ w', Below w.heap.size w w' → PAt B w' a0 a1 a2 a3 D) := fun w' h => ha.kept h hB
  have HB : Hid (∀ w', Below w.heap.size w w' → PAt B' w' b0 b1 b2 b3 D) := fun w' h => hb.kept h hB'
  clear ha hb
  have k0 : Hid (Below w.heap.size w ((w.alloc (.cells #[a0, a1, a2, a3] 40)).alloc (.cells #[b0, b1, b2, b3] 40))) := ((Below.refl _ _).alloc (Nat.le_refl _) _).alloc (by simp) _
  go_enter Tryz.func11, Tryz.ntmps11
  go_wp2_with fail
  refine (eqS_lst B B' a0 b0 D.ns D.fs _ (HA.out _ k0.out).s (HB.out _ k0.out).s (by simp; omega) (by simp; omega)).mono ?_; rintro e w1 ⟨rfl, hb1⟩
  have k1 : Hid (Below w.heap.size w w1) := k0.out.trans (hb1.mono (by simp; omega))
  have x10 := (hb1.cell (p := ⟨w.heap.size, 0, none⟩) (by simp; omega)).trans (cell_past (new_cell w #[a0, a1, a2, a3] 40 0 _ rfl) (by simp) (.cells #[b0, b1, b2, b3] 40))
  have x11 := (hb1.cell (p := ⟨w.heap.size, 1, none⟩) (by simp; omega)).trans (cell_past (new_cell w #[a0, a1, a2, a3] 40 1 _ rfl) (by simp) (.cells #[b0, b1, b2, b3] 40))
  have x12 := (hb1.cell (p := ⟨w.heap.size, 2, none⟩) (by simp; omega)).trans (cell_past (new_cell w #[a0, a1, a2, a3] 40 2 _ rfl) (by simp) (.cells #[b0, b1, b2, b3] 40))
  have x13 := (hb1.cell (p := ⟨w.heap.size, 3, none⟩) (by simp; omega)).trans (cell_past (new_cell w #[a0, a1, a2, a3] 40 3 _ rfl) (by simp) (.cells #[b0, b1, b2, b3] 40))
  have y10 : w1.cell? ⟨w.heap.size + 1, 0, none⟩ = some b0 := (hb1.cell (p := ⟨w.heap.size + 1, 0, none⟩) (by simp)).trans (by simp)
  have y11 : w1.cell? ⟨w.heap.size + 1, 1, none⟩ = some b1 := (hb1.cell (p := ⟨w.heap.size + 1, 1, none⟩) (by simp)).trans (by simp)
  have y12 : w1.cell? ⟨w.heap.size + 1, 2, none⟩ = some b2 := (hb1.cell (p := ⟨w.heap.size + 1, 2, none⟩) (by simp)).trans (by simp)
  have y13 : w1.cell? ⟨w.heap.size + 1, 3, none⟩ = some b3 := (hb1.cell (p := ⟨w.heap.size + 1, 3, none⟩) (by simp)).trans (by simp)
  have s1 : w.heap.size + 2 ≤ w1.heap.size := by have := hb1.size; simp at this; omega
  simp only [List.getElem_toArray, List.getElem_cons_zero, List.getElem_cons_succ] at x10 x11 x12 x13
  go_wp2_with fail
  refine (eqF_lst B B' a1 b1 D.nf D.ff _ (HA.out _ k1.out).f (HB.out _ k1.out).f (by omega) (by omega)).mono ?_; rintro e w2 ⟨rfl, hb2⟩
  have k2 : Hid (Below w.heap.size w w2) := k1.out.trans (hb2.mono (by omega))
  have x20 := (hb2.cell (p := ⟨w.heap.size, 0, none⟩) (by show w.heap.size < _; omega)).trans x10
  have x21 := (hb2.cell (p := ⟨w.heap.size, 1, none⟩) (by show w.heap.size < _; omega)).trans x11
  have x22 := (hb2.cell (p := ⟨w.heap.size, 2, none⟩) (by show w.heap.size < _; omega)).trans x12
  have x23 := (hb2.cell (p := ⟨w.heap.size, 3, none⟩) (by show w.heap.size < _; omega)).trans x13
  have y20 := (hb2.cell (p := ⟨w.heap.size + 1, 0, none⟩) (by show w.heap.size + 1 < _; omega)).trans y10
  have y21 := (hb2.cell (p := ⟨w.heap.size + 1, 1, none⟩) (by show w.heap.size + 1 < _; omega)).trans y11
  have y22 := (hb2.cell (p := ⟨w.heap.size + 1, 2, none⟩) (by show w.heap.size + 1 < _; omega)).trans y12
  have y23 := (hb2.cell (p := ⟨w.heap.size + 1, 3, none⟩) (by show w.heap.size + 1 < _; omega)).trans y13
  have s2 : w.heap.size + 2 ≤ w2.heap.size := by have := hb2.size; omega
  go_wp2_with fail
  refine (eqP_lst B B' a2 b2 D.np D.fp _ (HA.out _ k2.out).p (HB.out _ k2.out).p (by omega) (by omega)).mono ?_; rintro e w3 ⟨rfl, hb3⟩
  have k3 : Hid (Below w.heap.size w w3) := k2.out.trans (hb3.mono (by omega))
  have x30 := (hb3.cell (p := ⟨w.heap.size, 0, none⟩) (by show w.heap.size < _; omega)).trans x20
  have x31 := (hb3.cell (p := ⟨w.heap.size, 1, none⟩) (by show w.heap.size < _; omega)).trans x21
  have x32 := (hb3.cell (p := ⟨w.heap.size, 2, none⟩) (by show w.heap.size < _; omega)).trans x22
  have x33 := (hb3.cell (p := ⟨w.heap.size, 3, none⟩) (by show w.heap.size < _; omega)).trans x23
  have y30 := (hb3.cell (p := ⟨w.heap.size + 1, 0, none⟩) (by show w.heap.size + 1 < _; omega)).trans y20
  have y31 := (hb3.cell (p := ⟨w.heap.size + 1, 1, none⟩) (by show w.heap.size + 1 < _; omega)).trans y21
  have y32 := (hb3.cell (p := ⟨w.heap.size + 1, 2, none⟩) (by show w.heap.size + 1 < _; omega)).trans y22
  have y33 := (hb3.cell (p := ⟨w.heap.size + 1, 3, none⟩) (by show w.heap.size + 1 < _; omega)).trans y23
  have s3 : w.heap.size + 2 ≤ w3.heap.size := by have := hb3.size; omega
  go_wp2_with fail
  refine (eqV_lst B B' a3 b3 D.nv D.fv _ (HA.out _ k3.out).v (HB.out _ k3.out).v (by omega) (by omega)).mono ?_; rintro e w4 ⟨rfl, hb4⟩
  have k4 : Hid (Below w.heap.size w w4) := k3.out.trans (hb4.mono (by omega))
  go_wp2_with fail
  go_ret
  exact ⟨rfl, k4.out⟩

end Go.Proofs.YtndacfockllehaaGreat
