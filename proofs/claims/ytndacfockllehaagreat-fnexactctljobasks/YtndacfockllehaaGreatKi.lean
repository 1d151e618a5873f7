/-
  Contracts of what the laws themselves do with a route: its measure, its copy in new memory, whether two are the same.
-/
import Derived.Test.YtndacfockllehaaGreatM12
import Derived.Test.YtndacfockllehaaGreatM11
import Derived.Deep.Cut
namespace Go.Proofs.YtndacfockllehaaGreat
open Go.RowKit Go.Sort

set_option maxRecDepth 100000 in
set_option maxHeartbeats 2000000 in
theorem szRoute_any (B : Nat) (vp vv : Value) (m k : Nat) (P Q : Nat → ByteArray) (x : Int) (w : World) (h : RAt B w vp vv m P k Q) (hB : B ≤ w.heap.size) (hp : ∀ i, i < m → (P i).size ≤ maxLen) (hq : ∀ i, i < k → (Q i).size ≤ maxLen) (h0 : 0 ≤ x) (h1 : x ≤ 1048576) :
    Calls Tryz.prog 21 #[.agg #[vp, vv], .int .i64 x] w fun e w' => ∃ y, e = .returned (.int .i64 y) ∧ y ≤ x ∧ (0 ≤ y → m ≤ 1048576 ∧ k ≤ 1048576) ∧ Below w.heap.size w w' := by
  have H : Hid (∀ w', Below w.heap.size w w' → RAt B w' vp vv m P k Q) := fun w' hb => h.kept hb hB
  have k0 : Hid (Below (w.heap.size + 1) (w.alloc (.cells #[vp, vv] 29)) (w.alloc (.cells #[vp, vv] 29))) := Below.refl _ _
  clear h
  go_enter Tryz.func21, Tryz.ntmps21
  go_wp2_with fail
  refine (szS_any B vp m P _ _ (H.out _ (below_end k0.out)).p hp h0 h1).mono ?_; rintro e w1 ⟨y1, rfl, l1, n1, hb1⟩
  have k1 : Hid (Below (w.heap.size + 1) (w.alloc (.cells #[vp, vv] 29)) w1) := below_of k0.out hb1
  have N1 : Hid _ := n1
  clear n1
  by_cases g1 : y1 < 0
  · go_wp2_with fail
    go_ret
    exact ⟨-1, rfl, by omega, fun h => by omega, below_end k1.out⟩
  · have a1 := box_in k1.out 1 _ rfl
    simp only [List.getElem_toArray, List.getElem_cons_zero, List.getElem_cons_succ] at a1
    go_wp2_with fail
    refine (szS_any B vv k Q _ _ (H.out _ (below_end k1.out)).v hq (by omega) (by omega)).mono ?_; rintro e w2 ⟨y2, rfl, l2, n2, hb2⟩
    have N2 : Hid _ := n2
    clear n2
    by_cases g2 : y2 < 0
    · go_wp2_with fail
      go_ret
      exact ⟨-1, rfl, by omega, fun h => by omega, below_end (below_of k1.out hb2)⟩
    · go_wp2_with fail
      go_ret
      exact ⟨y2, rfl, by omega, fun _ => ⟨N1.out (by omega), N2.out (by omega)⟩, below_end (below_of k1.out hb2)⟩

/-- Where the copying stands: the route's box, the result's, the copy's. -/
structure Cr (w u : World) (a c : Array Value) : Prop where
  arg : u.heap[w.heap.size]? = some (.cells a 29 (0, 0))
  res : u.heap[w.heap.size + 1]? = some (.cells #[.slice none 0 0, .slice none 0 0] 42 (0, 0))
  out : u.heap[w.heap.size + 1 + 1]? = some (.cells c 42 (0, 0))
  bel : Below w.heap.size w u
theorem Cr.sz {w u : World} {a c : Array Value} (h : Cr w u a c) : w.heap.size + 3 ≤ u.heap.size := (Array.getElem?_eq_some_iff.1 h.out).1
theorem Cr.next {w u u' : World} {a c : Array Value} (h : Cr w u a c) (hb : Below u.heap.size u u') : Cr w u' a c := by
  have hs := h.sz
  exact ⟨(hb.block _ (by omega)).trans h.arg, (hb.block _ (by omega)).trans h.res, (hb.block _ (by omega)).trans h.out, h.bel.trans (hb.mono (by omega))⟩
theorem Cr.put {w u : World} {a c : Array Value} (h : Cr w u a c) (j : Nat) (x : Value) : Cr w (u.setCell ⟨w.heap.size + 1 + 1, j, none⟩ x) a (c.setIfInBounds j x) :=
  ⟨(Below.heap_setCell _ _ _ _ (by show w.heap.size ≠ w.heap.size + 1 + 1; omega)).trans h.arg, (Below.heap_setCell _ _ _ _ (by show w.heap.size + 1 ≠ w.heap.size + 1 + 1; omega)).trans h.res, set_row h.out j x, h.bel.setCell (by show w.heap.size ≤ w.heap.size + 1 + 1; omega) x⟩
theorem cr_init (w : World) (a : Array Value) : Cr w (((w.alloc (.cells a 29)).alloc (.cells #[.slice none 0 0, .slice none 0 0] 42)).alloc (.cells #[.slice none 0 0, .slice none 0 0] 42)) a #[.slice none 0 0, .slice none 0 0] := by
  have e1 : (w.alloc (.cells a 29)).heap.size = w.heap.size + 1 := by simp
  have e2 : ((w.alloc (.cells a 29)).alloc (.cells #[.slice none 0 0, .slice none 0 0] 42)).heap.size = w.heap.size + 1 + 1 := by simp
  refine ⟨?_, ?_, ?_, ?_⟩
  · exact (Below.heap_alloc _ _ _ (by omega)).trans ((Below.heap_alloc _ _ _ (by omega)).trans (heap_alloc_new w _))
  · refine (Below.heap_alloc _ _ _ (by omega)).trans ?_
    rw [← e1]; exact heap_alloc_new _ _
  · rw [← e2]; exact heap_alloc_new _ _
  · exact (((Below.refl _ _).alloc (Nat.le_refl _) _).alloc (by omega) _).alloc (by omega) _

set_option maxRecDepth 100000 in
set_option maxHeartbeats 2000000 in
theorem toRoute_blk (B : Nat) (vp vv : Value) (m k : Nat) (P Q : Nat → ByteArray) (w : World) (h : RAt B w vp vv m P k Q) (hB : B ≤ w.heap.size) (hm : m ≤ 1048576) (hk : k ≤ 1048576) :
    Calls Tryz.prog 28 #[.agg #[vp, vv]] w fun e w' => ∃ g0 g1, e = .returned (.agg #[sl g0 m, sl g1 k]) ∧ RAt w'.heap.size w' (sl g0 m) (sl g1 k) m P k Q ∧ (w.heap.size ≤ g0 ∧ w.heap.size ≤ g1) ∧ Blk w'.heap.size w' g0 9 m ∧ Blk w'.heap.size w' g1 9 k ∧ Below w.heap.size w w' := by
  have H : Hid (∀ w', Below w.heap.size w w' → RAt B w' vp vv m P k Q) := fun w' hb => h.kept hb hB
  clear h
  have C0 : Hid (Cr w _ #[vp, vv] _) := cr_init w #[vp, vv]
  go_enter Tryz.func28, Tryz.ntmps28
  go_wp2_with fail
  have z0 := C0.out.sz
  refine (toS_blk B vp m P _ (H.out _ C0.out.bel).p (by omega) hm).mono ?_; rintro e w1 ⟨rfl, L0, K0, hb1⟩
  have N1 : Hid (Cr w w1 #[vp, vv] _) := C0.out.next hb1
  obtain ⟨p0, r0⟩ := cell_row N1.out.out 0 _ rfl
  have HL0 : Hid (Lst w1.heap.size w1 (.slice (some ⟨w.heap.size + 1 + 1 + 1, 0, none⟩) m m) m 1 (cS P)) := by simpa [Hid] using L0
  have HB0 : Hid (Blk w1.heap.size w1 (w.heap.size + 1 + 1 + 1) 9 m) := by simpa [Hid] using K0
  clear L0 K0
  have C1 : Hid (Cr w (w1.setCell ⟨w.heap.size + 1 + 1, 0, none⟩ (.slice (some ⟨w.heap.size + 1 + 1 + 1, 0, none⟩) m m)) #[vp, vv] _) := N1.out.put 0 (.slice (some ⟨w.heap.size + 1 + 1 + 1, 0, none⟩) m m)
  have y1 : w.heap.size + 1 + 1 + 1 ≤ w1.heap.size := by have := hb1.size; simpa using this
  obtain ⟨a1, _⟩ := cell_row C1.out.arg 1 _ rfl
  simp only [List.getElem_toArray, List.getElem_cons_zero, List.getElem_cons_succ] at a1
  go_wp2_with fail
  have z1 := C1.out.sz
  refine (toS_blk B vv k Q _ (H.out _ C1.out.bel).v (by omega) hk).mono ?_; rintro e w2 ⟨rfl, L1, K1, hb2⟩
  have N2 : Hid (Cr w w2 #[vp, vv] _) := C1.out.next hb2
  obtain ⟨p1, r1⟩ := cell_row N2.out.out 1 _ rfl
  have HL1 : Hid (Lst w2.heap.size w2 (.slice (some ⟨w1.heap.size, 0, none⟩) k k) k 1 (cS Q)) := by simpa [Hid] using L1
  have HB1 : Hid (Blk w2.heap.size w2 (w1.heap.size) 9 k) := by simpa [Hid] using K1
  clear L1 K1
  have C2 : Hid (Cr w (w2.setCell ⟨w.heap.size + 1 + 1, 1, none⟩ (.slice (some ⟨w1.heap.size, 0, none⟩) k k)) #[vp, vv] _) := N2.out.put 1 (.slice (some ⟨w1.heap.size, 0, none⟩) k k)
  have y2 : w1.heap.size ≤ w2.heap.size := by have := hb2.size; simpa using this
  obtain ⟨o0, _⟩ := cell_row C2.out.out 0 (.slice (some ⟨w.heap.size + 1 + 1 + 1, 0, none⟩) m m) rfl
  obtain ⟨rr0, rf0⟩ := cell_row C2.out.res 0 _ rfl
  obtain ⟨o1, _⟩ := cell_row C2.out.out 1 (.slice (some ⟨w1.heap.size, 0, none⟩) k k) rfl
  obtain ⟨rr1, rf1⟩ := cell_row C2.out.res 1 _ rfl
  have f0 := (cell_row (set_row (set_row C2.out.res 0 (.slice (some ⟨w.heap.size + 1 + 1 + 1, 0, none⟩) m m)) 1 (.slice (some ⟨w1.heap.size, 0, none⟩) k k)) 0 (.slice (some ⟨w.heap.size + 1 + 1 + 1, 0, none⟩) m m) rfl).1
  have f1 := (cell_row (set_row (set_row C2.out.res 0 (.slice (some ⟨w.heap.size + 1 + 1 + 1, 0, none⟩) m m)) 1 (.slice (some ⟨w1.heap.size, 0, none⟩) k k)) 1 (.slice (some ⟨w1.heap.size, 0, none⟩) k k) rfl).1
  have hF := (C2.out.bel.setCell (p := ⟨w.heap.size + 1, 0, none⟩) (by show w.heap.size ≤ w.heap.size + 1; omega) (.slice (some ⟨w.heap.size + 1 + 1 + 1, 0, none⟩) m m)).setCell (p := ⟨w.heap.size + 1, 1, none⟩) (by show w.heap.size ≤ w.heap.size + 1; omega) (.slice (some ⟨w1.heap.size, 0, none⟩) k k)
  have g0 := ((((HL0.out.set ⟨w.heap.size + 1 + 1, 0, none⟩ (.slice (some ⟨w.heap.size + 1 + 1 + 1, 0, none⟩) m m) (by show w.heap.size + 1 + 1 ≠ w.heap.size + 1 + 1 + 1; omega)).kept hb2 (by simp; try omega)).set ⟨w.heap.size + 1 + 1, 1, none⟩ (.slice (some ⟨w1.heap.size, 0, none⟩) k k) (by show w.heap.size + 1 + 1 ≠ w.heap.size + 1 + 1 + 1; omega)).set ⟨w.heap.size + 1, 0, none⟩ (.slice (some ⟨w.heap.size + 1 + 1 + 1, 0, none⟩) m m) (by show w.heap.size + 1 ≠ w.heap.size + 1 + 1 + 1; omega)).set ⟨w.heap.size + 1, 1, none⟩ (.slice (some ⟨w1.heap.size, 0, none⟩) k k) (by show w.heap.size + 1 ≠ w.heap.size + 1 + 1 + 1; omega)
  have q0 := ((((HB0.out.set ⟨w.heap.size + 1 + 1, 0, none⟩ (.slice (some ⟨w.heap.size + 1 + 1 + 1, 0, none⟩) m m) (by show w.heap.size + 1 + 1 ≠ w.heap.size + 1 + 1 + 1; omega)).kept hb2 (by simp; try omega)).set ⟨w.heap.size + 1 + 1, 1, none⟩ (.slice (some ⟨w1.heap.size, 0, none⟩) k k) (by show w.heap.size + 1 + 1 ≠ w.heap.size + 1 + 1 + 1; omega)).set ⟨w.heap.size + 1, 0, none⟩ (.slice (some ⟨w.heap.size + 1 + 1 + 1, 0, none⟩) m m) (by show w.heap.size + 1 ≠ w.heap.size + 1 + 1 + 1; omega)).set ⟨w.heap.size + 1, 1, none⟩ (.slice (some ⟨w1.heap.size, 0, none⟩) k k) (by show w.heap.size + 1 ≠ w.heap.size + 1 + 1 + 1; omega)
  have g1 := ((HL1.out.set ⟨w.heap.size + 1 + 1, 1, none⟩ (.slice (some ⟨w1.heap.size, 0, none⟩) k k) (by show w.heap.size + 1 + 1 ≠ w1.heap.size; omega)).set ⟨w.heap.size + 1, 0, none⟩ (.slice (some ⟨w.heap.size + 1 + 1 + 1, 0, none⟩) m m) (by show w.heap.size + 1 ≠ w1.heap.size; omega)).set ⟨w.heap.size + 1, 1, none⟩ (.slice (some ⟨w1.heap.size, 0, none⟩) k k) (by show w.heap.size + 1 ≠ w1.heap.size; omega)
  have q1 := ((HB1.out.set ⟨w.heap.size + 1 + 1, 1, none⟩ (.slice (some ⟨w1.heap.size, 0, none⟩) k k) (by show w.heap.size + 1 + 1 ≠ w1.heap.size; omega)).set ⟨w.heap.size + 1, 0, none⟩ (.slice (some ⟨w.heap.size + 1 + 1 + 1, 0, none⟩) m m) (by show w.heap.size + 1 ≠ w1.heap.size; omega)).set ⟨w.heap.size + 1, 1, none⟩ (.slice (some ⟨w1.heap.size, 0, none⟩) k k) (by show w.heap.size + 1 ≠ w1.heap.size; omega)
  go_wp2_with fail
  exact bodyPost_ret (v := .agg #[.slice (some ⟨w.heap.size + 1 + 1 + 1, 0, none⟩) m m, .slice (some ⟨w1.heap.size, 0, none⟩) k k]) (by simp [results, Tryz.results28, go_sem, f0, f1]) rfl ⟨_, _, rfl, ⟨g0.up (by simp; try omega), g1.up (by simp; try omega)⟩, ⟨by omega, by omega⟩, q0.up (by simp; try omega), q1.up (by simp; try omega), hF⟩

theorem toRoute_any (B : Nat) (vp vv : Value) (m k : Nat) (P Q : Nat → ByteArray) (w : World) (h : RAt B w vp vv m P k Q) (hB : B ≤ w.heap.size) (hm : m ≤ 1048576) (hk : k ≤ 1048576) :
    Calls Tryz.prog 28 #[.agg #[vp, vv]] w fun e w' => ∃ g0 g1, e = .returned (.agg #[sl g0 m, sl g1 k]) ∧ RAt w'.heap.size w' (sl g0 m) (sl g1 k) m P k Q ∧ Below w.heap.size w w' :=
  (toRoute_blk B vp vv m k P Q w h hB hm hk).mono fun _ _ ⟨_, _, h1, h2, _, _, _, h3⟩ => ⟨_, _, h1, h2, h3⟩

end Go.Proofs.YtndacfockllehaaGreat
