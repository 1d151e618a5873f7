/-
  Contracts of what the laws themselves do with a job: its measure, its copy in new memory, whether two are the same, its marks.
-/
import Derived.Test.YtndacfockllehaaGreatM15
import Derived.Test.YtndacfockllehaaGreatKi
import Derived.Test.YtndacfockllehaaGreatM46
import Derived.Test.YtndacfockllehaaGreatM34
namespace Go.Proofs.YtndacfockllehaaGreat
open Go.RowKit Go.Sort

/-- The lists of a job, where they lie. -/
structure JAt (B : Nat) (w : World) (vp vv v3 v4 v7 : Value) (m : Nat) (P : Nat → ByteArray) (k : Nat) (Q : Nat → ByteArray) (n3 : Nat) (f3 : Nat → ByteArray) (n4 : Nat) (f4 : Nat → ByteArray) (n7 : Nat) (f7 : Nat → ByteArray) : Prop where
  r : RAt B w vp vv m P k Q
  a : Lst B w v3 n3 1 (cS f3)
  b : Lst B w v4 n4 1 (cS f4)
  c : Lst B w v7 n7 1 (cS f7)
section
variable {B B' : Nat} {w w' : World} {vp vv v3 v4 v7 : Value} {m k n3 n4 n7 : Nat} {P Q f3 f4 f7 : Nat → ByteArray}
theorem JAt.kept (h : JAt B w vp vv v3 v4 v7 m P k Q n3 f3 n4 f4 n7 f7) (hb : Below B' w w') (hB : B ≤ B') : JAt B w' vp vv v3 v4 v7 m P k Q n3 f3 n4 f4 n7 f7 := ⟨⟨h.r.p.kept hb hB, h.r.v.kept hb hB⟩, h.a.kept hb hB, h.b.kept hb hB, h.c.kept hb hB⟩
theorem JAt.up (h : JAt B w vp vv v3 v4 v7 m P k Q n3 f3 n4 f4 n7 f7) (hB : B ≤ B') : JAt B' w vp vv v3 v4 v7 m P k Q n3 f3 n4 f4 n7 f7 := ⟨⟨h.r.p.up hB, h.r.v.up hB⟩, h.a.up hB, h.b.up hB, h.c.up hB⟩
end
/-- No text of a job is longer than a text may be. -/
structure JZ (m : Nat) (P : Nat → ByteArray) (k : Nat) (Q : Nat → ByteArray) (n3 : Nat) (f3 : Nat → ByteArray) (n4 : Nat) (f4 : Nat → ByteArray) (n7 : Nat) (f7 : Nat → ByteArray) : Prop where
  p : ∀ i, i < m → (P i).size ≤ maxLen
  q : ∀ i, i < k → (Q i).size ≤ maxLen
  a : ∀ i, i < n3 → (f3 i).size ≤ maxLen
  b : ∀ i, i < n4 → (f4 i).size ≤ maxLen
  c : ∀ i, i < n7 → (f7 i).size ≤ maxLen
/-- The lists of a job are short enough. -/
structure JM (m k n3 n4 n7 : Nat) : Prop where
  p : m ≤ 1048576
  q : k ≤ 1048576
  a : n3 ≤ 1048576
  b : n4 ≤ 1048576
  c : n7 ≤ 1048576
/-- The lists of a job, each in a block of its own. -/
structure JBlk (A B : Nat) (w : World) (g0 g1 g3 g4 g7 m k n3 n4 n7 : Nat) : Prop where
  lo : A ≤ g0 ∧ A ≤ g1 ∧ A ≤ g3 ∧ A ≤ g4 ∧ A ≤ g7
  p : Blk B w g0 9 m
  q : Blk B w g1 9 k
  a : Blk B w g3 9 n3
  b : Blk B w g4 9 n4
  c : Blk B w g7 9 n7
theorem JBlk.kept {A B B' : Nat} {w w' : World} {g0 g1 g3 g4 g7 m k n3 n4 n7 : Nat} (h : JBlk A B w g0 g1 g3 g4 g7 m k n3 n4 n7) (hb : Below B' w w') (hB : B ≤ B') : JBlk A B w' g0 g1 g3 g4 g7 m k n3 n4 n7 := ⟨h.lo, h.p.kept hb hB, h.q.kept hb hB, h.a.kept hb hB, h.b.kept hb hB, h.c.kept hb hB⟩
theorem JBlk.outs {A B L H : Nat} {w w' : World} {g0 g1 g3 g4 g7 m k n3 n4 n7 : Nat} (h : JBlk A B w g0 g1 g3 g4 g7 m k n3 n4 n7) (ho : Outs L H w w') : JBlk A B w' g0 g1 g3 g4 g7 m k n3 n4 n7 := ⟨h.lo, h.p.outs ho, h.q.outs ho, h.a.outs ho, h.b.outs ho, h.c.outs ho⟩

set_option maxRecDepth 100000 in
set_option maxHeartbeats 4000000 in
theorem szJob_any (B : Nat) (num kind am st mv : Int) (dn : Bool) (vp vv v3 v4 v7 : Value) (m k n3 n4 n7 : Nat) (P Q f3 f4 f7 : Nat → ByteArray) (x : Int) (w : World) (h : JAt B w vp vv v3 v4 v7 m P k Q n3 f3 n4 f4 n7 f7) (hB : B ≤ w.heap.size) (hz : JZ m P k Q n3 f3 n4 f4 n7 f7) (h0 : 0 ≤ x) (h1 : x ≤ 1048576) :
    Calls Tryz.prog 5 #[.agg #[.int .i64 num, .int .i64 kind, vp, vv, v3, v4, .int .i64 am, .int .i64 st, v7, .int .i64 mv, .bool dn], .int .i64 x] w fun e w' => ∃ y, e = .returned (.int .i64 y) ∧ y ≤ x ∧ (0 ≤ y → JM m k n3 n4 n7 ∧ ∀ i, i < n4 → (f4 i).size ≤ 1048576) ∧ Below w.heap.size w w' := by
  have H : Hid (∀ w', Below w.heap.size w w' → JAt B w' vp vv v3 v4 v7 m P k Q n3 f3 n4 f4 n7 f7) := fun w' hb => h.kept hb hB
  have HZ : Hid (JZ m P k Q n3 f3 n4 f4 n7 f7) := hz
  have k0 : Hid (Below (w.heap.size + 1) (w.alloc (.cells #[.int .i64 num, .int .i64 kind, vp, vv, v3, v4, .int .i64 am, .int .i64 st, v7, .int .i64 mv, .bool dn] 31)) (w.alloc (.cells #[.int .i64 num, .int .i64 kind, vp, vv, v3, v4, .int .i64 am, .int .i64 st, v7, .int .i64 mv, .bool dn] 31))) := Below.refl _ _
  clear h hz
  go_enter Tryz.func5, Tryz.ntmps5
  go_wp2_with fail
  refine (szRoute_any B vp vv m k P Q _ _ (H.out _ (below_end k0.out)).r (by simp; omega) HZ.out.p HZ.out.q h0 h1).mono ?_; rintro e w1 ⟨y1, rfl, l1, n1, hb1⟩
  have k1 : Hid (Below (w.heap.size + 1) (w.alloc (.cells #[.int .i64 num, .int .i64 kind, vp, vv, v3, v4, .int .i64 am, .int .i64 st, v7, .int .i64 mv, .bool dn] 31)) w1) := below_of k0.out hb1
  have N1 : Hid _ := n1
  clear n1 hb1
  by_cases c1 : y1 < 0
  · go_wp2_with fail
    go_ret
    exact ⟨-1, rfl, by omega, fun h => by omega, below_end k1.out⟩
  have a4 := box_in k1.out 4 _ rfl
  simp only [List.getElem_toArray, List.getElem_cons_zero, List.getElem_cons_succ] at a4
  go_wp2_with fail
  refine (szT_any B v3 n3 f3 _ _ (H.out _ (below_end k1.out)).a HZ.out.a (by omega) (by omega)).mono ?_; rintro e w2 ⟨y2, rfl, l2, n2, hb2⟩
  have k2 : Hid (Below (w.heap.size + 1) (w.alloc (.cells #[.int .i64 num, .int .i64 kind, vp, vv, v3, v4, .int .i64 am, .int .i64 st, v7, .int .i64 mv, .bool dn] 31)) w2) := below_of k1.out hb2
  have N2 : Hid _ := n2
  clear n2 hb2 a4
  by_cases c2 : y2 < 0
  · go_wp2_with fail
    go_ret
    exact ⟨-1, rfl, by omega, fun h => by omega, below_end k2.out⟩
  have a5 := box_in k2.out 5 _ rfl
  simp only [List.getElem_toArray, List.getElem_cons_zero, List.getElem_cons_succ] at a5
  go_wp2_with fail
  refine (szT_any B v4 n4 f4 _ _ (H.out _ (below_end k2.out)).b HZ.out.b (by omega) (by omega)).mono ?_; rintro e w3 ⟨y3, rfl, l3, n3, hb3⟩
  have k3 : Hid (Below (w.heap.size + 1) (w.alloc (.cells #[.int .i64 num, .int .i64 kind, vp, vv, v3, v4, .int .i64 am, .int .i64 st, v7, .int .i64 mv, .bool dn] 31)) w3) := below_of k2.out hb3
  have N3 : Hid _ := n3
  clear n3 hb3 a5
  by_cases c3 : y3 < 0
  · go_wp2_with fail
    go_ret
    exact ⟨-1, rfl, by omega, fun h => by omega, below_end k3.out⟩
  have a8 := box_in k3.out 8 _ rfl
  simp only [List.getElem_toArray, List.getElem_cons_zero, List.getElem_cons_succ] at a8
  go_wp2_with fail
  refine (szT_any B v7 n7 f7 _ _ (H.out _ (below_end k3.out)).c HZ.out.c (by omega) (by omega)).mono ?_; rintro e w4 ⟨y4, rfl, l4, n4, hb4⟩
  have k4 : Hid (Below (w.heap.size + 1) (w.alloc (.cells #[.int .i64 num, .int .i64 kind, vp, vv, v3, v4, .int .i64 am, .int .i64 st, v7, .int .i64 mv, .bool dn] 31)) w4) := below_of k3.out hb4
  have N4 : Hid _ := n4
  clear n4 hb4 a8
  by_cases c4 : y4 < 0
  · go_wp2_with fail
    go_ret
    exact ⟨-1, rfl, by omega, fun h => by omega, below_end k4.out⟩
  go_wp2_with fail
  go_ret
  exact ⟨_, rfl, by omega, fun _ => ⟨⟨(N1.out (by omega)).1, (N1.out (by omega)).2, (N2.out (by omega)).1, (N3.out (by omega)).1, (N4.out (by omega)).1⟩, (N3.out (by omega)).2⟩, below_end k4.out⟩

/-- Where the copying stands: the job's box, the result's, the copy's, and the lists that are copied. -/
structure Cj (w u : World) (a r c : Array Value) (L : List (Nat × Nat × (Nat → ByteArray))) : Prop where
  arg : u.heap[w.heap.size]? = some (.cells a 31 (0, 0))
  res : u.heap[w.heap.size + 1]? = some (.cells r 44 (0, 0))
  out : u.heap[w.heap.size + 1 + 1]? = some (.cells c 44 (0, 0))
  bel : Below w.heap.size w u
  lst : ∀ x ∈ L, w.heap.size + 1 + 1 < x.1 ∧ Lst u.heap.size u (sl x.1 x.2.1) x.2.1 1 (cS x.2.2) ∧ Blk u.heap.size u x.1 9 x.2.1
theorem Cj.sz {w u : World} {a r c : Array Value} {L : List (Nat × Nat × (Nat → ByteArray))} (h : Cj w u a r c L) : w.heap.size + 1 + 1 + 1 ≤ u.heap.size := (Array.getElem?_eq_some_iff.1 h.out).1
theorem Cj.next {w u u' : World} {a r c : Array Value} {L : List (Nat × Nat × (Nat → ByteArray))} (h : Cj w u a r c L) (hb : Below u.heap.size u u') : Cj w u' a r c L := by
  have hs := h.sz
  exact ⟨(hb.block _ (by omega)).trans h.arg, (hb.block _ (by omega)).trans h.res, (hb.block _ (by omega)).trans h.out, h.bel.trans (hb.mono (by omega)), fun x hx => ⟨(h.lst x hx).1, ((h.lst x hx).2.1.kept hb (Nat.le_refl _)).up hb.size, ((h.lst x hx).2.2.kept hb (Nat.le_refl _)).up hb.size⟩⟩
theorem Cj.put {w u : World} {a r c : Array Value} {L : List (Nat × Nat × (Nat → ByteArray))} (h : Cj w u a r c L) (j : Nat) (x : Value) : Cj w (u.setCell ⟨w.heap.size + 1 + 1, j, none⟩ x) a r (c.setIfInBounds j x) L :=
  ⟨(Below.heap_setCell _ _ _ _ (by show w.heap.size ≠ w.heap.size + 1 + 1; omega)).trans h.arg, (Below.heap_setCell _ _ _ _ (by show w.heap.size + 1 ≠ w.heap.size + 1 + 1; omega)).trans h.res, set_row h.out j x, h.bel.setCell (by show w.heap.size ≤ w.heap.size + 1 + 1; omega) x, fun y hy => ⟨(h.lst y hy).1, ((h.lst y hy).2.1.set _ x (by show w.heap.size + 1 + 1 ≠ y.1; have := (h.lst y hy).1; omega)).up (by simp), ((h.lst y hy).2.2.set _ x (by show w.heap.size + 1 + 1 ≠ y.1; have := (h.lst y hy).1; omega)).up (by simp)⟩⟩
theorem Cj.ret {w u : World} {a r c : Array Value} {L : List (Nat × Nat × (Nat → ByteArray))} (h : Cj w u a r c L) (j : Nat) (x : Value) : Cj w (u.setCell ⟨w.heap.size + 1, j, none⟩ x) a (r.setIfInBounds j x) c L :=
  ⟨(Below.heap_setCell _ _ _ _ (by show w.heap.size ≠ w.heap.size + 1; omega)).trans h.arg, set_row h.res j x, (Below.heap_setCell _ _ _ _ (by show w.heap.size + 1 + 1 ≠ w.heap.size + 1; omega)).trans h.out, h.bel.setCell (by show w.heap.size ≤ w.heap.size + 1; omega) x, fun y hy => ⟨(h.lst y hy).1, ((h.lst y hy).2.1.set _ x (by show w.heap.size + 1 ≠ y.1; have := (h.lst y hy).1; omega)).up (by simp), ((h.lst y hy).2.2.set _ x (by show w.heap.size + 1 ≠ y.1; have := (h.lst y hy).1; omega)).up (by simp)⟩⟩
theorem Cj.add {w u : World} {a r c : Array Value} {L : List (Nat × Nat × (Nat → ByteArray))} (h : Cj w u a r c L) (g n : Nat) (f : Nat → ByteArray) (hg : w.heap.size + 1 + 1 < g) (h1 : Lst u.heap.size u (sl g n) n 1 (cS f)) (h2 : Blk u.heap.size u g 9 n) : Cj w u a r c ((g, n, f) :: L) :=
  ⟨h.arg, h.res, h.out, h.bel, fun x hx => by
    cases hx with
    | head => exact ⟨hg, h1, h2⟩
    | tail _ hx => exact h.lst x hx⟩
theorem cj_init (w : World) (a r c : Array Value) : Cj w (((w.alloc (.cells a 31)).alloc (.cells r 44)).alloc (.cells c 44)) a r c [] := by
  have e1 : (w.alloc (.cells a 31)).heap.size = w.heap.size + 1 := by simp
  have e2 : ((w.alloc (.cells a 31)).alloc (.cells r 44)).heap.size = w.heap.size + 1 + 1 := by simp
  refine ⟨?_, ?_, ?_, ?_, fun x hx => nomatch hx⟩
  · exact (Below.heap_alloc _ _ _ (by omega)).trans ((Below.heap_alloc _ _ _ (by omega)).trans (heap_alloc_new w _))
  · refine (Below.heap_alloc _ _ _ (by omega)).trans ?_
    rw [← e1]; exact heap_alloc_new _ _
  · rw [← e2]; exact heap_alloc_new _ _
  · exact (((Below.refl _ _).alloc (Nat.le_refl _) _).alloc (by omega) _).alloc (by omega) _

set_option maxRecDepth 100000 in
set_option maxHeartbeats 4000000 in
theorem toJob_blk (B : Nat) (num kind am st mv : Int) (dn : Bool) (vp vv v3 v4 v7 : Value) (m k n3 n4 n7 : Nat) (P Q f3 f4 f7 : Nat → ByteArray) (w : World) (h : JAt B w vp vv v3 v4 v7 m P k Q n3 f3 n4 f4 n7 f7) (hB : B ≤ w.heap.size) (hm : JM m k n3 n4 n7) :
    Calls Tryz.prog 8 #[.agg #[.int .i64 num, .int .i64 kind, vp, vv, v3, v4, .int .i64 am, .int .i64 st, v7, .int .i64 mv, .bool dn]] w fun e w' => ∃ g0 g1 g3 g4 g7, e = .returned (.agg #[.int .i64 num, .int .i64 kind, sl g0 m, sl g1 k, sl g3 n3, sl g4 n4, .int .i64 am, .int .i64 st, sl g7 n7, .int .i64 mv, .bool dn]) ∧ JAt w'.heap.size w' (sl g0 m) (sl g1 k) (sl g3 n3) (sl g4 n4) (sl g7 n7) m P k Q n3 f3 n4 f4 n7 f7 ∧ JBlk w.heap.size w'.heap.size w' g0 g1 g3 g4 g7 m k n3 n4 n7 ∧ Below w.heap.size w w' := by
  have H : Hid (∀ w', Below w.heap.size w w' → JAt B w' vp vv v3 v4 v7 m P k Q n3 f3 n4 f4 n7 f7) := fun w' hb => h.kept hb hB
  clear h
  have C0 : Hid (Cj w (((w.alloc (.cells #[.int .i64 num, .int .i64 kind, vp, vv, v3, v4, .int .i64 am, .int .i64 st, v7, .int .i64 mv, .bool dn] 31)).alloc (.cells #[.int .i64 0, .int .i64 0, .slice none 0 0, .slice none 0 0, .slice none 0 0, .slice none 0 0, .int .i64 0, .int .i64 0, .slice none 0 0, .int .i64 0, .bool false] 44)).alloc (.cells #[.int .i64 num, .int .i64 kind, .slice none 0 0, .slice none 0 0, .slice none 0 0, .slice none 0 0, .int .i64 0, .int .i64 0, .slice none 0 0, .int .i64 0, .bool false] 44)) #[.int .i64 num, .int .i64 kind, vp, vv, v3, v4, .int .i64 am, .int .i64 st, v7, .int .i64 mv, .bool dn] #[.int .i64 0, .int .i64 0, .slice none 0 0, .slice none 0 0, .slice none 0 0, .slice none 0 0, .int .i64 0, .int .i64 0, .slice none 0 0, .int .i64 0, .bool false] #[.int .i64 num, .int .i64 kind, .slice none 0 0, .slice none 0 0, .slice none 0 0, .slice none 0 0, .int .i64 0, .int .i64 0, .slice none 0 0, .int .i64 0, .bool false] []) := cj_init w _ _ _
  have s0 := C0.out.sz
  go_enter Tryz.func8, Tryz.ntmps8
  go_wp2_with fail
  refine (toRoute_blk B vp vv m k P Q _ (H.out _ C0.out.bel).r (by have := C0.out.bel.size; omega) hm.p hm.q).mono ?_; rintro e w1 ⟨g0, g1, rfl, R, ⟨ha0, ha1⟩, K0, K1, hb1⟩
  have C1 : Hid (Cj w w1 #[.int .i64 num, .int .i64 kind, vp, vv, v3, v4, .int .i64 am, .int .i64 st, v7, .int .i64 mv, .bool dn] #[.int .i64 0, .int .i64 0, .slice none 0 0, .slice none 0 0, .slice none 0 0, .slice none 0 0, .int .i64 0, .int .i64 0, .slice none 0 0, .int .i64 0, .bool false] #[.int .i64 num, .int .i64 kind, .slice none 0 0, .slice none 0 0, .slice none 0 0, .slice none 0 0, .int .i64 0, .int .i64 0, .slice none 0 0, .int .i64 0, .bool false] [(g1, k, Q), (g0, m, P)]) := ((C0.out.next hb1).add g0 m P (by omega) R.p K0).add g1 k Q (by omega) R.v K1
  clear R K0 K1 ha0 ha1 hb1 s0
  obtain ⟨p2, q2⟩ := cell_row C1.out.out 2 _ rfl
  obtain ⟨p3, q3⟩ := cell_row C1.out.out 3 _ rfl
  have C2 : Hid (Cj w (w1.setCell ⟨w.heap.size + 1 + 1, 2, none⟩ (.slice (some ⟨g0, 0, none⟩) m m)) #[.int .i64 num, .int .i64 kind, vp, vv, v3, v4, .int .i64 am, .int .i64 st, v7, .int .i64 mv, .bool dn] #[.int .i64 0, .int .i64 0, .slice none 0 0, .slice none 0 0, .slice none 0 0, .slice none 0 0, .int .i64 0, .int .i64 0, .slice none 0 0, .int .i64 0, .bool false] #[.int .i64 num, .int .i64 kind, .slice (some ⟨g0, 0, none⟩) m m, .slice none 0 0, .slice none 0 0, .slice none 0 0, .int .i64 0, .int .i64 0, .slice none 0 0, .int .i64 0, .bool false] [(g1, k, Q), (g0, m, P)]) := C1.out.put 2 (.slice (some ⟨g0, 0, none⟩) m m)
  have C3 : Hid (Cj w ((w1.setCell ⟨w.heap.size + 1 + 1, 2, none⟩ (.slice (some ⟨g0, 0, none⟩) m m)).setCell ⟨w.heap.size + 1 + 1, 3, none⟩ (.slice (some ⟨g1, 0, none⟩) k k)) #[.int .i64 num, .int .i64 kind, vp, vv, v3, v4, .int .i64 am, .int .i64 st, v7, .int .i64 mv, .bool dn] #[.int .i64 0, .int .i64 0, .slice none 0 0, .slice none 0 0, .slice none 0 0, .slice none 0 0, .int .i64 0, .int .i64 0, .slice none 0 0, .int .i64 0, .bool false] #[.int .i64 num, .int .i64 kind, .slice (some ⟨g0, 0, none⟩) m m, .slice (some ⟨g1, 0, none⟩) k k, .slice none 0 0, .slice none 0 0, .int .i64 0, .int .i64 0, .slice none 0 0, .int .i64 0, .bool false] [(g1, k, Q), (g0, m, P)]) := C2.out.put 3 (.slice (some ⟨g1, 0, none⟩) k k)
  obtain ⟨ar4, _⟩ := cell_row C3.out.arg 4 v3 rfl
  go_wp2_with fail
  obtain ⟨u2, hu2⟩ : ∃ u, u = ((w1.setCell ⟨w.heap.size + 1 + 1, 2, none⟩ (.slice (some ⟨g0, 0, none⟩) m m)).setCell ⟨w.heap.size + 1 + 1, 3, none⟩ (.slice (some ⟨g1, 0, none⟩) k k)) := ⟨_, rfl⟩
  rw [← hu2]
  rw [← hu2] at C3
  have s2 := C3.out.sz
  refine (toS_blk B v3 n3 f3 _ (H.out _ C3.out.bel).a (by have := C3.out.bel.size; omega) hm.a).mono ?_; rintro e w2 ⟨rfl, L, K, hb⟩
  obtain ⟨g3, hg⟩ : ∃ g, g = u2.heap.size := ⟨_, rfl⟩
  rw [← hg] at L K ⊢
  have C4 : Hid (Cj w w2 #[.int .i64 num, .int .i64 kind, vp, vv, v3, v4, .int .i64 am, .int .i64 st, v7, .int .i64 mv, .bool dn] #[.int .i64 0, .int .i64 0, .slice none 0 0, .slice none 0 0, .slice none 0 0, .slice none 0 0, .int .i64 0, .int .i64 0, .slice none 0 0, .int .i64 0, .bool false] #[.int .i64 num, .int .i64 kind, .slice (some ⟨g0, 0, none⟩) m m, .slice (some ⟨g1, 0, none⟩) k k, .slice none 0 0, .slice none 0 0, .int .i64 0, .int .i64 0, .slice none 0 0, .int .i64 0, .bool false] [(g3, n3, f3), (g1, k, Q), (g0, m, P)]) := (C3.out.next hb).add g3 n3 f3 (by omega) L K
  clear L K hb hg s2 hu2
  obtain ⟨p4, q4⟩ := cell_row C4.out.out 4 _ rfl
  have C5 : Hid (Cj w (w2.setCell ⟨w.heap.size + 1 + 1, 4, none⟩ (.slice (some ⟨g3, 0, none⟩) n3 n3)) #[.int .i64 num, .int .i64 kind, vp, vv, v3, v4, .int .i64 am, .int .i64 st, v7, .int .i64 mv, .bool dn] #[.int .i64 0, .int .i64 0, .slice none 0 0, .slice none 0 0, .slice none 0 0, .slice none 0 0, .int .i64 0, .int .i64 0, .slice none 0 0, .int .i64 0, .bool false] #[.int .i64 num, .int .i64 kind, .slice (some ⟨g0, 0, none⟩) m m, .slice (some ⟨g1, 0, none⟩) k k, .slice (some ⟨g3, 0, none⟩) n3 n3, .slice none 0 0, .int .i64 0, .int .i64 0, .slice none 0 0, .int .i64 0, .bool false] [(g3, n3, f3), (g1, k, Q), (g0, m, P)]) := C4.out.put 4 (.slice (some ⟨g3, 0, none⟩) n3 n3)
  obtain ⟨ar5, _⟩ := cell_row C5.out.arg 5 v4 rfl
  go_wp2_with fail
  obtain ⟨u3, hu3⟩ : ∃ u, u = (w2.setCell ⟨w.heap.size + 1 + 1, 4, none⟩ (.slice (some ⟨g3, 0, none⟩) n3 n3)) := ⟨_, rfl⟩
  rw [← hu3]
  rw [← hu3] at C5
  have s3 := C5.out.sz
  refine (toS_blk B v4 n4 f4 _ (H.out _ C5.out.bel).b (by have := C5.out.bel.size; omega) hm.b).mono ?_; rintro e w3 ⟨rfl, L, K, hb⟩
  obtain ⟨g4, hg⟩ : ∃ g, g = u3.heap.size := ⟨_, rfl⟩
  rw [← hg] at L K ⊢
  have C6 : Hid (Cj w w3 #[.int .i64 num, .int .i64 kind, vp, vv, v3, v4, .int .i64 am, .int .i64 st, v7, .int .i64 mv, .bool dn] #[.int .i64 0, .int .i64 0, .slice none 0 0, .slice none 0 0, .slice none 0 0, .slice none 0 0, .int .i64 0, .int .i64 0, .slice none 0 0, .int .i64 0, .bool false] #[.int .i64 num, .int .i64 kind, .slice (some ⟨g0, 0, none⟩) m m, .slice (some ⟨g1, 0, none⟩) k k, .slice (some ⟨g3, 0, none⟩) n3 n3, .slice none 0 0, .int .i64 0, .int .i64 0, .slice none 0 0, .int .i64 0, .bool false] [(g4, n4, f4), (g3, n3, f3), (g1, k, Q), (g0, m, P)]) := (C5.out.next hb).add g4 n4 f4 (by omega) L K
  clear L K hb hg s3 hu3
  obtain ⟨p5, q5⟩ := cell_row C6.out.out 5 _ rfl
  have C7 : Hid (Cj w (w3.setCell ⟨w.heap.size + 1 + 1, 5, none⟩ (.slice (some ⟨g4, 0, none⟩) n4 n4)) #[.int .i64 num, .int .i64 kind, vp, vv, v3, v4, .int .i64 am, .int .i64 st, v7, .int .i64 mv, .bool dn] #[.int .i64 0, .int .i64 0, .slice none 0 0, .slice none 0 0, .slice none 0 0, .slice none 0 0, .int .i64 0, .int .i64 0, .slice none 0 0, .int .i64 0, .bool false] #[.int .i64 num, .int .i64 kind, .slice (some ⟨g0, 0, none⟩) m m, .slice (some ⟨g1, 0, none⟩) k k, .slice (some ⟨g3, 0, none⟩) n3 n3, .slice (some ⟨g4, 0, none⟩) n4 n4, .int .i64 0, .int .i64 0, .slice none 0 0, .int .i64 0, .bool false] [(g4, n4, f4), (g3, n3, f3), (g1, k, Q), (g0, m, P)]) := C6.out.put 5 (.slice (some ⟨g4, 0, none⟩) n4 n4)
  obtain ⟨ar6, _⟩ := cell_row C7.out.arg 6 (.int .i64 am) rfl
  obtain ⟨p6, q6⟩ := cell_row C7.out.out 6 _ rfl
  have C8 : Hid (Cj w ((w3.setCell ⟨w.heap.size + 1 + 1, 5, none⟩ (.slice (some ⟨g4, 0, none⟩) n4 n4)).setCell ⟨w.heap.size + 1 + 1, 6, none⟩ (.int .i64 am)) #[.int .i64 num, .int .i64 kind, vp, vv, v3, v4, .int .i64 am, .int .i64 st, v7, .int .i64 mv, .bool dn] #[.int .i64 0, .int .i64 0, .slice none 0 0, .slice none 0 0, .slice none 0 0, .slice none 0 0, .int .i64 0, .int .i64 0, .slice none 0 0, .int .i64 0, .bool false] #[.int .i64 num, .int .i64 kind, .slice (some ⟨g0, 0, none⟩) m m, .slice (some ⟨g1, 0, none⟩) k k, .slice (some ⟨g3, 0, none⟩) n3 n3, .slice (some ⟨g4, 0, none⟩) n4 n4, .int .i64 am, .int .i64 0, .slice none 0 0, .int .i64 0, .bool false] [(g4, n4, f4), (g3, n3, f3), (g1, k, Q), (g0, m, P)]) := C7.out.put 6 (.int .i64 am)
  obtain ⟨ar7, _⟩ := cell_row C8.out.arg 7 (.int .i64 st) rfl
  obtain ⟨p7, q7⟩ := cell_row C8.out.out 7 _ rfl
  have C9 : Hid (Cj w (((w3.setCell ⟨w.heap.size + 1 + 1, 5, none⟩ (.slice (some ⟨g4, 0, none⟩) n4 n4)).setCell ⟨w.heap.size + 1 + 1, 6, none⟩ (.int .i64 am)).setCell ⟨w.heap.size + 1 + 1, 7, none⟩ (.int .i64 st)) #[.int .i64 num, .int .i64 kind, vp, vv, v3, v4, .int .i64 am, .int .i64 st, v7, .int .i64 mv, .bool dn] #[.int .i64 0, .int .i64 0, .slice none 0 0, .slice none 0 0, .slice none 0 0, .slice none 0 0, .int .i64 0, .int .i64 0, .slice none 0 0, .int .i64 0, .bool false] #[.int .i64 num, .int .i64 kind, .slice (some ⟨g0, 0, none⟩) m m, .slice (some ⟨g1, 0, none⟩) k k, .slice (some ⟨g3, 0, none⟩) n3 n3, .slice (some ⟨g4, 0, none⟩) n4 n4, .int .i64 am, .int .i64 st, .slice none 0 0, .int .i64 0, .bool false] [(g4, n4, f4), (g3, n3, f3), (g1, k, Q), (g0, m, P)]) := C8.out.put 7 (.int .i64 st)
  obtain ⟨ar8, _⟩ := cell_row C9.out.arg 8 v7 rfl
  go_wp2_with fail
  obtain ⟨u4, hu4⟩ : ∃ u, u = (((w3.setCell ⟨w.heap.size + 1 + 1, 5, none⟩ (.slice (some ⟨g4, 0, none⟩) n4 n4)).setCell ⟨w.heap.size + 1 + 1, 6, none⟩ (.int .i64 am)).setCell ⟨w.heap.size + 1 + 1, 7, none⟩ (.int .i64 st)) := ⟨_, rfl⟩
  rw [← hu4]
  rw [← hu4] at C9
  have s4 := C9.out.sz
  refine (toS_blk B v7 n7 f7 _ (H.out _ C9.out.bel).c (by have := C9.out.bel.size; omega) hm.c).mono ?_; rintro e w4 ⟨rfl, L, K, hb⟩
  obtain ⟨g7, hg⟩ : ∃ g, g = u4.heap.size := ⟨_, rfl⟩
  rw [← hg] at L K ⊢
  have C10 : Hid (Cj w w4 #[.int .i64 num, .int .i64 kind, vp, vv, v3, v4, .int .i64 am, .int .i64 st, v7, .int .i64 mv, .bool dn] #[.int .i64 0, .int .i64 0, .slice none 0 0, .slice none 0 0, .slice none 0 0, .slice none 0 0, .int .i64 0, .int .i64 0, .slice none 0 0, .int .i64 0, .bool false] #[.int .i64 num, .int .i64 kind, .slice (some ⟨g0, 0, none⟩) m m, .slice (some ⟨g1, 0, none⟩) k k, .slice (some ⟨g3, 0, none⟩) n3 n3, .slice (some ⟨g4, 0, none⟩) n4 n4, .int .i64 am, .int .i64 st, .slice none 0 0, .int .i64 0, .bool false] [(g7, n7, f7), (g4, n4, f4), (g3, n3, f3), (g1, k, Q), (g0, m, P)]) := (C9.out.next hb).add g7 n7 f7 (by omega) L K
  clear L K hb hg s4 hu4
  obtain ⟨p8, q8⟩ := cell_row C10.out.out 8 _ rfl
  have C11 : Hid (Cj w (w4.setCell ⟨w.heap.size + 1 + 1, 8, none⟩ (.slice (some ⟨g7, 0, none⟩) n7 n7)) #[.int .i64 num, .int .i64 kind, vp, vv, v3, v4, .int .i64 am, .int .i64 st, v7, .int .i64 mv, .bool dn] #[.int .i64 0, .int .i64 0, .slice none 0 0, .slice none 0 0, .slice none 0 0, .slice none 0 0, .int .i64 0, .int .i64 0, .slice none 0 0, .int .i64 0, .bool false] #[.int .i64 num, .int .i64 kind, .slice (some ⟨g0, 0, none⟩) m m, .slice (some ⟨g1, 0, none⟩) k k, .slice (some ⟨g3, 0, none⟩) n3 n3, .slice (some ⟨g4, 0, none⟩) n4 n4, .int .i64 am, .int .i64 st, .slice (some ⟨g7, 0, none⟩) n7 n7, .int .i64 0, .bool false] [(g7, n7, f7), (g4, n4, f4), (g3, n3, f3), (g1, k, Q), (g0, m, P)]) := C10.out.put 8 (.slice (some ⟨g7, 0, none⟩) n7 n7)
  obtain ⟨ar9, _⟩ := cell_row C11.out.arg 9 (.int .i64 mv) rfl
  obtain ⟨p9, q9⟩ := cell_row C11.out.out 9 _ rfl
  have C12 : Hid (Cj w ((w4.setCell ⟨w.heap.size + 1 + 1, 8, none⟩ (.slice (some ⟨g7, 0, none⟩) n7 n7)).setCell ⟨w.heap.size + 1 + 1, 9, none⟩ (.int .i64 mv)) #[.int .i64 num, .int .i64 kind, vp, vv, v3, v4, .int .i64 am, .int .i64 st, v7, .int .i64 mv, .bool dn] #[.int .i64 0, .int .i64 0, .slice none 0 0, .slice none 0 0, .slice none 0 0, .slice none 0 0, .int .i64 0, .int .i64 0, .slice none 0 0, .int .i64 0, .bool false] #[.int .i64 num, .int .i64 kind, .slice (some ⟨g0, 0, none⟩) m m, .slice (some ⟨g1, 0, none⟩) k k, .slice (some ⟨g3, 0, none⟩) n3 n3, .slice (some ⟨g4, 0, none⟩) n4 n4, .int .i64 am, .int .i64 st, .slice (some ⟨g7, 0, none⟩) n7 n7, .int .i64 mv, .bool false] [(g7, n7, f7), (g4, n4, f4), (g3, n3, f3), (g1, k, Q), (g0, m, P)]) := C11.out.put 9 (.int .i64 mv)
  obtain ⟨ar10, _⟩ := cell_row C12.out.arg 10 (.bool dn) rfl
  obtain ⟨p10, q10⟩ := cell_row C12.out.out 10 _ rfl
  have C13 : Hid (Cj w (((w4.setCell ⟨w.heap.size + 1 + 1, 8, none⟩ (.slice (some ⟨g7, 0, none⟩) n7 n7)).setCell ⟨w.heap.size + 1 + 1, 9, none⟩ (.int .i64 mv)).setCell ⟨w.heap.size + 1 + 1, 10, none⟩ (.bool dn)) #[.int .i64 num, .int .i64 kind, vp, vv, v3, v4, .int .i64 am, .int .i64 st, v7, .int .i64 mv, .bool dn] #[.int .i64 0, .int .i64 0, .slice none 0 0, .slice none 0 0, .slice none 0 0, .slice none 0 0, .int .i64 0, .int .i64 0, .slice none 0 0, .int .i64 0, .bool false] #[.int .i64 num, .int .i64 kind, .slice (some ⟨g0, 0, none⟩) m m, .slice (some ⟨g1, 0, none⟩) k k, .slice (some ⟨g3, 0, none⟩) n3 n3, .slice (some ⟨g4, 0, none⟩) n4 n4, .int .i64 am, .int .i64 st, .slice (some ⟨g7, 0, none⟩) n7 n7, .int .i64 mv, .bool dn] [(g7, n7, f7), (g4, n4, f4), (g3, n3, f3), (g1, k, Q), (g0, m, P)]) := C12.out.put 10 (.bool dn)
  obtain ⟨o0, _⟩ := cell_row C13.out.out 0 (.int .i64 num) rfl
  obtain ⟨rr0, rf0⟩ := cell_row C13.out.res 0 _ rfl
  obtain ⟨o1, _⟩ := cell_row C13.out.out 1 (.int .i64 kind) rfl
  obtain ⟨rr1, rf1⟩ := cell_row C13.out.res 1 _ rfl
  obtain ⟨o2, _⟩ := cell_row C13.out.out 2 (.slice (some ⟨g0, 0, none⟩) m m) rfl
  obtain ⟨rr2, rf2⟩ := cell_row C13.out.res 2 _ rfl
  obtain ⟨o3, _⟩ := cell_row C13.out.out 3 (.slice (some ⟨g1, 0, none⟩) k k) rfl
  obtain ⟨rr3, rf3⟩ := cell_row C13.out.res 3 _ rfl
  obtain ⟨o4, _⟩ := cell_row C13.out.out 4 (.slice (some ⟨g3, 0, none⟩) n3 n3) rfl
  obtain ⟨rr4, rf4⟩ := cell_row C13.out.res 4 _ rfl
  obtain ⟨o5, _⟩ := cell_row C13.out.out 5 (.slice (some ⟨g4, 0, none⟩) n4 n4) rfl
  obtain ⟨rr5, rf5⟩ := cell_row C13.out.res 5 _ rfl
  obtain ⟨o6, _⟩ := cell_row C13.out.out 6 (.int .i64 am) rfl
  obtain ⟨rr6, rf6⟩ := cell_row C13.out.res 6 _ rfl
  obtain ⟨o7, _⟩ := cell_row C13.out.out 7 (.int .i64 st) rfl
  obtain ⟨rr7, rf7⟩ := cell_row C13.out.res 7 _ rfl
  obtain ⟨o8, _⟩ := cell_row C13.out.out 8 (.slice (some ⟨g7, 0, none⟩) n7 n7) rfl
  obtain ⟨rr8, rf8⟩ := cell_row C13.out.res 8 _ rfl
  obtain ⟨o9, _⟩ := cell_row C13.out.out 9 (.int .i64 mv) rfl
  obtain ⟨rr9, rf9⟩ := cell_row C13.out.res 9 _ rfl
  obtain ⟨o10, _⟩ := cell_row C13.out.out 10 (.bool dn) rfl
  obtain ⟨rr10, rf10⟩ := cell_row C13.out.res 10 _ rfl
  have R0 : Hid (Cj w ((((w4.setCell ⟨w.heap.size + 1 + 1, 8, none⟩ (.slice (some ⟨g7, 0, none⟩) n7 n7)).setCell ⟨w.heap.size + 1 + 1, 9, none⟩ (.int .i64 mv)).setCell ⟨w.heap.size + 1 + 1, 10, none⟩ (.bool dn)).setCell ⟨w.heap.size + 1, 0, none⟩ (.int .i64 num)) #[.int .i64 num, .int .i64 kind, vp, vv, v3, v4, .int .i64 am, .int .i64 st, v7, .int .i64 mv, .bool dn] #[.int .i64 num, .int .i64 0, .slice none 0 0, .slice none 0 0, .slice none 0 0, .slice none 0 0, .int .i64 0, .int .i64 0, .slice none 0 0, .int .i64 0, .bool false] #[.int .i64 num, .int .i64 kind, .slice (some ⟨g0, 0, none⟩) m m, .slice (some ⟨g1, 0, none⟩) k k, .slice (some ⟨g3, 0, none⟩) n3 n3, .slice (some ⟨g4, 0, none⟩) n4 n4, .int .i64 am, .int .i64 st, .slice (some ⟨g7, 0, none⟩) n7 n7, .int .i64 mv, .bool dn] [(g7, n7, f7), (g4, n4, f4), (g3, n3, f3), (g1, k, Q), (g0, m, P)]) := C13.out.ret 0 (.int .i64 num)
  have R1 : Hid (Cj w (((((w4.setCell ⟨w.heap.size + 1 + 1, 8, none⟩ (.slice (some ⟨g7, 0, none⟩) n7 n7)).setCell ⟨w.heap.size + 1 + 1, 9, none⟩ (.int .i64 mv)).setCell ⟨w.heap.size + 1 + 1, 10, none⟩ (.bool dn)).setCell ⟨w.heap.size + 1, 0, none⟩ (.int .i64 num)).setCell ⟨w.heap.size + 1, 1, none⟩ (.int .i64 kind)) #[.int .i64 num, .int .i64 kind, vp, vv, v3, v4, .int .i64 am, .int .i64 st, v7, .int .i64 mv, .bool dn] #[.int .i64 num, .int .i64 kind, .slice none 0 0, .slice none 0 0, .slice none 0 0, .slice none 0 0, .int .i64 0, .int .i64 0, .slice none 0 0, .int .i64 0, .bool false] #[.int .i64 num, .int .i64 kind, .slice (some ⟨g0, 0, none⟩) m m, .slice (some ⟨g1, 0, none⟩) k k, .slice (some ⟨g3, 0, none⟩) n3 n3, .slice (some ⟨g4, 0, none⟩) n4 n4, .int .i64 am, .int .i64 st, .slice (some ⟨g7, 0, none⟩) n7 n7, .int .i64 mv, .bool dn] [(g7, n7, f7), (g4, n4, f4), (g3, n3, f3), (g1, k, Q), (g0, m, P)]) := R0.out.ret 1 (.int .i64 kind)
  have R2 : Hid (Cj w ((((((w4.setCell ⟨w.heap.size + 1 + 1, 8, none⟩ (.slice (some ⟨g7, 0, none⟩) n7 n7)).setCell ⟨w.heap.size + 1 + 1, 9, none⟩ (.int .i64 mv)).setCell ⟨w.heap.size + 1 + 1, 10, none⟩ (.bool dn)).setCell ⟨w.heap.size + 1, 0, none⟩ (.int .i64 num)).setCell ⟨w.heap.size + 1, 1, none⟩ (.int .i64 kind)).setCell ⟨w.heap.size + 1, 2, none⟩ (.slice (some ⟨g0, 0, none⟩) m m)) #[.int .i64 num, .int .i64 kind, vp, vv, v3, v4, .int .i64 am, .int .i64 st, v7, .int .i64 mv, .bool dn] #[.int .i64 num, .int .i64 kind, .slice (some ⟨g0, 0, none⟩) m m, .slice none 0 0, .slice none 0 0, .slice none 0 0, .int .i64 0, .int .i64 0, .slice none 0 0, .int .i64 0, .bool false] #[.int .i64 num, .int .i64 kind, .slice (some ⟨g0, 0, none⟩) m m, .slice (some ⟨g1, 0, none⟩) k k, .slice (some ⟨g3, 0, none⟩) n3 n3, .slice (some ⟨g4, 0, none⟩) n4 n4, .int .i64 am, .int .i64 st, .slice (some ⟨g7, 0, none⟩) n7 n7, .int .i64 mv, .bool dn] [(g7, n7, f7), (g4, n4, f4), (g3, n3, f3), (g1, k, Q), (g0, m, P)]) := R1.out.ret 2 (.slice (some ⟨g0, 0, none⟩) m m)
  have R3 : Hid (Cj w (((((((w4.setCell ⟨w.heap.size + 1 + 1, 8, none⟩ (.slice (some ⟨g7, 0, none⟩) n7 n7)).setCell ⟨w.heap.size + 1 + 1, 9, none⟩ (.int .i64 mv)).setCell ⟨w.heap.size + 1 + 1, 10, none⟩ (.bool dn)).setCell ⟨w.heap.size + 1, 0, none⟩ (.int .i64 num)).setCell ⟨w.heap.size + 1, 1, none⟩ (.int .i64 kind)).setCell ⟨w.heap.size + 1, 2, none⟩ (.slice (some ⟨g0, 0, none⟩) m m)).setCell ⟨w.heap.size + 1, 3, none⟩ (.slice (some ⟨g1, 0, none⟩) k k)) #[.int .i64 num, .int .i64 kind, vp, vv, v3, v4, .int .i64 am, .int .i64 st, v7, .int .i64 mv, .bool dn] #[.int .i64 num, .int .i64 kind, .slice (some ⟨g0, 0, none⟩) m m, .slice (some ⟨g1, 0, none⟩) k k, .slice none 0 0, .slice none 0 0, .int .i64 0, .int .i64 0, .slice none 0 0, .int .i64 0, .bool false] #[.int .i64 num, .int .i64 kind, .slice (some ⟨g0, 0, none⟩) m m, .slice (some ⟨g1, 0, none⟩) k k, .slice (some ⟨g3, 0, none⟩) n3 n3, .slice (some ⟨g4, 0, none⟩) n4 n4, .int .i64 am, .int .i64 st, .slice (some ⟨g7, 0, none⟩) n7 n7, .int .i64 mv, .bool dn] [(g7, n7, f7), (g4, n4, f4), (g3, n3, f3), (g1, k, Q), (g0, m, P)]) := R2.out.ret 3 (.slice (some ⟨g1, 0, none⟩) k k)
  have R4 : Hid (Cj w ((((((((w4.setCell ⟨w.heap.size + 1 + 1, 8, none⟩ (.slice (some ⟨g7, 0, none⟩) n7 n7)).setCell ⟨w.heap.size + 1 + 1, 9, none⟩ (.int .i64 mv)).setCell ⟨w.heap.size + 1 + 1, 10, none⟩ (.bool dn)).setCell ⟨w.heap.size + 1, 0, none⟩ (.int .i64 num)).setCell ⟨w.heap.size + 1, 1, none⟩ (.int .i64 kind)).setCell ⟨w.heap.size + 1, 2, none⟩ (.slice (some ⟨g0, 0, none⟩) m m)).setCell ⟨w.heap.size + 1, 3, none⟩ (.slice (some ⟨g1, 0, none⟩) k k)).setCell ⟨w.heap.size + 1, 4, none⟩ (.slice (some ⟨g3, 0, none⟩) n3 n3)) #[.int .i64 num, .int .i64 kind, vp, vv, v3, v4, .int .i64 am, .int .i64 st, v7, .int .i64 mv, .bool dn] #[.int .i64 num, .int .i64 kind, .slice (some ⟨g0, 0, none⟩) m m, .slice (some ⟨g1, 0, none⟩) k k, .slice (some ⟨g3, 0, none⟩) n3 n3, .slice none 0 0, .int .i64 0, .int .i64 0, .slice none 0 0, .int .i64 0, .bool false] #[.int .i64 num, .int .i64 kind, .slice (some ⟨g0, 0, none⟩) m m, .slice (some ⟨g1, 0, none⟩) k k, .slice (some ⟨g3, 0, none⟩) n3 n3, .slice (some ⟨g4, 0, none⟩) n4 n4, .int .i64 am, .int .i64 st, .slice (some ⟨g7, 0, none⟩) n7 n7, .int .i64 mv, .bool dn] [(g7, n7, f7), (g4, n4, f4), (g3, n3, f3), (g1, k, Q), (g0, m, P)]) := R3.out.ret 4 (.slice (some ⟨g3, 0, none⟩) n3 n3)
  have R5 : Hid (Cj w (((((((((w4.setCell ⟨w.heap.size + 1 + 1, 8, none⟩ (.slice (some ⟨g7, 0, none⟩) n7 n7)).setCell ⟨w.heap.size + 1 + 1, 9, none⟩ (.int .i64 mv)).setCell ⟨w.heap.size + 1 + 1, 10, none⟩ (.bool dn)).setCell ⟨w.heap.size + 1, 0, none⟩ (.int .i64 num)).setCell ⟨w.heap.size + 1, 1, none⟩ (.int .i64 kind)).setCell ⟨w.heap.size + 1, 2, none⟩ (.slice (some ⟨g0, 0, none⟩) m m)).setCell ⟨w.heap.size + 1, 3, none⟩ (.slice (some ⟨g1, 0, none⟩) k k)).setCell ⟨w.heap.size + 1, 4, none⟩ (.slice (some ⟨g3, 0, none⟩) n3 n3)).setCell ⟨w.heap.size + 1, 5, none⟩ (.slice (some ⟨g4, 0, none⟩) n4 n4)) #[.int .i64 num, .int .i64 kind, vp, vv, v3, v4, .int .i64 am, .int .i64 st, v7, .int .i64 mv, .bool dn] #[.int .i64 num, .int .i64 kind, .slice (some ⟨g0, 0, none⟩) m m, .slice (some ⟨g1, 0, none⟩) k k, .slice (some ⟨g3, 0, none⟩) n3 n3, .slice (some ⟨g4, 0, none⟩) n4 n4, .int .i64 0, .int .i64 0, .slice none 0 0, .int .i64 0, .bool false] #[.int .i64 num, .int .i64 kind, .slice (some ⟨g0, 0, none⟩) m m, .slice (some ⟨g1, 0, none⟩) k k, .slice (some ⟨g3, 0, none⟩) n3 n3, .slice (some ⟨g4, 0, none⟩) n4 n4, .int .i64 am, .int .i64 st, .slice (some ⟨g7, 0, none⟩) n7 n7, .int .i64 mv, .bool dn] [(g7, n7, f7), (g4, n4, f4), (g3, n3, f3), (g1, k, Q), (g0, m, P)]) := R4.out.ret 5 (.slice (some ⟨g4, 0, none⟩) n4 n4)
  have R6 : Hid (Cj w ((((((((((w4.setCell ⟨w.heap.size + 1 + 1, 8, none⟩ (.slice (some ⟨g7, 0, none⟩) n7 n7)).setCell ⟨w.heap.size + 1 + 1, 9, none⟩ (.int .i64 mv)).setCell ⟨w.heap.size + 1 + 1, 10, none⟩ (.bool dn)).setCell ⟨w.heap.size + 1, 0, none⟩ (.int .i64 num)).setCell ⟨w.heap.size + 1, 1, none⟩ (.int .i64 kind)).setCell ⟨w.heap.size + 1, 2, none⟩ (.slice (some ⟨g0, 0, none⟩) m m)).setCell ⟨w.heap.size + 1, 3, none⟩ (.slice (some ⟨g1, 0, none⟩) k k)).setCell ⟨w.heap.size + 1, 4, none⟩ (.slice (some ⟨g3, 0, none⟩) n3 n3)).setCell ⟨w.heap.size + 1, 5, none⟩ (.slice (some ⟨g4, 0, none⟩) n4 n4)).setCell ⟨w.heap.size + 1, 6, none⟩ (.int .i64 am)) #[.int .i64 num, .int .i64 kind, vp, vv, v3, v4, .int .i64 am, .int .i64 st, v7, .int .i64 mv, .bool dn] #[.int .i64 num, .int .i64 kind, .slice (some ⟨g0, 0, none⟩) m m, .slice (some ⟨g1, 0, none⟩) k k, .slice (some ⟨g3, 0, none⟩) n3 n3, .slice (some ⟨g4, 0, none⟩) n4 n4, .int .i64 am, .int .i64 0, .slice none 0 0, .int .i64 0, .bool false] #[.int .i64 num, .int .i64 kind, .slice (some ⟨g0, 0, none⟩) m m, .slice (some ⟨g1, 0, none⟩) k k, .slice (some ⟨g3, 0, none⟩) n3 n3, .slice (some ⟨g4, 0, none⟩) n4 n4, .int .i64 am, .int .i64 st, .slice (some ⟨g7, 0, none⟩) n7 n7, .int .i64 mv, .bool dn] [(g7, n7, f7), (g4, n4, f4), (g3, n3, f3), (g1, k, Q), (g0, m, P)]) := R5.out.ret 6 (.int .i64 am)
  have R7 : Hid (Cj w (((((((((((w4.setCell ⟨w.heap.size + 1 + 1, 8, none⟩ (.slice (some ⟨g7, 0, none⟩) n7 n7)).setCell ⟨w.heap.size + 1 + 1, 9, none⟩ (.int .i64 mv)).setCell ⟨w.heap.size + 1 + 1, 10, none⟩ (.bool dn)).setCell ⟨w.heap.size + 1, 0, none⟩ (.int .i64 num)).setCell ⟨w.heap.size + 1, 1, none⟩ (.int .i64 kind)).setCell ⟨w.heap.size + 1, 2, none⟩ (.slice (some ⟨g0, 0, none⟩) m m)).setCell ⟨w.heap.size + 1, 3, none⟩ (.slice (some ⟨g1, 0, none⟩) k k)).setCell ⟨w.heap.size + 1, 4, none⟩ (.slice (some ⟨g3, 0, none⟩) n3 n3)).setCell ⟨w.heap.size + 1, 5, none⟩ (.slice (some ⟨g4, 0, none⟩) n4 n4)).setCell ⟨w.heap.size + 1, 6, none⟩ (.int .i64 am)).setCell ⟨w.heap.size + 1, 7, none⟩ (.int .i64 st)) #[.int .i64 num, .int .i64 kind, vp, vv, v3, v4, .int .i64 am, .int .i64 st, v7, .int .i64 mv, .bool dn] #[.int .i64 num, .int .i64 kind, .slice (some ⟨g0, 0, none⟩) m m, .slice (some ⟨g1, 0, none⟩) k k, .slice (some ⟨g3, 0, none⟩) n3 n3, .slice (some ⟨g4, 0, none⟩) n4 n4, .int .i64 am, .int .i64 st, .slice none 0 0, .int .i64 0, .bool false] #[.int .i64 num, .int .i64 kind, .slice (some ⟨g0, 0, none⟩) m m, .slice (some ⟨g1, 0, none⟩) k k, .slice (some ⟨g3, 0, none⟩) n3 n3, .slice (some ⟨g4, 0, none⟩) n4 n4, .int .i64 am, .int .i64 st, .slice (some ⟨g7, 0, none⟩) n7 n7, .int .i64 mv, .bool dn] [(g7, n7, f7), (g4, n4, f4), (g3, n3, f3), (g1, k, Q), (g0, m, P)]) := R6.out.ret 7 (.int .i64 st)
  have R8 : Hid (Cj w ((((((((((((w4.setCell ⟨w.heap.size + 1 + 1, 8, none⟩ (.slice (some ⟨g7, 0, none⟩) n7 n7)).setCell ⟨w.heap.size + 1 + 1, 9, none⟩ (.int .i64 mv)).setCell ⟨w.heap.size + 1 + 1, 10, none⟩ (.bool dn)).setCell ⟨w.heap.size + 1, 0, none⟩ (.int .i64 num)).setCell ⟨w.heap.size + 1, 1, none⟩ (.int .i64 kind)).setCell ⟨w.heap.size + 1, 2, none⟩ (.slice (some ⟨g0, 0, none⟩) m m)).setCell ⟨w.heap.size + 1, 3, none⟩ (.slice (some ⟨g1, 0, none⟩) k k)).setCell ⟨w.heap.size + 1, 4, none⟩ (.slice (some ⟨g3, 0, none⟩) n3 n3)).setCell ⟨w.heap.size + 1, 5, none⟩ (.slice (some ⟨g4, 0, none⟩) n4 n4)).setCell ⟨w.heap.size + 1, 6, none⟩ (.int .i64 am)).setCell ⟨w.heap.size + 1, 7, none⟩ (.int .i64 st)).setCell ⟨w.heap.size + 1, 8, none⟩ (.slice (some ⟨g7, 0, none⟩) n7 n7)) #[.int .i64 num, .int .i64 kind, vp, vv, v3, v4, .int .i64 am, .int .i64 st, v7, .int .i64 mv, .bool dn] #[.int .i64 num, .int .i64 kind, .slice (some ⟨g0, 0, none⟩) m m, .slice (some ⟨g1, 0, none⟩) k k, .slice (some ⟨g3, 0, none⟩) n3 n3, .slice (some ⟨g4, 0, none⟩) n4 n4, .int .i64 am, .int .i64 st, .slice (some ⟨g7, 0, none⟩) n7 n7, .int .i64 0, .bool false] #[.int .i64 num, .int .i64 kind, .slice (some ⟨g0, 0, none⟩) m m, .slice (some ⟨g1, 0, none⟩) k k, .slice (some ⟨g3, 0, none⟩) n3 n3, .slice (some ⟨g4, 0, none⟩) n4 n4, .int .i64 am, .int .i64 st, .slice (some ⟨g7, 0, none⟩) n7 n7, .int .i64 mv, .bool dn] [(g7, n7, f7), (g4, n4, f4), (g3, n3, f3), (g1, k, Q), (g0, m, P)]) := R7.out.ret 8 (.slice (some ⟨g7, 0, none⟩) n7 n7)
  have R9 : Hid (Cj w (((((((((((((w4.setCell ⟨w.heap.size + 1 + 1, 8, none⟩ (.slice (some ⟨g7, 0, none⟩) n7 n7)).setCell ⟨w.heap.size + 1 + 1, 9, none⟩ (.int .i64 mv)).setCell ⟨w.heap.size + 1 + 1, 10, none⟩ (.bool dn)).setCell ⟨w.heap.size + 1, 0, none⟩ (.int .i64 num)).setCell ⟨w.heap.size + 1, 1, none⟩ (.int .i64 kind)).setCell ⟨w.heap.size + 1, 2, none⟩ (.slice (some ⟨g0, 0, none⟩) m m)).setCell ⟨w.heap.size + 1, 3, none⟩ (.slice (some ⟨g1, 0, none⟩) k k)).setCell ⟨w.heap.size + 1, 4, none⟩ (.slice (some ⟨g3, 0, none⟩) n3 n3)).setCell ⟨w.heap.size + 1, 5, none⟩ (.slice (some ⟨g4, 0, none⟩) n4 n4)).setCell ⟨w.heap.size + 1, 6, none⟩ (.int .i64 am)).setCell ⟨w.heap.size + 1, 7, none⟩ (.int .i64 st)).setCell ⟨w.heap.size + 1, 8, none⟩ (.slice (some ⟨g7, 0, none⟩) n7 n7)).setCell ⟨w.heap.size + 1, 9, none⟩ (.int .i64 mv)) #[.int .i64 num, .int .i64 kind, vp, vv, v3, v4, .int .i64 am, .int .i64 st, v7, .int .i64 mv, .bool dn] #[.int .i64 num, .int .i64 kind, .slice (some ⟨g0, 0, none⟩) m m, .slice (some ⟨g1, 0, none⟩) k k, .slice (some ⟨g3, 0, none⟩) n3 n3, .slice (some ⟨g4, 0, none⟩) n4 n4, .int .i64 am, .int .i64 st, .slice (some ⟨g7, 0, none⟩) n7 n7, .int .i64 mv, .bool false] #[.int .i64 num, .int .i64 kind, .slice (some ⟨g0, 0, none⟩) m m, .slice (some ⟨g1, 0, none⟩) k k, .slice (some ⟨g3, 0, none⟩) n3 n3, .slice (some ⟨g4, 0, none⟩) n4 n4, .int .i64 am, .int .i64 st, .slice (some ⟨g7, 0, none⟩) n7 n7, .int .i64 mv, .bool dn] [(g7, n7, f7), (g4, n4, f4), (g3, n3, f3), (g1, k, Q), (g0, m, P)]) := R8.out.ret 9 (.int .i64 mv)
  have CF : Hid (Cj w ((((((((((((((w4.setCell ⟨w.heap.size + 1 + 1, 8, none⟩ (.slice (some ⟨g7, 0, none⟩) n7 n7)).setCell ⟨w.heap.size + 1 + 1, 9, none⟩ (.int .i64 mv)).setCell ⟨w.heap.size + 1 + 1, 10, none⟩ (.bool dn)).setCell ⟨w.heap.size + 1, 0, none⟩ (.int .i64 num)).setCell ⟨w.heap.size + 1, 1, none⟩ (.int .i64 kind)).setCell ⟨w.heap.size + 1, 2, none⟩ (.slice (some ⟨g0, 0, none⟩) m m)).setCell ⟨w.heap.size + 1, 3, none⟩ (.slice (some ⟨g1, 0, none⟩) k k)).setCell ⟨w.heap.size + 1, 4, none⟩ (.slice (some ⟨g3, 0, none⟩) n3 n3)).setCell ⟨w.heap.size + 1, 5, none⟩ (.slice (some ⟨g4, 0, none⟩) n4 n4)).setCell ⟨w.heap.size + 1, 6, none⟩ (.int .i64 am)).setCell ⟨w.heap.size + 1, 7, none⟩ (.int .i64 st)).setCell ⟨w.heap.size + 1, 8, none⟩ (.slice (some ⟨g7, 0, none⟩) n7 n7)).setCell ⟨w.heap.size + 1, 9, none⟩ (.int .i64 mv)).setCell ⟨w.heap.size + 1, 10, none⟩ (.bool dn)) #[.int .i64 num, .int .i64 kind, vp, vv, v3, v4, .int .i64 am, .int .i64 st, v7, .int .i64 mv, .bool dn] #[.int .i64 num, .int .i64 kind, .slice (some ⟨g0, 0, none⟩) m m, .slice (some ⟨g1, 0, none⟩) k k, .slice (some ⟨g3, 0, none⟩) n3 n3, .slice (some ⟨g4, 0, none⟩) n4 n4, .int .i64 am, .int .i64 st, .slice (some ⟨g7, 0, none⟩) n7 n7, .int .i64 mv, .bool dn] #[.int .i64 num, .int .i64 kind, .slice (some ⟨g0, 0, none⟩) m m, .slice (some ⟨g1, 0, none⟩) k k, .slice (some ⟨g3, 0, none⟩) n3 n3, .slice (some ⟨g4, 0, none⟩) n4 n4, .int .i64 am, .int .i64 st, .slice (some ⟨g7, 0, none⟩) n7 n7, .int .i64 mv, .bool dn] [(g7, n7, f7), (g4, n4, f4), (g3, n3, f3), (g1, k, Q), (g0, m, P)]) := R9.out.ret 10 (.bool dn)
  have f0 := (cell_row CF.out.res 0 (.int .i64 num) rfl).1
  have f1 := (cell_row CF.out.res 1 (.int .i64 kind) rfl).1
  have f2 := (cell_row CF.out.res 2 (.slice (some ⟨g0, 0, none⟩) m m) rfl).1
  have f3 := (cell_row CF.out.res 3 (.slice (some ⟨g1, 0, none⟩) k k) rfl).1
  have f4 := (cell_row CF.out.res 4 (.slice (some ⟨g3, 0, none⟩) n3 n3) rfl).1
  have f5 := (cell_row CF.out.res 5 (.slice (some ⟨g4, 0, none⟩) n4 n4) rfl).1
  have f6 := (cell_row CF.out.res 6 (.int .i64 am) rfl).1
  have f7 := (cell_row CF.out.res 7 (.int .i64 st) rfl).1
  have f8 := (cell_row CF.out.res 8 (.slice (some ⟨g7, 0, none⟩) n7 n7) rfl).1
  have f9 := (cell_row CF.out.res 9 (.int .i64 mv) rfl).1
  have f10 := (cell_row CF.out.res 10 (.bool dn) rfl).1
  go_wp2_with fail
  obtain ⟨b_g0, l_g0, k_g0⟩ := (CF.out.lst _ (List.mem_cons_of_mem _ (List.mem_cons_of_mem _ (List.mem_cons_of_mem _ (List.mem_cons_of_mem _ (List.mem_cons_self))))))
  obtain ⟨b_g1, l_g1, k_g1⟩ := (CF.out.lst _ (List.mem_cons_of_mem _ (List.mem_cons_of_mem _ (List.mem_cons_of_mem _ (List.mem_cons_self)))))
  obtain ⟨b_g3, l_g3, k_g3⟩ := (CF.out.lst _ (List.mem_cons_of_mem _ (List.mem_cons_of_mem _ (List.mem_cons_self))))
  obtain ⟨b_g4, l_g4, k_g4⟩ := (CF.out.lst _ (List.mem_cons_of_mem _ (List.mem_cons_self)))
  obtain ⟨b_g7, l_g7, k_g7⟩ := (CF.out.lst _ (List.mem_cons_self))
  exact bodyPost_ret (v := .agg #[.int .i64 num, .int .i64 kind, .slice (some ⟨g0, 0, none⟩) m m, .slice (some ⟨g1, 0, none⟩) k k, .slice (some ⟨g3, 0, none⟩) n3 n3, .slice (some ⟨g4, 0, none⟩) n4 n4, .int .i64 am, .int .i64 st, .slice (some ⟨g7, 0, none⟩) n7 n7, .int .i64 mv, .bool dn]) (by simp [results, Tryz.results8, go_sem, f0, f1, f2, f3, f4, f5, f6, f7, f8, f9, f10]) rfl ⟨g0, g1, g3, g4, g7, rfl, ⟨⟨l_g0, l_g1⟩, l_g3, l_g4, l_g7⟩, ⟨⟨by omega, by omega, by omega, by omega, by omega⟩, k_g0, k_g1, k_g3, k_g4, k_g7⟩, CF.out.bel⟩

end Go.Proofs.YtndacfockllehaaGreat
