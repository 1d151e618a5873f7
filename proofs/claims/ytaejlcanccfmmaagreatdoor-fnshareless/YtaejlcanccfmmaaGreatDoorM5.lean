/-
  Several texts in one.
-/
import Derived.Test.YtaejlcanccfmmaaGreatDoorHm
import Derived.Laws.OwnMore
import Derived.Test.YtaejlcanccfmmaaGreatDoorM1
import Derived.Deep.Cut
namespace Go.Proofs.YtaejlcanccfmmaaGreatDoor
open Go.RowKit Go.Sort
section
variable {P : Program}
def Src (w : World) (v : Value) (m size : Nat) (news : List Value) : Prop :=
  news.length = m * size ∧ ((v = .slice none 0 0 ∧ m = 0) ∨ ∃ ad c, v = .slice (some ad) m c ∧ ∀ (j : Nat) (u : Value), news[j]? = some u → w.cell? (ad.add j) = some u)
theorem Src.below {w w' : World} {v : Value} {m size : Nat} {news : List Value} (h : Src w v m size news) (hb : Below w.heap.size w w') : Src w' v m size news := by
  refine ⟨h.1, ?_⟩
  rcases h.2 with h | ⟨ad, c, hv, hc⟩
  · exact .inl h
  · exact .inr ⟨ad, c, hv, fun j u hj => (hb.cell (World.block_lt_of_cell? w _ (hc j u hj))).trans (hc j u hj)⟩
theorem Src.grown {w w' : World} {v : Value} {m size : Nat} {news : List Value} {row : Option Nat} (h : Src w v m size news) (hg : w.grownBy w' row) (hne : ∀ ad n c, v = .slice (some ad) n c → some ad.block ≠ row) : Src w' v m size news := by
  refine ⟨h.1, ?_⟩
  rcases h.2 with h | ⟨ad, c, hv, hc⟩
  · exact .inl h
  · exact .inr ⟨ad, c, hv, fun j u hj => hg.cell (hc j u hj) (by have := hne ad m c hv; unfold Addr.add; split <;> exact this)⟩
theorem Src.tail {w : World} {A A' : Addr} {c0 k m c size : Nat} {news : List Value} (hl : news.length = m * size) (h0 : c0 = k → m = 0) (h : c0 ≠ k → ∀ (j : Nat) (u : Value), news[j]? = some u → w.cell? (A'.add j) = some u) : Src w (.slice (if c0 = k then some A else some A') m c) m size news := by
  refine ⟨hl, .inr ?_⟩
  by_cases e : c0 = k
  · rw [if_pos e]
    refine ⟨A, c, rfl, fun j u hj => ?_⟩
    rw [h0 e, Nat.zero_mul] at hl
    rw [List.eq_nil_of_length_eq_zero hl] at hj
    simp at hj
  · rw [if_neg e]; exact ⟨A', c, rfl, h e⟩
theorem add_at (b o j : Nat) : (⟨b, o, none⟩ : Addr).add j = ⟨b, o + j, none⟩ := by
  unfold Addr.add
  split
  · rename_i h; subst h; rfl
  · rfl
structure ElT (P : Program) (t e : TypeId) (size bytes : Nat) : Prop where
  ht : P.underlying t = some (.slice e)
  info : ∃ i z, P.info? e = some i ∧ i.zero = some z ∧ i.size = size ∧ i.bytes = bytes ∧ z.cells.size = size
  pos : 0 < size
theorem exec_append {t e : TypeId} {size bytes base n m : Nat} {w : World} {o : Oper} {a : Act} {v sv : Value} {xs news : List Value} (T : ElT P t e size bytes) (s x : Operand) (ho : o.op = .call { callee := .builtin .append, args := #[s, x], argTypes := #[t, t] })
    (hs : a.eval s = v) (hx : a.eval x = sv) (hown : w.ownsRow base e size v n xs) (hsrc : Src w sv m size news) (h1 : ∀ u ∈ news, u.oneCell' = true) (h63 : n + m ≤ maxLen) (hbytes : (n + m) * bytes ≤ 140737488355328) (hbase : base ≤ w.heap.size) :
    ∃ v' w', (execOp a.eval o).run P w = .ok (.value v') w' ∧ w'.ownsRow base e size v' (n + m) (xs ++ news) ∧ w.grownBy w' v.ownBlock := by
  obtain ⟨i, z, hi, hz, h2, h3, h4⟩ := T.info
  rcases hsrc with ⟨hl, ⟨rfl, rfl⟩ | ⟨ad, c, rfl, hc⟩⟩
  · have hn : news = [] := List.eq_nil_of_length_eq_zero (by simpa using hl)
    subst hn
    have hr := run_append_owned_none (P := P) (w := w) base t o.type e i size T.ht hi v n xs hown
    refine ⟨v, w, ?_, by simpa using hown, ⟨rfl, rfl, rfl, Nat.le_refl _, fun _ _ _ => rfl⟩⟩
    unfold execOp
    simp only [ho, resolve, invoke, builtin, Sem.run_bind, Sem.run_pure, Result.andThen_ok, List.map_toArray, List.map_cons, List.map_nil, hs, hx, hr]
  · obtain ⟨v', w', hr, q1, q2, _⟩ := run_append_own (P := P) w base t o.type e i z size bytes T.ht hi hz h2 h3 h4 T.pos v n xs hown ad m c news hl hc h1 h63 hbytes hbase
    refine ⟨v', w', ?_, q1, q2⟩
    unfold execOp
    simp only [ho, resolve, invoke, builtin, Sem.run_bind, Sem.run_pure, Result.andThen_ok, List.map_toArray, List.map_cons, List.map_nil, hs, hx, hr]
theorem eval_at {a : Act} {d : Nat} {v : Value} (h : d < a.tmps.size) : (a.put (some d) v).eval (.tmp d) = v := by
  simp [Act.eval, Act.put, h]
theorem eval_ne {a : Act} {d k : Nat} {v : Value} (h : k ≠ d) : (a.put (some d) v).eval (.tmp k) = a.eval (.tmp k) :=
  Act.eval_put fun d' hd => by cases hd; simpa using h
theorem put_size (a : Act) (d : Option Nat) (v : Value) : (a.put d v).tmps.size = a.tmps.size := by
  cases d <;> simp [Act.put]
structure Ins (P : Program) (md : Region.Mode) (ops : Array Oper) (n : Nat) (t e : TypeId) (listed : Array Bool) (i0 i1 i2 i3 i4 d0 d1 d2 d3 d4 k1 k2 kx : Nat) (X : Value) where
  o0 : Oper
  o1 : Oper
  o2 : Oper
  o3 : Oper
  o4 : Oper
  at0 : ops[i0]? = some o0 ∧ o0.guard = none ∧ o0.dst = some d0 ∧ i0 < n
  at1 : ops[i1]? = some o1 ∧ o1.guard = none ∧ o1.dst = some d1 ∧ i1 < n
  at2 : ops[i2]? = some o2 ∧ o2.guard = none ∧ o2.dst = some d2 ∧ i2 < n
  at3 : ops[i3]? = some o3 ∧ o3.guard = none ∧ o3.dst = some d3 ∧ i3 < n
  at4 : ops[i4]? = some o4 ∧ o4.guard = none ∧ o4.dst = some d4 ∧ i4 < n
  op1 : o1.op = .call { callee := .builtin .append, args := #[.tmp d0, .tmp k1], argTypes := #[t, t] }
  op3 : o3.op = .call { callee := .builtin .append, args := #[.tmp d1, .tmp d2], argTypes := #[t, t] }
  op4 : o4.op = .call { callee := .builtin .append, args := #[.tmp d3, .tmp k2], argTypes := #[t, t] }
  run0 : ∀ (b : Act) (w : World), (execOp b.eval o0).run P w = .ok (.value (.slice (some ⟨w.heap.size, 0, none⟩) 0 0)) (w.alloc (.cells #[] e))
  run2 : ∀ (b : Act), b.eval (.tmp kx) = X → ∀ w : World, (execOp b.eval o2).run P w = .ok (.value (.slice (some ⟨w.heap.size, 0, none⟩) 1 1)) (w.alloc (.cells X.cells e))
  ne : [d0, d1, d2, d3, d4, k1, k2, kx].Nodup
  ni : [i0, i1, i2, i3, i4].Nodup
  r : Region.ready md ops listed = [i0, i2]
  r0 : Region.ready md ops (listed.setIfInBounds i0 true) = [i1, i2]
  r2 : Region.ready md ops (listed.setIfInBounds i2 true) = [i0]
  r01 : Region.ready md ops ((listed.setIfInBounds i0 true).setIfInBounds i1 true) = [i2]
  r02 : Region.ready md ops ((listed.setIfInBounds i0 true).setIfInBounds i2 true) = [i1]
  r3 : Region.ready md ops (((listed.setIfInBounds i0 true).setIfInBounds i1 true).setIfInBounds i2 true) = [i3]
  r4 : Region.ready md ops ((((listed.setIfInBounds i0 true).setIfInBounds i1 true).setIfInBounds i2 true).setIfInBounds i3 true) = [i4]
theorem one_list {i : Nat} {p : Nat → Prop} (h : p i) : ∀ j ∈ [i], p j := fun j hj => by
  obtain rfl := List.mem_singleton.1 hj; exact h
theorem two_list {i i' : Nat} {p : Nat → Prop} (h : p i) (h' : p i') : ∀ j ∈ [i, i'], p j := fun j hj => by
  simp only [List.mem_cons, List.not_mem_nil, or_false] at hj
  rcases hj with rfl | rfl
  · exact h
  · exact h'
def Kept (W : World) : World → Prop := fun w' => ∃ p : Regrown, w' = grow (redrawn W p.d) p.os
set_option maxHeartbeats 1000000 in
theorem ins3 {md : Region.Mode} {ops : Array Oper} {n : Nat} {L : Array Bool → Act → World → Prop} {t e : TypeId} {size bytes : Nat} {listed : Array Bool} {i0 i1 i2 i3 i4 d0 d1 d2 d3 d4 k1 k2 kx : Nat}
    {X : Value} (I : Ins P md ops n t e listed i0 i1 i2 i3 i4 d0 d1 d2 d3 d4 k1 k2 kx X) (T : ElT P t e size bytes) {W : World} {a : Act} (ha : d0 < a.tmps.size ∧ d1 < a.tmps.size ∧ d2 < a.tmps.size ∧ d3 < a.tmps.size ∧ d4 < a.tmps.size)
    {S1 S2 : Value} {m1 m2 : Nat} {c1 c2 : List Value} (e1 : a.eval (.tmp k1) = S1) (e2 : a.eval (.tmp k2) = S2) (ex : a.eval (.tmp kx) = X) (s1 : Src W S1 m1 size c1) (s2 : Src W S2 m2 size c2) (hx : X.cells.size = size)
    (u1 : ∀ u ∈ c1, u.oneCell' = true) (u2 : ∀ u ∈ c2, u.oneCell' = true) (ux : ∀ u ∈ X.cells.toList, u.oneCell' = true) (hb : (m1 + 1 + m2) * bytes ≤ 140737488355328) (hm : m1 + 1 + m2 ≤ maxLen)
    (K : ∀ v0 v1 v2 v3 v4 w', w'.ownsRow W.heap.size e size v4 (m1 + 1 + m2) (c1 ++ X.cells.toList ++ c2) → Below W.heap.size W w' →
      L (((((listed.setIfInBounds i0 true).setIfInBounds i1 true).setIfInBounds i2 true).setIfInBounds i3 true).setIfInBounds i4 true) (((((a.put (some d0) v0).put (some d1) v1).put (some d2) v2).put (some d3) v3).put (some d4) v4) w') :
    anyC P md ops (Kept W) n L 5 listed a W.drew := by
  obtain ⟨h0, g0, t0, n0⟩ := I.at0
  obtain ⟨h1, g1, t1, n1⟩ := I.at1
  obtain ⟨h2, g2, t2, n2⟩ := I.at2
  obtain ⟨h3, g3, t3, n3⟩ := I.at3
  obtain ⟨h4, g4, t4, n4⟩ := I.at4
  obtain ⟨a0, a1, a2, a3, a4⟩ := ha
  have nd := I.ne
  simp only [List.nodup_cons, List.mem_cons, List.not_mem_nil, or_false, not_or, not_false_eq_true, List.nodup_nil, and_true] at nd
  obtain ⟨⟨d01, d02, d03, d04, d0k1, d0k2, d0x⟩, ⟨d12, d13, d14, d1k1, d1k2, d1x⟩, ⟨d23, d24, d2k1, d2k2, d2x⟩, ⟨d34, d3k1, d3k2, d3x⟩, _⟩ := nd
  have nn := I.ni
  simp only [List.nodup_cons, List.mem_cons, List.not_mem_nil, or_false, not_or, not_false_eq_true, List.nodup_nil, and_true] at nn
  obtain ⟨⟨i01, i02, _, _⟩, ⟨i12, _, _⟩, _⟩ := nn
  have hm1 : m1 * bytes ≤ 140737488355328 := Nat.le_trans (Nat.mul_le_mul_right _ (by omega)) hb
  have hm2 : (m1 + 1) * bytes ≤ 140737488355328 := Nat.le_trans (Nat.mul_le_mul_right _ (by omega)) hb
  have kept : ∀ {w'}, Below W.heap.size W w' → Kept W w' := fun h => regrown_of_below h
  have B0 : Below W.heap.size W W.drew := (Below.refl _ _).drew
  -- the last two, from the state in which the first three are done
  have last : ∀ (v0 v1 v2 : Value) (w : World), w.ownsRow W.heap.size e size v1 m1 c1 → Src w v2 1 size X.cells.toList → Below W.heap.size W w →
      anyC P md ops (Kept W) n L 2 (((listed.setIfInBounds i0 true).setIfInBounds i1 true).setIfInBounds i2 true) (((a.put (some d0) v0).put (some d1) v1).put (some d2) v2) w := by
    intro v0 v1 v2 w ho hs hw
    refine anyC_step _ I.r3 (by simp) (one_list ⟨n3, I.o3, h3, g3, ?_⟩)
    have E1 : (((a.put (some d0) v0).put (some d1) v1).put (some d2) v2).eval (.tmp d1) = v1 := by
      rw [eval_ne d12, eval_at (by simpa [put_size] using a1)]
    have E2 : (((a.put (some d0) v0).put (some d1) v1).put (some d2) v2).eval (.tmp d2) = v2 := eval_at (by simpa [put_size] using a2)
    obtain ⟨v3, w3, hr3, ho3, hg3⟩ := exec_append T _ _ I.op3 E1 E2 ho hs ux (by omega) hm2 hw.size
    have hw3 : Below W.heap.size W w3 := hw.grown hg3 hw.size (fun q hq => (ho.lt q hq).1)
    refine ⟨v3, w3, hr3, kept hw3, ?_⟩
    rw [t3]
    refine anyC_step _ I.r4 (by simp) (one_list ⟨n4, I.o4, h4, g4, ?_⟩)
    have E3 : ((((a.put (some d0) v0).put (some d1) v1).put (some d2) v2).put (some d3) v3).eval (.tmp d3) = v3 := eval_at (by simpa [put_size] using a3)
    have E4 : ((((a.put (some d0) v0).put (some d1) v1).put (some d2) v2).put (some d3) v3).eval (.tmp k2) = S2 := by
      rw [eval_ne (Ne.symm d3k2), eval_ne (Ne.symm d2k2), eval_ne (Ne.symm d1k2), eval_ne (Ne.symm d0k2)]; exact e2
    obtain ⟨v4, w4, hr4, ho4, hg4⟩ := exec_append T _ _ I.op4 E3 E4 ho3 (s2.below hw3) u2 hm hb hw3.size
    have hw4 : Below W.heap.size W w4 := hw3.grown hg4 hw3.size (fun q hq => (ho3.lt q hq).1)
    refine ⟨v4, w4, hr4, kept hw4, ?_⟩
    rw [t4]
    exact K v0 v1 v2 v3 v4 w4 ho4 hw4
  have src_new : ∀ w : World, Src (w.alloc (.cells X.cells e)) (.slice (some ⟨w.heap.size, 0, none⟩) 1 1) 1 size X.cells.toList := fun w => by
    refine ⟨by simp [hx], .inr ⟨_, _, rfl, fun j u hj => ?_⟩⟩
    have : X.cells[j]? = some u := by simpa using hj
    have key : ∀ i u, X.cells[i]? = some u → (w.alloc (.cells X.cells e)).cell? ⟨w.heap.size, i, none⟩ = some u := fun i u hi => by
      simp only [World.cell?, heap_alloc_new, hi]; rfl
    unfold Addr.add
    split
    · rename_i h0; subst h0; exact key 0 u this
    · show (w.alloc (.cells X.cells e)).cell? ⟨w.heap.size, 0 + j, none⟩ = some u
      rw [Nat.zero_add]; exact key j u this
  refine anyC_step _ I.r (by simp) (two_list ?_ ?_)
  · -- the empty list first
    refine ⟨n0, I.o0, h0, g0, _, _, I.run0 a W.drew, kept (B0.alloc (by simp) _), ?_⟩
    rw [t0]
    have O0 : (W.drew.alloc (.cells #[] e)).ownsRow W.heap.size e size (.slice (some ⟨W.drew.heap.size, 0, none⟩) 0 0) 0 [] := World.ownsRow_made W.drew #[] 0 (by simp) (Nat.zero_le _) (by simp)
    have BA : Below W.heap.size W (W.drew.alloc (.cells #[] e)) := B0.alloc (by simp) _
    refine anyC_step _ I.r0 (by simp) (two_list ?_ ?_)
    · -- then what stands ahead
      refine ⟨n1, I.o1, h1, g1, ?_⟩
      have E0 : (a.put (some d0) (.slice (some ⟨W.drew.heap.size, 0, none⟩) 0 0)).eval (.tmp d0) = .slice (some ⟨W.drew.heap.size, 0, none⟩) 0 0 := eval_at a0
      have E1 : (a.put (some d0) (.slice (some ⟨W.drew.heap.size, 0, none⟩) 0 0)).eval (.tmp k1) = S1 := by rw [eval_ne (Ne.symm d0k1)]; exact e1
      obtain ⟨v1, w1, hr1, ho1, hg1⟩ := exec_append T _ _ I.op1 E0 E1 O0 (s1.below BA) u1 (by omega) (by simpa using hm1) BA.size
      have hw1 : Below W.heap.size W w1 := BA.grown hg1 BA.size (fun q hq => (O0.lt q hq).1)
      refine ⟨v1, w1, hr1, kept hw1, ?_⟩
      rw [t1]
      refine anyC_step _ I.r01 (by simp) (one_list ⟨n2, I.o2, h2, g2, _, _, I.run2 _ (by rw [eval_ne (Ne.symm d1x), eval_ne (Ne.symm d0x)]; exact ex) w1, kept (hw1.alloc hw1.size _), ?_⟩)
      rw [t2]
      simp only [Nat.zero_add, List.nil_append] at ho1
      exact last _ _ _ _ (ho1.alloc _) (src_new w1) (hw1.alloc hw1.size _)
    · -- or the one that is put in
      refine ⟨n2, I.o2, h2, g2, _, _, I.run2 _ (by rw [eval_ne (Ne.symm d0x)]; exact ex) _, kept (BA.alloc BA.size _), ?_⟩
      rw [t2]
      have BB := BA.alloc BA.size (.cells X.cells e)
      refine anyC_step _ I.r02 (by simp) (one_list ⟨n1, I.o1, h1, g1, ?_⟩)
      have E0 : ((a.put (some d0) (.slice (some ⟨W.drew.heap.size, 0, none⟩) 0 0)).put (some d2) (.slice (some ⟨(W.drew.alloc (.cells #[] e)).heap.size, 0, none⟩) 1 1)).eval (.tmp d0) = .slice (some ⟨W.drew.heap.size, 0, none⟩) 0 0 := by
        rw [eval_ne d02]; exact eval_at a0
      have E1 : ((a.put (some d0) (.slice (some ⟨W.drew.heap.size, 0, none⟩) 0 0)).put (some d2) (.slice (some ⟨(W.drew.alloc (.cells #[] e)).heap.size, 0, none⟩) 1 1)).eval (.tmp k1) = S1 := by
        rw [eval_ne (Ne.symm d2k1), eval_ne (Ne.symm d0k1)]; exact e1
      obtain ⟨v1, w1, hr1, ho1, hg1⟩ := exec_append T _ _ I.op1 E0 E1 (O0.alloc _) (s1.below BB) u1 (by omega) (by simpa using hm1) BB.size
      have hw1 : Below W.heap.size W w1 := BB.grown hg1 BB.size (fun q hq => (O0.lt q hq).1)
      refine ⟨v1, w1, hr1, kept hw1, ?_⟩
      rw [t1, Array.setIfInBounds_comm _ _ (Ne.symm i12), Act.put_comm _ _ _ (fun d hd => by cases hd; simpa using d12)]
      simp only [Nat.zero_add, List.nil_append] at ho1
      exact last _ _ _ _ ho1 ((src_new _).grown hg1 (fun ad n c hv => by cases hv; simp [Value.ownBlock])) hw1
  · -- the one that is put in first
    refine ⟨n2, I.o2, h2, g2, _, _, I.run2 a ex W.drew, kept (B0.alloc (by simp) _), ?_⟩
    rw [t2]
    have BA : Below W.heap.size W (W.drew.alloc (.cells X.cells e)) := B0.alloc (by simp) _
    refine anyC_step _ I.r2 (by simp) (one_list ⟨n0, I.o0, h0, g0, _, _, I.run0 _ _, kept (BA.alloc BA.size _), ?_⟩)
    rw [t0, Array.setIfInBounds_comm _ _ (Ne.symm i02), Act.put_comm _ _ _ (fun d hd => by cases hd; simpa using d02)]
    have BB := BA.alloc BA.size (.cells #[] e)
    have O0 : ((W.drew.alloc (.cells X.cells e)).alloc (.cells #[] e)).ownsRow W.heap.size e size (.slice (some ⟨(W.drew.alloc (.cells X.cells e)).heap.size, 0, none⟩) 0 0) 0 [] := World.ownsRow_made _ #[] 0 BA.size (Nat.zero_le _) (by simp)
    have S0 : Src ((W.drew.alloc (.cells X.cells e)).alloc (.cells #[] e)) (.slice (some ⟨W.drew.heap.size, 0, none⟩) 1 1) 1 size X.cells.toList := (src_new W.drew).below ((Below.refl _ _).alloc (Nat.le_refl _) _)
    refine anyC_step _ I.r02 (by simp) (one_list ⟨n1, I.o1, h1, g1, ?_⟩)
    have E0 : ((a.put (some d0) (.slice (some ⟨(W.drew.alloc (.cells X.cells e)).heap.size, 0, none⟩) 0 0)).put (some d2) (.slice (some ⟨W.drew.heap.size, 0, none⟩) 1 1)).eval (.tmp d0) = .slice (some ⟨(W.drew.alloc (.cells X.cells e)).heap.size, 0, none⟩) 0 0 := by
      rw [eval_ne d02]; exact eval_at a0
    have E1 : ((a.put (some d0) (.slice (some ⟨(W.drew.alloc (.cells X.cells e)).heap.size, 0, none⟩) 0 0)).put (some d2) (.slice (some ⟨W.drew.heap.size, 0, none⟩) 1 1)).eval (.tmp k1) = S1 := by
      rw [eval_ne (Ne.symm d2k1), eval_ne (Ne.symm d0k1)]; exact e1
    obtain ⟨v1, w1, hr1, ho1, hg1⟩ := exec_append T _ _ I.op1 E0 E1 O0 (s1.below BB) u1 (by omega) (by simpa using hm1) BB.size
    have hw1 : Below W.heap.size W w1 := BB.grown hg1 BB.size (fun q hq => (O0.lt q hq).1)
    refine ⟨v1, w1, hr1, kept hw1, ?_⟩
    rw [t1, Array.setIfInBounds_comm _ _ (Ne.symm i12), Act.put_comm _ _ _ (fun d hd => by cases hd; simpa using d12)]
    simp only [Nat.zero_add, List.nil_append] at ho1
    exact last _ _ _ _ ho1 (S0.grown hg1 (fun ad n c hv => by cases hv; simp [Value.ownBlock])) hw1
end
end Go.Proofs.YtaejlcanccfmmaaGreatDoor

namespace Go.Proofs.YtaejlcanccfmmaaGreatDoor
open Go.RowKit
theorem less_decX : ∀ x y : List UInt8, Op.bytesLess x y = decide (x < y)
  | [], [] => by simp [Op.bytesLess]
  | _ :: _, [] => by simp [Op.bytesLess]
  | [], _ :: _ => by simp [Op.bytesLess]
  | a :: x, b :: y => by
    have ih := less_decX x y
    unfold Op.bytesLess
    rw [ih]
    by_cases h1 : a < b <;> by_cases h2 : a = b <;> by_cases h3 : x < y <;> simp [List.cons_lt_cons_iff, h1, h2, h3]
theorem ltB_iff (a b : ByteArray) : ltB a b = true ↔ a.toList < b.toList := by simp [ltB, less_decX]
theorem eqB_iff (a b : ByteArray) : eqB a b = true ↔ a = b := by
  unfold eqB
  rw [beq_iff_eq, ByteArray.toList_eq, ByteArray.toList_eq]
  constructor
  · intro h; exact ByteArray.ext (Array.toList_inj.1 h)
  · intro h; rw [h]
theorem ltB_trans {a b c : ByteArray} (h1 : ltB a b = true) (h2 : ltB b c = true) : ltB a c = true := by
  rw [ltB_iff] at *; exact List.lt_trans h1 h2
theorem ltB_irrefl (a : ByteArray) : ltB a a = false := by
  cases h : ltB a a
  · rfl
  · exact absurd ((ltB_iff _ _).1 h) (List.lt_irrefl _)
def insR : List ByteArray → ByteArray → List ByteArray
  | [], x => [x]
  | y :: l, x => bif ltB y x then y :: insR l x else bif eqB y x then y :: l else x :: y :: l
theorem insR_len : ∀ (l : List ByteArray) (x : ByteArray), (insR l x).length ≤ l.length + 1
  | [], _ => by simp [insR]
  | y :: l, x => by
    have := insR_len l x
    unfold insR
    cases ltB y x
    · cases eqB y x <;> simp
    · simpa using this
def nthB (l : List ByteArray) (i : Nat) : ByteArray := l.getD i ⟨#[]⟩
theorem own_belowR {B : Nat} {w w' : World} {e size : Nat} {v : Value} {n : Nat} {xs : List Value} (h : w.ownsRow B e size v n xs) (hb : Below w.heap.size w w') : w'.ownsRow B e size v n xs := by
  refine ⟨h.1, ?_⟩
  rcases h.2 with hn | ⟨g, cap, cur, hv, hbg, hg, rest⟩
  · exact Or.inl hn
  · exact Or.inr ⟨g, cap, cur, hv, hbg, (hb.block g (Array.getElem?_eq_some_iff.1 hg).1).trans hg, rest⟩
theorem insR_eq : ∀ (l : List ByteArray) (k : Nat) (x : ByteArray), k < l.length → (∀ j, j < k → ltB (nthB l j) x = true) → eqB (nthB l k) x = true → insR l x = l
  | [], _, _, h, _, _ => by simp at h
  | y :: l, 0, x, _, _, h => by
    have h' : eqB y x = true := h
    have : ltB y x = false := by rw [(eqB_iff _ _).1 h']; exact ltB_irrefl x
    unfold insR
    rw [this, h']; rfl
  | y :: l, k + 1, x, hk, ha, h => by
    have h0 : ltB y x = true := ha 0 (by omega)
    unfold insR
    rw [h0, cond_true, insR_eq l k x (by simpa using hk) (fun j hj => ha (j + 1) (by omega)) h]
theorem insR_new : ∀ (l : List ByteArray) (k : Nat) (x : ByteArray), k ≤ l.length → (∀ j, j < k → ltB (nthB l j) x = true) → (k < l.length → ltB (nthB l k) x = false ∧ eqB (nthB l k) x = false) → insR l x = l.take k ++ [x] ++ l.drop k
  | [], k, x, hk, _, _ => by
    have : k = 0 := by simpa using hk
    subst this; rfl
  | y :: l, 0, x, _, _, h => by
    obtain ⟨h1, h2⟩ := h (by simp)
    have h1' : ltB y x = false := h1
    have h2' : eqB y x = false := h2
    unfold insR
    rw [h1', h2']; rfl
  | y :: l, k + 1, x, hk, ha, h => by
    have h0 : ltB y x = true := ha 0 (by omega)
    unfold insR
    rw [h0, cond_true, insR_new l k x (by simpa using hk) (fun j hj => ha (j + 1) (by omega)) (fun hk' => h (by simpa using hk'))]
    rfl
theorem underS : Tryz.prog.underlying 23 = some (.slice 9) := by kernel_rfl
theorem infoS : (Tryz.prog.info? 9).map (fun i => (i.zero, i.size, i.bytes)) = some (some (.string ByteArray.empty), 1, 16) := by kernel_rfl
theorem elSX : ElT Tryz.prog 23 9 1 16 := by
  obtain ⟨i0, hi, hz0, hz1, hz2⟩ := info_parts infoS
  exact ⟨underS, ⟨i0, _, hi, hz0, hz1, hz2, rfl⟩, by decide⟩
theorem own_cells {B : Nat} {w : World} {g cap : Nat} {l : List ByteArray} (h : w.ownsRow B 9 1 (.slice (some ⟨g, 0, none⟩) l.length cap) l.length (l.map .string)) : l.length ≤ cap ∧ ∀ i, i < l.length → w.cell? ⟨g, i, none⟩ = some (.string (nthB l i)) := by
  rcases h.2 with ⟨e, _⟩ | ⟨g', cap', cur, e, hb, hg, hc, hm', hs, ht⟩
  · cases e
  · cases e
    refine ⟨hc, fun i hi => ?_⟩
    have e1 : cur.toList[i]? = (l.map Value.string)[i]? := by
      rw [← ht, Nat.mul_one, List.getElem?_take_of_lt hi]
    have e2 : cur[i]? = some (.string (nthB l i)) := by
      rw [← Array.getElem?_toList, e1]
      simp [nthB, hi]
    exact (cell_row hg _ _ e2).1
theorem nth_at {l : List ByteArray} {i : Nat} (h : i < l.length) : l[i]? = some (nthB l i) := by simp [nthB, h]
theorem src_take {w : World} {g cap n k : Nat} {l : List ByteArray} (hn : l.length = n) (hk : k ≤ n) (hc : ∀ i, i < n → w.cell? ⟨g, i, none⟩ = some (.string (nthB l i))) : Src w (.slice (some ⟨g, 0, none⟩) k cap) k 1 ((l.take k).map .string) := by
  refine ⟨by simp; omega, .inr ⟨_, _, rfl, fun j u hj => ?_⟩⟩
  rw [add_at, Nat.zero_add]
  rw [List.getElem?_map, Option.map_eq_some_iff] at hj
  obtain ⟨y, hy, rfl⟩ := hj
  have hjk : j < k := by
    have := (List.getElem?_eq_some_iff.1 hy).1
    simp at this; omega
  rw [List.getElem?_take_of_lt hjk, nth_at (by omega)] at hy
  cases hy
  exact hc j (by omega)
theorem src_drop {w : World} {g cap n k : Nat} {l : List ByteArray} (hn : l.length = n) (hk : k ≤ n) (hcap : n ≤ cap) (hc : ∀ i, i < n → w.cell? ⟨g, i, none⟩ = some (.string (nthB l i))) : Src w (.slice (if cap = k then some ⟨g, 0, none⟩ else some ⟨g, k, none⟩) (n - k) (cap - k)) (n - k) 1 ((l.drop k).map .string) := by
  refine Src.tail (by simp; omega) (fun h => by omega) (fun _ j u hj => ?_)
  rw [add_at]
  rw [List.getElem?_map, Option.map_eq_some_iff] at hj
  obtain ⟨y, hy, rfl⟩ := hj
  rw [List.getElem?_drop] at hy
  have hjk : k + j < l.length := (List.getElem?_eq_some_iff.1 hy).1
  rw [nth_at hjk] at hy
  cases hy
  exact hc (k + j) (by omega)
end Go.Proofs.YtaejlcanccfmmaaGreatDoor
