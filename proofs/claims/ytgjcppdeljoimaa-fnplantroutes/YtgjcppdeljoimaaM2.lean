/-
  Several texts in one.
-/
import Derived.Test.YtgjcppdeljoimaaM1
import Derived.Laws.OwnMore
import Derived.Lib.SmallJoins
import Derived.Maps.AppendAt
namespace Go.Proofs.Ytgjcppdeljoimaa
open Go.RowKit Go.Sort
section
variable {P : Program}
def Src (w : World) (v : Value) (m size : Nat) (news : List Value) : Prop :=
  news.length = m * size ∧ ((v = .slice none 0 0 ∧ m = 0) ∨ ∃ ad c, v = .slice (some ad) m c ∧ ∀ (j : Nat) (u : Value), news[j]? = some u → w.cell? (ad.add j) = some u)
theorem Src.below {w w' : World} {v : Value} {m size : Nat} {news : List Value} (h : Src w v m size news) (hb : Below w.heap.size w w') : Src w' v m size news := by
  refine ⟨h.1, ?_⟩
  rcases h.2 with h | ⟨ad, c, hv, hc⟩
  · exact .inl h
  · exact .inr ⟨ad, c, hv, fun j u hj => (hb.cell (World.block_lt_of_cell? w _ (hc j u hj))).trans (hc j u hj)⟩
theorem Src.grown {w w' : World} {v : Value} {m size : Nat} {news : List Value} {row : Option Nat} (h : Src w v m size news) (hg : w.grownBy w' row) (hne : ∀ ad n c, v = .slice (some ad) n c → some ad.block ≠ row) : Src w' v m size news := by
  refine ⟨h.1, ?_⟩
  rcases h.2 with h | ⟨ad, c, hv, hc⟩
  · exact .inl h
  · exact .inr ⟨ad, c, hv, fun j u hj => hg.cell (hc j u hj) (by have := hne ad m c hv; unfold Addr.add; split <;> exact this)⟩
theorem Src.tail {w : World} {A A' : Addr} {c0 k m c size : Nat} {news : List Value} (hl : news.length = m * size) (h0 : c0 = k → m = 0) (h : c0 ≠ k → ∀ (j : Nat) (u : Value), news[j]? = some u → w.cell? (A'.add j) = some u) : Src w (.slice (if c0 = k then some A else some A') m c) m size news := by
  refine ⟨hl, .inr ?_⟩
  by_cases e : c0 = k
  · rw [if_pos e]
    refine ⟨A, c, rfl, fun j u hj => ?_⟩
    rw [h0 e, Nat.zero_mul] at hl
    rw [List.eq_nil_of_length_eq_zero hl] at hj
    simp at hj
  · rw [if_neg e]; exact ⟨A', c, rfl, h e⟩
theorem add_at (b o j : Nat) : (⟨b, o, none⟩ : Addr).add j = ⟨b, o + j, none⟩ := by
  unfold Addr.add
  split
  · rename_i h; subst h; rfl
  · rfl
structure ElT (P : Program) (t e : TypeId) (size bytes : Nat) : Prop where
  ht : P.underlying t = some (.slice e)
  info : ∃ i z, P.info? e = some i ∧ i.zero = some z ∧ i.size = size ∧ i.bytes = bytes ∧ z.cells.size = size
  pos : 0 < size
theorem exec_append {t e : TypeId} {size bytes base n m : Nat} {w : World} {o : Oper} {a : Act} {v sv : Value} {xs news : List Value} (T : ElT P t e size bytes) (s x : Operand) (ho : o.op = .call { callee := .builtin .append, args := #[s, x], argTypes := #[t, t] })
    (hs : a.eval s = v) (hx : a.eval x = sv) (hown : w.ownsRow base e size v n xs) (hsrc : Src w sv m size news) (h1 : ∀ u ∈ news, u.oneCell' = true) (h63 : n + m ≤ maxLen) (hbytes : (n + m) * bytes ≤ 140737488355328) (hbase : base ≤ w.heap.size) :
    ∃ v' w', (execOp a.eval o).run P w = .ok (.value v') w' ∧ w'.ownsRow base e size v' (n + m) (xs ++ news) ∧ w.grownBy w' v.ownBlock := by
  obtain ⟨i, z, hi, hz, h2, h3, h4⟩ := T.info
  rcases hsrc with ⟨hl, ⟨rfl, rfl⟩ | ⟨ad, c, rfl, hc⟩⟩
  · have hn : news = [] := List.eq_nil_of_length_eq_zero (by simpa using hl)
    subst hn
    have hr := run_append_owned_none (P := P) (w := w) base t o.type e i size T.ht hi v n xs hown
    refine ⟨v, w, ?_, by simpa using hown, ⟨rfl, rfl, rfl, Nat.le_refl _, fun _ _ _ => rfl⟩⟩
    unfold execOp
    simp only [ho, resolve, invoke, builtin, Sem.run_bind, Sem.run_pure, Result.andThen_ok, List.map_toArray, List.map_cons, List.map_nil, hs, hx, hr]
  · obtain ⟨v', w', hr, q1, q2, _⟩ := run_append_own (P := P) w base t o.type e i z size bytes T.ht hi hz h2 h3 h4 T.pos v n xs hown ad m c news hl hc h1 h63 hbytes hbase
    refine ⟨v', w', ?_, q1, q2⟩
    unfold execOp
    simp only [ho, resolve, invoke, builtin, Sem.run_bind, Sem.run_pure, Result.andThen_ok, List.map_toArray, List.map_cons, List.map_nil, hs, hx, hr]
theorem eval_at {a : Act} {d : Nat} {v : Value} (h : d < a.tmps.size) : (a.put (some d) v).eval (.tmp d) = v := by
  simp [Act.eval, Act.put, h]
theorem eval_ne {a : Act} {d k : Nat} {v : Value} (h : k ≠ d) : (a.put (some d) v).eval (.tmp k) = a.eval (.tmp k) :=
  Act.eval_put fun d' hd => by cases hd; simpa using h
theorem put_size (a : Act) (d : Option Nat) (v : Value) : (a.put d v).tmps.size = a.tmps.size := by
  cases d <;> simp [Act.put]
structure Ins (P : Program) (md : Region.Mode) (ops : Array Oper) (n : Nat) (t e : TypeId) (listed : Array Bool) (i0 i1 i2 i3 i4 d0 d1 d2 d3 d4 k1 k2 kx : Nat) (X : Value) where
  o0 : Oper
  o1 : Oper
  o2 : Oper
  o3 : Oper
  o4 : Oper
  at0 : ops[i0]? = some o0 ∧ o0.guard = none ∧ o0.dst = some d0 ∧ i0 < n
  at1 : ops[i1]? = some o1 ∧ o1.guard = none ∧ o1.dst = some d1 ∧ i1 < n
  at2 : ops[i2]? = some o2 ∧ o2.guard = none ∧ o2.dst = some d2 ∧ i2 < n
  at3 : ops[i3]? = some o3 ∧ o3.guard = none ∧ o3.dst = some d3 ∧ i3 < n
  at4 : ops[i4]? = some o4 ∧ o4.guard = none ∧ o4.dst = some d4 ∧ i4 < n
  op1 : o1.op = .call { callee := .builtin .append, args := #[.tmp d0, .tmp k1], argTypes := #[t, t] }
  op3 : o3.op = .call { callee := .builtin .append, args := #[.tmp d1, .tmp d2], argTypes := #[t, t] }
  op4 : o4.op = .call { callee := .builtin .append, args := #[.tmp d3, .tmp k2], argTypes := #[t, t] }
  run0 : ∀ (b : Act) (w : World), (execOp b.eval o0).run P w = .ok (.value (.slice (some ⟨w.heap.size, 0, none⟩) 0 0)) (w.alloc (.cells #[] e))
  run2 : ∀ (b : Act), b.eval (.tmp kx) = X → ∀ w : World, (execOp b.eval o2).run P w = .ok (.value (.slice (some ⟨w.heap.size, 0, none⟩) 1 1)) (w.alloc (.cells X.cells e))
  ne : [d0, d1, d2, d3, d4, k1, k2, kx].Nodup
  ni : [i0, i1, i2, i3, i4].Nodup
  r : Region.ready md ops listed = [i0, i2]
  r0 : Region.ready md ops (listed.setIfInBounds i0 true) = [i1, i2]
  r2 : Region.ready md ops (listed.setIfInBounds i2 true) = [i0]
  r01 : Region.ready md ops ((listed.setIfInBounds i0 true).setIfInBounds i1 true) = [i2]
  r02 : Region.ready md ops ((listed.setIfInBounds i0 true).setIfInBounds i2 true) = [i1]
  r3 : Region.ready md ops (((listed.setIfInBounds i0 true).setIfInBounds i1 true).setIfInBounds i2 true) = [i3]
  r4 : Region.ready md ops ((((listed.setIfInBounds i0 true).setIfInBounds i1 true).setIfInBounds i2 true).setIfInBounds i3 true) = [i4]
theorem one_list {i : Nat} {p : Nat → Prop} (h : p i) : ∀ j ∈ [i], p j := fun j hj => by
  obtain rfl := List.mem_singleton.1 hj; exact h
theorem two_list {i i' : Nat} {p : Nat → Prop} (h : p i) (h' : p i') : ∀ j ∈ [i, i'], p j := fun j hj => by
  simp only [List.mem_cons, List.not_mem_nil, or_false] at hj
  rcases hj with rfl | rfl
  · exact h
  · exact h'
theorem call2 {md : Region.Mode} {ops : Array Oper} {C : World → Prop} {n : Nat} {L : Array Bool → Act → World → Prop} {listed : Array Bool} {i e1 e2 dc x1 x2 : Nat} {oc o1 o2 : Oper} {a : Act} {w : World} {fn : FuncId} {args : Array Value} {Post : Value → Value → World → Prop}
    (hc : ops[i]? = some oc ∧ oc.guard = none ∧ oc.dst = some dc ∧ i < n) (h1 : ops[e1]? = some o1 ∧ o1.guard = none ∧ o1.dst = some x1 ∧ e1 < n) (h2 : ops[e2]? = some o2 ∧ o2.guard = none ∧ o2.dst = some x2 ∧ e2 < n)
    (ne : dc ≠ x1 ∧ dc ≠ x2 ∧ x1 ≠ x2 ∧ e1 ≠ e2) (hd : dc < a.tmps.size)
    (r0 : Region.ready md ops listed = [i]) (r1 : Region.ready md ops (listed.setIfInBounds i true) = [e1, e2]) (r2 : Region.ready md ops ((listed.setIfInBounds i true).setIfInBounds e1 true) = [e2]) (r3 : Region.ready md ops ((listed.setIfInBounds i true).setIfInBounds e2 true) = [e1])
    (run : (execOp a.eval oc).run P w = .ok (.enter fn args) w) (con : Calls P fn args w fun e w' => ∃ p q, e = .returned (.tuple #[p, q]) ∧ C w' ∧ Post p q w')
    (ex1 : ∀ (b : Act) (p q : Value) (u : World), b.eval (.tmp dc) = .tuple #[p, q] → (execOp b.eval o1).run P u = .ok (.value p) u) (ex2 : ∀ (b : Act) (p q : Value) (u : World), b.eval (.tmp dc) = .tuple #[p, q] → (execOp b.eval o2).run P u = .ok (.value q) u)
    (K : ∀ p q w', Post p q w' → C w' → L (((listed.setIfInBounds i true).setIfInBounds e1 true).setIfInBounds e2 true) (((a.put (some dc) (.tuple #[p, q])).put (some x1) p).put (some x2) q) w') :
    anyC P md ops C n L 3 listed a w := by
  obtain ⟨hc1, hc2, hc3, hc4⟩ := hc
  obtain ⟨h11, h12, h13, h14⟩ := h1
  obtain ⟨h21, h22, h23, h24⟩ := h2
  obtain ⟨n1, n2, n3, n4⟩ := ne
  refine anyC_call i r0 hc4 ⟨oc, hc1, hc2, fn, args, run, con.mono fun e w' ⟨p, q, he, hC, hp⟩ => ⟨_, he, hC, ?_⟩⟩
  rw [hc3]
  have E0 : (a.put (some dc) (.tuple #[p, q])).eval (.tmp dc) = .tuple #[p, q] := eval_at hd
  refine anyC_step _ r1 (by simp) (two_list ⟨h14, o1, h11, h12, p, w', ex1 _ p q w' E0, hC, ?_⟩ ⟨h24, o2, h21, h22, q, w', ex2 _ p q w' E0, hC, ?_⟩)
  · rw [h13]
    refine anyC_step _ r2 (by simp) (one_list ⟨h24, o2, h21, h22, q, w', ex2 _ p q w' (by rw [eval_ne n1]; exact E0), hC, ?_⟩)
    rw [h23]; exact K p q w' hp hC
  · rw [h23]
    refine anyC_step _ r3 (by simp) (one_list ⟨h14, o1, h11, h12, p, w', ex1 _ p q w' (by rw [eval_ne n2]; exact E0), hC, ?_⟩)
    rw [h13, Array.setIfInBounds_comm _ _ (Ne.symm n4), Act.put_comm _ _ _ (fun d hd => by cases hd; simpa using n3)]
    exact K p q w' hp hC
def Kept (W : World) : World → Prop := fun w' => ∃ p : Regrown, w' = grow (redrawn W p.d) p.os
set_option maxHeartbeats 1000000 in
theorem ins3 {md : Region.Mode} {ops : Array Oper} {n : Nat} {L : Array Bool → Act → World → Prop} {t e : TypeId} {size bytes : Nat} {listed : Array Bool} {i0 i1 i2 i3 i4 d0 d1 d2 d3 d4 k1 k2 kx : Nat}
    {X : Value} (I : Ins P md ops n t e listed i0 i1 i2 i3 i4 d0 d1 d2 d3 d4 k1 k2 kx X) (T : ElT P t e size bytes) {W : World} {a : Act} (ha : d0 < a.tmps.size ∧ d1 < a.tmps.size ∧ d2 < a.tmps.size ∧ d3 < a.tmps.size ∧ d4 < a.tmps.size)
    {S1 S2 : Value} {m1 m2 : Nat} {c1 c2 : List Value} (e1 : a.eval (.tmp k1) = S1) (e2 : a.eval (.tmp k2) = S2) (ex : a.eval (.tmp kx) = X) (s1 : Src W S1 m1 size c1) (s2 : Src W S2 m2 size c2) (hx : X.cells.size = size)
    (u1 : ∀ u ∈ c1, u.oneCell' = true) (u2 : ∀ u ∈ c2, u.oneCell' = true) (ux : ∀ u ∈ X.cells.toList, u.oneCell' = true) (hb : (m1 + 1 + m2) * bytes ≤ 140737488355328) (hm : m1 + 1 + m2 ≤ maxLen)
    (K : ∀ v0 v1 v2 v3 v4 w', w'.ownsRow W.heap.size e size v4 (m1 + 1 + m2) (c1 ++ X.cells.toList ++ c2) → Below W.heap.size W w' →
      L (((((listed.setIfInBounds i0 true).setIfInBounds i1 true).setIfInBounds i2 true).setIfInBounds i3 true).setIfInBounds i4 true) (((((a.put (some d0) v0).put (some d1) v1).put (some d2) v2).put (some d3) v3).put (some d4) v4) w') :
    anyC P md ops (Kept W) n L 5 listed a W.drew := by
  obtain ⟨h0, g0, t0, n0⟩ := I.at0
  obtain ⟨h1, g1, t1, n1⟩ := I.at1
  obtain ⟨h2, g2, t2, n2⟩ := I.at2
  obtain ⟨h3, g3, t3, n3⟩ := I.at3
  obtain ⟨h4, g4, t4, n4⟩ := I.at4
  obtain ⟨a0, a1, a2, a3, a4⟩ := ha
  have nd := I.ne
  simp only [List.nodup_cons, List.mem_cons, List.not_mem_nil, or_false, not_or, not_false_eq_true, List.nodup_nil, and_true] at nd
  obtain ⟨⟨d01, d02, d03, d04, d0k1, d0k2, d0x⟩, ⟨d12, d13, d14, d1k1, d1k2, d1x⟩, ⟨d23, d24, d2k1, d2k2, d2x⟩, ⟨d34, d3k1, d3k2, d3x⟩, _⟩ := nd
  have nn := I.ni
  simp only [List.nodup_cons, List.mem_cons, List.not_mem_nil, or_false, not_or, not_false_eq_true, List.nodup_nil, and_true] at nn
  obtain ⟨⟨i01, i02, _, _⟩, ⟨i12, _, _⟩, _⟩ := nn
  have hm1 : m1 * bytes ≤ 140737488355328 := Nat.le_trans (Nat.mul_le_mul_right _ (by omega)) hb
  have hm2 : (m1 + 1) * bytes ≤ 140737488355328 := Nat.le_trans (Nat.mul_le_mul_right _ (by omega)) hb
  have kept : ∀ {w'}, Below W.heap.size W w' → Kept W w' := fun h => regrown_of_below h
  have B0 : Below W.heap.size W W.drew := (Below.refl _ _).drew
  -- the last two, from the state in which the first three are done
  have last : ∀ (v0 v1 v2 : Value) (w : World), w.ownsRow W.heap.size e size v1 m1 c1 → Src w v2 1 size X.cells.toList → Below W.heap.size W w →
      anyC P md ops (Kept W) n L 2 (((listed.setIfInBounds i0 true).setIfInBounds i1 true).setIfInBounds i2 true) (((a.put (some d0) v0).put (some d1) v1).put (some d2) v2) w := by
    intro v0 v1 v2 w ho hs hw
    refine anyC_step _ I.r3 (by simp) (one_list ⟨n3, I.o3, h3, g3, ?_⟩)
    have E1 : (((a.put (some d0) v0).put (some d1) v1).put (some d2) v2).eval (.tmp d1) = v1 := by
      rw [eval_ne d12, eval_at (by simpa [put_size] using a1)]
    have E2 : (((a.put (some d0) v0).put (some d1) v1).put (some d2) v2).eval (.tmp d2) = v2 := eval_at (by simpa [put_size] using a2)
    obtain ⟨v3, w3, hr3, ho3, hg3⟩ := exec_append T _ _ I.op3 E1 E2 ho hs ux (by omega) hm2 hw.size
    have hw3 : Below W.heap.size W w3 := hw.grown hg3 hw.size (fun q hq => (ho.lt q hq).1)
    refine ⟨v3, w3, hr3, kept hw3, ?_⟩
    rw [t3]
    refine anyC_step _ I.r4 (by simp) (one_list ⟨n4, I.o4, h4, g4, ?_⟩)
    have E3 : ((((a.put (some d0) v0).put (some d1) v1).put (some d2) v2).put (some d3) v3).eval (.tmp d3) = v3 := eval_at (by simpa [put_size] using a3)
    have E4 : ((((a.put (some d0) v0).put (some d1) v1).put (some d2) v2).put (some d3) v3).eval (.tmp k2) = S2 := by
      rw [eval_ne (Ne.symm d3k2), eval_ne (Ne.symm d2k2), eval_ne (Ne.symm d1k2), eval_ne (Ne.symm d0k2)]; exact e2
    obtain ⟨v4, w4, hr4, ho4, hg4⟩ := exec_append T _ _ I.op4 E3 E4 ho3 (s2.below hw3) u2 hm hb hw3.size
    have hw4 : Below W.heap.size W w4 := hw3.grown hg4 hw3.size (fun q hq => (ho3.lt q hq).1)
    refine ⟨v4, w4, hr4, kept hw4, ?_⟩
    rw [t4]
    exact K v0 v1 v2 v3 v4 w4 ho4 hw4
  have src_new : ∀ w : World, Src (w.alloc (.cells X.cells e)) (.slice (some ⟨w.heap.size, 0, none⟩) 1 1) 1 size X.cells.toList := fun w => by
    refine ⟨by simp [hx], .inr ⟨_, _, rfl, fun j u hj => ?_⟩⟩
    have : X.cells[j]? = some u := by simpa using hj
    have key : ∀ i u, X.cells[i]? = some u → (w.alloc (.cells X.cells e)).cell? ⟨w.heap.size, i, none⟩ = some u := fun i u hi => by
      simp only [World.cell?, heap_alloc_new, hi]; rfl
    unfold Addr.add
    split
    · rename_i h0; subst h0; exact key 0 u this
    · show (w.alloc (.cells X.cells e)).cell? ⟨w.heap.size, 0 + j, none⟩ = some u
      rw [Nat.zero_add]; exact key j u this
  refine anyC_step _ I.r (by simp) (two_list ?_ ?_)
  · -- the empty list first
    refine ⟨n0, I.o0, h0, g0, _, _, I.run0 a W.drew, kept (B0.alloc (by simp) _), ?_⟩
    rw [t0]
    have O0 : (W.drew.alloc (.cells #[] e)).ownsRow W.heap.size e size (.slice (some ⟨W.drew.heap.size, 0, none⟩) 0 0) 0 [] := World.ownsRow_made W.drew #[] 0 (by simp) (Nat.zero_le _) (by simp)
    have BA : Below W.heap.size W (W.drew.alloc (.cells #[] e)) := B0.alloc (by simp) _
    refine anyC_step _ I.r0 (by simp) (two_list ?_ ?_)
    · -- then what stands ahead
      refine ⟨n1, I.o1, h1, g1, ?_⟩
      have E0 : (a.put (some d0) (.slice (some ⟨W.drew.heap.size, 0, none⟩) 0 0)).eval (.tmp d0) = .slice (some ⟨W.drew.heap.size, 0, none⟩) 0 0 := eval_at a0
      have E1 : (a.put (some d0) (.slice (some ⟨W.drew.heap.size, 0, none⟩) 0 0)).eval (.tmp k1) = S1 := by rw [eval_ne (Ne.symm d0k1)]; exact e1
      obtain ⟨v1, w1, hr1, ho1, hg1⟩ := exec_append T _ _ I.op1 E0 E1 O0 (s1.below BA) u1 (by omega) (by simpa using hm1) BA.size
      have hw1 : Below W.heap.size W w1 := BA.grown hg1 BA.size (fun q hq => (O0.lt q hq).1)
      refine ⟨v1, w1, hr1, kept hw1, ?_⟩
      rw [t1]
      refine anyC_step _ I.r01 (by simp) (one_list ⟨n2, I.o2, h2, g2, _, _, I.run2 _ (by rw [eval_ne (Ne.symm d1x), eval_ne (Ne.symm d0x)]; exact ex) w1, kept (hw1.alloc hw1.size _), ?_⟩)
      rw [t2]
      simp only [Nat.zero_add, List.nil_append] at ho1
      exact last _ _ _ _ (ho1.alloc _) (src_new w1) (hw1.alloc hw1.size _)
    · -- or the one that is put in
      refine ⟨n2, I.o2, h2, g2, _, _, I.run2 _ (by rw [eval_ne (Ne.symm d0x)]; exact ex) _, kept (BA.alloc BA.size _), ?_⟩
      rw [t2]
      have BB := BA.alloc BA.size (.cells X.cells e)
      refine anyC_step _ I.r02 (by simp) (one_list ⟨n1, I.o1, h1, g1, ?_⟩)
      have E0 : ((a.put (some d0) (.slice (some ⟨W.drew.heap.size, 0, none⟩) 0 0)).put (some d2) (.slice (some ⟨(W.drew.alloc (.cells #[] e)).heap.size, 0, none⟩) 1 1)).eval (.tmp d0) = .slice (some ⟨W.drew.heap.size, 0, none⟩) 0 0 := by
        rw [eval_ne d02]; exact eval_at a0
      have E1 : ((a.put (some d0) (.slice (some ⟨W.drew.heap.size, 0, none⟩) 0 0)).put (some d2) (.slice (some ⟨(W.drew.alloc (.cells #[] e)).heap.size, 0, none⟩) 1 1)).eval (.tmp k1) = S1 := by
        rw [eval_ne (Ne.symm d2k1), eval_ne (Ne.symm d0k1)]; exact e1
      obtain ⟨v1, w1, hr1, ho1, hg1⟩ := exec_append T _ _ I.op1 E0 E1 (O0.alloc _) (s1.below BB) u1 (by omega) (by simpa using hm1) BB.size
      have hw1 : Below W.heap.size W w1 := BB.grown hg1 BB.size (fun q hq => (O0.lt q hq).1)
      refine ⟨v1, w1, hr1, kept hw1, ?_⟩
      rw [t1, Array.setIfInBounds_comm _ _ (Ne.symm i12), Act.put_comm _ _ _ (fun d hd => by cases hd; simpa using d12)]
      simp only [Nat.zero_add, List.nil_append] at ho1
      exact last _ _ _ _ ho1 ((src_new _).grown hg1 (fun ad n c hv => by cases hv; simp [Value.ownBlock])) hw1
  · -- the one that is put in first
    refine ⟨n2, I.o2, h2, g2, _, _, I.run2 a ex W.drew, kept (B0.alloc (by simp) _), ?_⟩
    rw [t2]
    have BA : Below W.heap.size W (W.drew.alloc (.cells X.cells e)) := B0.alloc (by simp) _
    refine anyC_step _ I.r2 (by simp) (one_list ⟨n0, I.o0, h0, g0, _, _, I.run0 _ _, kept (BA.alloc BA.size _), ?_⟩)
    rw [t0, Array.setIfInBounds_comm _ _ (Ne.symm i02), Act.put_comm _ _ _ (fun d hd => by cases hd; simpa using d02)]
    have BB := BA.alloc BA.size (.cells #[] e)
    have O0 : ((W.drew.alloc (.cells X.cells e)).alloc (.cells #[] e)).ownsRow W.heap.size e size (.slice (some ⟨(W.drew.alloc (.cells X.cells e)).heap.size, 0, none⟩) 0 0) 0 [] := World.ownsRow_made _ #[] 0 BA.size (Nat.zero_le _) (by simp)
    have S0 : Src ((W.drew.alloc (.cells X.cells e)).alloc (.cells #[] e)) (.slice (some ⟨W.drew.heap.size, 0, none⟩) 1 1) 1 size X.cells.toList := (src_new W.drew).below ((Below.refl _ _).alloc (Nat.le_refl _) _)
    refine anyC_step _ I.r02 (by simp) (one_list ⟨n1, I.o1, h1, g1, ?_⟩)
    have E0 : ((a.put (some d0) (.slice (some ⟨(W.drew.alloc (.cells X.cells e)).heap.size, 0, none⟩) 0 0)).put (some d2) (.slice (some ⟨W.drew.heap.size, 0, none⟩) 1 1)).eval (.tmp d0) = .slice (some ⟨(W.drew.alloc (.cells X.cells e)).heap.size, 0, none⟩) 0 0 := by
      rw [eval_ne d02]; exact eval_at a0
    have E1 : ((a.put (some d0) (.slice (some ⟨(W.drew.alloc (.cells X.cells e)).heap.size, 0, none⟩) 0 0)).put (some d2) (.slice (some ⟨W.drew.heap.size, 0, none⟩) 1 1)).eval (.tmp k1) = S1 := by
      rw [eval_ne (Ne.symm d2k1), eval_ne (Ne.symm d0k1)]; exact e1
    obtain ⟨v1, w1, hr1, ho1, hg1⟩ := exec_append T _ _ I.op1 E0 E1 O0 (s1.below BB) u1 (by omega) (by simpa using hm1) BB.size
    have hw1 : Below W.heap.size W w1 := BB.grown hg1 BB.size (fun q hq => (O0.lt q hq).1)
    refine ⟨v1, w1, hr1, kept hw1, ?_⟩
    rw [t1, Array.setIfInBounds_comm _ _ (Ne.symm i12), Act.put_comm _ _ _ (fun d hd => by cases hd; simpa using d12)]
    simp only [Nat.zero_add, List.nil_append] at ho1
    exact last _ _ _ _ ho1 (S0.grown hg1 (fun ad n c hv => by cases hv; simp [Value.ownBlock])) hw1
end
end Go.Proofs.Ytgjcppdeljoimaa

namespace Go.Proofs.Ytgjcppdeljoimaa
open Go.RowKit
section
variable {α : Type}
def enc (k : Nat) (e : α → Nat → Value) (l : List α) : List Value := l.flatMap fun a => (List.range k).map (e a)
theorem enc_cons (k : Nat) (e : α → Nat → Value) (a : α) (l : List α) : enc k e (a :: l) = (List.range k).map (e a) ++ enc k e l := by simp [enc]
theorem enc_append (k : Nat) (e : α → Nat → Value) (l m : List α) : enc k e (l ++ m) = enc k e l ++ enc k e m := by simp [enc]
theorem enc_len (k : Nat) (e : α → Nat → Value) : ∀ l : List α, (enc k e l).length = l.length * k
  | [] => by simp [enc]
  | a :: l => by rw [enc_cons, List.length_append, enc_len k e l]; simp [Nat.add_mul]; omega
theorem enc_at (k : Nat) (e : α → Nat → Value) : ∀ (l : List α) (i : Nat) (h : i < l.length) (j : Nat), j < k → (enc k e l)[i * k + j]? = some (e l[i] j)
  | [], i, h, _, _ => absurd h (Nat.not_lt_zero _)
  | a :: l, 0, h, j, hj => by
    rw [enc_cons, Nat.zero_mul, Nat.zero_add, List.getElem?_append_left (by simpa using hj)]
    simp [hj]
  | a :: l, i + 1, h, j, hj => by
    rw [enc_cons, List.getElem?_append_right (by simp [Nat.add_mul]; omega)]
    have e1 : (i + 1) * k + j - ((List.range k).map (e a)).length = i * k + j := by simp [Nat.add_mul]; omega
    rw [e1, enc_at k e l i (by simpa using h) j hj]
    simp
theorem enc_take (k : Nat) (e : α → Nat → Value) : ∀ (l : List α) (i : Nat), (enc k e l).take (i * k) = enc k e (l.take i)
  | [], i => by simp [enc]
  | a :: l, 0 => by simp [enc]
  | a :: l, i + 1 => by
    rw [enc_cons, List.take_succ_cons, enc_cons, List.take_append]
    have e1 : (i + 1) * k - ((List.range k).map (e a)).length = i * k := by simp [Nat.add_mul]
    rw [e1, enc_take k e l i, List.take_of_length_le (by simp [Nat.add_mul])]
theorem enc_drop (k : Nat) (e : α → Nat → Value) : ∀ (l : List α) (i : Nat), (enc k e l).drop (i * k) = enc k e (l.drop i)
  | [], i => by simp [enc]
  | a :: l, 0 => by simp [enc]
  | a :: l, i + 1 => by
    rw [enc_cons, List.drop_succ_cons, List.drop_append]
    have e1 : (i + 1) * k - ((List.range k).map (e a)).length = i * k := by simp [Nat.add_mul]
    rw [e1, enc_drop k e l i, List.drop_of_length_le (by simp [Nat.add_mul]), List.nil_append]
theorem enc_mem {k : Nat} {e : α → Nat → Value} {l : List α} {u : Value} (h : u ∈ enc k e l) : ∃ a ∈ l, ∃ j, j < k ∧ u = e a j := by
  simp only [enc, List.mem_flatMap, List.mem_map, List.mem_range] at h
  obtain ⟨a, ha, j, hj, rfl⟩ := h
  exact ⟨a, ha, j, hj, rfl⟩
theorem enc_set (k : Nat) (e : α → Nat → Value) : ∀ (l : List α) (i : Nat) (h : i < l.length) (j : Nat), j < k → ∀ (u : Value) (a' : α), (∀ q, q < k → e a' q = if q = j then u else e l[i] q) → (enc k e l).set (i * k + j) u = enc k e (l.set i a')
  | [], i, h, _, _, _, _, _ => absurd h (Nat.not_lt_zero _)
  | a :: l, 0, h, j, hj, u, a', he => by
    rw [List.set_cons_zero, enc_cons, enc_cons, Nat.zero_mul, Nat.zero_add, List.set_append_left _ _ (by simpa using hj)]
    congr 1
    apply List.ext_getElem
    · simp
    · intro q h1 h2
      have hq : q < k := by simpa using h2
      simp only [List.getElem_set, List.getElem_map, List.getElem_range]
      rw [he q hq]
      by_cases e1 : j = q
      · rw [if_pos e1, if_pos e1.symm]
      · rw [if_neg e1, if_neg (fun h => e1 h.symm)]; rfl
  | a :: l, i + 1, h, j, hj, u, a', he => by
    rw [List.set_cons_succ, enc_cons, enc_cons, List.set_append_right _ _ (by simp [Nat.add_mul]; omega)]
    have e1 : (i + 1) * k + j - ((List.range k).map (e a)).length = i * k + j := by simp [Nat.add_mul]; omega
    rw [e1, enc_set k e l i (by simpa using h) j hj u a' (by simpa using he)]
abbrev Row (w : World) (B : Nat) (t : TypeId) (k : Nat) (e : α → Nat → Value) (v : Value) (l : List α) : Prop := w.ownsRow B t k v l.length (enc k e l)
theorem Row.nil (w : World) (B : Nat) (t : TypeId) (k : Nat) (e : α → Nat → Value) : Row w B t k e (.slice none 0 0) [] := World.ownsRow_nil w B t k
theorem Row.made (w : World) {B : Nat} (t : TypeId) (k : Nat) (e : α → Nat → Value) (hB : B ≤ w.heap.size) : Row (w.alloc (.cells #[] t)) B t k e (.slice (some ⟨w.heap.size, 0, none⟩) 0 0) [] := World.ownsRow_made w #[] 0 hB (Nat.zero_le _) (by simp)
theorem Row.low {w : World} {B B' : Nat} {t : TypeId} {k : Nat} {e : α → Nat → Value} {v : Value} {l : List α} (h : Row w B t k e v l) (hB : B' ≤ B) : Row w B' t k e v l := Go.Joins.ownsRow_le h hB
theorem Row.len {w : World} {B : Nat} {t : TypeId} {k : Nat} {e : α → Nat → Value} {v : Value} {l : List α} (h : Row w B t k e v l) : l.length ≤ maxLen := by
  rcases h.2 with ⟨_, hn⟩ | ⟨g, cap, cur, _, _, _, hc, hm, _⟩
  · omega
  · omega
theorem Row.block {w w' : World} {B : Nat} {t : TypeId} {k : Nat} {e : α → Nat → Value} {v : Value} {l : List α} (h : Row w B t k e v l) (hb : ∀ g, v.ownBlock = some g → w'.heap[g]? = w.heap[g]?) : Row w' B t k e v l := by
  refine ⟨h.1, ?_⟩
  rcases h.2 with hn | ⟨g, cap, cur, hv, hbg, hg, rest⟩
  · exact Or.inl hn
  · exact Or.inr ⟨g, cap, cur, hv, hbg, (hb g (by rw [hv]; rfl)).trans hg, rest⟩
theorem Row.form {w : World} {B : Nat} {t : TypeId} {k : Nat} {e : α → Nat → Value} {v : Value} {l : List α} (h : Row w B t k e v l) : ∃ oa cap, v = .slice oa l.length cap := by
  rcases h.2 with ⟨hv, hn⟩ | ⟨g, cap, cur, hv, _⟩
  · exact ⟨none, 0, by rw [hv, hn]⟩
  · exact ⟨_, cap, hv⟩
theorem Row.below {w w' : World} {B : Nat} {t : TypeId} {k : Nat} {e : α → Nat → Value} {v : Value} {l : List α} (h : Row w B t k e v l) (hb : Below w.heap.size w w') : Row w' B t k e v l :=
  Row.block h (fun g hg => hb.block g (World.ownsRow.lt h g hg).2)
theorem Row.typed {w : World} {B : Nat} {t : TypeId} {k : Nat} {e : α → Nat → Value} {v : Value} {l : List α} (h : Row w B t k e v l) (g : Nat) (hg : v.ownBlock = some g) : ∃ cur, w.heap[g]? = some (.cells cur t (0, 0)) := by
  rcases h.2 with ⟨rfl, _⟩ | ⟨g', cap, cur, rfl, _, hgg, _⟩
  · cases hg
  · cases hg; exact ⟨cur, hgg⟩
theorem Row.apart {β : Type} {w : World} {B B' : Nat} {t t' : TypeId} {k k' : Nat} {e : α → Nat → Value} {e' : β → Nat → Value} {v v' : Value} {l : List α} {l' : List β} (h : Row w B t k e v l) (h' : Row w B' t' k' e' v' l') (ht : t ≠ t') : v.ownBlock = none ∨ v.ownBlock ≠ v'.ownBlock := by
  cases hv : v.ownBlock with
  | none => exact .inl rfl
  | some g =>
    refine .inr fun e => ?_
    obtain ⟨c, hc⟩ := Row.typed h g hv
    obtain ⟨c', hc'⟩ := Row.typed h' g e.symm
    rw [hc] at hc'
    exact ht (by injection hc' with h1; injection h1)
theorem Row.cell {w : World} {B : Nat} {t : TypeId} {k : Nat} {e : α → Nat → Value} {v : Value} {l : List α} (h : Row w B t k e v l) {i : Nat} (hi : i < l.length) : ∃ g cap, v = .slice (some ⟨g, 0, none⟩) l.length cap ∧ B ≤ g ∧ g < w.heap.size ∧ ∀ j, j < k → w.cell? ⟨g, i * k + j, none⟩ = some (e l[i] j) ∧ w.frozen? ⟨g, i * k + j, none⟩ = false := by
  rcases h.2 with ⟨_, hn⟩ | ⟨g, cap, cur, rfl, hb, hg, hc, hm', hs, ht⟩
  · omega
  · refine ⟨g, cap, rfl, hb, (Array.getElem?_eq_some_iff.1 hg).1, fun j hj => cell_row hg _ _ ?_⟩
    have e1 := enc_at k e l i hi j hj
    rw [← ht, List.getElem?_take_of_lt (by have : (i + 1) * k ≤ l.length * k := Nat.mul_le_mul_right _ hi; rw [Nat.add_mul, Nat.one_mul] at this; omega)] at e1
    rw [← Array.getElem?_toList]; exact e1
theorem Row.put {w : World} {B : Nat} {t : TypeId} {k : Nat} {e : α → Nat → Value} {g cap : Nat} {l : List α} (h : Row w B t k e (.slice (some ⟨g, 0, none⟩) l.length cap) l) {i : Nat} (hi : i < l.length) {j : Nat} (hj : j < k) (u : Value) (a' : α) (he : ∀ q, q < k → e a' q = if q = j then u else e l[i] q) :
    Row (w.setCell ⟨g, i * k + j, none⟩ u) B t k e (.slice (some ⟨g, 0, none⟩) l.length cap) (l.set i a') ∧ w.grownBy (w.setCell ⟨g, i * k + j, none⟩ u) (some g) := by
  obtain ⟨h1, h2⟩ := World.ownsRow.stored h (i * k + j) u
  rw [enc_set k e l i hi j hj u a' he] at h1
  refine ⟨?_, h2⟩
  show World.ownsRow _ _ _ _ _ _ _
  rw [List.length_set]; exact h1
end
theorem Row.at_ {α β : Type} [Lay β] {w : World} {B : Nat} {t : TypeId} {k : Nat} {e : α → Nat → Value} {v : Value} {l : List α} (h : Row w B t k e v l) (d : α → β) (hk : Lay.width β = k) {S : Nat → Prop} (hS : ∀ g, v.ownBlock = some g → S g) (hat : ∀ x ∈ l, Lay.At S w (d x) (e x)) : AtL S w (l.map d) v := by
  have hlen := Row.len h
  rcases h.2 with ⟨rfl, hn⟩ | ⟨g, cap, cur, rfl, hb, hg, hc, hm', hs, ht⟩
  · have : l = [] := List.eq_nil_of_length_eq_zero hn
    subst this
    exact ⟨none, 0, rfl, ⟨Nat.zero_le _, Nat.le_refl _, fun _ => rfl⟩, fun i hi => absurd hi (Nat.not_lt_zero _)⟩
  · refine ⟨some ⟨g, 0, none⟩, cap, by rw [List.length_map], ⟨by rw [List.length_map]; exact hlen, by rw [List.length_map]; exact hc, fun h => nomatch h⟩, fun i hi => ?_⟩
    rw [List.length_map] at hi
    refine ⟨g, 0, rfl, hS g rfl, e l[i], fun j hj => ?_, by rw [List.getElem_map]; exact hat _ (List.getElem_mem hi)⟩
    rw [hk] at hj ⊢
    obtain ⟨g', cap', hv, _, _, hcell⟩ := Row.cell (α := α) (l := l) (e := e) h hi
    cases hv
    have := (hcell j hj).1
    rw [Nat.zero_add]; exact this
theorem Row.on {α β : Type} [Own β] {w : World} {B : Nat} {t : TypeId} {k : Nat} {e : α → Nat → Value} {v : Value} {l : List α} (h : Row w B t k e v l) (d : α → β) (hk : Lay.width β = k) {S : Nat → Prop} (hS : ∀ g, v.ownBlock = some g → S g) (Ss : Nat → Nat → Prop) (sub : ∀ i b, Ss i b → S b ∧ v.ownBlock ≠ some b) (dis : ∀ i j b, Ss i b → Ss j b → i = j) (hon : ∀ i (h : i < l.length), Own.On (Ss i) w (d l[i]) (e l[i])) : OnL S w (l.map d) v := by
  have hlen := Row.len h
  rcases h.2 with ⟨rfl, hn⟩ | ⟨g, cap, cur, rfl, hb, hg, hc, hm', hs, ht⟩
  · have : l = [] := List.eq_nil_of_length_eq_zero hn
    subst this
    exact ⟨none, 0, rfl, ⟨Nat.zero_le _, Nat.le_refl _, fun _ => rfl⟩, .inl rfl⟩
  · refine ⟨some ⟨g, 0, none⟩, cap, by rw [List.length_map], ⟨by rw [List.length_map]; exact hlen, by rw [List.length_map]; exact hc, fun h => nomatch h⟩, ?_⟩
    cases hl : l with
    | nil => exact .inl rfl
    | cons x0 l0 =>
      refine .inr ⟨g, 0, Ss, cur, t, rfl, fun i => d (l.getD i x0), fun i hi => ?_, ⟨hg, hS g rfl, fun i b hb => ⟨(sub i b hb).1, fun e => (sub i b hb).2 (by rw [e]; rfl)⟩, dis, fun i hi => ?_⟩⟩
      · rw [List.getElem_map]
        congr 1
        rw [List.length_map] at hi
        subst hl
        simp only [List.getD_eq_getElem?_getD, List.getElem?_eq_getElem hi, Option.getD_some]
      · rw [← hl, List.length_map] at hi
        refine ⟨e l[i], fun j hj => ?_, ?_⟩
        · rw [hk] at hj ⊢
          have e1 := enc_at k e l i hi j hj
          rw [← ht, List.getElem?_take_of_lt (by have : (i + 1) * k ≤ l.length * k := Nat.mul_le_mul_right _ hi; rw [Nat.add_mul, Nat.one_mul] at this; omega)] at e1
          rw [Nat.zero_add, ← Array.getElem?_toList]; exact e1
        · have : l.getD i x0 = l[i] := by simp [hi]
          rw [this]; exact hon i hi
structure Flat {α : Type} [Lay α] (k : Nat) (e : α → Nat → Value) (ok : α → Prop) : Prop where
  wid : Lay.width α = k
  cell : ∀ {S : Nat → Prop} {w : World} {a : α} {c : Nat → Value}, Lay.At S w a c → (∀ j, j < k → c j = e a j) ∧ ok a
  at_ : ∀ {S : Nat → Prop} {w : World} {a : α}, ok a → Lay.At S w a (e a)
  one : ∀ (a : α) (j : Nat), (e a j).oneCell' = true
section
variable {α : Type} [Lay α] {k : Nat} {e : α → Nat → Value} {ok : α → Prop}
end
section
variable {P : Program}
theorem run_app {t e : TypeId} {size bytes base n m : Nat} {w : World} {v sv : Value} {xs news : List Value} (T : ElT P t e size bytes) (hown : w.ownsRow base e size v n xs) (hsrc : Src w sv m size news) (h1 : ∀ u ∈ news, u.oneCell' = true) (h63 : n + m ≤ maxLen) (hbytes : (n + m) * bytes ≤ 140737488355328) (hbase : base ≤ w.heap.size) (ty : TypeId) :
    ∃ v' w', (Builtin.append_ #[t, t] ty #[v, sv]).run P w = .ok v' w' ∧ w'.ownsRow base e size v' (n + m) (xs ++ news) ∧ w.grownBy w' v.ownBlock ∧ (v'.ownBlock = v.ownBlock ∨ v'.ownBlock = some w.heap.size) := by
  obtain ⟨i, z, hi, hz, h2, h3, h4⟩ := T.info
  rcases hsrc with ⟨hl, ⟨rfl, rfl⟩ | ⟨ad, c, rfl, hc⟩⟩
  · have hn : news = [] := List.eq_nil_of_length_eq_zero (by simpa using hl)
    subst hn
    have hr := run_append_owned_none (P := P) (w := w) base t ty e i size T.ht hi v n xs hown
    exact ⟨v, w, hr, by simpa using hown, ⟨rfl, rfl, rfl, Nat.le_refl _, fun _ _ _ => rfl⟩, .inl rfl⟩
  · obtain ⟨v', w', hr, q1, q2, _, q3⟩ := run_append_own_at (P := P) (w := w) base t ty e i z size bytes T.ht hi hz h2 h3 h4 T.pos v n xs hown ad m c news hl hc h1 h63 hbytes hbase
    exact ⟨v', w', hr, q1, q2, q3⟩
theorem wpList_app {ops : Array Oper} {rest : List Oper} {o : Oper} {a : Act} {w : World} {Q : Exit → Act → World → Prop} {t e : TypeId} {size bytes base n m : Nat} {v sv : Value} {xs news : List Value} (T : ElT P t e size bytes) (hgd : o.guard = none) (s x : Operand)
    (ho : o.op = .call { callee := .builtin .append, args := #[s, x], argTypes := #[t, t] }) (hs : a.eval s = v) (hx : a.eval x = sv) (hown : w.ownsRow base e size v n xs) (hsrc : Src w sv m size news) (h1 : ∀ u ∈ news, u.oneCell' = true) (h63 : n + m ≤ maxLen) (hbytes : (n + m) * bytes ≤ 140737488355328) (hbase : base ≤ w.heap.size)
    (h : ∀ v' w', w'.ownsRow base e size v' (n + m) (xs ++ news) → w.grownBy w' v.ownBlock → (v'.ownBlock = v.ownBlock ∨ v'.ownBlock = some w.heap.size) → wpList P ops Q rest (a.put o.dst v') w') :
    wpList P ops Q (o :: rest) a w := by
  refine wpList_plain hgd fun K hK => ?_
  obtain ⟨v', w', hr, h2, h3, h4⟩ := run_app (P := P) T hown hsrc h1 h63 hbytes hbase o.type
  unfold Oper.wp execOp
  simp only [ho, resolve, invoke, builtin, Sem.run_bind, Sem.run_pure, Result.andThen_ok, List.map_toArray, List.map_cons, List.map_nil, hs, hx, hr]
  exact hK _ _ (h v' w' h2 h3 h4)
end
theorem Src.take_ {w : World} {ad : Addr} {n c K : Nat} {news : List Value} (h : Src w (.slice (some ad) n c) n K news) {k : Nat} (hk : k ≤ n) (c' : Nat) : Src w (.slice (some ad) k c') k K (news.take (k * K)) := by
  have hle : k * K ≤ n * K := Nat.mul_le_mul_right _ hk
  refine ⟨by rw [List.length_take, h.1]; omega, .inr ⟨ad, c', rfl, fun j u hj => ?_⟩⟩
  rcases h.2 with ⟨h2, _⟩ | ⟨ad', c2, h2, hc⟩
  · cases h2
  · cases h2
    refine hc j u ?_
    have hjl := (List.getElem?_eq_some_iff.1 hj).1
    rw [List.length_take] at hjl
    rwa [List.getElem?_take_of_lt (by omega)] at hj
theorem Src.drop_ {w : World} {b off n cap K : Nat} {news : List Value} (h : Src w (.slice (some ⟨b, off, none⟩) n cap) n K news) {k : Nat} (hk : k ≤ n) (hn : n ≤ cap) : Src w (.slice (if cap = k then some ⟨b, off, none⟩ else some ⟨b, off + k * K, none⟩) (n - k) (cap - k)) (n - k) K (news.drop (k * K)) := by
  refine Src.tail (by rw [List.length_drop, h.1, Nat.sub_mul]) (fun e => by omega) (fun _ j u hj => ?_)
  rcases h.2 with ⟨h2, _⟩ | ⟨ad', c2, h2, hc⟩
  · cases h2
  · cases h2
    rw [List.getElem?_drop] at hj
    have := hc _ u hj
    rw [add_at] at this ⊢
    rw [← Nat.add_assoc] at this
    exact this
theorem Src.none_ (w : World) (K : Nat) : Src w (.slice none 0 0) 0 K [] := ⟨by simp, .inl ⟨rfl, rfl⟩⟩
theorem ret4 {w : World} {g : Nat} {x0 x1 x2 x3 : Value} {t : TypeId} (h : w.heap[g]? = some (.cells #[x0, x1, x2, x3] t (0, 0))) (a b c d : Value) :
    ((((w.setCell ⟨g, 0, none⟩ a).setCell ⟨g, 1, none⟩ b).setCell ⟨g, 2, none⟩ c).setCell ⟨g, 3, none⟩ d).heap[g]? = some (.cells #[a, b, c, d] t (0, 0)) ∧
    (∀ q, q ≠ g → ((((w.setCell ⟨g, 0, none⟩ a).setCell ⟨g, 1, none⟩ b).setCell ⟨g, 2, none⟩ c).setCell ⟨g, 3, none⟩ d).heap[q]? = w.heap[q]?) ∧
    ((((w.setCell ⟨g, 0, none⟩ a).setCell ⟨g, 1, none⟩ b).setCell ⟨g, 2, none⟩ c).setCell ⟨g, 3, none⟩ d).heap.size = w.heap.size ∧
    Below g w ((((w.setCell ⟨g, 0, none⟩ a).setCell ⟨g, 1, none⟩ b).setCell ⟨g, 2, none⟩ c).setCell ⟨g, 3, none⟩ d) := by
  refine ⟨?_, ?_, by simp, ?_⟩
  · have := set_row (set_row (set_row (set_row h 0 a) 1 b) 2 c) 3 d
    simpa using this
  · intro q hq
    exact (Below.heap_setCell _ ⟨g, 3, none⟩ d q hq).trans ((Below.heap_setCell _ ⟨g, 2, none⟩ c q hq).trans ((Below.heap_setCell _ ⟨g, 1, none⟩ b q hq).trans (Below.heap_setCell _ ⟨g, 0, none⟩ a q hq)))
  · exact ((((Below.refl _ _).setCell (p := ⟨g, 0, none⟩) (Nat.le_refl _) a).setCell (p := ⟨g, 1, none⟩) (Nat.le_refl _) b).setCell (p := ⟨g, 2, none⟩) (Nat.le_refl _) c).setCell (p := ⟨g, 3, none⟩) (Nat.le_refl _) d
def Fresh (w : World) (v r : Value) : Prop := ∀ g, r.ownBlock = some g → v.ownBlock = some g ∨ w.heap.size ≤ g
theorem Fresh.refl (w : World) (v : Value) : Fresh w v v := fun _ h => .inl h
theorem Fresh.of_row {α : Type} {w w' : World} {t : TypeId} {k : Nat} {e : α → Nat → Value} {v r : Value} {l : List α} (h : Row w' w.heap.size t k e r l) : Fresh w v r := fun g hg => .inr (World.ownsRow.lt h g hg).1
theorem Fresh.trans {w w' : World} {v r s : Value} (h : Fresh w v r) (h' : Fresh w' r s) (hs : w.heap.size ≤ w'.heap.size) : Fresh w v s := fun g hg => by
  rcases h' g hg with h1 | h1
  · exact h g h1
  · exact .inr (Nat.le_trans hs h1)
end Go.Proofs.Ytgjcppdeljoimaa
