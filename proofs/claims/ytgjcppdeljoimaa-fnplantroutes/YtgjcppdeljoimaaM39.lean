/-
  Several texts in one.
-/
import Derived.Test.YtgjcppdeljoimaaM37
import Derived.Test.YtgjcppdeljoimaaM38
import Derived.Test.YtgjcppdeljoimaaZb
import Derived.Sort.CutIn
import Derived.Maps.OwnIn
namespace Go.Proofs.Ytgjcppdeljoimaa
open Go.RowKit Go.Shelf Go.Sort
attribute [local go_sem] Oper.semAt_some
theorem last_q (B : Nat) (u v : Value) (m : Nat) (f : Nat → ByteArray) (wr : World) (h : Lst B wr u (m + 1) 1 (cS f)) (hB : B ≤ wr.heap.size) (d : Nat) (os : Array Obj) : Calls Try.prog 37 #[.agg #[u, v]] (grow (redrawn wr d) os) fun e w'' => e = .returned (.string (f m)) ∧ ∃ p : Regrown, w'' = grow (redrawn wr p.d) p.os :=
  Calls.regrown_of (last_any B u v m f _ (h.kept (below_regrown wr d os) hB) (Nat.le_trans hB (below_regrown wr d os).size))
def exT (r : RT) (ys : List Two) : List RT := (ys.filter fun y => !hasB r.1.length (nthB r.1) y.1.2).map fun y => (r.1 ++ [y.1.2], r.2 ++ [y.1.1])
theorem exT_snoc (r : RT) (ys : List Two) (y : Two) : exT r (ys ++ [y]) = exT r ys ++ (bif hasB r.1.length (nthB r.1) y.1.2 then [] else [(r.1 ++ [y.1.2], r.2 ++ [y.1.1])]) := by
  unfold exT
  rw [List.filter_append, List.map_append]
  cases h : hasB r.1.length (nthB r.1) y.1.2 <;> simp [h]
theorem exT_len (r : RT) (ys : List Two) : (exT r ys).length ≤ ys.length := by
  unfold exT
  rw [List.length_map]; exact List.length_filter_le _ _
theorem exT_all {D : PD} {r : RT} (h8 : ∀ i, i < D.nv → (D.fv i).1.size ≤ 8 ∧ (D.fv i).2.1.size ≤ 8 ∧ (D.fv i).2.2.1.size ≤ 8) : exT r (vAt D.fv (lasB r) D.nv) = exN D r D.nv := by
  unfold exT vAt exN
  rw [List.filter_map, List.map_map, List.filter_filter]
  have hbs : ∀ i, i < D.nv → (nexB D r i).size ≤ 8 := fun i hi => by
    have := h8 i hi
    unfold nexB behS
    cases eqB (lasB r) (D.fv i).2.1 <;> cases eqB (lasB r) (D.fv i).2.2.1 <;> simp only [cond_true, cond_false] <;> first | omega | exact (by decide : (0 : Nat) ≤ 8)
  have e1 : (List.range D.nv).filter (fun a => ((fun y : Two => !hasB r.1.length (nthB r.1) y.1.2) ∘ fun i => two (D.fv i).1 (behS (D.fv i) (lasB r))) a && endB (D.fv a) (lasB r)) = (List.range D.nv).filter (okV D r) := by
    apply List.filter_congr
    intro i hi
    have hi' := List.mem_range.1 hi
    simp only [Function.comp_apply]
    rw [two_of (h8 i hi').1 (show (behS (D.fv i) (lasB r)).size ≤ 8 from hbs i hi')]
    unfold okV nexB
    rw [Bool.and_comm]
  rw [e1]
  apply List.map_congr_left
  intro i hi
  have hi' := List.mem_range.1 (List.mem_filter.1 hi).1
  simp only [Function.comp_apply]
  rw [two_of (h8 i hi').1 (show (behS (D.fv i) (lasB r)).size ≤ 8 from hbs i hi')]
  rfl
theorem Lst.low {B : Nat} {w w' : World} {v : Value} {n k : Nat} {c : Nat → Nat → Value} (h : Lst B w v n k c) (hk : ∀ i, i < B → w'.heap[i]? = w.heap[i]?) : Lst B w' v n k c := by
  obtain ⟨oa, cap, e, hn, hc⟩ := h
  refine ⟨oa, cap, e, hn, fun i hi => ?_⟩
  obtain ⟨b, off, e', hb, hcell⟩ := hc i hi
  exact ⟨b, off, e', hb, fun j hj => (World.cell?_of_block (hk b hb)).trans (hcell j hj)⟩
structure RY where
  r : RT
  g : Nat
  h : Nat
  cu : Nat
  cv : Nat
def RY.z (s : RY) : RR := ⟨s.r, .slice (some ⟨s.g, 0, none⟩) s.r.1.length s.cu, .slice (some ⟨s.h, 0, none⟩) s.r.2.length s.cv, s.g, s.h⟩
theorem RowZ.rs {B : Nat} {w : World} {z : RR} (h : RowZ B w z) : ∃ s : RY, s.z = z := by
  obtain ⟨c1, _, e1, _⟩ := h.p
  obtain ⟨c2, _, e2, _⟩ := h.q
  obtain ⟨r, u, v, g, k⟩ := z
  simp only at e1 e2
  subst e1 e2
  exact ⟨⟨r, g, k, c1, c2⟩, rfl⟩
def fitZ (m k S : Nat) (z : RR) (X : World) : Prop := RowZ S X z ∧ z.g ≠ z.h ∧ z.r.1.length = m ∧ z.r.2.length = k
theorem fitZ_put (m k S : Nat) (z : RR) (W : World) (l : Nat) (o o' : Obj) (h : fitZ m k S z W) (hl : W.heap[l]? = some o) (ho : o.isCells = false) : fitZ m k S z (W.putObj l o') := by
  have ne : ∀ {u : Value} {t : List ByteArray} {g : Nat}, RowG S W u t g → l ≠ g := fun hr e => by
    obtain ⟨_, cur, _, _, hg, _⟩ := hr
    rw [← e, hl] at hg
    cases hg; cases ho
  exact ⟨⟨h.1.p.same (World.putObj_heap_other (Ne.symm (ne h.1.p))), h.1.q.same (World.putObj_heap_other (Ne.symm (ne h.1.q)))⟩, h.2⟩
set_option maxRecDepth 100000 in
set_option maxHeartbeats 1000000 in
theorem waysOn_any (v0 v1 v2 v3 u v : Value) (w : World) :
    Calls Try.prog 36 #[.agg #[v0, v1, v2, v3], .agg #[u, v]] w fun e w' => e = .returned (.func (.func 64) #[] #[.pointer (some ⟨w.heap.size, 0, none⟩), .pointer (some ⟨w.heap.size + 1, 0, none⟩)]) ∧
      w' = (w.alloc (.cells #[v0, v1, v2, v3] 28)).alloc (.cells #[u, v] 34) := by
  go_enter Try.func36, Try.ntmps36
  go_wp2
  go_ret
  exact ⟨by simp, rfl⟩
set_option maxRecDepth 100000 in
set_option maxHeartbeats 16000000 in
theorem ways_fit (n b1 b2 n₀ : Nat) (hn : 5 ≤ n) (v0 v1 v2 v3 : Value) (ou ov : Option Addr) (cu cv : Nat) (D : PD) (r : RT) (own : World → Nat → Prop) (w : World)
    (hb1 : w.heap[b1]? = some (.cells #[v0, v1, v2, v3] 28 (0, 0))) (hb2 : w.heap[b2]? = some (.cells #[.slice ou r.1.length cu, .slice ov r.2.length cv] 34 (0, 0))) (h : Lst n₀ w v3 D.nv 4 (cV D.fv)) (hu : Lst n₀ w (.slice ou r.1.length cu) r.1.length 1 (cS (nthB r.1))) (hv : Lst n₀ w (.slice ov r.2.length cv) r.2.length 1 (cS (nthB r.2)))
    (h8 : ∀ i, i < D.nv → (D.fv i).1.size ≤ 8 ∧ (D.fv i).2.1.size ≤ 8 ∧ (D.fv i).2.2.1.size ≤ 8) (hs1 : ∀ i, i < r.1.length → (nthB r.1 i).size ≤ 1048576) (hs2 : ∀ i, i < r.2.length → (nthB r.2 i).size ≤ 1048576) (h0l : 0 < r.1.length) (hl1 : r.1.length ≤ 1000) (hl2 : r.2.length ≤ 1000) (hn₀ : n₀ ≤ w.heap.size) :
    SeqFit Fence.wide n Try.prog 64 #[.pointer (some ⟨b1, 0, none⟩), .pointer (some ⟨b2, 0, none⟩)] (fun s : RY => #[Value.agg #[.slice (some ⟨s.g, 0, none⟩) s.r.1.length s.cu, .slice (some ⟨s.h, 0, none⟩) s.r.2.length s.cv]]) own n₀ (fun k => k < n₀ ∨ k = b2) (fun S (s : RY) X => fitZ (r.1.length + 1) (r.2.length + 1) S s.z X) (fun zs => zs.map (·.r) = exN D r D.nv) D.nv w := by
  intro l J W hW hJ hst hno hY h0
  obtain ⟨m, hm⟩ : ∃ m, r.1.length = m + 1 := ⟨r.1.length - 1, by omega⟩
  have EL : Hid (lasB r = nthB r.1 m) := by show lasB r = _; unfold lasB; rw [hm, Nat.add_sub_cancel]
  have hc1 := (hW.block b1 (Array.getElem?_eq_some_iff.1 hb1).1).trans hb1
  have hc2 := (hW.block b2 (Array.getElem?_eq_some_iff.1 hb2).1).trans hb2
  have HL : Hid (Lst n₀ W v3 D.nv 4 (cV D.fv) ∧ Lst n₀ W (.slice ou r.1.length cu) r.1.length 1 (cS (nthB r.1)) ∧ Lst n₀ W (.slice ov r.2.length cv) r.2.length 1 (cS (nthB r.2))) := ⟨h.kept hW hn₀, hu.kept hW hn₀, hv.kept hW hn₀⟩
  have hn₀' : n₀ ≤ W.heap.size := Nat.le_trans hn₀ hW.size
  have HY : Hid _ := hY
  have HJ : Hid (OwnFrom W.heap.size J) := hJ
  have HST : Hid (∀ pre W1, J pre W1 → OwnSt own W1) := hst
  have H0 : Hid _ := h0
  have HNO : Hid _ := hno
  have H8 : Hid _ := h8
  have HS1 : Hid _ := hs1
  have HS2 : Hid _ := hs2
  have HM : Hid (r.1.length = m + 1) := hm
  have l1 := (Array.getElem?_eq_some_iff.1 hc1).1
  have l2 := (Array.getElem?_eq_some_iff.1 hc2).1
  clear hY hJ hst h0 hno h8 h hu hv hb1 hb2 hs1 hs2 hm
  refine callsIn_of_wp_marks Try.func64 rfl trivial ?_ rfl
  simp only [Try.ntmps64, List.size_toArray, List.length_cons, List.length_nil, Nat.reduceAdd, Nat.reduceSub, Array.replicate_succ, Array.replicate_zero, List.push_toArray, List.append_toArray, List.nil_append, List.cons_append]
  obtain ⟨V, hVd⟩ : ∃ V, V = W.alloc (.cells #[.func (.yield l) #[] #[]] 92) := ⟨_, rfl⟩
  have EV : Hid (V = W.alloc (.cells #[.func (.yield l) #[] #[]] 92)) := hVd
  have sV : V.heap.size = W.heap.size + 1 := by rw [hVd]; simp
  have bV : Below W.heap.size W V := by rw [hVd]; exact (Below.refl _ _).alloc (Nat.le_refl _) _
  have d1 := (bV.block _ l1).trans hc1
  have d2 := (bV.block _ l2).trans hc2
  have x0 := (cell_row d1 0 _ rfl).1
  have x1 := (cell_row d1 1 _ rfl).1
  have x2 := (cell_row d1 2 _ rfl).1
  have x3 := (cell_row d1 3 _ rfl).1
  have y0 := (cell_row d2 0 _ rfl).1
  have y1 := (cell_row d2 1 _ rfl).1
  simp only [List.getElem_toArray, List.getElem_cons_zero, List.getElem_cons_succ] at x0 x1 x2 x3 y0 y1
  have q0 := fun d os => cell_regrown x0 d os
  have q1 := fun d os => cell_regrown x1 d os
  have q2 := fun d os => cell_regrown x2 d os
  have q3 := fun d os => cell_regrown x3 d os
  have z0 := fun d os => cell_regrown y0 d os
  have z1 := fun d os => cell_regrown y1 d os
  have LL : Lst n₀ V (.slice ou r.1.length cu) (m + 1) 1 (cS (nthB r.1)) := by have := HL.out.2.1.kept bV hn₀'; rw [HM.out] at this ⊢; exact this
  have D1 : Hid (V.heap[b1]? = some (.cells #[v0, v1, v2, v3] 28 (0, 0))) := d1
  have D2 : Hid (V.heap[b2]? = some (.cells #[.slice ou r.1.length cu, .slice ov r.2.length cv] 34 (0, 0))) := d2
  clear hVd hc1 hc2 d1 d2
  have hnV : n₀ ≤ V.heap.size := by omega
  gi_upto_region 1 with fail
  rw [← EV.out]
  refine wpIn_wide.2 ?_
  refine wp_region_head_tail 3 (by kernel_rfl) (by kernel_rfl) ?_
  simp only [List.take_succ_cons, List.take_zero, List.drop_succ_cons, List.drop_zero]
  repeat (first | go_big_quiet_step (with_reducible exact last_q n₀ _ _ m _ _ LL hnV _ _) | quiet_step (with_reducible exact last_q n₀ _ _ m _ _ LL hnV _ _))
  refine wpQuiet_nil ?_
  intro _ hw'
  obtain ⟨⟨dq, osq⟩, hw''⟩ := hw'
  subst hw''
  have bu : Below V.heap.size V (grow (redrawn V dq) osq) := below_regrown _ dq osq
  generalize grow (redrawn V dq) osq = U at bu ⊢
  clear x0 x1 x2 x3 y0 y1 q0 q1 q2 q3 z0 z1 LL
  have UW : Below W.heap.size W U := bV.trans (bu.mono (by omega))
  go_wp2_with (go_at_call 24; refine (valvesAt_any _ _ _ _ _ _).mono ?_; rintro e w' ⟨rfl, rfl⟩)
  rw [← EL.out]
  obtain ⟨W0, hW0⟩ : ∃ W0, W0 = (U.alloc (.cells #[v0, v1, v2, v3] 28)).alloc (.cells #[.string (lasB r)] 9) := ⟨_, rfl⟩
  have E0 : Hid (W0 = (U.alloc (.cells #[v0, v1, v2, v3] 28)).alloc (.cells #[.string (lasB r)] 9)) := hW0
  have s0 : W0.heap.size = U.heap.size + 1 + 1 := by rw [hW0]; simp
  have sU : W.heap.size + 1 ≤ U.heap.size := by have := bu.size; omega
  have bU : Below U.heap.size U W0 := by rw [hW0]; exact ((Below.refl _ _).alloc (Nat.le_refl _) _).alloc (by simp) _
  have hbW : Hid (Below W.heap.size W W0) := UW.trans (bU.mono (by omega))
  have yV : V.heap[W.heap.size]? = some (.cells #[.func (.yield l) #[] #[]] 92 (0, 0)) := by rw [EV.out]; exact heap_alloc_new W _
  have bY : Hid (Boxed W0 W.heap.size 92 (.func (.yield l) #[] #[])) := (bU.block _ (by omega)).trans ((bu.block _ (by omega)).trans yV)
  have bP : W0.heap[U.heap.size]? = some (.cells #[v0, v1, v2, v3] 28 (0, 0)) := by
    rw [hW0]; exact (Below.heap_alloc _ _ _ (by simp)).trans (heap_alloc_new U _)
  have bX : Hid (Boxed W0 (U.heap.size + 1) 9 (.string (lasB r))) := by
    have := Boxed.new (U.alloc (.cells #[v0, v1, v2, v3] 28)) 9 (.string (lasB r))
    rw [World.size_alloc] at this
    rw [hW0]; exact this
  have bR : Hid (W0.heap[b2]? = some (.cells #[.slice ou r.1.length cu, .slice ov r.2.length cv] 34 (0, 0))) := (bU.block _ (by omega)).trans ((bu.block _ (by omega)).trans D2.out)
  have J0 : Hid (J [] W0) := HJ.out [] W W0 none H0.out (below_grown0 hbW.out) (fun r e => by cases e)
  have ow0 : ∀ k, own W0 k → own W k := (HST.out _ _ H0.out).2 W0 none (below_grown0 hbW.out) (fun r e => by cases e)
  have NO : Hid (∀ k, (k < n₀ ∨ k = U.heap.size + 1 ∨ k = W.heap.size ∨ k = b2) → ¬ own W0 k) := fun k hk ho => by
    have h1 := ow0 k ho
    rcases hk with h | h | h | h
    · exact HNO.out k (.inl h) h1
    · have := (HST.out _ _ H0.out).1 k h1; omega
    · have := (HST.out _ _ H0.out).1 k h1; omega
    · exact HNO.out k (.inr h) h1
  rw [← E0.out]
  have q1 := (cell_row bP 3 _ rfl).1
  simp only [List.getElem_toArray, List.getElem_cons_zero, List.getElem_cons_succ] at q1
  clear hW0 bU UW bu yV bP ow0 D1 D2 bV
  refine wpIn_block ?_
  refine wpIn_rangeFunc_ownG (F := Fence.wide) rfl (by omega) (gf := 46) (lb := #[.pointer (some ⟨U.heap.size, 0, none⟩), .pointer (some ⟨U.heap.size + 1, 0, none⟩)]) rfl trivial (enters_of Try.func46 (by kernel_rfl) rfl)
    (vals_seq (n - 1) U.heap.size (U.heap.size + 1) n₀ (by omega) v3 D.nv D.fv (lasB r) W0 q1 bX.out.cell (HL.out.1.kept hbW.out hn₀') H8.out (by omega) (by omega) (by omega))
    KpV.trans (KpV.put (by omega) (by omega)) (Below.refl _ _) (fun _ => rfl)
    (fun pre X => (∃ zs : List RY, zs.map (·.r) = exT r pre ∧ J zs X) ∧ (Boxed X W.heap.size 92 (.func (.yield l) #[] #[]) ∧ Boxed X (U.heap.size + 1) 9 (.string (lasB r)) ∧ X.heap[b2]? = some (.cells #[.slice ou r.1.length cu, .slice ov r.2.length cv] 34 (0, 0))) ∧ (∀ k, (k < n₀ ∨ k = U.heap.size + 1 ∨ k = W.heap.size ∨ k = b2) → ¬ own X k) ∧ ∀ k, k < n₀ → X.heap[k]? = W.heap[k]?)
    (fun _ _ _ => False)
    (fun pre A C row hs hg hr => by
      have nc : ∀ (k : Nat) (c : Array Value) (t : TypeId) (z : Nat × Nat), A.heap[k]? = some (.cells c t z) → some k ≠ row := fun k c t z hk e => by
        obtain ⟨o, ho, hcc⟩ := (hr k e.symm).2
        rw [hk] at ho; cases ho; cases hcc
      obtain ⟨⟨zs, hzs, hj⟩, ⟨h1, h2, h3⟩, h4, h5⟩ := hs
      refine ⟨⟨zs, hzs, HJ.out _ A C row hj hg (fun r e => ⟨by have := (hr r e).1; omega, (hr r e).2⟩)⟩, ⟨boxed_own (β := Unit) _ _ (fun _ => _) () A C row h1 hg (fun r e => (hr r e).2), boxed_own (β := Unit) _ _ (fun _ => _) () A C row h2 hg (fun r e => (hr r e).2), (hg.block _ (Array.getElem?_eq_some_iff.1 h3).1 (nc _ _ _ _ h3)).trans h3⟩, fun k hk ho => h4 k hk ((HST.out _ A hj).2 C row hg (fun r e => (hr r e).2) k ho), fun k hk => (hg.block k (by have := h2.lt; omega) (fun e => by have := (hr k e.symm).1; omega)).trans (h5 k hk)⟩)
    (fun _ _ _ _ _ hs _ _ => hs)
    ⟨⟨[], rfl, J0.out⟩, ⟨bY.out, bX.out, bR.out⟩, NO.out, fun k hk => hbW.out.block k (by omega)⟩
    (fun y => { tmps := #[.func (.yield l) #[] #[], .pointer (some ⟨b1, 0, none⟩), .pointer (some ⟨b2, 0, none⟩), .pointer (some ⟨W.heap.size, 0, none⟩), .string y.1.1, .string y.1.2, .agg #[v0, v1, v2, v3], .agg #[.slice ou r.1.length cu, .slice ov r.2.length cv], .string (lasB r), .func (.func 46) #[] #[.pointer (some ⟨U.heap.size, 0, none⟩), .pointer (some ⟨U.heap.size + 1, 0, none⟩)], .string y.1.1, .string y.1.2, undef, undef, undef, undef, undef, undef, undef, undef, undef, undef, undef], defers := [] }) ?assign ?body ?done ?stop
  case assign =>
    intro l' y X K hK
    gi_wp2
    exact hK
  case body =>
    rintro l' pre y X ⟨⟨zs, hzs, hJ1⟩, ⟨hB1, hB2, hP⟩, hno1, hlow⟩ hlt
    have hlen : zs.length < D.nv := by have := congrArg List.length hzs; have := exT_len r pre; simp at *; omega
    have g0 := (cell_row hP 0 _ rfl).1
    have g1 := (cell_row hP 1 _ rfl).1
    simp only [List.getElem_toArray, List.getElem_cons_zero, List.getElem_cons_succ] at g0 g1
    have HX : Hid (Lst n₀ X (.slice ou r.1.length cu) r.1.length 1 (cS (nthB r.1)) ∧ Lst n₀ X (.slice ov r.2.length cv) r.2.length 1 (cS (nthB r.2))) := ⟨HL.out.2.1.low hlow, HL.out.2.2.low hlow⟩
    have hXs : W0.heap.size ≤ X.heap.size ∨ True := .inr trivial
    have hnX : n₀ ≤ X.heap.size := by have := hB2.lt; omega
    have SN : Hid (exT r (pre ++ [y]) = exT r pre ++ (bif hasB r.1.length (nthB r.1) y.1.2 then [] else [(r.1 ++ [y.1.2], r.2 ++ [y.1.1])])) := exT_snoc r pre y
    have hc := hB1.cell
    have hy1 := y.2.1
    have hy2 := y.2.2
    cases hh : hasB r.1.length (nthB r.1) y.1.2
    · have HH : Hid (hasB r.1.length (nthB r.1) y.1.2 = false) := hh
      clear hh
      gi_wp2_with (first
        | (refine ⟨trivial, (fun _ => by omega), ?_⟩; gi_at_call 55; refine (CallsIn.inRound l' (callsIn_wide.2 (hasI_any n₀ _ r.1.length (nthB r.1) y.1.2 _ HX.out.1))).mono ?_; rintro e w' ⟨rfl, hw'⟩; have hw2 := hw'.symm; subst hw2; rw [HH.out]))
      have qg0 := fun d os => cell_regrown g0 d os
      have qg1 := fun d os => cell_regrown g1 d os
      have qhc := fun d os => cell_regrown hc d os
      refine wpIn_region_mix 5 [0, 1, 2, 3] (by kernel_rfl) (by kernel_rfl) (by kernel_rfl) ?_
      simp only [List.filterMap_cons, List.filterMap_nil, List.getElem?_cons_succ, List.getElem?_cons_zero]
      repeat (first | go_big_quiet_step (fail) | quiet_step (fail))
      refine wpQuiet_nil ?_
      clear qg0 qg1 qhc g0 g1 hc
      refine call1 (md := .any) (f := 0) (i := 4) (dc := 20) (fn := 65) ⟨rfl, rfl, rfl, by decide⟩ (by kernel_rfl) ?run ((withNext_any n₀ _ _ r y.1.1 y.1.2 X.drew (HX.out.1.kept ((Below.refl n₀ X).drew) (Nat.le_refl _)) (HX.out.2.kept ((Below.refl n₀ X).drew) (Nat.le_refl _)) hnX hl1 hl2 HS1.out HS2.out (by omega) (by omega)).mono ?_)
      case run => go_simp
      rintro e X2 ⟨z, rfl, hzr, hRZ, hgh, hb2⟩
      obtain ⟨s, rfl⟩ := hRZ.rs
      replace hzr : s.r = (r.1 ++ [y.1.2], r.2 ++ [y.1.1]) := hzr
      have bX2 : Below X.heap.size X X2 := ((Below.refl _ _).drew).trans hb2
      have hJ2 : J zs X2 := HJ.out zs X X2 none hJ1 (below_grown0 bX2) (fun r e => by cases e)
      obtain ⟨fn, tmps, assign, body, hy, hR⟩ := HY.out zs s X X2 hJ1 hJ2 ⟨hRZ, hgh, by show s.r.1.length = _; rw [hzr]; simp, by show s.r.2.length = _; rw [hzr]; simp⟩ hlen
      have HZR : Hid (s.r = (r.1 ++ [y.1.2], r.2 ++ [y.1.1])) := hzr
      clear hzr
      refine ⟨_, rfl, regrown_of_below bX2, ?_⟩
      refine ⟨by kernel_rfl, ?_⟩
      simp only [RY.z]
      simp only [List.drop_succ_cons, List.drop_zero]
      simp only [Act.put, List.setIfInBounds_toArray, List.set_cons_zero, List.set_cons_succ]
      gi_wp2
      refine ⟨(fun _ => by omega), (round_wide hR).mono ?_⟩
      rintro e X3 ⟨rfl, hJ3, hk3, hf3⟩
      gi_wp2
      have hs3 := hk3.size
      have hs2 := bX2.size
      have kb : ∀ (k : Nat) (c : Array Value) (t : TypeId) (z : Nat × Nat), X.heap[k]? = some (.cells c t z) → ¬ own X k → X3.heap[k]? = some (.cells c t z) := fun k c t z hk ho => by
        have hkl := (Array.getElem?_eq_some_iff.1 hk).1
        refine hk3.blk k c t z ((bX2.block k hkl).trans hk) (fun h2 => ho ((HST.out zs X hJ1).2 X2 none (below_grown0 bX2) (fun r e => by cases e) k h2))
      have hx3 := kb _ _ _ _ hB2 (hno1 _ (.inr (.inl rfl)))
      have hy3 := kb _ _ _ _ hB1 (hno1 _ (.inr (.inr (.inl rfl))))
      have hr3 := kb _ _ _ _ hP (hno1 _ (.inr (.inr (.inr rfl))))
      have low3 : ∀ k, k < n₀ → X3.heap[k]? = X.heap[k]? := fun k hk => (hk3.low k hk).trans (bX2.block k (by omega))
      refine ⟨⟨Nat.le_trans hs2 hf3.size, fun k o hk h0 ho => hf3.same k o (by omega) ((bX2.block k (Array.getElem?_eq_some_iff.1 h0).1).trans h0) ho⟩, ⟨Nat.le_trans hs2 hs3, fun k hk => ?_⟩, ⟨zs ++ [s], ?_, hJ3⟩, ⟨hy3, hx3, hr3⟩, fun k hk ho => ?_, fun k hk => (low3 k hk).trans (hlow k hk)⟩
      · rcases hk with hk | rfl
        · exact low3 k hk
        · exact hx3.trans hB2.symm
      · rw [SN.out, HH.out, List.map_append, hzs]
        simp [HZR.out]
      · rcases hk3.old k ho with h1 | h1
        · exact hno1 k hk ((HST.out zs X hJ1).2 X2 none (below_grown0 bX2) (fun r e => by cases e) k h1)
        · have := hB2.lt
          have := hB1.lt
          have := (Array.getElem?_eq_some_iff.1 hP).1
          omega
    · have HH : Hid (hasB r.1.length (nthB r.1) y.1.2 = true) := hh
      clear hh
      gi_wp2_with (first
        | (refine ⟨trivial, (fun _ => by omega), ?_⟩; gi_at_call 55; refine (CallsIn.inRound l' (callsIn_wide.2 (hasI_any n₀ _ r.1.length (nthB r.1) y.1.2 _ HX.out.1))).mono ?_; rintro e w' ⟨rfl, hw'⟩; have hw2 := hw'.symm; subst hw2; rw [HH.out]))
      exact ⟨KeepsFrom.refl _ _, KpV.refl _ _ _, ⟨zs, by rw [SN.out, HH.out, hzs]; simp, hJ1⟩, ⟨hB1, hB2, hP⟩, hno1, hlow⟩
  case done =>
    rintro E ys X hD rfl ⟨⟨zs, hzs, hJ2⟩, _, _⟩ hK
    gi_wp2
    refine ⟨by simp, .inl ⟨_, _, rfl, run_takeDeferred hK, ?_⟩⟩
    exact ⟨_, results_none rfl _ _ _, ⟨_, rfl⟩, zs, by rw [hzs, exT_all H8.out], HJ.out.putObj _ hJ2 (by omega) hK rfl⟩
  case stop =>
    rintro E c pre X _ _ h _
    exact h.elim
end Go.Proofs.Ytgjcppdeljoimaa

namespace Go.Proofs.Ytgjcppdeljoimaa
open Go.RowKit
def enI (D : PD) (to : ByteArray) (ws : List RT) (j : Nat) : List RT := (ws.take j).flatMap fun w => (exN D w D.nv).filter (toB to)
def goI (D : PD) (to : ByteArray) (ws : List RT) (j : Nat) : List RT := (ws.take j).flatMap fun w => (exN D w D.nv).filter (goB D to)
theorem enI_next (D : PD) (to : ByteArray) {ws : List RT} {j : Nat} {r : RT} (h : ws[j]? = some r) : enI D to ws (j + 1) = enI D to ws j ++ (exN D r D.nv).filter (toB to) := by
  unfold enI; rw [← flat_pre, h]
theorem goI_next (D : PD) (to : ByteArray) {ws : List RT} {j : Nat} {r : RT} (h : ws[j]? = some r) : goI D to ws (j + 1) = goI D to ws j ++ (exN D r D.nv).filter (goB D to) := by
  unfold goI; rw [← flat_pre, h]
theorem enI_all (D : PD) (to : ByteArray) (ws : List RT) : enI D to ws ws.length = enW D to ws := by unfold enI enW; rw [List.take_length]
theorem goI_all (D : PD) (to : ByteArray) (ws : List RT) : goI D to ws ws.length = otW D to ws := by unfold goI otW; rw [List.take_length]
theorem goI_len {D : PD} {to : ByteArray} {ws : List RT} (hw : ∀ r ∈ ws, 0 < r.1.length ∧ r.1.Nodup) (hz : wei D ws ≤ 262144) (j : Nat) : (goI D to ws j).length ≤ 262144 := by
  have h1 : (goI D to ws j).Sublist (ws.flatMap fun w => (exN D w D.nv).filter (goB D to)) := flat_take (fun w => (exN D w D.nv).filter (goB D to)) ws j
  have h2 := wei_sub D h1
  have h3 := wei_flat (D := D) (goB D to) ws hw
  exact Nat.le_trans (wei_len D _) (by omega)
theorem take_lt {L : List RT} {x : RT} (h : (L.take 30).length < 30) : (L ++ [x]).take 30 = L.take 30 ++ [x] := by
  have hl : L.length < 30 := by simp at h; omega
  rw [List.take_of_length_le (by simp; omega), List.take_of_length_le (by omega)]
theorem take_ge {L : List RT} {x : RT} (h : ¬ (L.take 30).length < 30) : (L ++ [x]).take 30 = L.take 30 := by
  have hl : 30 ≤ L.length := by simp at h; omega
  exact List.take_append_of_le_length hl
theorem take_nthZ {Z : List RR} {k : Nat} (h : k < Z.length) : Z.take (k + 1) = Z.take k ++ [nthZ Z k] := by
  rw [List.take_add_one, nthZ_at h]; rfl
theorem take_map {Z : List RR} {O : List RT} (h : Z.map (·.r) = O) {k : Nat} (hk : k < Z.length) : O.take (k + 1) = O.take k ++ [(nthZ Z k).r] := by
  rw [← h, ← List.map_take, ← List.map_take, take_nthZ hk, List.map_append]; rfl
theorem blk_app (A C : List RR) : blkZ (A ++ C) = blkZ A ++ blkZ C := by simp [blkZ]
theorem nod_at {Z : List RR} {k : Nat} (h : (blkZ Z).Nodup) (hk : k < Z.length) : (nthZ Z k).g ≠ (nthZ Z k).h ∧ (nthZ Z k).g ∉ blkZ (Z.take k) ∧ (nthZ Z k).h ∉ blkZ (Z.take k) := by
  have e : Z = Z.take k ++ [nthZ Z k] ++ Z.drop (k + 1) := by rw [← take_nthZ hk, List.take_append_drop]
  rw [e, blk_app, blk_app, List.nodup_append] at h
  have h1 := h.1
  rw [List.nodup_append] at h1
  have h2 := h1.2.1
  simp only [blkZ, List.flatMap_cons, List.flatMap_nil, List.append_nil, List.nodup_cons, List.mem_cons, List.not_mem_nil, or_false] at h2
  refine ⟨h2.1, fun hm => h1.2.2 _ hm _ ?_ rfl, fun hm => h1.2.2 _ hm _ ?_ rfl⟩ <;> simp [blkZ]
structure Three (B : Nat) (w : World) (vo vm vl : Value) (Zo Zm Zl : List RR) : Prop where
  o : RtsO B w vo Zo
  m : RtsL B w vm Zm
  l : RtsL B w vl Zl
  om : apV vo vm
  ol : apV vo vl
  ml : apV vm vl
theorem Three.below {B : Nat} {w w' : World} {vo vm vl : Value} {Zo Zm Zl : List RR} (h : Three B w vo vm vl Zo Zm Zl) (hb : Below w.heap.size w w') : Three B w' vo vm vl Zo Zm Zl :=
  ⟨h.o.below hb, h.m.below hb, h.l.below hb, h.om, h.ol, h.ml⟩
structure Four (B S : Nat) (w : World) (vo vm vl vn : Value) (Zo Zm Zl Zn : List RR) (k : Nat) : Prop where
  t : Three B w vo vm vl Zo Zm Zl
  n : RtsO S w vn Zn
  on : apV vo vn
  mn : apV vm vn
  hB : B ≤ S
  blk : ∀ x ∈ blkZ Zo, x < S ∨ x ∈ blkZ (Zn.take k)
theorem Four.below {B S : Nat} {w w' : World} {vo vm vl vn : Value} {Zo Zm Zl Zn : List RR} {k : Nat} (h : Four B S w vo vm vl vn Zo Zm Zl Zn k) (hb : Below w.heap.size w w') : Four B S w' vo vm vl vn Zo Zm Zl Zn k :=
  ⟨h.t.below hb, h.n.below hb, h.on, h.mn, h.hB, h.blk⟩
theorem Four.pushO {B S : Nat} {w w' : World} {vo vo' vm vl vn : Value} {Zo Zm Zl Zn : List RR} {k : Nat} (h : Four B S w vo vm vl vn Zo Zm Zl Zn k) (hk : k < Zn.length)
    (ho : w'.ownsRow B 34 2 vo' (Zo.length + 1) (celZ Zo ++ [(nthZ Zn k).u, (nthZ Zn k).v])) (hg : w.grownBy w' vo.ownBlock) (hl : vo'.ownBlock = vo.ownBlock ∨ vo'.ownBlock = some w.heap.size) :
    Four B S w' vo' vm vl vn (Zo ++ [nthZ Zn k]) Zm Zl Zn (k + 1) := by
  obtain ⟨n1, n2, n3⟩ := nod_at h.n.nod hk
  have hz := h.n.row _ (nthZ_mem hk)
  have no : ∀ x, (x = (nthZ Zn k).g ∨ x = (nthZ Zn k).h) → x ∉ blkZ Zo := fun x hx hm => by
    rcases h.blk x hm with h1 | h1
    · rcases hx with rfl | rfl
      · have := hz.p.blk.2; omega
      · have := hz.q.blk.2; omega
    · rcases hx with rfl | rfl
      · exact n2 h1
      · exact n3 h1
  refine ⟨⟨h.t.o.push (hz.le h.hB) n1 (no _ (.inl rfl)) (no _ (.inr rfl)) ho hg, h.t.m.beside h.t.o.own hg h.t.om, h.t.l.beside h.t.o.own hg h.t.ol, h.t.om.moved hl h.t.m.own, h.t.ol.moved hl h.t.l.own, h.t.ml⟩, h.n.beside h.t.o.own hg h.on, h.on.moved hl h.n.own, h.mn, h.hB, fun x hx => ?_⟩
  rw [blk_app] at hx
  rw [take_nthZ hk, blk_app]
  rcases List.mem_append.1 hx with h1 | h1
  · rcases h.blk x h1 with h2 | h2
    · exact .inl h2
    · exact .inr (List.mem_append_left _ h2)
  · exact .inr (List.mem_append_right _ h1)
theorem Four.skip {B S : Nat} {w : World} {vo vm vl vn : Value} {Zo Zm Zl Zn : List RR} {k : Nat} (h : Four B S w vo vm vl vn Zo Zm Zl Zn k) (hk : k < Zn.length) : Four B S w vo vm vl vn Zo Zm Zl Zn (k + 1) :=
  ⟨h.t, h.n, h.on, h.mn, h.hB, fun x hx => by
    rw [take_nthZ hk, blk_app]
    rcases h.blk x hx with h2 | h2
    · exact .inl h2
    · exact .inr (List.mem_append_left _ h2)⟩
theorem Four.pushM {B S : Nat} {w w' : World} {vo vm vm' vl vn : Value} {Zo Zm Zl Zn : List RR} {k : Nat} (h : Four B S w vo vm vl vn Zo Zm Zl Zn k) (hk : k < Zn.length)
    (ho : w'.ownsRow B 34 2 vm' (Zm.length + 1) (celZ Zm ++ [(nthZ Zn k).u, (nthZ Zn k).v])) (hg : w.grownBy w' vm.ownBlock) (hl : vm'.ownBlock = vm.ownBlock ∨ vm'.ownBlock = some w.heap.size) :
    Four B S w' vo vm' vl vn Zo (Zm ++ [nthZ Zn k]) Zl Zn (k + 1) := by
  have hz := h.n.row _ (nthZ_mem hk)
  have h' : Four B S w' vo vm' vl vn Zo (Zm ++ [nthZ Zn k]) Zl Zn k :=
    ⟨⟨h.t.o.beside h.t.m.own hg h.t.om.symm, h.t.m.push ⟨hz.p.le h.hB, .inl (hz.q.le h.hB)⟩ ho hg, h.t.l.beside h.t.m.own hg h.t.ml, (h.t.om.symm.moved hl h.t.o.own).symm, h.t.ol, h.t.ml.moved hl h.t.l.own⟩, h.n.beside h.t.m.own hg h.mn, h.on, h.mn.moved hl h.n.own, h.hB, h.blk⟩
  exact h'.skip hk
end Go.Proofs.Ytgjcppdeljoimaa

namespace Go.Proofs.Ytgjcppdeljoimaa
open Go.RowKit Go.Shelf
def RowsKept (A C : World) : Prop := ∀ (k : Nat) (c : Array Value) (t : TypeId) (z : Nat × Nat), (t = 34 ∨ t = 9) → A.heap[k]? = some (.cells c t z) → C.heap[k]? = some (.cells c t z)
theorem own_rows {A C : World} {B T size n : Nat} {v : Value} {xs : List Value} (h : A.ownsRow B T size v n xs) (hT : T = 34 ∨ T = 9) (hk : RowsKept A C) : C.ownsRow B T size v n xs := by
  refine ⟨h.1, ?_⟩
  rcases h.2 with hn | ⟨g, cap, cur, hv, hbg, hg, rest⟩
  · exact .inl hn
  · exact .inr ⟨g, cap, cur, hv, hbg, hk _ _ _ _ hT hg, rest⟩
theorem RowG.rows {A C : World} {B : Nat} {u : Value} {l : List ByteArray} {g : Nat} (h : RowG B A u l g) (hk : RowsKept A C) : RowG B C u l g := by
  obtain ⟨cap, cur, e, hb, hg, r⟩ := h
  exact ⟨cap, cur, e, hb, hk _ _ _ _ (.inr rfl) hg, r⟩
theorem RtsO.rows {A C : World} {B : Nat} {v : Value} {Z : List RR} (h : RtsO B A v Z) (hk : RowsKept A C) : RtsO B C v Z :=
  ⟨own_rows h.own (.inl rfl) hk, fun z hz => ⟨(h.row z hz).p.rows hk, (h.row z hz).q.rows hk⟩, h.nod⟩
theorem RtsL.rows {A C : World} {B : Nat} {v : Value} {Z : List RR} (h : RtsL B A v Z) (hk : RowsKept A C) : RtsL B C v Z :=
  ⟨own_rows h.own (.inl rfl) hk, fun z hz => ⟨(h.row z hz).1.rows hk, by
    rcases (h.row z hz).2 with h2 | h2
    · exact .inl (h2.rows hk)
    · exact .inr h2⟩⟩
theorem rows_of {A C : World} {row : Option Nat} (hg : A.grownBy C row) (hr : ∀ r, row = some r → ∃ o : Obj, A.heap[r]? = some o ∧ o.isCells = false) : RowsKept A C := fun k c t z _ hk => (hg.block k (Array.getElem?_eq_some_iff.1 hk).1 (fun e => by
  obtain ⟨o, ho, hc⟩ := hr k e.symm
  rw [hk] at ho; cases ho; cases hc)).trans hk
theorem rows_set {A : World} {b : Nat} {v : Value} (hb : Boxed A b 31 v) (x : Value) : RowsKept A (A.setCell ⟨b, 0, none⟩ x) := fun k c t z ht hk => (Below.heap_setCell A _ x k (fun e => by
  have e' : k = b := e
  rw [e', show A.heap[b]? = _ from hb] at hk
  simp only [Option.some.injEq, Obj.cells.injEq] at hk
  rcases ht with h | h <;> rw [h] at hk <;> exact absurd hk.2.1 (by decide))).trans hk
structure GI (w : World) (v0 v1 v2 v3 : Value) (to : ByteArray) (ve vo : Value) (Ze Zo : List RR) (X : World) : Prop where
  be : Boxed X (w.heap.size + 2) 31 ve
  bo : Boxed X (w.heap.size + 3) 31 vo
  e : RtsO w.heap.size X ve Ze
  o : RtsL w.heap.size X vo Zo
  ap : apV ve vo
  bel : Below w.heap.size w X
  p : X.heap[w.heap.size]? = some (.cells #[v0, v1, v2, v3] 28 (0, 0))
  t : Boxed X (w.heap.size + 1) 9 (.string to)
def ownE (s : Nat) (X : World) (k : Nat) : Prop := ownR (s + 2) X k ∨ ownR (s + 3) X k
section
variable {w : World} {v0 v1 v2 v3 : Value} {to : ByteArray} {ve vo : Value} {Ze Zo : List RR} {X : World}
theorem GI.st (h : GI w v0 v1 v2 v3 to ve vo Ze Zo X) : OwnSt (ownE w.heap.size) X := by
  have h1 := ownR_st h.be h.e.own
  have h2 := ownR_st h.bo h.o.own
  refine ⟨fun k hk => ?_, fun X' row hg hr k hk => ?_⟩
  · rcases hk with h | h
    · exact h1.1 k h
    · exact h2.1 k h
  · rcases hk with h | h
    · exact .inl (h1.2 X' row hg hr k h)
    · exact .inr (h2.2 X' row hg hr k h)
theorem GI.own (h : GI w v0 v1 v2 v3 to ve vo Ze Zo X) {k : Nat} (hk : ownE w.heap.size X k) : k = w.heap.size + 2 ∨ k = w.heap.size + 3 ∨ ve.ownBlock = some k ∨ vo.ownBlock = some k := by
  rcases hk with (rfl | ⟨v, hv, e⟩) | (rfl | ⟨v, hv, e⟩)
  · exact .inl rfl
  · rw [h.be.cell] at hv; cases hv; exact .inr (.inr (.inl e))
  · exact .inr (.inl rfl)
  · rw [h.bo.cell] at hv; cases hv; exact .inr (.inr (.inr e))
theorem GI.grow (h : GI w v0 v1 v2 v3 to ve vo Ze Zo X) {Y : World} {row : Option Nat} (hg : X.grownBy Y row) (hr : ∀ r, row = some r → w.heap.size ≤ r ∧ ∃ o : Obj, X.heap[r]? = some o ∧ o.isCells = false) : GI w v0 v1 v2 v3 to ve vo Ze Zo Y := by
  have nc : ∀ (k : Nat) (c : Array Value) (t : TypeId) (z : Nat × Nat), X.heap[k]? = some (.cells c t z) → Y.heap[k]? = some (.cells c t z) := fun k c t z hk => (hg.block k (Array.getElem?_eq_some_iff.1 hk).1 (fun e => by
    obtain ⟨o, ho, hc⟩ := (hr k e.symm).2
    rw [hk] at ho; cases ho; cases hc)).trans hk
  have rk : RowsKept X Y := rows_of hg (fun r e => (hr r e).2)
  exact ⟨nc _ _ _ _ h.be, nc _ _ _ _ h.bo, h.e.rows rk, h.o.rows rk, h.ap, h.bel.grown hg h.bel.size (fun k e => (hr k e).1), nc _ _ _ _ h.p, nc _ _ _ _ h.t⟩
theorem GI.below (h : GI w v0 v1 v2 v3 to ve vo Ze Zo X) {Y : World} (hb : Below X.heap.size X Y) : GI w v0 v1 v2 v3 to ve vo Ze Zo Y := h.grow (below_grown0 hb) (fun r e => by cases e)
theorem GI.kpb (h : GI w v0 v1 v2 v3 to ve vo Ze Zo X) {Y : World} (hb : Below X.heap.size X Y) : KeepsOthers X Y ∧ KpO (ownE w.heap.size) w.heap.size X Y :=
  ⟨keeps_below hb, h.st.kp h.bel.size (below_grown0 hb) (fun r e => by cases e)⟩
theorem GI.pushE (h : GI w v0 v1 v2 v3 to ve vo Ze Zo X) {z : RR} (hz : RowZ w.heap.size X z) (hgh : z.g ≠ z.h) (hg' : z.g ∉ blkZ Ze) (hh' : z.h ∉ blkZ Ze) {Y : World} {ve' : Value}
    (ho : Y.ownsRow w.heap.size 34 2 ve' (Ze.length + 1) (celZ Ze ++ [z.u, z.v])) (hg : X.grownBy Y ve.ownBlock) (hl : ve'.ownBlock = ve.ownBlock ∨ ve'.ownBlock = some X.heap.size) :
    GI w v0 v1 v2 v3 to ve' vo (Ze ++ [z]) Zo (Y.setCell ⟨w.heap.size + 2, 0, none⟩ ve') ∧ KeepsOthers X (Y.setCell ⟨w.heap.size + 2, 0, none⟩ ve') ∧ KpO (ownE w.heap.size) w.heap.size X (Y.setCell ⟨w.heap.size + 2, 0, none⟩ ve') := by
  have nE : ∀ k, ve.ownBlock = some k → w.heap.size ≤ k ∧ k < X.heap.size := fun k e => h.e.own.lt k e
  have b1 : Boxed Y (w.heap.size + 2) 31 ve := h.be.kept hg (h.be.not_row (by decide) h.e.own)
  have b2 : Boxed Y (w.heap.size + 3) 31 vo := h.bo.kept hg (h.bo.not_row (by decide) h.e.own)
  have e1 : RtsO w.heap.size Y ve' (Ze ++ [z]) := h.e.push hz hgh hg' hh' ho hg
  have o1 : RtsL w.heap.size Y vo Zo := h.o.beside h.e.own hg h.ap
  have rk := rows_set b1 ve'
  have bl : Below w.heap.size w Y := h.bel.grown hg h.bel.size (fun k e => (nE k e).1)
  have hp : Y.heap[w.heap.size]? = some (.cells #[v0, v1, v2, v3] 28 (0, 0)) := (hg.block _ (Array.getElem?_eq_some_iff.1 h.p).1 (fun e => by
    rcases h.e.own.2 with ⟨rfl, _⟩ | ⟨g, cap, cur, rfl, _, hgg, _⟩
    · cases e
    · simp only [Value.ownBlock, Option.some.injEq] at e
      rw [← e, h.p] at hgg
      simp only [Option.some.injEq, Obj.cells.injEq] at hgg
      exact absurd hgg.2.1 (by decide))).trans h.p
  have ht : Boxed Y (w.heap.size + 1) 9 (.string to) := h.t.kept hg (h.t.not_row (by decide) h.e.own)
  have sz : (Y.setCell ⟨w.heap.size + 2, 0, none⟩ ve').heap.size = Y.heap.size := by simp
  have sY := hg.size
  have st : ∀ k, k ≠ w.heap.size + 2 → (Y.setCell ⟨w.heap.size + 2, 0, none⟩ ve').heap[k]? = Y.heap[k]? := fun k hk => Below.heap_setCell Y _ _ k hk
  have gi : GI w v0 v1 v2 v3 to ve' vo (Ze ++ [z]) Zo (Y.setCell ⟨w.heap.size + 2, 0, none⟩ ve') :=
    ⟨b1.set ve', b2.other (by omega) _, e1.rows rk, o1.rows rk, h.ap.moved hl h.o.own, bl.setCell (p := ⟨w.heap.size + 2, 0, none⟩) (by show w.heap.size ≤ w.heap.size + 2; omega) _, (st _ (by omega)).trans hp, ht.other (by omega) _⟩
  refine ⟨gi, ?_, ⟨by omega, fun k hk => ?_, fun k hk => ?_, fun k c t zz hkc hno => ?_⟩⟩
  · refine (KeepsOthers.of_grownBy hg fun j o ej hj => ?_).trans (KeepsOthers.setCell _ _ _)
    rcases h.e.own.2 with ⟨e, _⟩ | ⟨g, cap, cur, e, _, hgb, _⟩
    · rw [e] at ej; cases ej
    · rw [e] at ej
      obtain rfl : g = j := by simpa [Value.ownBlock] using ej
      rw [hgb] at hj; cases hj; rfl
  · rcases gi.own hk with rfl | rfl | e | e
    · exact .inl (.inl (.inl rfl))
    · exact .inl (.inr (.inl rfl))
    · rcases hl with h1 | h1
      · exact .inl (.inl (.inr ⟨ve, h.be.cell, h1.symm.trans e⟩))
      · rw [h1] at e
        simp at e
        exact .inr (by omega)
    · exact .inl (.inr (.inr ⟨vo, h.bo.cell, e⟩))
  · exact (st k (by omega)).trans (hg.block k (by have := h.bel.size; omega) (fun e => by have := (nE k e.symm).1; omega))
  · have hkl := (Array.getElem?_eq_some_iff.1 hkc).1
    exact ((st k (fun e => hno (.inl (.inl e)))).trans (hg.block k hkl (fun e => hno (.inl (.inr ⟨ve, h.be.cell, e.symm⟩))))).trans hkc
theorem GI.pushO (h : GI w v0 v1 v2 v3 to ve vo Ze Zo X) {z : RR} (hz : RowZ w.heap.size X z) {Y : World} {vo' : Value}
    (ho : Y.ownsRow w.heap.size 34 2 vo' (Zo.length + 1) (celZ Zo ++ [z.u, z.v])) (hg : X.grownBy Y vo.ownBlock) (hl : vo'.ownBlock = vo.ownBlock ∨ vo'.ownBlock = some X.heap.size) :
    GI w v0 v1 v2 v3 to ve vo' Ze (Zo ++ [z]) (Y.setCell ⟨w.heap.size + 3, 0, none⟩ vo') ∧ KeepsOthers X (Y.setCell ⟨w.heap.size + 3, 0, none⟩ vo') ∧ KpO (ownE w.heap.size) w.heap.size X (Y.setCell ⟨w.heap.size + 3, 0, none⟩ vo') := by
  have nE : ∀ k, vo.ownBlock = some k → w.heap.size ≤ k ∧ k < X.heap.size := fun k e => h.o.own.lt k e
  have b1 : Boxed Y (w.heap.size + 2) 31 ve := h.be.kept hg (h.be.not_row (by decide) h.o.own)
  have b2 : Boxed Y (w.heap.size + 3) 31 vo := h.bo.kept hg (h.bo.not_row (by decide) h.o.own)
  have e1 : RtsO w.heap.size Y ve Ze := h.e.beside h.o.own hg h.ap.symm
  have o1 : RtsL w.heap.size Y vo' (Zo ++ [z]) := h.o.push ⟨hz.p, .inl hz.q⟩ ho hg
  have rk := rows_set b2 vo'
  have bl : Below w.heap.size w Y := h.bel.grown hg h.bel.size (fun k e => (nE k e).1)
  have hp : Y.heap[w.heap.size]? = some (.cells #[v0, v1, v2, v3] 28 (0, 0)) := (hg.block _ (Array.getElem?_eq_some_iff.1 h.p).1 (fun e => by
    rcases h.o.own.2 with ⟨rfl, _⟩ | ⟨g, cap, cur, rfl, _, hgg, _⟩
    · cases e
    · simp only [Value.ownBlock, Option.some.injEq] at e
      rw [← e, h.p] at hgg
      simp only [Option.some.injEq, Obj.cells.injEq] at hgg
      exact absurd hgg.2.1 (by decide))).trans h.p
  have ht : Boxed Y (w.heap.size + 1) 9 (.string to) := h.t.kept hg (h.t.not_row (by decide) h.o.own)
  have sz : (Y.setCell ⟨w.heap.size + 3, 0, none⟩ vo').heap.size = Y.heap.size := by simp
  have sY := hg.size
  have st : ∀ k, k ≠ w.heap.size + 3 → (Y.setCell ⟨w.heap.size + 3, 0, none⟩ vo').heap[k]? = Y.heap[k]? := fun k hk => Below.heap_setCell Y _ _ k hk
  have gi : GI w v0 v1 v2 v3 to ve vo' Ze (Zo ++ [z]) (Y.setCell ⟨w.heap.size + 3, 0, none⟩ vo') :=
    ⟨b1.other (by omega) _, b2.set vo', e1.rows rk, o1.rows rk, (h.ap.symm.moved hl h.e.own).symm, bl.setCell (p := ⟨w.heap.size + 3, 0, none⟩) (by show w.heap.size ≤ w.heap.size + 3; omega) _, (st _ (by omega)).trans hp, ht.other (by omega) _⟩
  refine ⟨gi, ?_, ⟨by omega, fun k hk => ?_, fun k hk => ?_, fun k c t zz hkc hno => ?_⟩⟩
  · refine (KeepsOthers.of_grownBy hg fun j o ej hj => ?_).trans (KeepsOthers.setCell _ _ _)
    rcases h.o.own.2 with ⟨e, _⟩ | ⟨g, cap, cur, e, _, hgb, _⟩
    · rw [e] at ej; cases ej
    · rw [e] at ej
      obtain rfl : g = j := by simpa [Value.ownBlock] using ej
      rw [hgb] at hj; cases hj; rfl
  · rcases gi.own hk with rfl | rfl | e | e
    · exact .inl (.inl (.inl rfl))
    · exact .inl (.inr (.inl rfl))
    · exact .inl (.inl (.inr ⟨ve, h.be.cell, e⟩))
    · rcases hl with h1 | h1
      · exact .inl (.inr (.inr ⟨vo, h.bo.cell, h1.symm.trans e⟩))
      · rw [h1] at e
        simp at e
        exact .inr (by omega)
  · exact (st k (by omega)).trans (hg.block k (by have := h.bel.size; omega) (fun e => by have := (nE k e.symm).1; omega))
  · have hkl := (Array.getElem?_eq_some_iff.1 hkc).1
    exact ((st k (fun e => hno (.inr (.inl e)))).trans (hg.block k hkl (fun e => hno (.inr (.inr ⟨vo, h.bo.cell, e.symm⟩))))).trans hkc
end
theorem close_cells {b : Nat} : ∀ (Ds : List Nat) (W : World), MarksOk b W Ds → ∀ (k : Nat) (c : Array Value) (t : TypeId) (z : Nat × Nat), W.heap[k]? = some (.cells c t z) → (closeM W Ds).heap[k]? = some (.cells c t z)
  | [], _, _, k, c, t, z, h => h
  | D :: Ds, W, hm, k, c, t, z, h => by
    have hn := List.nodup_cons.1 hm.once
    have hD := (hm.all D List.mem_cons_self).2
    refine close_cells (b := b) Ds _ ⟨hn.2, fun E hE => ?_⟩ k c t z ((World.putObj_heap_other (fun e => ?_)).trans h)
    · have := hm.all E (List.mem_cons_of_mem _ hE)
      exact ⟨this.1, (World.putObj_heap_other (fun e => hn.1 (by rw [← e]; exact hE))).trans this.2⟩
    · rw [e, hD] at h; cases h
theorem marks_set {b : Nat} {W : World} {Ds : List Nat} (h : MarksOk b W Ds) {k : Nat} {c : Array Value} {t : TypeId} {z : Nat × Nat} (hk : W.heap[k]? = some (.cells c t z)) (i : Nat) (x : Value) : MarksOk b (W.setCell ⟨k, i, none⟩ x) Ds :=
  ⟨h.once, fun D hD => ⟨(h.all D hD).1, (Below.heap_setCell W _ x D (fun e => by
    have e' : D = k := e
    have := (h.all D hD).2
    rw [e', hk] at this; cases this)).trans (h.all D hD).2⟩⟩
end Go.Proofs.Ytgjcppdeljoimaa
