/-
  The ways on from a way, as the program tells them: a function value that ranges over the valves at a place and hands on a new way for each that leads on.
-/
import Derived.Test.YtnpfnbgbodojnabOe
import Derived.Test.YtnpfnbgbodojnabMf
import Derived.Test.YtnpfnbgbodojnabMf
import Derived.Test.YtnpfnbgbodojnabMf
import Derived.Test.YtnpfnbgbodojnabZb
import Derived.Sort.CutIn
import Derived.Maps.OwnIn
import Derived.Test.YtnpfnbgbodojnabOk
import Derived.Test.YtnpfnbgbodojnabKa
namespace Go.Proofs.Ytnpfnbgbodojnab
open Go.RowKit Go.Shelf Go.Sort

attribute [local go_sem] Oper.semAt_some

theorem last_q (B : Nat) (u v : Value) (m : Nat) (f : Nat → ByteArray) (wr : World) (h : Lst B wr u (m + 1) 1 (cS f)) (hB : B ≤ wr.heap.size) (d : Nat) (os : Array Obj) : Calls Try.prog 63 #[.agg #[u, v]] (grow (redrawn wr d) os) fun e w'' => e = .returned (.string (f m)) ∧ ∃ p : Regrown, w'' = grow (redrawn wr p.d) p.os :=
  Calls.regrown_of (last_any B u v m f _ (h.kept (below_regrown wr d os) hB) (Nat.le_trans hB (below_regrown wr d os).size))

/-- The ways on by valves and the places behind them. -/
def exT (r : RT) (ys : List Two) : List RT := (ys.filter fun y => !hasB r.1.length (nthB r.1) y.1.2).map fun y => (r.1 ++ [y.1.2], r.2 ++ [y.1.1])
theorem exT_snoc (r : RT) (ys : List Two) (y : Two) : exT r (ys ++ [y]) = exT r ys ++ (bif hasB r.1.length (nthB r.1) y.1.2 then [] else [(r.1 ++ [y.1.2], r.2 ++ [y.1.1])]) := by
  unfold exT
  rw [List.filter_append, List.map_append]
  cases h : hasB r.1.length (nthB r.1) y.1.2 <;> simp [h]
theorem exT_len (r : RT) (ys : List Two) : (exT r ys).length ≤ ys.length := by
  unfold exT
  rw [List.length_map]; exact List.length_filter_le _ _
theorem exT_all {D : PD} {r : RT} (h8 : ∀ i, i < D.nv → (D.fv i).1.size ≤ 8 ∧ (D.fv i).2.1.size ≤ 8 ∧ (D.fv i).2.2.1.size ≤ 8) : exT r (vAt D.fv (lasB r) D.nv) = exN D r D.nv := by
  unfold exT vAt exN
  rw [List.filter_map, List.map_map, List.filter_filter]
  have hbs : ∀ i, i < D.nv → (nexB D r i).size ≤ 8 := fun i hi => by
    have := h8 i hi
    unfold nexB behS
    cases eqB (lasB r) (D.fv i).2.1 <;> cases eqB (lasB r) (D.fv i).2.2.1 <;> simp only [cond_true, cond_false] <;> first | omega | exact (by decide : (0 : Nat) ≤ 8)
  have e1 : (List.range D.nv).filter (fun a => ((fun y : Two => !hasB r.1.length (nthB r.1) y.1.2) ∘ fun i => two (D.fv i).1 (behS (D.fv i) (lasB r))) a && endB (D.fv a) (lasB r)) = (List.range D.nv).filter (okV D r) := by
    apply List.filter_congr
    intro i hi
    have hi' := List.mem_range.1 hi
    simp only [Function.comp_apply]
    rw [two_of (h8 i hi').1 (show (behS (D.fv i) (lasB r)).size ≤ 8 from hbs i hi')]
    unfold okV nexB
    rw [Bool.and_comm]
  rw [e1]
  apply List.map_congr_left
  intro i hi
  have hi' := List.mem_range.1 (List.mem_filter.1 hi).1
  simp only [Function.comp_apply]
  rw [two_of (h8 i hi').1 (show (behS (D.fv i) (lasB r)).size ≤ 8 from hbs i hi')]
  rfl

theorem Lst.low {B : Nat} {w w' : World} {v : Value} {n k : Nat} {c : Nat → Nat → Value} (h : Lst B w v n k c) (hk : ∀ i, i < B → w'.heap[i]? = w.heap[i]?) : Lst B w' v n k c := by
  obtain ⟨oa, cap, e, hn, hc⟩ := h
  refine ⟨oa, cap, e, hn, fun i hi => ?_⟩
  obtain ⟨b, off, e', hb, hcell⟩ := hc i hi
  exact ⟨b, off, e', hb, fun j hj => (World.cell?_of_block (hk b hb)).trans (hcell j hj)⟩

/-- A way with where its two lists lie, both there. -/
structure RY where
  r : RT
  g : Nat
  h : Nat
  cu : Nat
  cv : Nat
def RY.z (s : RY) : RR := ⟨s.r, .slice (some ⟨s.g, 0, none⟩) s.r.1.length s.cu, .slice (some ⟨s.h, 0, none⟩) s.r.2.length s.cv, s.g, s.h⟩
theorem RowZ.rs {B : Nat} {w : World} {z : RR} (h : RowZ B w z) : ∃ s : RY, s.z = z := by
  obtain ⟨c1, _, e1, _⟩ := h.p
  obtain ⟨c2, _, e2, _⟩ := h.q
  obtain ⟨r, u, v, g, k⟩ := z
  simp only at e1 e2
  subst e1 e2
  exact ⟨⟨r, g, k, c1, c2⟩, rfl⟩

def fitZ (m k S : Nat) (z : RR) (X : World) : Prop := RowZ S X z ∧ z.g ≠ z.h ∧ z.r.1.length = m ∧ z.r.2.length = k
theorem fitZ_put (m k S : Nat) (z : RR) (W : World) (l : Nat) (o o' : Obj) (h : fitZ m k S z W) (hl : W.heap[l]? = some o) (ho : o.isCells = false) : fitZ m k S z (W.putObj l o') := by
  have ne : ∀ {u : Value} {t : List ByteArray} {g : Nat}, RowG S W u t g → l ≠ g := fun hr e => by
    obtain ⟨_, cur, _, _, hg, _⟩ := hr
    rw [← e, hl] at hg
    cases hg; cases ho
  exact ⟨⟨h.1.p.same (World.putObj_heap_other (Ne.symm (ne h.1.p))), h.1.q.same (World.putObj_heap_other (Ne.symm (ne h.1.q)))⟩, h.2⟩

set_option maxRecDepth 100000 in
set_option maxHeartbeats 1000000 in
/-- The function value: it has the plant and the way in boxes. -/
theorem waysOn_any (v0 v1 v2 v3 u v : Value) (w : World) :
    Calls Try.prog 62 #[.agg #[v0, v1, v2, v3], .agg #[u, v]] w fun e w' => e = .returned (.func (.func 100) #[] #[.pointer (some ⟨w.heap.size, 0, none⟩), .pointer (some ⟨w.heap.size + 1, 0, none⟩)]) ∧
      w' = (w.alloc (.cells #[v0, v1, v2, v3] 28)).alloc (.cells #[u, v] 34) := by
  go_enter Try.func62, Try.ntmps62
  go_wp2
  go_ret
  exact ⟨by simp, rfl⟩

set_option maxRecDepth 100000 in
set_option maxHeartbeats 16000000 in
theorem ways_fit (n b1 b2 n₀ : Nat) (hn : 5 ≤ n) (v0 v1 v2 v3 : Value) (ou ov : Option Addr) (cu cv : Nat) (D : PD) (r : RT) (own : World → Nat → Prop) (w : World)
    (hb1 : w.heap[b1]? = some (.cells #[v0, v1, v2, v3] 28 (0, 0))) (hb2 : w.heap[b2]? = some (.cells #[.slice ou r.1.length cu, .slice ov r.2.length cv] 34 (0, 0))) (h : Lst n₀ w v3 D.nv 4 (cV D.fv)) (hu : Lst n₀ w (.slice ou r.1.length cu) r.1.length 1 (cS (nthB r.1))) (hv : Lst n₀ w (.slice ov r.2.length cv) r.2.length 1 (cS (nthB r.2)))
    (h8 : ∀ i, i < D.nv → (D.fv i).1.size ≤ 8 ∧ (D.fv i).2.1.size ≤ 8 ∧ (D.fv i).2.2.1.size ≤ 8) (hs1 : ∀ i, i < r.1.length → (nthB r.1 i).size ≤ 1048576) (hs2 : ∀ i, i < r.2.length → (nthB r.2 i).size ≤ 1048576) (h0l : 0 < r.1.length) (hl1 : r.1.length ≤ 1000) (hl2 : r.2.length ≤ 1000) (hn₀ : n₀ ≤ w.heap.size) :
    SeqFit Fence.wide n Try.prog 100 #[.pointer (some ⟨b1, 0, none⟩), .pointer (some ⟨b2, 0, none⟩)] (fun s : RY => #[Value.agg #[.slice (some ⟨s.g, 0, none⟩) s.r.1.length s.cu, .slice (some ⟨s.h, 0, none⟩) s.r.2.length s.cv]]) own n₀ (fun k => k < n₀ ∨ k = b2) (fun S (s : RY) X => fitZ (r.1.length + 1) (r.2.length + 1) S s.z X) (fun zs => zs.map (·.r) = exN D r D.nv) D.nv w := by
  intro l J W hW hJ hst hno hY h0
  obtain ⟨m, hm⟩ : ∃ m, r.1.length = m + 1 := ⟨r.1.length - 1, by omega⟩
  have EL : Hid (lasB r = nthB r.1 m) := by show lasB r = _; unfold lasB; rw [hm, Nat.add_sub_cancel]
  have hc1 := (hW.block b1 (Array.getElem?_eq_some_iff.1 hb1).1).trans hb1
  have hc2 := (hW.block b2 (Array.getElem?_eq_some_iff.1 hb2).1).trans hb2
  have HL : Hid (Lst n₀ W v3 D.nv 4 (cV D.fv) ∧ Lst n₀ W (.slice ou r.1.length cu) r.1.length 1 (cS (nthB r.1)) ∧ Lst n₀ W (.slice ov r.2.length cv) r.2.length 1 (cS (nthB r.2))) := ⟨h.kept hW hn₀, hu.kept hW hn₀, hv.kept hW hn₀⟩
  have hn₀' : n₀ ≤ W.heap.size := Nat.le_trans hn₀ hW.size
  have HY : Hid _ := hY
  have HJ : Hid (OwnFrom W.heap.size J) := hJ
  have HST : Hid (∀ pre W1, J pre W1 → OwnSt own W1) := hst
  have H0 : Hid _ := h0
  have HNO : Hid _ := hno
  have H8 : Hid _ := h8
  have HS1 : Hid _ := hs1
  have HS2 : Hid _ := hs2
  have HM : Hid (r.1.length = m + 1) := hm
  have l1 := (Array.getElem?_eq_some_iff.1 hc1).1
  have l2 := (Array.getElem?_eq_some_iff.1 hc2).1
  clear hY hJ hst h0 hno h8 h hu hv hb1 hb2 hs1 hs2 hm
  refine callsIn_of_wp_marks Try.func100 rfl trivial ?_ rfl
  simp only [Try.ntmps100, List.size_toArray, List.length_cons, List.length_nil, Nat.reduceAdd, Nat.reduceSub, Array.replicate_succ, Array.replicate_zero, List.push_toArray, List.append_toArray, List.nil_append, List.cons_append]
  obtain ⟨V, hVd⟩ : ∃ V, V = W.alloc (.cells #[.func (.yield l) #[] #[]] 131) := ⟨_, rfl⟩
  have EV : Hid (V = W.alloc (.cells #[.func (.yield l) #[] #[]] 131)) := hVd
  have sV : V.heap.size = W.heap.size + 1 := by rw [hVd]; simp
  have bV : Below W.heap.size W V := by rw [hVd]; exact (Below.refl _ _).alloc (Nat.le_refl _) _
  have d1 := (bV.block _ l1).trans hc1
  have d2 := (bV.block _ l2).trans hc2
  have x0 := (cell_row d1 0 _ rfl).1
  have x1 := (cell_row d1 1 _ rfl).1
  have x2 := (cell_row d1 2 _ rfl).1
  have x3 := (cell_row d1 3 _ rfl).1
  have y0 := (cell_row d2 0 _ rfl).1
  have y1 := (cell_row d2 1 _ rfl).1
  simp only [List.getElem_toArray, List.getElem_cons_zero, List.getElem_cons_succ] at x0 x1 x2 x3 y0 y1
  have q0 := fun d os => cell_regrown x0 d os
  have q1 := fun d os => cell_regrown x1 d os
  have q2 := fun d os => cell_regrown x2 d os
  have q3 := fun d os => cell_regrown x3 d os
  have z0 := fun d os => cell_regrown y0 d os
  have z1 := fun d os => cell_regrown y1 d os
  have LL : Lst n₀ V (.slice ou r.1.length cu) (m + 1) 1 (cS (nthB r.1)) := by have := HL.out.2.1.kept bV hn₀'; rw [HM.out] at this ⊢; exact this
  have D1 : Hid (V.heap[b1]? = some (.cells #[v0, v1, v2, v3] 28 (0, 0))) := d1
  have D2 : Hid (V.heap[b2]? = some (.cells #[.slice ou r.1.length cu, .slice ov r.2.length cv] 34 (0, 0))) := d2
  clear hVd hc1 hc2 d1 d2
  have hnV : n₀ ≤ V.heap.size := by omega
  gi_upto_region 1 with fail
  rw [← EV.out]
  refine wpIn_wide.2 ?_
  refine wp_region_head_tail 3 (by kernel_rfl) (by kernel_rfl) ?_
  simp only [List.take_succ_cons, List.take_zero, List.drop_succ_cons, List.drop_zero]
  repeat (first | go_big_quiet_step (with_reducible exact last_q n₀ _ _ m _ _ LL hnV _ _) | quiet_step (with_reducible exact last_q n₀ _ _ m _ _ LL hnV _ _))
  refine wpQuiet_nil ?_
  intro _ hw'
  obtain ⟨⟨dq, osq⟩, hw''⟩ := hw'
  subst hw''
  have bu : Below V.heap.size V (grow (redrawn V dq) osq) := below_regrown _ dq osq
  generalize grow (redrawn V dq) osq = U at bu ⊢
  clear x0 x1 x2 x3 y0 y1 q0 q1 q2 q3 z0 z1 LL
  have UW : Below W.heap.size W U := bV.trans (bu.mono (by omega))
  go_wp2_with (go_at_call 32; refine (valvesAt_any _ _ _ _ _ _).mono ?_; rintro e w' ⟨rfl, rfl⟩)
  rw [← EL.out]
  obtain ⟨W0, hW0⟩ : ∃ W0, W0 = (U.alloc (.cells #[v0, v1, v2, v3] 28)).alloc (.cells #[.string (lasB r)] 9) := ⟨_, rfl⟩
  have E0 : Hid (W0 = (U.alloc (.cells #[v0, v1, v2, v3] 28)).alloc (.cells #[.string (lasB r)] 9)) := hW0
  have s0 : W0.heap.size = U.heap.size + 1 + 1 := by rw [hW0]; simp
  have sU : W.heap.size + 1 ≤ U.heap.size := by have := bu.size; omega
  have bU : Below U.heap.size U W0 := by rw [hW0]; exact ((Below.refl _ _).alloc (Nat.le_refl _) _).alloc (by simp) _
  have hbW : Hid (Below W.heap.size W W0) := UW.trans (bU.mono (by omega))
  have yV : V.heap[W.heap.size]? = some (.cells #[.func (.yield l) #[] #[]] 131 (0, 0)) := by rw [EV.out]; exact heap_alloc_new W _
  have bY : Hid (Boxed W0 W.heap.size 131 (.func (.yield l) #[] #[])) := (bU.block _ (by omega)).trans ((bu.block _ (by omega)).trans yV)
  have bP : W0.heap[U.heap.size]? = some (.cells #[v0, v1, v2, v3] 28 (0, 0)) := by
    rw [hW0]; exact (Below.heap_alloc _ _ _ (by simp)).trans (heap_alloc_new U _)
  have bX : Hid (Boxed W0 (U.heap.size + 1) 9 (.string (lasB r))) := by
    have := Boxed.new (U.alloc (.cells #[v0, v1, v2, v3] 28)) 9 (.string (lasB r))
    rw [World.size_alloc] at this
    rw [hW0]; exact this
  have bR : Hid (W0.heap[b2]? = some (.cells #[.slice ou r.1.length cu, .slice ov r.2.length cv] 34 (0, 0))) := (bU.block _ (by omega)).trans ((bu.block _ (by omega)).trans D2.out)
  have J0 : Hid (J [] W0) := HJ.out [] W W0 none H0.out (below_grown0 hbW.out) (fun r e => by cases e)
  have ow0 : ∀ k, own W0 k → own W k := (HST.out _ _ H0.out).2 W0 none (below_grown0 hbW.out) (fun r e => by cases e)
  have NO : Hid (∀ k, (k < n₀ ∨ k = U.heap.size + 1 ∨ k = W.heap.size ∨ k = b2) → ¬ own W0 k) := fun k hk ho => by
    have h1 := ow0 k ho
    rcases hk with h | h | h | h
    · exact HNO.out k (.inl h) h1
    · have := (HST.out _ _ H0.out).1 k h1; omega
    · have := (HST.out _ _ H0.out).1 k h1; omega
    · exact HNO.out k (.inr h) h1
  rw [← E0.out]
  have q1 := (cell_row bP 3 _ rfl).1
  simp only [List.getElem_toArray, List.getElem_cons_zero, List.getElem_cons_succ] at q1
  clear hW0 bU UW bu yV bP ow0 D1 D2 bV
  refine wpIn_block ?_
  refine wpIn_rangeFunc_ownG (F := Fence.wide) rfl (by omega) (gf := 72) (lb := #[.pointer (some ⟨U.heap.size, 0, none⟩), .pointer (some ⟨U.heap.size + 1, 0, none⟩)]) rfl trivial (enters_of Try.func72 (by kernel_rfl) rfl)
    (vals_seq (n - 1) U.heap.size (U.heap.size + 1) n₀ (by omega) v3 D.nv D.fv (lasB r) W0 q1 bX.out.cell (HL.out.1.kept hbW.out hn₀') H8.out (by omega) (by omega) (by omega))
    KpV.trans (KpV.put (by omega) (by omega)) (Below.refl _ _) (fun _ => rfl)
    (fun pre X => (∃ zs : List RY, zs.map (·.r) = exT r pre ∧ J zs X) ∧ (Boxed X W.heap.size 131 (.func (.yield l) #[] #[]) ∧ Boxed X (U.heap.size + 1) 9 (.string (lasB r)) ∧ X.heap[b2]? = some (.cells #[.slice ou r.1.length cu, .slice ov r.2.length cv] 34 (0, 0))) ∧ (∀ k, (k < n₀ ∨ k = U.heap.size + 1 ∨ k = W.heap.size ∨ k = b2) → ¬ own X k) ∧ ∀ k, k < n₀ → X.heap[k]? = W.heap[k]?)
    (fun _ _ _ => False)
    (fun pre A C row hs hg hr => by
      have nc : ∀ (k : Nat) (c : Array Value) (t : TypeId) (z : Nat × Nat), A.heap[k]? = some (.cells c t z) → some k ≠ row := fun k c t z hk e => by
        obtain ⟨o, ho, hcc⟩ := (hr k e.symm).2
        rw [hk] at ho; cases ho; cases hcc
      obtain ⟨⟨zs, hzs, hj⟩, ⟨h1, h2, h3⟩, h4, h5⟩ := hs
      refine ⟨⟨zs, hzs, HJ.out _ A C row hj hg (fun r e => ⟨by have := (hr r e).1; omega, (hr r e).2⟩)⟩, ⟨boxed_own (β := Unit) _ _ (fun _ => _) () A C row h1 hg (fun r e => (hr r e).2), boxed_own (β := Unit) _ _ (fun _ => _) () A C row h2 hg (fun r e => (hr r e).2), (hg.block _ (Array.getElem?_eq_some_iff.1 h3).1 (nc _ _ _ _ h3)).trans h3⟩, fun k hk ho => h4 k hk ((HST.out _ A hj).2 C row hg (fun r e => (hr r e).2) k ho), fun k hk => (hg.block k (by have := h2.lt; omega) (fun e => by have := (hr k e.symm).1; omega)).trans (h5 k hk)⟩)
    (fun _ _ _ _ _ hs _ _ => hs)
    ⟨⟨[], rfl, J0.out⟩, ⟨bY.out, bX.out, bR.out⟩, NO.out, fun k hk => hbW.out.block k (by omega)⟩
    (fun y => { tmps := #[.func (.yield l) #[] #[], .pointer (some ⟨b1, 0, none⟩), .pointer (some ⟨b2, 0, none⟩), .pointer (some ⟨W.heap.size, 0, none⟩), .string y.1.1, .string y.1.2, .agg #[v0, v1, v2, v3], .agg #[.slice ou r.1.length cu, .slice ov r.2.length cv], .string (lasB r), .func (.func 72) #[] #[.pointer (some ⟨U.heap.size, 0, none⟩), .pointer (some ⟨U.heap.size + 1, 0, none⟩)], .string y.1.1, .string y.1.2, undef, undef, undef, undef, undef, undef, undef, undef, undef, undef, undef], defers := [] }) ?assign ?body ?done ?stop
  case assign =>
    intro l' y X K hK
    gi_wp2
    exact hK
  case body =>
    rintro l' pre y X ⟨⟨zs, hzs, hJ1⟩, ⟨hB1, hB2, hP⟩, hno1, hlow⟩ hlt
    have hlen : zs.length < D.nv := by have := congrArg List.length hzs; have := exT_len r pre; simp at *; omega
    have g0 := (cell_row hP 0 _ rfl).1
    have g1 := (cell_row hP 1 _ rfl).1
    simp only [List.getElem_toArray, List.getElem_cons_zero, List.getElem_cons_succ] at g0 g1
    have HX : Hid (Lst n₀ X (.slice ou r.1.length cu) r.1.length 1 (cS (nthB r.1)) ∧ Lst n₀ X (.slice ov r.2.length cv) r.2.length 1 (cS (nthB r.2))) := ⟨HL.out.2.1.low hlow, HL.out.2.2.low hlow⟩
    have hXs : W0.heap.size ≤ X.heap.size ∨ True := .inr trivial
    have hnX : n₀ ≤ X.heap.size := by have := hB2.lt; omega
    have SN : Hid (exT r (pre ++ [y]) = exT r pre ++ (bif hasB r.1.length (nthB r.1) y.1.2 then [] else [(r.1 ++ [y.1.2], r.2 ++ [y.1.1])])) := exT_snoc r pre y
    have hc := hB1.cell
    have hy1 := y.2.1
    have hy2 := y.2.2
    cases hh : hasB r.1.length (nthB r.1) y.1.2
    · have HH : Hid (hasB r.1.length (nthB r.1) y.1.2 = false) := hh
      clear hh
      gi_wp2_with (first
        | (refine ⟨trivial, (fun _ => by omega), ?_⟩; gi_at_call 91; refine (CallsIn.inRound l' (callsIn_wide.2 (hasI_any n₀ _ r.1.length (nthB r.1) y.1.2 _ HX.out.1))).mono ?_; rintro e w' ⟨rfl, hw'⟩; have hw2 := hw'.symm; subst hw2; rw [HH.out]))
      have qg0 := fun d os => cell_regrown g0 d os
      have qg1 := fun d os => cell_regrown g1 d os
      have qhc := fun d os => cell_regrown hc d os
      refine wpIn_region_mix 5 [0, 1, 2, 3] (by kernel_rfl) (by kernel_rfl) (by kernel_rfl) ?_
      simp only [List.filterMap_cons, List.filterMap_nil, List.getElem?_cons_succ, List.getElem?_cons_zero]
      repeat (first | go_big_quiet_step (fail) | quiet_step (fail))
      refine wpQuiet_nil ?_
      clear qg0 qg1 qhc g0 g1 hc
      refine call1 (md := .any) (f := 0) (i := 4) (dc := 20) (fn := 101) ⟨rfl, rfl, rfl, by decide⟩ (by kernel_rfl) ?run ((withNext_any n₀ _ _ r y.1.1 y.1.2 X.drew (HX.out.1.kept ((Below.refl n₀ X).drew) (Nat.le_refl _)) (HX.out.2.kept ((Below.refl n₀ X).drew) (Nat.le_refl _)) hnX hl1 hl2 HS1.out HS2.out (by omega) (by omega)).mono ?_)
      case run => go_simp
      rintro e X2 ⟨z, rfl, hzr, hRZ, hgh, hb2⟩
      obtain ⟨s, rfl⟩ := hRZ.rs
      replace hzr : s.r = (r.1 ++ [y.1.2], r.2 ++ [y.1.1]) := hzr
      have bX2 : Below X.heap.size X X2 := ((Below.refl _ _).drew).trans hb2
      have hJ2 : J zs X2 := HJ.out zs X X2 none hJ1 (below_grown0 bX2) (fun r e => by cases e)
      obtain ⟨fn, tmps, assign, body, hy, hR⟩ := HY.out zs s X X2 hJ1 hJ2 ⟨hRZ, hgh, by show s.r.1.length = _; rw [hzr]; simp, by show s.r.2.length = _; rw [hzr]; simp⟩ hlen
      have HZR : Hid (s.r = (r.1 ++ [y.1.2], r.2 ++ [y.1.1])) := hzr
      clear hzr
      refine ⟨_, rfl, regrown_of_below bX2, ?_⟩
      refine ⟨by kernel_rfl, ?_⟩
      simp only [RY.z]
      simp only [List.drop_succ_cons, List.drop_zero]
      simp only [Act.put, List.setIfInBounds_toArray, List.set_cons_zero, List.set_cons_succ]
      gi_wp2
      refine ⟨(fun _ => by omega), (round_wide hR).mono ?_⟩
      rintro e X3 ⟨rfl, hJ3, hk3, hf3⟩
      gi_wp2
      have hs3 := hk3.size
      have hs2 := bX2.size
      have kb : ∀ (k : Nat) (c : Array Value) (t : TypeId) (z : Nat × Nat), X.heap[k]? = some (.cells c t z) → ¬ own X k → X3.heap[k]? = some (.cells c t z) := fun k c t z hk ho => by
        have hkl := (Array.getElem?_eq_some_iff.1 hk).1
        refine hk3.blk k c t z ((bX2.block k hkl).trans hk) (fun h2 => ho ((HST.out zs X hJ1).2 X2 none (below_grown0 bX2) (fun r e => by cases e) k h2))
      have hx3 := kb _ _ _ _ hB2 (hno1 _ (.inr (.inl rfl)))
      have hy3 := kb _ _ _ _ hB1 (hno1 _ (.inr (.inr (.inl rfl))))
      have hr3 := kb _ _ _ _ hP (hno1 _ (.inr (.inr (.inr rfl))))
      have low3 : ∀ k, k < n₀ → X3.heap[k]? = X.heap[k]? := fun k hk => (hk3.low k hk).trans (bX2.block k (by omega))
      refine ⟨⟨Nat.le_trans hs2 hf3.size, fun k o hk h0 ho => hf3.same k o (by omega) ((bX2.block k (Array.getElem?_eq_some_iff.1 h0).1).trans h0) ho⟩, ⟨Nat.le_trans hs2 hs3, fun k hk => ?_⟩, ⟨zs ++ [s], ?_, hJ3⟩, ⟨hy3, hx3, hr3⟩, fun k hk ho => ?_, fun k hk => (low3 k hk).trans (hlow k hk)⟩
      · rcases hk with hk | rfl
        · exact low3 k hk
        · exact hx3.trans hB2.symm
      · rw [SN.out, HH.out, List.map_append, hzs]
        simp [HZR.out]
      · rcases hk3.old k ho with h1 | h1
        · exact hno1 k hk ((HST.out zs X hJ1).2 X2 none (below_grown0 bX2) (fun r e => by cases e) k h1)
        · have := hB2.lt
          have := hB1.lt
          have := (Array.getElem?_eq_some_iff.1 hP).1
          omega
    · have HH : Hid (hasB r.1.length (nthB r.1) y.1.2 = true) := hh
      clear hh
      gi_wp2_with (first
        | (refine ⟨trivial, (fun _ => by omega), ?_⟩; gi_at_call 91; refine (CallsIn.inRound l' (callsIn_wide.2 (hasI_any n₀ _ r.1.length (nthB r.1) y.1.2 _ HX.out.1))).mono ?_; rintro e w' ⟨rfl, hw'⟩; have hw2 := hw'.symm; subst hw2; rw [HH.out]))
      exact ⟨KeepsFrom.refl _ _, KpV.refl _ _ _, ⟨zs, by rw [SN.out, HH.out, hzs]; simp, hJ1⟩, ⟨hB1, hB2, hP⟩, hno1, hlow⟩
  case done =>
    rintro E ys X hD rfl ⟨⟨zs, hzs, hJ2⟩, _, _⟩ hK
    gi_wp2
    refine ⟨by simp, .inl ⟨_, _, rfl, run_takeDeferred hK, ?_⟩⟩
    exact ⟨_, results_none rfl _ _ _, ⟨_, rfl⟩, zs, by rw [hzs, exT_all H8.out], HJ.out.putObj _ hJ2 (by omega) hK rfl⟩
  case stop =>
    rintro E c pre X _ _ h _
    exact h.elim

end Go.Proofs.Ytnpfnbgbodojnab

/-
  Where the program's going on stands: the ways that have ended and the others, each list in a box, beside the plant and the end; how one is put in.
-/
namespace Go.Proofs.Ytnpfnbgbodojnab
open Go.RowKit Go.Shelf

/-- Rows of names and of ways lie as they lay. -/
def RowsKept (A C : World) : Prop := ∀ (k : Nat) (c : Array Value) (t : TypeId) (z : Nat × Nat), (t = 34 ∨ t = 9) → A.heap[k]? = some (.cells c t z) → C.heap[k]? = some (.cells c t z)
theorem own_rows {A C : World} {B T size n : Nat} {v : Value} {xs : List Value} (h : A.ownsRow B T size v n xs) (hT : T = 34 ∨ T = 9) (hk : RowsKept A C) : C.ownsRow B T size v n xs := by
  refine ⟨h.1, ?_⟩
  rcases h.2 with hn | ⟨g, cap, cur, hv, hbg, hg, rest⟩
  · exact .inl hn
  · exact .inr ⟨g, cap, cur, hv, hbg, hk _ _ _ _ hT hg, rest⟩
theorem RowG.rows {A C : World} {B : Nat} {u : Value} {l : List ByteArray} {g : Nat} (h : RowG B A u l g) (hk : RowsKept A C) : RowG B C u l g := by
  obtain ⟨cap, cur, e, hb, hg, r⟩ := h
  exact ⟨cap, cur, e, hb, hk _ _ _ _ (.inr rfl) hg, r⟩
theorem RtsO.rows {A C : World} {B : Nat} {v : Value} {Z : List RR} (h : RtsO B A v Z) (hk : RowsKept A C) : RtsO B C v Z :=
  ⟨own_rows h.own (.inl rfl) hk, fun z hz => ⟨(h.row z hz).p.rows hk, (h.row z hz).q.rows hk⟩, h.nod⟩
theorem RtsL.rows {A C : World} {B : Nat} {v : Value} {Z : List RR} (h : RtsL B A v Z) (hk : RowsKept A C) : RtsL B C v Z :=
  ⟨own_rows h.own (.inl rfl) hk, fun z hz => ⟨(h.row z hz).1.rows hk, by
    rcases (h.row z hz).2 with h2 | h2
    · exact .inl (h2.rows hk)
    · exact .inr h2⟩⟩
theorem rows_of {A C : World} {row : Option Nat} (hg : A.grownBy C row) (hr : ∀ r, row = some r → ∃ o : Obj, A.heap[r]? = some o ∧ o.isCells = false) : RowsKept A C := fun k c t z _ hk => (hg.block k (Array.getElem?_eq_some_iff.1 hk).1 (fun e => by
  obtain ⟨o, ho, hc⟩ := hr k e.symm
  rw [hk] at ho; cases ho; cases hc)).trans hk
theorem rows_set {A : World} {b : Nat} {v : Value} (hb : Boxed A b 31 v) (x : Value) : RowsKept A (A.setCell ⟨b, 0, none⟩ x) := fun k c t z ht hk => (Below.heap_setCell A _ x k (fun e => by
  have e' : k = b := e
  rw [e', show A.heap[b]? = _ from hb] at hk
  simp only [Option.some.injEq, Obj.cells.injEq] at hk
  rcases ht with h | h <;> rw [h] at hk <;> exact absurd hk.2.1 (by decide))).trans hk

/-- The state of the going on; s is where its boxes begin. -/
structure GI (w : World) (v0 v1 v2 v3 : Value) (to : ByteArray) (ve vo : Value) (Ze Zo : List RR) (X : World) : Prop where
  be : Boxed X (w.heap.size + 2) 31 ve
  bo : Boxed X (w.heap.size + 3) 31 vo
  e : RtsO w.heap.size X ve Ze
  o : RtsL w.heap.size X vo Zo
  ap : apV ve vo
  bel : Below w.heap.size w X
  p : X.heap[w.heap.size]? = some (.cells #[v0, v1, v2, v3] 28 (0, 0))
  t : Boxed X (w.heap.size + 1) 9 (.string to)
def ownE (s : Nat) (X : World) (k : Nat) : Prop := ownR (s + 2) X k ∨ ownR (s + 3) X k

section
variable {w : World} {v0 v1 v2 v3 : Value} {to : ByteArray} {ve vo : Value} {Ze Zo : List RR} {X : World}

theorem GI.st (h : GI w v0 v1 v2 v3 to ve vo Ze Zo X) : OwnSt (ownE w.heap.size) X := by
  have h1 := ownR_st h.be h.e.own
  have h2 := ownR_st h.bo h.o.own
  refine ⟨fun k hk => ?_, fun X' row hg hr k hk => ?_⟩
  · rcases hk with h | h
    · exact h1.1 k h
    · exact h2.1 k h
  · rcases hk with h | h
    · exact .inl (h1.2 X' row hg hr k h)
    · exact .inr (h2.2 X' row hg hr k h)
theorem GI.own (h : GI w v0 v1 v2 v3 to ve vo Ze Zo X) {k : Nat} (hk : ownE w.heap.size X k) : k = w.heap.size + 2 ∨ k = w.heap.size + 3 ∨ ve.ownBlock = some k ∨ vo.ownBlock = some k := by
  rcases hk with (rfl | ⟨v, hv, e⟩) | (rfl | ⟨v, hv, e⟩)
  · exact .inl rfl
  · rw [h.be.cell] at hv; cases hv; exact .inr (.inr (.inl e))
  · exact .inr (.inl rfl)
  · rw [h.bo.cell] at hv; cases hv; exact .inr (.inr (.inr e))
theorem GI.grow (h : GI w v0 v1 v2 v3 to ve vo Ze Zo X) {Y : World} {row : Option Nat} (hg : X.grownBy Y row) (hr : ∀ r, row = some r → w.heap.size ≤ r ∧ ∃ o : Obj, X.heap[r]? = some o ∧ o.isCells = false) : GI w v0 v1 v2 v3 to ve vo Ze Zo Y := by
  have nc : ∀ (k : Nat) (c : Array Value) (t : TypeId) (z : Nat × Nat), X.heap[k]? = some (.cells c t z) → Y.heap[k]? = some (.cells c t z) := fun k c t z hk => (hg.block k (Array.getElem?_eq_some_iff.1 hk).1 (fun e => by
    obtain ⟨o, ho, hc⟩ := (hr k e.symm).2
    rw [hk] at ho; cases ho; cases hc)).trans hk
  have rk : RowsKept X Y := rows_of hg (fun r e => (hr r e).2)
  exact ⟨nc _ _ _ _ h.be, nc _ _ _ _ h.bo, h.e.rows rk, h.o.rows rk, h.ap, h.bel.grown hg h.bel.size (fun k e => (hr k e).1), nc _ _ _ _ h.p, nc _ _ _ _ h.t⟩
theorem GI.below (h : GI w v0 v1 v2 v3 to ve vo Ze Zo X) {Y : World} (hb : Below X.heap.size X Y) : GI w v0 v1 v2 v3 to ve vo Ze Zo Y := h.grow (below_grown0 hb) (fun r e => by cases e)
theorem GI.kpb (h : GI w v0 v1 v2 v3 to ve vo Ze Zo X) {Y : World} (hb : Below X.heap.size X Y) : KeepsOthers X Y ∧ KpO (ownE w.heap.size) w.heap.size X Y :=
  ⟨keeps_below hb, h.st.kp h.bel.size (below_grown0 hb) (fun r e => by cases e)⟩

/-- One more that has ended. -/
theorem GI.pushE (h : GI w v0 v1 v2 v3 to ve vo Ze Zo X) {z : RR} (hz : RowZ w.heap.size X z) (hgh : z.g ≠ z.h) (hg' : z.g ∉ blkZ Ze) (hh' : z.h ∉ blkZ Ze) {Y : World} {ve' : Value}
    (ho : Y.ownsRow w.heap.size 34 2 ve' (Ze.length + 1) (celZ Ze ++ [z.u, z.v])) (hg : X.grownBy Y ve.ownBlock) (hl : ve'.ownBlock = ve.ownBlock ∨ ve'.ownBlock = some X.heap.size) :
    GI w v0 v1 v2 v3 to ve' vo (Ze ++ [z]) Zo (Y.setCell ⟨w.heap.size + 2, 0, none⟩ ve') ∧ KeepsOthers X (Y.setCell ⟨w.heap.size + 2, 0, none⟩ ve') ∧ KpO (ownE w.heap.size) w.heap.size X (Y.setCell ⟨w.heap.size + 2, 0, none⟩ ve') := by
  have nE : ∀ k, ve.ownBlock = some k → w.heap.size ≤ k ∧ k < X.heap.size := fun k e => h.e.own.lt k e
  have b1 : Boxed Y (w.heap.size + 2) 31 ve := h.be.kept hg (h.be.not_row (by decide) h.e.own)
  have b2 : Boxed Y (w.heap.size + 3) 31 vo := h.bo.kept hg (h.bo.not_row (by decide) h.e.own)
  have e1 : RtsO w.heap.size Y ve' (Ze ++ [z]) := h.e.push hz hgh hg' hh' ho hg
  have o1 : RtsL w.heap.size Y vo Zo := h.o.beside h.e.own hg h.ap
  have rk := rows_set b1 ve'
  have bl : Below w.heap.size w Y := h.bel.grown hg h.bel.size (fun k e => (nE k e).1)
  have hp : Y.heap[w.heap.size]? = some (.cells #[v0, v1, v2, v3] 28 (0, 0)) := (hg.block _ (Array.getElem?_eq_some_iff.1 h.p).1 (fun e => by
    rcases h.e.own.2 with ⟨rfl, _⟩ | ⟨g, cap, cur, rfl, _, hgg, _⟩
    · cases e
    · simp only [Value.ownBlock, Option.some.injEq] at e
      rw [← e, h.p] at hgg
      simp only [Option.some.injEq, Obj.cells.injEq] at hgg
      exact absurd hgg.2.1 (by decide))).trans h.p
  have ht : Boxed Y (w.heap.size + 1) 9 (.string to) := h.t.kept hg (h.t.not_row (by decide) h.e.own)
  have sz : (Y.setCell ⟨w.heap.size + 2, 0, none⟩ ve').heap.size = Y.heap.size := by simp
  have sY := hg.size
  have st : ∀ k, k ≠ w.heap.size + 2 → (Y.setCell ⟨w.heap.size + 2, 0, none⟩ ve').heap[k]? = Y.heap[k]? := fun k hk => Below.heap_setCell Y _ _ k hk
  have gi : GI w v0 v1 v2 v3 to ve' vo (Ze ++ [z]) Zo (Y.setCell ⟨w.heap.size + 2, 0, none⟩ ve') :=
    ⟨b1.set ve', b2.other (by omega) _, e1.rows rk, o1.rows rk, h.ap.moved hl h.o.own, bl.setCell (p := ⟨w.heap.size + 2, 0, none⟩) (by show w.heap.size ≤ w.heap.size + 2; omega) _, (st _ (by omega)).trans hp, ht.other (by omega) _⟩
  refine ⟨gi, ?_, ⟨by omega, fun k hk => ?_, fun k hk => ?_, fun k c t zz hkc hno => ?_⟩⟩
  · refine (KeepsOthers.of_grownBy hg fun j o ej hj => ?_).trans (KeepsOthers.setCell _ _ _)
    rcases h.e.own.2 with ⟨e, _⟩ | ⟨g, cap, cur, e, _, hgb, _⟩
    · rw [e] at ej; cases ej
    · rw [e] at ej
      obtain rfl : g = j := by simpa [Value.ownBlock] using ej
      rw [hgb] at hj; cases hj; rfl
  · rcases gi.own hk with rfl | rfl | e | e
    · exact .inl (.inl (.inl rfl))
    · exact .inl (.inr (.inl rfl))
    · rcases hl with h1 | h1
      · exact .inl (.inl (.inr ⟨ve, h.be.cell, h1.symm.trans e⟩))
      · rw [h1] at e
        simp at e
        exact .inr (by omega)
    · exact .inl (.inr (.inr ⟨vo, h.bo.cell, e⟩))
  · exact (st k (by omega)).trans (hg.block k (by have := h.bel.size; omega) (fun e => by have := (nE k e.symm).1; omega))
  · have hkl := (Array.getElem?_eq_some_iff.1 hkc).1
    exact ((st k (fun e => hno (.inl (.inl e)))).trans (hg.block k hkl (fun e => hno (.inl (.inr ⟨ve, h.be.cell, e.symm⟩))))).trans hkc

/-- One more that goes on. -/
theorem GI.pushO (h : GI w v0 v1 v2 v3 to ve vo Ze Zo X) {z : RR} (hz : RowZ w.heap.size X z) {Y : World} {vo' : Value}
    (ho : Y.ownsRow w.heap.size 34 2 vo' (Zo.length + 1) (celZ Zo ++ [z.u, z.v])) (hg : X.grownBy Y vo.ownBlock) (hl : vo'.ownBlock = vo.ownBlock ∨ vo'.ownBlock = some X.heap.size) :
    GI w v0 v1 v2 v3 to ve vo' Ze (Zo ++ [z]) (Y.setCell ⟨w.heap.size + 3, 0, none⟩ vo') ∧ KeepsOthers X (Y.setCell ⟨w.heap.size + 3, 0, none⟩ vo') ∧ KpO (ownE w.heap.size) w.heap.size X (Y.setCell ⟨w.heap.size + 3, 0, none⟩ vo') := by
  have nE : ∀ k, vo.ownBlock = some k → w.heap.size ≤ k ∧ k < X.heap.size := fun k e => h.o.own.lt k e
  have b1 : Boxed Y (w.heap.size + 2) 31 ve := h.be.kept hg (h.be.not_row (by decide) h.o.own)
  have b2 : Boxed Y (w.heap.size + 3) 31 vo := h.bo.kept hg (h.bo.not_row (by decide) h.o.own)
  have e1 : RtsO w.heap.size Y ve Ze := h.e.beside h.o.own hg h.ap.symm
  have o1 : RtsL w.heap.size Y vo' (Zo ++ [z]) := h.o.push ⟨hz.p, .inl hz.q⟩ ho hg
  have rk := rows_set b2 vo'
  have bl : Below w.heap.size w Y := h.bel.grown hg h.bel.size (fun k e => (nE k e).1)
  have hp : Y.heap[w.heap.size]? = some (.cells #[v0, v1, v2, v3] 28 (0, 0)) := (hg.block _ (Array.getElem?_eq_some_iff.1 h.p).1 (fun e => by
    rcases h.o.own.2 with ⟨rfl, _⟩ | ⟨g, cap, cur, rfl, _, hgg, _⟩
    · cases e
    · simp only [Value.ownBlock, Option.some.injEq] at e
      rw [← e, h.p] at hgg
      simp only [Option.some.injEq, Obj.cells.injEq] at hgg
      exact absurd hgg.2.1 (by decide))).trans h.p
  have ht : Boxed Y (w.heap.size + 1) 9 (.string to) := h.t.kept hg (h.t.not_row (by decide) h.o.own)
  have sz : (Y.setCell ⟨w.heap.size + 3, 0, none⟩ vo').heap.size = Y.heap.size := by simp
  have sY := hg.size
  have st : ∀ k, k ≠ w.heap.size + 3 → (Y.setCell ⟨w.heap.size + 3, 0, none⟩ vo').heap[k]? = Y.heap[k]? := fun k hk => Below.heap_setCell Y _ _ k hk
  have gi : GI w v0 v1 v2 v3 to ve vo' Ze (Zo ++ [z]) (Y.setCell ⟨w.heap.size + 3, 0, none⟩ vo') :=
    ⟨b1.other (by omega) _, b2.set vo', e1.rows rk, o1.rows rk, (h.ap.symm.moved hl h.e.own).symm, bl.setCell (p := ⟨w.heap.size + 3, 0, none⟩) (by show w.heap.size ≤ w.heap.size + 3; omega) _, (st _ (by omega)).trans hp, ht.other (by omega) _⟩
  refine ⟨gi, ?_, ⟨by omega, fun k hk => ?_, fun k hk => ?_, fun k c t zz hkc hno => ?_⟩⟩
  · refine (KeepsOthers.of_grownBy hg fun j o ej hj => ?_).trans (KeepsOthers.setCell _ _ _)
    rcases h.o.own.2 with ⟨e, _⟩ | ⟨g, cap, cur, e, _, hgb, _⟩
    · rw [e] at ej; cases ej
    · rw [e] at ej
      obtain rfl : g = j := by simpa [Value.ownBlock] using ej
      rw [hgb] at hj; cases hj; rfl
  · rcases gi.own hk with rfl | rfl | e | e
    · exact .inl (.inl (.inl rfl))
    · exact .inl (.inr (.inl rfl))
    · exact .inl (.inl (.inr ⟨ve, h.be.cell, e⟩))
    · rcases hl with h1 | h1
      · exact .inl (.inr (.inr ⟨vo, h.bo.cell, h1.symm.trans e⟩))
      · rw [h1] at e
        simp at e
        exact .inr (by omega)
  · exact (st k (by omega)).trans (hg.block k (by have := h.bel.size; omega) (fun e => by have := (nE k e.symm).1; omega))
  · have hkl := (Array.getElem?_eq_some_iff.1 hkc).1
    exact ((st k (fun e => hno (.inr (.inl e)))).trans (hg.block k hkl (fun e => hno (.inr (.inr ⟨vo, h.bo.cell, e.symm⟩))))).trans hkc

end

theorem close_cells {b : Nat} : ∀ (Ds : List Nat) (W : World), MarksOk b W Ds → ∀ (k : Nat) (c : Array Value) (t : TypeId) (z : Nat × Nat), W.heap[k]? = some (.cells c t z) → (closeM W Ds).heap[k]? = some (.cells c t z)
  | [], _, _, k, c, t, z, h => h
  | D :: Ds, W, hm, k, c, t, z, h => by
    have hn := List.nodup_cons.1 hm.once
    have hD := (hm.all D List.mem_cons_self).2
    refine close_cells (b := b) Ds _ ⟨hn.2, fun E hE => ?_⟩ k c t z ((World.putObj_heap_other (fun e => ?_)).trans h)
    · have := hm.all E (List.mem_cons_of_mem _ hE)
      exact ⟨this.1, (World.putObj_heap_other (fun e => hn.1 (by rw [← e]; exact hE))).trans this.2⟩
    · rw [e, hD] at h; cases h
theorem marks_set {b : Nat} {W : World} {Ds : List Nat} (h : MarksOk b W Ds) {k : Nat} {c : Array Value} {t : TypeId} {z : Nat × Nat} (hk : W.heap[k]? = some (.cells c t z)) (i : Nat) (x : Value) : MarksOk b (W.setCell ⟨k, i, none⟩ x) Ds :=
  ⟨h.once, fun D hD => ⟨(h.all D hD).1, (Below.heap_setCell W _ x D (fun e => by
    have e' : D = k := e
    have := (h.all D hD).2
    rw [e', hk] at this; cases this)).trans (h.all D hD).2⟩⟩

end Go.Proofs.Ytnpfnbgbodojnab

/-
  Contracts of what the program asks of a plant: whether a name is a vessel's, a joint's; what is behind a valve.
-/
namespace Go.Proofs.Ytnpfnbgbodojnab
open Go.RowKit

theorem find_any (n : Nat) (p : Nat → Bool) : decide (0 ≤ findI n p) = (List.range n).any p := by
  unfold findI
  cases h : (List.range n).find? p with
  | none =>
    have h2 : (List.range n).any p = false := by
      rw [List.any_eq_false]; intro i hi; rw [List.find?_eq_none] at h; exact h i hi
    rw [h2]; decide
  | some k =>
    have h2 : (List.range n).any p = true := List.any_eq_true.2 ⟨k, List.mem_of_find?_eq_some h, List.find?_some h⟩
    rw [h2]; simp

set_option maxRecDepth 100000 in
set_option maxHeartbeats 1000000 in
theorem ves1_any (a s x : ByteArray) (c : Int) (nb : Nat) (w : World) (hx : w.cell? ⟨nb, 0, none⟩ = some (.string x)) (hnb : nb < w.heap.size) :
    Calls Try.prog 61 #[.agg #[.string a, .int .i64 c, .string s], .pointer (some ⟨nb, 0, none⟩)] w fun e w' => e = .returned (.bool (eqB a x && decide (0 < c))) ∧ Below w.heap.size w w' := by
  have hx' := fun o => cell_past hx hnb o
  unfold eqB
  cases h1 : (a.toList == x.toList)
  · go_enter Try.func61, Try.ntmps61
    go_wp2
    go_ret
    exact ⟨rfl, (Below.refl _ _).alloc (Nat.le_refl _) _⟩
  · go_enter Try.func61, Try.ntmps61
    go_wp2
    go_ret
    exact ⟨rfl, (Below.refl _ _).alloc (Nat.le_refl _) _⟩

set_option maxRecDepth 100000 in
set_option maxHeartbeats 1000000 in
theorem vesF_any (B : Nat) (v : Value) (n : Nat) (f : Nat → ByteArray × Int × ByteArray) (x : ByteArray) (nb : Nat) (w : World) (h : Lst B w v n 3 (cP f)) (hB : B ≤ w.heap.size) (hx : w.cell? ⟨nb, 0, none⟩ = some (.string x)) (hnb : nb < w.heap.size) :
    Calls Try.prog 99 #[v, .func (.func 61) #[] #[.pointer (some ⟨nb, 0, none⟩)]] w fun e w' => e = .returned (.int .i64 (findI n fun i => eqB (f i).1 x && decide (0 < (f i).2.1))) ∧ Below w.heap.size w w' := by
  obtain ⟨oa, cap, rfl, hn, hc⟩ := h
  unfold maxLen at hn
  have HC : Hid _ := hc
  have HX : Hid _ := hx
  clear hc hx
  go_enter Try.func99, Try.ntmps99
  go_wp2
  go_loopw [8] (fun i wr => ∃ k : Nat, k ≤ n ∧ i = .int .i64 k ∧ Hid (∀ j, j < k → (eqB (f j).1 x && decide (0 < (f j).2.1)) = false) ∧ Hid (Below w.heap.size w wr)) (fun i _ => n - (intOf i).toNat)
  case atStart => exact ⟨0, Nat.zero_le _, rfl, fun _ h => by omega, Below.refl _ _⟩
  case round =>
    obtain ⟨k, hk, rfl, hno, hbel⟩ := hrel
    have hs := hbel.out.size
    by_cases hlt : k < n
    · obtain ⟨b, off, rfl, hbB, hcell⟩ := HC.out k hlt
      have e0 : wr.cell? ⟨b, off + k * 3, none⟩ = some (.string (f k).1) := (hbel.out.cell (p := ⟨b, off + k * 3, none⟩) (by show b < _; omega)).trans (by simpa [cP] using hcell 0 (by omega))
      have e1 : wr.cell? ⟨b, off + k * 3 + 1, none⟩ = some (.int .i64 (f k).2.1) := (hbel.out.cell (p := ⟨b, off + k * 3 + 1, none⟩) (by show b < _; omega)).trans (by simpa [cP] using hcell 1 (by omega))
      have e2 : wr.cell? ⟨b, off + k * 3 + 2, none⟩ = some (.string (f k).2.2) := (hbel.out.cell (p := ⟨b, off + k * 3 + 2, none⟩) (by show b < _; omega)).trans (by simpa [cP] using hcell 2 (by omega))
      have HXR : Hid (wr.cell? ⟨nb, 0, none⟩ = some (.string x)) := (hbel.out.cell (p := ⟨nb, 0, none⟩) hnb).trans HX.out
      cases hy : (eqB (f k).1 x && decide (0 < (f k).2.1))
      · have HY : Hid ((eqB (f k).1 x && decide (0 < (f k).2.1)) = false) := hy
        clear hy
        go_wp2_with (go_at_call 61; refine (ves1_any _ _ x _ nb _ HXR.out (by omega)).mono ?_; rintro e w1 ⟨rfl, hb1⟩; rw [HY.out])
        go_roundw
        case rel => exact ⟨k + 1, by omega, by go_num, fun j hj => by
          by_cases e : j = k
          · subst e; exact HY.out
          · exact hno.out j (by omega), hbel.out.trans (hb1.mono hs)⟩
        case measure => simp [intOf]; omega
      · have HY : Hid ((eqB (f k).1 x && decide (0 < (f k).2.1)) = true) := hy
        clear hy
        go_wp2_with (go_at_call 61; refine (ves1_any _ _ x _ nb _ HXR.out (by omega)).mono ?_; rintro e w1 ⟨rfl, hb1⟩; rw [HY.out])
        rw [find_yes hlt HY.out hno.out]
        go_ret
        exact ⟨rfl, hbel.out.trans (hb1.mono hs)⟩
    · go_wp2
      go_ret
      have hkn : k = n := by omega
      subst hkn
      rw [find_no hno.out]
      exact ⟨rfl, hbel.out⟩

set_option maxRecDepth 100000 in
set_option maxHeartbeats 1000000 in
theorem vesC_any (B : Nat) (v : Value) (n : Nat) (f : Nat → ByteArray × Int × ByteArray) (x : ByteArray) (nb : Nat) (w : World) (h : Lst B w v n 3 (cP f)) (hB : B ≤ w.heap.size) (hx : w.cell? ⟨nb, 0, none⟩ = some (.string x)) (hnb : nb < w.heap.size) :
    Calls Try.prog 60 #[v, .func (.func 61) #[] #[.pointer (some ⟨nb, 0, none⟩)]] w fun e w' => e = .returned (.bool (vesB n f x)) ∧ Below w.heap.size w w' := by
  unfold vesB
  rw [← find_any]
  go_enter Try.func60, Try.ntmps60
  go_wp2_with (go_at_call 99; refine (vesF_any B v n f x nb _ h hB hx hnb).mono ?_; rintro e w1 ⟨rfl, hb1⟩)
  go_ret
  exact ⟨rfl, hb1⟩

set_option maxRecDepth 100000 in
set_option maxHeartbeats 1000000 in
theorem isVessel_any (B : Nat) (v0 v1 v2 v3 : Value) (n : Nat) (f : Nat → ByteArray × Int × ByteArray) (x : ByteArray) (w : World) (h : Lst B w v2 n 3 (cP f)) (hB : B ≤ w.heap.size) :
    Calls Try.prog 24 #[.agg #[v0, v1, v2, v3], .string x] w fun e w' => e = .returned (.bool (vesB n f x)) ∧ Below w.heap.size w w' := by
  have hmf : ∀ (fn : Fn) (first cap : Array Value) (w : World), (Instr.makeFunc fn first cap).run Try.prog w = .ok (.func fn first cap) w := fun _ _ _ _ => rfl
  have H : Hid (∀ o1 o2, Lst B ((w.alloc o1).alloc o2) v2 n 3 (cP f)) := fun o1 o2 => h.kept (((Below.refl _ _).alloc (Nat.le_refl _) o1).alloc (by simp) o2) hB
  clear h
  go_enter Try.func24, Try.ntmps24
  go_wp2_with (go_at_call 60; refine (vesC_any B v2 n f x (w.heap.size + 1) _ (H.out _ _) (by simp; omega) (by simp) (by simp)).mono ?_; rintro e w1 ⟨rfl, hb1⟩)
  go_ret
  exact ⟨rfl, (((Below.refl _ _).alloc (Nat.le_refl _) _).alloc (by simp) _).trans (hb1.mono (by simp; omega))⟩

set_option maxRecDepth 100000 in
set_option maxHeartbeats 1000000 in
theorem joi1_any (a s x : ByteArray) (c : Int) (nb : Nat) (w : World) (hx : w.cell? ⟨nb, 0, none⟩ = some (.string x)) (hnb : nb < w.heap.size) :
    Calls Try.prog 102 #[.agg #[.string a, .int .i64 c, .string s], .pointer (some ⟨nb, 0, none⟩)] w fun e w' => e = .returned (.bool (eqB a x && (c == 0))) ∧ Below w.heap.size w w' := by
  have hx' := fun o => cell_past hx hnb o
  unfold eqB
  cases h1 : (a.toList == x.toList)
  · go_enter Try.func102, Try.ntmps102
    go_wp2
    go_ret
    exact ⟨rfl, (Below.refl _ _).alloc (Nat.le_refl _) _⟩
  · go_enter Try.func102, Try.ntmps102
    go_wp2
    go_ret
    exact ⟨rfl, (Below.refl _ _).alloc (Nat.le_refl _) _⟩

set_option maxRecDepth 100000 in
set_option maxHeartbeats 1000000 in
theorem joiF_any (B : Nat) (v : Value) (n : Nat) (f : Nat → ByteArray × Int × ByteArray) (x : ByteArray) (nb : Nat) (w : World) (h : Lst B w v n 3 (cP f)) (hB : B ≤ w.heap.size) (hx : w.cell? ⟨nb, 0, none⟩ = some (.string x)) (hnb : nb < w.heap.size) :
    Calls Try.prog 99 #[v, .func (.func 102) #[] #[.pointer (some ⟨nb, 0, none⟩)]] w fun e w' => e = .returned (.int .i64 (findI n fun i => eqB (f i).1 x && ((f i).2.1 == 0))) ∧ Below w.heap.size w w' := by
  obtain ⟨oa, cap, rfl, hn, hc⟩ := h
  unfold maxLen at hn
  have HC : Hid _ := hc
  have HX : Hid _ := hx
  clear hc hx
  go_enter Try.func99, Try.ntmps99
  go_wp2
  go_loopw [8] (fun i wr => ∃ k : Nat, k ≤ n ∧ i = .int .i64 k ∧ Hid (∀ j, j < k → (eqB (f j).1 x && ((f j).2.1 == 0)) = false) ∧ Hid (Below w.heap.size w wr)) (fun i _ => n - (intOf i).toNat)
  case atStart => exact ⟨0, Nat.zero_le _, rfl, fun _ h => by omega, Below.refl _ _⟩
  case round =>
    obtain ⟨k, hk, rfl, hno, hbel⟩ := hrel
    have hs := hbel.out.size
    by_cases hlt : k < n
    · obtain ⟨b, off, rfl, hbB, hcell⟩ := HC.out k hlt
      have e0 : wr.cell? ⟨b, off + k * 3, none⟩ = some (.string (f k).1) := (hbel.out.cell (p := ⟨b, off + k * 3, none⟩) (by show b < _; omega)).trans (by simpa [cP] using hcell 0 (by omega))
      have e1 : wr.cell? ⟨b, off + k * 3 + 1, none⟩ = some (.int .i64 (f k).2.1) := (hbel.out.cell (p := ⟨b, off + k * 3 + 1, none⟩) (by show b < _; omega)).trans (by simpa [cP] using hcell 1 (by omega))
      have e2 : wr.cell? ⟨b, off + k * 3 + 2, none⟩ = some (.string (f k).2.2) := (hbel.out.cell (p := ⟨b, off + k * 3 + 2, none⟩) (by show b < _; omega)).trans (by simpa [cP] using hcell 2 (by omega))
      have HXR : Hid (wr.cell? ⟨nb, 0, none⟩ = some (.string x)) := (hbel.out.cell (p := ⟨nb, 0, none⟩) hnb).trans HX.out
      cases hy : (eqB (f k).1 x && ((f k).2.1 == 0))
      · have HY : Hid ((eqB (f k).1 x && ((f k).2.1 == 0)) = false) := hy
        clear hy
        go_wp2_with (go_at_call 102; refine (joi1_any _ _ x _ nb _ HXR.out (by omega)).mono ?_; rintro e w1 ⟨rfl, hb1⟩; rw [HY.out])
        go_roundw
        case rel => exact ⟨k + 1, by omega, by go_num, fun j hj => by
          by_cases e : j = k
          · subst e; exact HY.out
          · exact hno.out j (by omega), hbel.out.trans (hb1.mono hs)⟩
        case measure => simp [intOf]; omega
      · have HY : Hid ((eqB (f k).1 x && ((f k).2.1 == 0)) = true) := hy
        clear hy
        go_wp2_with (go_at_call 102; refine (joi1_any _ _ x _ nb _ HXR.out (by omega)).mono ?_; rintro e w1 ⟨rfl, hb1⟩; rw [HY.out])
        rw [find_yes hlt HY.out hno.out]
        go_ret
        exact ⟨rfl, hbel.out.trans (hb1.mono hs)⟩
    · go_wp2
      go_ret
      have hkn : k = n := by omega
      subst hkn
      rw [find_no hno.out]
      exact ⟨rfl, hbel.out⟩

set_option maxRecDepth 100000 in
set_option maxHeartbeats 1000000 in
theorem joiC_any (B : Nat) (v : Value) (n : Nat) (f : Nat → ByteArray × Int × ByteArray) (x : ByteArray) (nb : Nat) (w : World) (h : Lst B w v n 3 (cP f)) (hB : B ≤ w.heap.size) (hx : w.cell? ⟨nb, 0, none⟩ = some (.string x)) (hnb : nb < w.heap.size) :
    Calls Try.prog 60 #[v, .func (.func 102) #[] #[.pointer (some ⟨nb, 0, none⟩)]] w fun e w' => e = .returned (.bool (joiB n f x)) ∧ Below w.heap.size w w' := by
  unfold joiB
  rw [← find_any]
  go_enter Try.func60, Try.ntmps60
  go_wp2_with (go_at_call 99; refine (joiF_any B v n f x nb _ h hB hx hnb).mono ?_; rintro e w1 ⟨rfl, hb1⟩)
  go_ret
  exact ⟨rfl, hb1⟩

set_option maxRecDepth 100000 in
set_option maxHeartbeats 1000000 in
theorem isJoint_any (B : Nat) (v0 v1 v2 v3 : Value) (n : Nat) (f : Nat → ByteArray × Int × ByteArray) (x : ByteArray) (w : World) (h : Lst B w v2 n 3 (cP f)) (hB : B ≤ w.heap.size) :
    Calls Try.prog 64 #[.agg #[v0, v1, v2, v3], .string x] w fun e w' => e = .returned (.bool (joiB n f x)) ∧ Below w.heap.size w w' := by
  have hmf : ∀ (fn : Fn) (first cap : Array Value) (w : World), (Instr.makeFunc fn first cap).run Try.prog w = .ok (.func fn first cap) w := fun _ _ _ _ => rfl
  have H : Hid (∀ o1 o2, Lst B ((w.alloc o1).alloc o2) v2 n 3 (cP f)) := fun o1 o2 => h.kept (((Below.refl _ _).alloc (Nat.le_refl _) o1).alloc (by simp) o2) hB
  clear h
  go_enter Try.func64, Try.ntmps64
  go_wp2_with (go_at_call 60; refine (joiC_any B v2 n f x (w.heap.size + 1) _ (H.out _ _) (by simp; omega) (by simp) (by simp)).mono ?_; rintro e w1 ⟨rfl, hb1⟩)
  go_ret
  exact ⟨rfl, (((Below.refl _ _).alloc (Nat.le_refl _) _).alloc (by simp) _).trans (hb1.mono (by simp; omega))⟩

set_option maxRecDepth 100000 in
set_option maxHeartbeats 1000000 in
theorem behI_any (n a b s x : ByteArray) (w : World) :
    Calls Try.prog 73 #[.agg #[.string n, .string a, .string b, .string s], .string x] w fun e w' => e = .returned (.tuple #[.string (behS (n, a, b, s) x), .bool (endB (n, a, b, s) x)]) ∧ Below w.heap.size w w' := by
  cases h1 : (x.toList == a.toList)
  · cases h2 : (x.toList == b.toList)
    · have e1 : behS (n, a, b, s) x = ⟨#[]⟩ := by simp only [behS, eqB, h1, h2, cond_false]
      have e2 : endB (n, a, b, s) x = false := by simp only [endB, eqB, h1, h2, Bool.or_false]
      rw [e1, e2]
      go_enter Try.func73, Try.ntmps73
      go_wp2
      go_ret2
      exact ⟨rfl, (Below.refl _ _).alloc (Nat.le_refl _) _⟩
    · have e1 : behS (n, a, b, s) x = a := by simp only [behS, eqB, h1, h2, cond_false, cond_true]
      have e2 : endB (n, a, b, s) x = true := by simp only [endB, eqB, h1, h2, Bool.or_true]
      rw [e1, e2]
      go_enter Try.func73, Try.ntmps73
      go_wp2
      go_ret2
      exact ⟨rfl, (Below.refl _ _).alloc (Nat.le_refl _) _⟩
  · have e1 : behS (n, a, b, s) x = b := by simp only [behS, eqB, h1, cond_true]
    have e2 : endB (n, a, b, s) x = true := by simp only [endB, eqB, h1, Bool.true_or]
    rw [e1, e2]
    go_enter Try.func73, Try.ntmps73
    go_wp2
    go_ret2
    exact ⟨rfl, (Below.refl _ _).alloc (Nat.le_refl _) _⟩

end Go.Proofs.Ytnpfnbgbodojnab

/-
  A contract of the program's going on: all ways one valve longer, those that come to the end and those that can go on, each list in memory of its own.
-/
namespace Go.Proofs.Ytnpfnbgbodojnab
open Go.RowKit Go.Shelf Go.Sort

attribute [local go_sem] Oper.semAt_some

theorem filt_snoc (p : RR → Bool) (l : List RR) (z : RR) : (l ++ [z]).filter p = l.filter p ++ (bif p z then [z] else []) := by
  rw [List.filter_append]
  cases h : p z <;> simp [h]
def zsE (to : ByteArray) (pre : List RY) : List RR := (pre.map RY.z).filter fun z => toB to z.r
def zsO (D : PD) (to : ByteArray) (pre : List RY) : List RR := (pre.map RY.z).filter fun z => goB D to z.r
theorem zsE_snoc (to : ByteArray) (pre : List RY) (s : RY) : zsE to (pre ++ [s]) = zsE to pre ++ (bif toB to s.r then [s.z] else []) := by
  unfold zsE; rw [List.map_append]; exact filt_snoc _ _ _
theorem zsO_snoc (D : PD) (to : ByteArray) (pre : List RY) (s : RY) : zsO D to (pre ++ [s]) = zsO D to pre ++ (bif goB D to s.r then [s.z] else []) := by
  unfold zsO; rw [List.map_append]; exact filt_snoc _ _ _
theorem zsE_map (to : ByteArray) (pre : List RY) : (zsE to pre).map (·.r) = (pre.map (·.r)).filter (toB to) := by
  unfold zsE
  rw [List.filter_map, List.map_map, List.filter_map]; rfl
theorem zsO_map (D : PD) (to : ByteArray) (pre : List RY) : (zsO D to pre).map (·.r) = (pre.map (·.r)).filter (goB D to) := by
  unfold zsO
  rw [List.filter_map, List.map_map, List.filter_map]; rfl
theorem zs_len (D : PD) (to : ByteArray) (pre : List RY) : (zsE to pre).length ≤ pre.length ∧ (zsO D to pre).length ≤ pre.length := by
  constructor
  · exact Nat.le_trans (List.length_filter_le _ _) (by simp)
  · exact Nat.le_trans (List.length_filter_le _ _) (by simp)
theorem enI_len {D : PD} {to : ByteArray} {ws : List RT} (hw : ∀ r ∈ ws, 0 < r.1.length ∧ r.1.Nodup) (hz : wei D ws ≤ 262144) (j : Nat) : (enI D to ws j).length ≤ 262144 := by
  have h1 : (enI D to ws j).Sublist (ws.flatMap fun w => (exN D w D.nv).filter (toB to)) := flat_take (fun w => (exN D w D.nv).filter (toB to)) ws j
  have h2 := wei_sub D h1
  have h3 := wei_flat (D := D) (toB to) ws hw
  exact Nat.le_trans (wei_len D _) (by omega)

theorem map_memG {Z : List RR} {O : List RT} (h : Z.map (·.r) = O) {z : RR} (hz : z ∈ Z) : z.r ∈ O := by rw [← h]; exact List.mem_map.2 ⟨z, hz, rfl⟩
theorem map_atG {Z : List RR} {O : List RT} (h : Z.map (·.r) = O) {j : Nat} (hj : j < Z.length) : O[j]? = some (nthZ Z j).r := by rw [← h, List.getElem?_map, nthZ_at hj]; rfl

theorem row_slice' {w : World} {base e size n : Nat} {v : Value} {xs : List Value} (h : w.ownsRow base e size v n xs) : ∃ o c, v = .slice o n c := by
  rcases h.2 with ⟨rfl, hn⟩ | ⟨g, cap, cur, rfl, _⟩
  · rw [hn]; exact ⟨_, _, rfl⟩
  · exact ⟨_, _, rfl⟩

/-- The box of a way that was handed on. -/
def waR (s : RY) (W : World) : World := W.alloc (.cells #[.slice (some ⟨s.g, 0, none⟩) s.r.1.length s.cu, .slice (some ⟨s.h, 0, none⟩) s.r.2.length s.cv] 34)
theorem waR_below (s : RY) (W : World) : Below W.heap.size W (waR s W) := (Below.refl _ W).alloc (Nat.le_refl _) _
theorem waR_box (s : RY) (W : World) : (waR s W).heap[W.heap.size]? = some (.cells #[.slice (some ⟨s.g, 0, none⟩) s.r.1.length s.cu, .slice (some ⟨s.h, 0, none⟩) s.r.2.length s.cv] 34 (0, 0)) := heap_alloc_new W _
theorem fitZ_below (m k S : Nat) (z : RR) (W W' : World) (h : fitZ m k S z W) (hb : Below W.heap.size W W') : fitZ m k S z W' := ⟨h.1.below hb, h.2⟩
theorem sizes8 {D : PD} {fr : ByteArray} {r : RT} {q : Nat} (hV : D.V) (h : Way D fr r q) : (∀ i, i < r.1.length → (nthB r.1 i).size ≤ 1048576) ∧ ∀ i, i < r.2.length → (nthB r.2 i).size ≤ 1048576 := by
  constructor
  · intro i hi
    have hm : nthB r.1 i ∈ r.1 := List.mem_of_getElem? (i := i) (by simp [nthB, hi])
    have := place_size (x := nthB r.1 i) (by simpa using h.pl _ hm) hV.2.1.2
    omega
  · intro i hi
    have hm : nthB r.2 i ∈ r.2 := List.mem_of_getElem? (i := i) (by simp [nthB, hi])
    have := h.vs _ hm
    omega

set_option maxRecDepth 100000 in
set_option maxHeartbeats 32000000 in
theorem goOn_any (B q : Nat) (v0 v1 v2 v3 vw : Value) (D : PD) (fr to : ByteArray) (Zw : List RR) (ws : List RT) (w : World) (h : PAt B w v0 v1 v2 v3 D) (hw : RtsR B w vw Zw) (hzw : Zw.map (·.r) = ws) (hB : B ≤ w.heap.size) (hV : D.V) (hq : ∀ r ∈ ws, Way D fr r q) (hwei : wei D ws ≤ 262144) :
    Calls Try.prog 25 #[.agg #[v0, v1, v2, v3], vw, .string to] w fun e w' => ∃ ve vo Ze Zo, e = .returned (.tuple #[ve, vo]) ∧ Ze.map (·.r) = enW D to ws ∧ Zo.map (·.r) = otW D to ws ∧ RtsO w.heap.size w' ve Ze ∧ RtsL w.heap.size w' vo Zo ∧ Below w.heap.size w w' := by
  obtain ⟨i0, hi, hz0, hz1, hz2⟩ := info_parts infoR
  have H8 : Hid (∀ i, i < D.nv → (D.fv i).1.size ≤ 8 ∧ (D.fv i).2.1.size ≤ 8 ∧ (D.fv i).2.2.1.size ≤ 8) := V_sizes hV
  have HV : Hid D.V := hV
  have hnv : D.nv ≤ 18 := hV.2.2.1
  have hnp : D.np ≤ 14 := hV.2.1.1
  have HP : Hid (∀ w', Below w.heap.size w w' → PAt B w' v0 v1 v2 v3 D ∧ RtsR B w' vw Zw) := fun w' hb => ⟨h.kept hb hB, hw.kept hb hB⟩
  have WY : Hid (∀ z ∈ Zw, Way D fr z.r q) := fun z hz => hq _ (map_memG hzw hz)
  have GD : Hid (∀ r ∈ ws, 0 < r.1.length ∧ r.1.Nodup) := fun r hr => (hq r hr).good
  have WE : Hid (wei D ws ≤ 262144) := hwei
  have HZW : Hid (Zw.map (·.r) = ws) := hzw
  have hzl : Zw.length ≤ 262144 := by have := congrArg List.length hzw; have := wei_len D ws; simp at *; omega
  obtain ⟨ow, cw, rfl⟩ := slice_lst hw.out
  clear h hw hzw hq hwei hV
  refine (callsIn_wide (n := 9)).1 ?_
  refine callsIn_of_wp_marks Try.func25 rfl trivial ?_ rfl
  simp only [Try.ntmps25, List.size_toArray, List.length_cons, List.length_nil, Nat.reduceAdd, Nat.reduceSub, Array.replicate_succ, Array.replicate_zero, List.push_toArray, List.append_toArray, List.nil_append, List.cons_append]
  obtain ⟨W1, hW1⟩ : ∃ W1, W1 = (((w.alloc (.cells #[v0, v1, v2, v3] 28)).alloc (.cells #[.string to] 9)).alloc (.cells #[.slice none 0 0] 31)).alloc (.cells #[.slice none 0 0] 31) := ⟨_, rfl⟩
  have E1 : Hid (W1 = (((w.alloc (.cells #[v0, v1, v2, v3] 28)).alloc (.cells #[.string to] 9)).alloc (.cells #[.slice none 0 0] 31)).alloc (.cells #[.slice none 0 0] 31)) := hW1
  have s1 : W1.heap.size = w.heap.size + 4 := by rw [hW1]; simp
  have G0 : Hid (GI w v0 v1 v2 v3 to (.slice none 0 0) (.slice none 0 0) [] [] W1) := by
    have a1 : (w.alloc (.cells #[v0, v1, v2, v3] 28)).heap.size = w.heap.size + 1 := by simp
    have a2 : ((w.alloc (.cells #[v0, v1, v2, v3] 28)).alloc (.cells #[.string to] 9)).heap.size = w.heap.size + 2 := by simp
    have a3 : (((w.alloc (.cells #[v0, v1, v2, v3] 28)).alloc (.cells #[.string to] 9)).alloc (.cells #[.slice none 0 0] 31)).heap.size = w.heap.size + 3 := by simp
    refine ⟨?_, ?_, RtsO.nil _ _, RtsL.nil _ _, (fun k e => by cases e), ?_, ?_, ?_⟩
    · rw [hW1]; refine Boxed.alloc ?_ _; rw [← a2]; exact Boxed.new _ _ _
    · rw [hW1, ← a3]; exact Boxed.new _ _ _
    · rw [hW1]; exact ((((Below.refl _ _).alloc (Nat.le_refl _) _).alloc (by simp) _).alloc (by simp; omega) _).alloc (by simp; omega) _
    · rw [hW1]; exact (Below.heap_alloc _ _ _ (by simp; omega)).trans ((Below.heap_alloc _ _ _ (by simp; omega)).trans ((Below.heap_alloc _ _ _ (by simp)).trans (heap_alloc_new w _)))
    · rw [hW1]; refine Boxed.alloc (Boxed.alloc ?_ _) _; rw [← a1]; exact Boxed.new _ _ _
  clear hW1
  gi_upto_region 1 with fail
  rw [← E1.out]
  gi_wp2
  refine wpIn_loop (fun a W => ∃ (j : Nat) (ve vo : Value) (Ze Zo : List RR) (Ds : List Nat) (u9 u14 u15 u16 u17 u18 u19 u39 : Value), a = { tmps := #[.agg #[v0, v1, v2, v3], .slice ow Zw.length cw, .string to, .pointer (some ⟨w.heap.size, 0, none⟩), undef, .pointer (some ⟨w.heap.size + 1, 0, none⟩), .pointer (some ⟨w.heap.size + 1 + 1, 0, none⟩), .pointer (some ⟨w.heap.size + 1 + 1 + 1, 0, none⟩), undef, u9, undef, .slice ow Zw.length cw, .int .i64 Zw.length, .int .i64 j, u14, u15, u16, u17, u18, u19, undef, undef, undef, undef, undef, undef, undef, undef, undef, undef, undef, undef, undef, undef, undef, undef, undef, undef, undef, u39, undef, undef], defers := Ds.map markOf } ∧ j ≤ Zw.length ∧ Hid (GI w v0 v1 v2 v3 to ve vo Ze Zo W) ∧ Hid (Ze.map (·.r) = enI D to ws j) ∧ Hid (Zo.map (·.r) = goI D to ws j) ∧ w.heap.size + 4 ≤ W.heap.size ∧ Hid (MarksOk w.heap.size W Ds))
    (fun a _ => Zw.length - (intOf (a.tmps.getD 13 undef)).toNat) ?start ?round
  case start => exact ⟨0, _, _, [], [], [], _, _, _, _, _, _, _, _, rfl, Nat.zero_le _, G0, rfl, rfl, by omega, ⟨List.nodup_nil, fun _ h => by cases h⟩⟩
  case round =>
    clear G0 s1 E1
    rintro a W ⟨j, ve, vo, Ze, Zo, Ds, u9, u14, u15, u16, u17, u18, u19, u39, rfl, hj, hG, hZe, hZo, hsW, hmk⟩
    by_cases hlt : j < Zw.length
    · have hzm := nthZ_mem hlt
      have wj := WY.out _ hzm
      have RD := (HP.out W hG.out.bel).2
      have LR : Hid (Lst B W (nthZ Zw j).u (nthZ Zw j).r.1.length 1 (cS (nthB (nthZ Zw j).r.1)) ∧ Lst B W (nthZ Zw j).v (nthZ Zw j).r.2.length 1 (cS (nthB (nthZ Zw j).r.2))) := RD.row _ hzm
      obtain ⟨oa', cap', hvv, _, hcv⟩ := RD.out
      cases hvv
      obtain ⟨bl, fl, rfl, hbl, hcell⟩ := hcv j hlt
      obtain ⟨ou, cu, ov, cv, eu, ev⟩ := RD.slices hzm
      have e0 : W.cell? ⟨bl, fl + j * 2, none⟩ = some (.slice ou (nthZ Zw j).r.1.length cu) := by rw [← eu]; simpa [cR] using hcell 0 (by omega)
      have e1 : W.cell? ⟨bl, fl + j * 2 + 1, none⟩ = some (.slice ov (nthZ Zw j).r.2.length cv) := by rw [← ev]; simpa [cR] using hcell 1 (by omega)
      have EU : Hid ((nthZ Zw j).u = .slice ou (nthZ Zw j).r.1.length cu ∧ (nthZ Zw j).v = .slice ov (nthZ Zw j).r.2.length cv) := ⟨eu, ev⟩
      have hblW : bl < W.heap.size := by omega
      obtain ⟨x0, _⟩ := cell_row hG.out.p 0 _ rfl
      obtain ⟨x1, _⟩ := cell_row hG.out.p 1 _ rfl
      obtain ⟨x2, _⟩ := cell_row hG.out.p 2 _ rfl
      obtain ⟨x3, _⟩ := cell_row hG.out.p 3 _ rfl
      simp only [List.getElem_toArray, List.getElem_cons_zero, List.getElem_cons_succ] at x0 x1 x2 x3
      have hpl : w.heap.size < W.heap.size := (Array.getElem?_eq_some_iff.1 hG.out.p).1
      replace x0 := cell_past x0 hpl (.cells #[.slice ou (nthZ Zw j).r.1.length cu, .slice ov (nthZ Zw j).r.2.length cv] 34)
      replace x1 := cell_past x1 hpl (.cells #[.slice ou (nthZ Zw j).r.1.length cu, .slice ov (nthZ Zw j).r.2.length cv] 34)
      replace x2 := cell_past x2 hpl (.cells #[.slice ou (nthZ Zw j).r.1.length cu, .slice ov (nthZ Zw j).r.2.length cv] 34)
      replace x3 := cell_past x3 hpl (.cells #[.slice ou (nthZ Zw j).r.1.length cu, .slice ov (nthZ Zw j).r.2.length cv] 34)
      have WL : Hid ((nthZ Zw j).r.1.length = q + 1 ∧ (nthZ Zw j).r.2.length = q ∧ q + 1 ≤ D.np) := ⟨wj.len, wj.vlen, wj.short⟩
      have WJ : Hid (Way D fr (nthZ Zw j).r q) := wj
      clear hcell hcv eu ev wj
      gi_wp2_with (refine ⟨trivial, ?_⟩; gi_at_call 62; refine (callsIn_wide.2 (waysOn_any _ _ _ _ _ _ _)).mono ?_; rintro e w' ⟨rfl, rfl⟩)
      obtain ⟨W2, hW2⟩ : ∃ W2, W2 = ((W.alloc (.cells #[.slice ou (nthZ Zw j).r.1.length cu, .slice ov (nthZ Zw j).r.2.length cv] 34)).alloc (.cells #[v0, v1, v2, v3] 28)).alloc (.cells #[.slice ou (nthZ Zw j).r.1.length cu, .slice ov (nthZ Zw j).r.2.length cv] 34) := ⟨_, rfl⟩
      have E2 : Hid (W2 = ((W.alloc (.cells #[.slice ou (nthZ Zw j).r.1.length cu, .slice ov (nthZ Zw j).r.2.length cv] 34)).alloc (.cells #[v0, v1, v2, v3] 28)).alloc (.cells #[.slice ou (nthZ Zw j).r.1.length cu, .slice ov (nthZ Zw j).r.2.length cv] 34)) := hW2
      have s2 : W2.heap.size = W.heap.size + 1 + 1 + 1 := by rw [hW2]; simp
      have b2 : Below W.heap.size W W2 := by rw [hW2]; exact (((Below.refl _ _).alloc (Nat.le_refl _) _).alloc (by simp) _).alloc (by simp; omega) _
      have p2 : Hid (W2.heap[W.heap.size + 1]? = some (.cells #[v0, v1, v2, v3] 28 (0, 0))) := by
        have := heap_alloc_new (W.alloc (.cells #[.slice ou (nthZ Zw j).r.1.length cu, .slice ov (nthZ Zw j).r.2.length cv] 34)) (.cells #[v0, v1, v2, v3] 28)
        rw [World.size_alloc] at this
        rw [hW2]; exact (Below.heap_alloc _ _ _ (by simp)).trans this
      have r2 : Hid (W2.heap[W.heap.size + 1 + 1]? = some (.cells #[.slice ou (nthZ Zw j).r.1.length cu, .slice ov (nthZ Zw j).r.2.length cv] 34 (0, 0))) := by
        have := heap_alloc_new ((W.alloc (.cells #[.slice ou (nthZ Zw j).r.1.length cu, .slice ov (nthZ Zw j).r.2.length cv] 34)).alloc (.cells #[v0, v1, v2, v3] 28)) (.cells #[.slice ou (nthZ Zw j).r.1.length cu, .slice ov (nthZ Zw j).r.2.length cv] 34)
        rw [World.size_alloc, World.size_alloc] at this
        rw [hW2]; exact this
      have G2 : Hid (GI w v0 v1 v2 v3 to ve vo Ze Zo W2) := hG.out.below b2
      have mk2 : Hid (MarksOk w.heap.size W2 Ds) := ⟨hmk.out.once, fun E hE => ⟨(hmk.out.all E hE).1, (b2.block _ (Array.getElem?_eq_some_iff.1 (hmk.out.all E hE).2).1).trans (hmk.out.all E hE).2⟩⟩
      have hAt : Hid (ws[j]? = some (nthZ Zw j).r) := map_atG HZW.out hlt
      have SZ : Hid _ := sizes8 HV.out WJ.out
      have LN : Hid ((enI D to ws j).length ≤ 262144 ∧ (goI D to ws j).length ≤ 262144) := ⟨enI_len GD.out WE.out j, goI_len GD.out WE.out j⟩
      have LZ : Ze.length ≤ 262144 ∧ Zo.length ≤ 262144 := by
        have e1 := congrArg List.length hZe.out
        have e2 := congrArg List.length hZo.out
        have := LN.out
        simp only [List.length_map] at e1 e2
        omega
      rw [← E2.out]
      have kv := (HP.out W2 G2.out.bel)
      have HL2 : Hid (Lst w.heap.size W2 v3 D.nv 4 (cV D.fv) ∧ Lst w.heap.size W2 (.slice ou (nthZ Zw j).r.1.length cu) (nthZ Zw j).r.1.length 1 (cS (nthB (nthZ Zw j).r.1)) ∧ Lst w.heap.size W2 (.slice ov (nthZ Zw j).r.2.length cv) (nthZ Zw j).r.2.length 1 (cS (nthB (nthZ Zw j).r.2))) := by
        refine ⟨kv.1.v.up hB, ?_, ?_⟩
        · have := (kv.2.row _ hzm).1.up hB; rw [EU.out.1] at this; exact this
        · have := (kv.2.row _ hzm).2.up hB; rw [EU.out.2] at this; exact this
      have sw2 : w.heap.size ≤ W2.heap.size := by omega
      have LO : Hid (∀ k, (ve.ownBlock = some k ∨ vo.ownBlock = some k) → w.heap.size ≤ k ∧ k < W.heap.size) := fun k hk => by
        rcases hk with e | e
        · exact hG.out.e.own.lt k e
        · exact hG.out.o.own.lt k e
      clear hW2 x0 x1 x2 x3 e0 e1 b2 kv hG hmk
      refine wpIn_range_fit (F := Fence.wide) rfl (by omega) (gf := 100) (lb := #[.pointer (some ⟨W.heap.size + 1, 0, none⟩), .pointer (some ⟨W.heap.size + 1 + 1, 0, none⟩)]) rfl trivial (enters_of Try.func100 (by kernel_rfl) rfl)
        (ways_fit 8 (W.heap.size + 1) (W.heap.size + 1 + 1) w.heap.size (by omega) v0 v1 v2 v3 ou ov cu cv D (nthZ Zw j).r (ownE w.heap.size) W2 p2.out r2.out HL2.out.1 HL2.out.2.1 HL2.out.2.2 H8.out SZ.out.1 SZ.out.2 (by have := WL.out; omega) (by have := WL.out; omega) (by have := WL.out; omega) sw2)
        (fun S x W l o o' => fitZ_put _ _ S x.z W l o o') (Below.refl _ _) (fun _ => rfl) ?no sw2
        (fun pre X => (∃ ve vo, GI w v0 v1 v2 v3 to ve vo (Ze ++ zsE to pre) (Zo ++ zsO D to pre) X) ∧ W2.heap.size ≤ X.heap.size)
        (fun pre A C row hs hg hr => by
          obtain ⟨⟨ve, vo, hgi⟩, hsz⟩ := hs
          exact ⟨⟨ve, vo, hgi.grow hg (fun r e => ⟨by have := (hr r e).1; omega, (hr r e).2⟩)⟩, Nat.le_trans hsz hg.size⟩)
        (fun pre X h => by obtain ⟨⟨ve, vo, hgi⟩, _⟩ := h; exact hgi.st)
        ⟨⟨ve, vo, by simpa [zsE, zsO] using G2.out⟩, Nat.le_refl _⟩
        (fun s X => { tmps := #[.agg #[v0, v1, v2, v3], .slice (some ⟨bl, fl, none⟩) Zw.length cw, .string to, .pointer (some ⟨w.heap.size, 0, none⟩), undef, .pointer (some ⟨w.heap.size + 1, 0, none⟩), .pointer (some ⟨w.heap.size + 1 + 1, 0, none⟩), .pointer (some ⟨w.heap.size + 1 + 1 + 1, 0, none⟩), undef, .pointer (some ⟨W.heap.size, 0, none⟩), .pointer (some ⟨X.heap.size, 0, none⟩), .slice (some ⟨bl, fl, none⟩) Zw.length cw, .int .i64 Zw.length, .int .i64 j, .bool true, .pointer (some ⟨bl, fl + j * 2, none⟩), .agg #[.slice ou (nthZ Zw j).r.1.length cu, .slice ov (nthZ Zw j).r.2.length cv], .agg #[v0, v1, v2, v3], .agg #[.slice ou (nthZ Zw j).r.1.length cu, .slice ov (nthZ Zw j).r.2.length cv], .func (.func 100) #[] #[.pointer (some ⟨W.heap.size + 1, 0, none⟩), .pointer (some ⟨W.heap.size + 1 + 1, 0, none⟩)], .agg #[.slice (some ⟨s.g, 0, none⟩) s.r.1.length s.cu, .slice (some ⟨s.h, 0, none⟩) s.r.2.length s.cv], undef, undef, undef, undef, undef, undef, undef, undef, undef, undef, undef, undef, undef, undef, undef, undef, undef, undef, u39, undef, undef], defers := [] })
        waR waR_below (fun S x W W' => fitZ_below _ _ S x.z W W') ?assign ?body ?done
      case no =>
        intro k hk ho
        rcases G2.out.own ho with rfl | rfl | e | e
        · omega
        · omega
        · have := LO.out k (.inl e); omega
        · have := LO.out k (.inr e); omega
      case assign =>
        intro l s X K hK
        gi_wp2
        exact hK
      case body =>
        rintro l pre s X0 W' V ⟨⟨ve0, vo0, g0⟩, hs0⟩ ⟨⟨ve, vo, gV⟩, hsV⟩ hfit ⟨kk, ob, ob', hko, hoc, hVe⟩ hpl
        have bL : V.heap[W'.heap.size]? = some (.cells #[(.slice (some ⟨s.g, 0, none⟩) s.r.1.length s.cu), (.slice (some ⟨s.h, 0, none⟩) s.r.2.length s.cv)] 34 (0, 0)) := by
          rw [hVe]
          refine (World.putObj_heap_other (fun e => ?_)).trans (waR_box s W')
          rw [← e, waR_box s W'] at hko
          cases hko; cases hoc
        have l0 := (cell_row bL 0 _ rfl).1
        have l1 := (cell_row bL 1 _ rfl).1
        simp only [List.getElem_toArray, List.getElem_cons_zero, List.getElem_cons_succ] at l0 l1
        have hbL := (Array.getElem?_eq_some_iff.1 bL).1
        obtain ⟨hRZ, hgh, hm1, hm2⟩ := hfit
        replace hm1 : s.r.1.length = (nthZ Zw j).r.1.length + 1 := hm1
        have HM : Hid (s.r.1.length = (nthZ Zw j).r.1.length + 1) := hm1
        have EL : Hid (lasB s.r = nthB s.r.1 (nthZ Zw j).r.1.length) := by show lasB s.r = _; unfold lasB; rw [hm1, Nat.add_sub_cancel]
        have GV : Hid (GI w v0 v1 v2 v3 to ve vo (Ze ++ zsE to pre) (Zo ++ zsO D to pre) V) := gV
        have RZ : Hid (RowZ X0.heap.size V s.z) := hRZ
        have LU : Hid (∀ w', Below V.heap.size V w' → Lst V.heap.size w' (.slice (some ⟨s.g, 0, none⟩) s.r.1.length s.cu) ((nthZ Zw j).r.1.length + 1) 1 (cS (nthB s.r.1))) := fun w' hb => by
          have h1 := (hRZ.p.lst (by have := WL.out; show s.r.1.length ≤ _; omega)).kept hb (Nat.le_refl _)
          rw [← HM.out]; exact h1
        have NB : Hid (s.g ≠ s.h ∧ s.g ∉ blkZ (Ze ++ zsE to pre) ∧ s.h ∉ blkZ (Ze ++ zsE to pre)) := by
          refine ⟨hgh, fun hm => ?_, fun hm => ?_⟩
          · have a1 := (g0.e.old hm).2; have a2 : X0.heap.size ≤ s.g := hRZ.p.blk.2; omega
          · have a1 := (g0.e.old hm).2; have a2 : X0.heap.size ≤ s.h := hRZ.q.blk.2; omega
        have sX0 : w.heap.size ≤ X0.heap.size := g0.bel.size
        have ZL := zs_len D to pre
        have zl1 : (Ze ++ zsE to pre).length ≤ 300000 := by rw [List.length_append]; omega
        have zl2 : (Zo ++ zsO D to pre).length ≤ 300000 := by rw [List.length_append]; omega
        have SE : Hid (zsE to (pre ++ [s]) = zsE to pre ++ (bif toB to s.r then [s.z] else [])) := zsE_snoc to pre s
        have SO : Hid (zsO D to (pre ++ [s]) = zsO D to pre ++ (bif goB D to s.r then [s.z] else [])) := zsO_snoc D to pre s
        have ct : V.cell? ⟨w.heap.size + 1, 0, none⟩ = some (.string to) := gV.t.cell
        have ql0 := fun d os => cell_regrown l0 d os
        have ql1 := fun d os => cell_regrown l1 d os
        have qct := fun d os => cell_regrown ct d os
        have sV2 : W2.heap.size ≤ V.heap.size := hsV
        clear g0 gV hRZ hgh hm1 hm2 hko hoc hVe bL hs0 hsV
        generalize hZE : Ze ++ zsE to pre = ZE at GV NB zl1
        generalize hZO : Zo ++ zsO D to pre = ZO at GV zl2
        have HZE : Hid (Ze ++ zsE to pre = ZE) := hZE
        have HZO : Hid (Zo ++ zsO D to pre = ZO) := hZO
        clear hZE hZO
        gi_wp2
        refine wpIn_region_mix 3 [0, 2] (by kernel_rfl) (by kernel_rfl) (by kernel_rfl) ?_
        simp only [List.filterMap_cons, List.filterMap_nil, List.getElem?_cons_succ, List.getElem?_cons_zero]
        repeat (first | go_big_quiet_step (fail) | quiet_step (fail))
        refine wpQuiet_nil ?_
        clear ql0 ql1 qct
        refine call1 (md := .any) (f := 0) (i := 1) (dc := 23) (fn := 63) ⟨rfl, rfl, rfl, by decide⟩ (by kernel_rfl) ?run ((last_any V.heap.size (.slice (some ⟨s.g, 0, none⟩) s.r.1.length s.cu) (.slice (some ⟨s.h, 0, none⟩) s.r.2.length s.cv) (nthZ Zw j).r.1.length (nthB s.r.1) V.drew (LU.out _ ((Below.refl _ _).drew)) (Nat.le_refl _)).mono ?_)
        case run => go_simp
        rintro e X2 ⟨rfl, hb2⟩
        rw [← EL.out]
        have bX2 : Below V.heap.size V X2 := ((Below.refl _ _).drew).trans hb2
        refine ⟨_, rfl, regrown_of_below bX2, ?_⟩
        refine ⟨by kernel_rfl, ?_⟩
        simp only [List.drop_succ_cons, List.drop_zero]
        simp only [Act.put, List.setIfInBounds_toArray, List.set_cons_zero, List.set_cons_succ]
        have GX : Hid (GI w v0 v1 v2 v3 to ve vo ZE ZO X2) := GV.out.below bX2
        have m0 := (bX2.cell (p := ⟨W'.heap.size, 0, none⟩) hbL).trans l0
        have m1 := (bX2.cell (p := ⟨W'.heap.size, 1, none⟩) hbL).trans l1
        have hbL2 : W'.heap.size < X2.heap.size := by have := bX2.size; omega
        have KV : Hid (KeepsOthers V X2 ∧ KpO (ownE w.heap.size) w.heap.size V X2) := GV.out.kpb bX2
        have RX : Hid (RowZ X0.heap.size X2 s.z) := RZ.out.below bX2
        have LX : Hid (∀ w', Below X2.heap.size X2 w' → Lst V.heap.size w' (.slice (some ⟨s.g, 0, none⟩) s.r.1.length s.cu) ((nthZ Zw j).r.1.length + 1) 1 (cS (nthB s.r.1))) := fun w' hb => LU.out w' (bX2.trans (hb.mono bX2.size))
        have sX2 : V.heap.size ≤ X2.heap.size := bX2.size
        clear l0 l1 ct hb2 bX2 hbL
        cases ht : toB to s.r
        · have ht' : ((lasB s.r).toList == to.toList) = false := ht
          obtain ⟨x0, _⟩ := cell_row GX.out.p 0 _ rfl
          obtain ⟨x1, _⟩ := cell_row GX.out.p 1 _ rfl
          obtain ⟨x2, _⟩ := cell_row GX.out.p 2 _ rfl
          obtain ⟨x3, _⟩ := cell_row GX.out.p 3 _ rfl
          simp only [List.getElem_toArray, List.getElem_cons_zero, List.getElem_cons_succ] at x0 x1 x2 x3
          have qx0 := fun d os => cell_regrown x0 d os
          have qx1 := fun d os => cell_regrown x1 d os
          have qx2 := fun d os => cell_regrown x2 d os
          have qx3 := fun d os => cell_regrown x3 d os
          have qm0 := fun d os => cell_regrown m0 d os
          have qm1 := fun d os => cell_regrown m1 d os
          gi_wp2
          refine wpIn_region_mix 3 [0, 1] (by kernel_rfl) (by kernel_rfl) (by kernel_rfl) ?_
          simp only [List.filterMap_cons, List.filterMap_nil, List.getElem?_cons_succ, List.getElem?_cons_zero]
          repeat (first | go_big_quiet_step (fail) | quiet_step (fail))
          refine wpQuiet_nil ?_
          clear qx0 qx1 qx2 qx3 qm0 qm1 x0 x1 x2 x3
          refine call1 (md := .any) (f := 0) (i := 2) (dc := 33) (fn := 63) ⟨rfl, rfl, rfl, by decide⟩ (by kernel_rfl) ?run ((last_any V.heap.size (.slice (some ⟨s.g, 0, none⟩) s.r.1.length s.cu) (.slice (some ⟨s.h, 0, none⟩) s.r.2.length s.cv) (nthZ Zw j).r.1.length (nthB s.r.1) X2.drew (LX.out _ ((Below.refl _ _).drew)) (by show V.heap.size ≤ X2.heap.size; omega)).mono ?_)
          case run => go_simp
          rintro e X3 ⟨rfl, hb3⟩
          rw [← EL.out]
          have bX3 : Below X2.heap.size X2 X3 := ((Below.refl _ _).drew).trans hb3
          refine ⟨_, rfl, regrown_of_below bX3, ?_⟩
          refine ⟨by kernel_rfl, ?_⟩
          simp only [List.drop_succ_cons, List.drop_zero]
          simp only [Act.put, List.setIfInBounds_toArray, List.set_cons_zero, List.set_cons_succ]
          have G3 : Hid (GI w v0 v1 v2 v3 to ve vo ZE ZO X3) := GX.out.below bX3
          have K3 : Hid (KeepsOthers X2 X3 ∧ KpO (ownE w.heap.size) w.heap.size X2 X3) := GX.out.kpb bX3
          have R3 : Hid (RowZ X0.heap.size X3 s.z) := RX.out.below bX3
          have n0 := (bX3.cell (p := ⟨W'.heap.size, 0, none⟩) hbL2).trans m0
          have n1 := (bX3.cell (p := ⟨W'.heap.size, 1, none⟩) hbL2).trans m1
          have hbL3 : W'.heap.size < X3.heap.size := by have := bX3.size; omega
          have LP : Hid (Lst B X3 v2 D.np 3 (cP D.fp)) := (HP.out X3 G3.out.bel).1.p
          have hBX : B ≤ X3.heap.size := by have := G3.out.bel.size; omega
          clear m0 m1 hb3 bX3
          cases hjt : jtB D s.r
          · have GO : Hid (goB D to s.r = false) := by show _ = _; unfold goB; rw [ht, hjt]; rfl
            have HT : Hid (toB to s.r = false) := ht
            have HJ : Hid (joiB D.np D.fp (lasB s.r) = false) := hjt
            clear ht hjt
            gi_wp2_with (refine ⟨trivial, ?_⟩; gi_at_call 64; refine (CallsIn.inRound l (callsIn_wide.2 (isJoint_any B _ _ _ _ D.np D.fp (lasB s.r) _ LP.out hBX))).mono ?_; rintro e X4 ⟨rfl, hb4⟩; rw [HJ.out])
            have K4 := G3.out.kpb hb4
            refine ⟨(KV.out.1.trans K3.out.1).trans K4.1, (KV.out.2.trans K3.out.2).trans K4.2, ⟨ve, vo, ?_⟩, ?_⟩
            · rw [SE.out, SO.out, HT.out, GO.out]
              simp only [cond_false, List.append_nil]
              rw [HZE.out, HZO.out]
              exact G3.out.below hb4
            · have := K4.1.size; have := K3.out.1.size; omega
          · have GO : Hid (goB D to s.r = true) := by show _ = _; unfold goB; rw [ht, hjt]; rfl
            have HT : Hid (toB to s.r = false) := ht
            have HJ : Hid (joiB D.np D.fp (lasB s.r) = true) := hjt
            clear ht hjt
            gi_wp2_with (first
              | (refine ⟨trivial, ?_⟩; gi_at_call 64; refine (CallsIn.inRound l (callsIn_wide.2 (isJoint_any B _ _ _ _ D.np D.fp (lasB s.r) _ LP.out hBX))).mono ?_; rintro e X4 ⟨rfl, hb4⟩; rw [HJ.out]; have G4 : Hid (GI w v0 v1 v2 v3 to ve vo ZE ZO X4) := G3.out.below hb4; have K4 : Hid (KeepsOthers X3 X4 ∧ KpO (ownE w.heap.size) w.heap.size X3 X4) := G3.out.kpb hb4; have b5 : Below X4.heap.size X4 (X4.alloc (.cells #[(.slice (some ⟨s.g, 0, none⟩) s.r.1.length s.cu), (.slice (some ⟨s.h, 0, none⟩) s.r.2.length s.cv)] 34)) := (Below.refl _ _).alloc (Nat.le_refl _) _; have G7 : Hid (GI w v0 v1 v2 v3 to ve vo ZE ZO (X4.alloc (.cells #[(.slice (some ⟨s.g, 0, none⟩) s.r.1.length s.cu), (.slice (some ⟨s.h, 0, none⟩) s.r.2.length s.cv)] 34))) := G4.out.below b5; have K7 : Hid (KeepsOthers X4 (X4.alloc (.cells #[(.slice (some ⟨s.g, 0, none⟩) s.r.1.length s.cu), (.slice (some ⟨s.h, 0, none⟩) s.r.2.length s.cv)] 34)) ∧ KpO (ownE w.heap.size) w.heap.size X4 (X4.alloc (.cells #[(.slice (some ⟨s.g, 0, none⟩) s.r.1.length s.cu), (.slice (some ⟨s.h, 0, none⟩) s.r.2.length s.cv)] 34))) := G4.out.kpb b5; have R7 : Hid (RowZ X0.heap.size (X4.alloc (.cells #[(.slice (some ⟨s.g, 0, none⟩) s.r.1.length s.cu), (.slice (some ⟨s.h, 0, none⟩) s.r.2.length s.cv)] 34)) s.z) := (R3.out.below hb4).below b5; have c7 : X4.cell? ⟨w.heap.size + 1 + 1 + 1, 0, none⟩ = some vo := G4.out.bo.cell; have p0 := (hb4.cell (p := ⟨W'.heap.size, 0, none⟩) hbL3).trans n0; have p1 := (hb4.cell (p := ⟨W'.heap.size, 1, none⟩) hbL3).trans n1; clear n0 n1 hb4 b5)
              | (gi_at_builtin; refine wpListIn_append_own_at _ rfl _ _ 31 rfl w.heap.size 34 i0 (.agg #[.slice none 0 0, .slice none 0 0]) 2 48 underR hi hz0 hz1 hz2 rfl (by decide) _ _ _ rfl G7.out.o.own ⟨X4.heap.size, 0, none⟩ 1 1 [(.slice (some ⟨s.g, 0, none⟩) s.r.1.length s.cu), (.slice (some ⟨s.h, 0, none⟩) s.r.2.length s.cv)] rfl rfl (cells_two _ _ _ _) (fun x hx => by simp at hx; rcases hx with rfl | rfl <;> rfl) (by unfold maxLen; omega) (by omega) G7.out.bel.size ?_; intro v' w8 hown' hgrow8 _ hloc8; have hv1 := G7.out.bo.kept hgrow8 (G7.out.bo.not_row (by decide) G7.out.o.own); have hc1 : w8.cell? ⟨w.heap.size + 1 + 1 + 1, 0, none⟩ = some vo := hv1.cell; have hf1 : w8.frozen? ⟨w.heap.size + 1 + 1 + 1, 0, none⟩ = false := hv1.frozen; obtain ⟨g', cap', rfl⟩ := ownsRow_succ hown'))
            obtain ⟨gi, ko, kp⟩ := G7.out.pushO (R7.out.le sX0) hown' hgrow8 hloc8
            refine ⟨(((KV.out.1.trans K3.out.1).trans K4.out.1).trans K7.out.1).trans ko, (((KV.out.2.trans K3.out.2).trans K4.out.2).trans K7.out.2).trans kp, ⟨ve, .slice (some ⟨g', 0, none⟩) (ZO.length + 1) cap', ?_⟩, ?_⟩
            · rw [SE.out, SO.out, HT.out, GO.out]
              simp only [cond_false, cond_true, List.append_nil]
              rw [HZE.out, ← List.append_assoc, HZO.out]
              exact gi
            · have a1 := ko.size; have a2 := K7.out.1.size; have a3 := K4.out.1.size; have a4 := K3.out.1.size
              exact Nat.le_trans (by omega) a1
        · have ht' : ((lasB s.r).toList == to.toList) = true := ht
          have HT : Hid (toB to s.r = true) := ht
          have GO : Hid (goB D to s.r = false) := by show _ = _; unfold goB; rw [ht]; rfl
          clear ht
          have b5 : Below X2.heap.size X2 (X2.alloc (.cells #[(.slice (some ⟨s.g, 0, none⟩) s.r.1.length s.cu), (.slice (some ⟨s.h, 0, none⟩) s.r.2.length s.cv)] 34)) := (Below.refl _ _).alloc (Nat.le_refl _) _
          have G7 : Hid (GI w v0 v1 v2 v3 to ve vo ZE ZO (X2.alloc (.cells #[(.slice (some ⟨s.g, 0, none⟩) s.r.1.length s.cu), (.slice (some ⟨s.h, 0, none⟩) s.r.2.length s.cv)] 34))) := GX.out.below b5
          have K7 : Hid (KeepsOthers X2 (X2.alloc (.cells #[(.slice (some ⟨s.g, 0, none⟩) s.r.1.length s.cu), (.slice (some ⟨s.h, 0, none⟩) s.r.2.length s.cv)] 34)) ∧ KpO (ownE w.heap.size) w.heap.size X2 (X2.alloc (.cells #[(.slice (some ⟨s.g, 0, none⟩) s.r.1.length s.cu), (.slice (some ⟨s.h, 0, none⟩) s.r.2.length s.cv)] 34))) := GX.out.kpb b5
          have R7 : Hid (RowZ X0.heap.size (X2.alloc (.cells #[(.slice (some ⟨s.g, 0, none⟩) s.r.1.length s.cu), (.slice (some ⟨s.h, 0, none⟩) s.r.2.length s.cv)] 34)) s.z) := RX.out.below b5
          have c7 : X2.cell? ⟨w.heap.size + 1 + 1, 0, none⟩ = some ve := GX.out.be.cell
          clear b5
          gi_wp2_with (gi_at_builtin; refine wpListIn_append_own_at _ rfl _ _ 31 rfl w.heap.size 34 i0 (.agg #[.slice none 0 0, .slice none 0 0]) 2 48 underR hi hz0 hz1 hz2 rfl (by decide) _ _ _ rfl G7.out.e.own ⟨X2.heap.size, 0, none⟩ 1 1 [(.slice (some ⟨s.g, 0, none⟩) s.r.1.length s.cu), (.slice (some ⟨s.h, 0, none⟩) s.r.2.length s.cv)] rfl rfl (cells_two _ _ _ _) (fun x hx => by simp at hx; rcases hx with rfl | rfl <;> rfl) (by unfold maxLen; omega) (by omega) G7.out.bel.size ?_; intro v' w8 hown' hgrow8 _ hloc8; have hv1 := G7.out.be.kept hgrow8 (G7.out.be.not_row (by decide) G7.out.e.own); have hc1 : w8.cell? ⟨w.heap.size + 1 + 1, 0, none⟩ = some ve := hv1.cell; have hf1 : w8.frozen? ⟨w.heap.size + 1 + 1, 0, none⟩ = false := hv1.frozen; obtain ⟨g', cap', rfl⟩ := ownsRow_succ hown')
          obtain ⟨gi, ko, kp⟩ := G7.out.pushE (R7.out.le sX0) NB.out.1 NB.out.2.1 NB.out.2.2 hown' hgrow8 hloc8
          refine ⟨(KV.out.1.trans K7.out.1).trans ko, (KV.out.2.trans K7.out.2).trans kp, ⟨.slice (some ⟨g', 0, none⟩) (ZE.length + 1) cap', vo, ?_⟩, ?_⟩
          · rw [SE.out, SO.out, HT.out, GO.out]
            simp only [cond_false, cond_true, List.append_nil]
            rw [HZO.out, ← List.append_assoc, HZE.out]
            exact gi
          · have a1 := ko.size; have a2 := K7.out.1.size
            exact Nat.le_trans (by omega) a1
      case done =>
        rintro E xs X hD hDX hS ⟨⟨ve', vo', gX⟩, hsX⟩ hK hko
        have HGX : Hid (GI w v0 v1 v2 v3 to ve' vo' (Ze ++ zsE to xs) (Zo ++ zsO D to xs) X) := gX
        have HE : Hid ((Ze ++ zsE to xs).map (·.r) = enI D to ws (j + 1)) := by show _ = _; rw [List.map_append, hZe.out, zsE_map, hS, enI_next D to hAt.out]
        have HO : Hid ((Zo ++ zsO D to xs).map (·.r) = goI D to ws (j + 1)) := by show _ = _; rw [List.map_append, hZo.out, zsO_map, hS, goI_next D to hAt.out]
        have HMK : Hid (MarksOk w.heap.size X (E :: Ds)) := by
          refine ⟨List.nodup_cons.2 ⟨fun hD' => ?_, mk2.out.once⟩, fun F hF => ?_⟩
          · have := (Array.getElem?_eq_some_iff.1 (mk2.out.all E hD').2).1
            omega
          · rcases List.mem_cons.1 hF with rfl | hF
            · exact ⟨by omega, hK⟩
            · exact ⟨(mk2.out.all F hF).1, hko.same F _ (mk2.out.all F hF).2 rfl⟩
        clear gX hS hK hko
        gi_wp2
        refine ⟨⟨j + 1, ve', vo', _, _, E :: Ds, _, _, _, _, _, _, _, _, rfl, by omega, HGX, HE, HO, by omega, HMK⟩, ?_⟩
        simp [intOf]; omega
    · obtain rfl : j = Zw.length := by omega
      obtain ⟨oe, ce, rfl⟩ := row_slice' hG.out.e.own
      obtain ⟨oo, co, rfl⟩ := row_slice' hG.out.o.own
      have c6 : W.cell? ⟨w.heap.size + 1 + 1, 0, none⟩ = some (.slice oe Ze.length ce) := hG.out.be.cell
      have f6 : W.frozen? ⟨w.heap.size + 1 + 1, 0, none⟩ = false := hG.out.be.frozen
      have c7 : W.cell? ⟨w.heap.size + 1 + 1 + 1, 0, none⟩ = some (.slice oo Zo.length co) := hG.out.bo.cell
      have f7 : W.frozen? ⟨w.heap.size + 1 + 1 + 1, 0, none⟩ = false := hG.out.bo.frozen
      have HGW : Hid (GI w v0 v1 v2 v3 to (.slice oe Ze.length ce) (.slice oo Zo.length co) Ze Zo W) := hG.out
      gi_wp2
      gi_region
      clear c6 c7 f6 f7
      obtain ⟨Y, hY⟩ : ∃ Y, Y = ((W.setCell ⟨w.heap.size + 1 + 1, 0, none⟩ (.slice oe Ze.length ce)).setCell ⟨w.heap.size + 1 + 1 + 1, 0, none⟩ (.slice oo Zo.length co)).drew := ⟨_, rfl⟩
      have b1 : Boxed (W.setCell ⟨w.heap.size + 1 + 1, 0, none⟩ (.slice oe Ze.length ce)) (w.heap.size + 1 + 1) 31 (.slice oe Ze.length ce) := HGW.out.be.set _
      have b2 : Boxed (W.setCell ⟨w.heap.size + 1 + 1, 0, none⟩ (.slice oe Ze.length ce)) (w.heap.size + 1 + 1 + 1) 31 (.slice oo Zo.length co) := HGW.out.bo.other (by omega) _
      have y1 : Boxed Y (w.heap.size + 1 + 1) 31 (.slice oe Ze.length ce) := by rw [hY]; exact b1.other (by omega) _
      have y2 : Boxed Y (w.heap.size + 1 + 1 + 1) 31 (.slice oo Zo.length co) := by rw [hY]; exact b2.set _
      have rk : RowsKept W Y := fun k c t z ht hk => by
        rw [hY]; exact rows_set b2 _ k c t z ht (rows_set HGW.out.be _ k c t z ht hk)
      have mkY : MarksOk w.heap.size Y Ds := by
        have m := marks_set (marks_set hmk.out HGW.out.be 0 (.slice oe Ze.length ce)) b2 0 (.slice oo Zo.length co)
        rw [hY]; exact ⟨m.once, m.all⟩
      have belY : Below w.heap.size w Y := by
        rw [hY]; exact ((HGW.out.bel.setCell (p := ⟨w.heap.size + 1 + 1, 0, none⟩) (by show w.heap.size ≤ w.heap.size + 1 + 1; omega) _).setCell (p := ⟨w.heap.size + 1 + 1 + 1, 0, none⟩) (by show w.heap.size ≤ w.heap.size + 1 + 1 + 1; omega) _).drew
      rw [← hY]
      gi_wp2
      refine leaves_marks (b := w.heap.size) Ds Y mkY ?_
      have z1 := (show Boxed (closeM Y Ds) (w.heap.size + 1 + 1) 31 (.slice oe Ze.length ce) from close_cells Ds Y mkY _ _ _ _ y1).cell
      have z2 := (show Boxed (closeM Y Ds) (w.heap.size + 1 + 1 + 1) 31 (.slice oo Zo.length co) from close_cells Ds Y mkY _ _ _ _ y2).cell
      have rk2 : RowsKept W (closeM Y Ds) := fun k c t z ht hk => close_cells Ds Y mkY k c t z (rk k c t z ht hk)
      have LW : ws.length = Zw.length := by have := congrArg List.length HZW.out; simpa using this.symm
      refine ⟨.tuple #[.slice oe Ze.length ce, .slice oo Zo.length co], by simp [results, Try.results25, go_sem, z1, z2], _, _, Ze, Zo, rfl, ?_, ?_, HGW.out.e.rows rk2, HGW.out.o.rows rk2, close_below Ds Y (fun D hD => (mkY.all D hD).1) belY⟩
      · rw [← enI_all, LW]; exact hZe.out
      · rw [← goI_all, LW]; exact hZo.out

end Go.Proofs.Ytnpfnbgbodojnab
