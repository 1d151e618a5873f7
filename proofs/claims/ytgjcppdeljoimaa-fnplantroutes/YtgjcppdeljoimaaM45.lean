/-
  Several texts in one.
-/
import Derived.Test.YtgjcppdeljoimaaM38
import Derived.Test.YtgjcppdeljoimaaM37
import Derived.Test.YtgjcppdeljoimaaM6
import Derived.Test.YtgjcppdeljoimaaRz
namespace Go.Proofs.Ytgjcppdeljoimaa
open Go.RowKit Go.Shelf
attribute [local go_sem] Oper.semAt_some
def besL (b : Bool) (D : PD) (x : ByteArray) : List ByteArray := bif b then besN D.fv x D.nv else []
def nmV (l : List Two) : List Value := l.map fun y => .string y.1.1
theorem nmV_snoc (l : List Two) (y : Two) : nmV (l ++ [y]) = nmV l ++ [.string y.1.1] := by simp [nmV]
theorem nmV_of {f : Nat → ByteArray × ByteArray × ByteArray × ByteArray} {x : ByteArray} {k : Nat} (h8 : ∀ i, i < k → (f i).1.size ≤ 8 ∧ (f i).2.1.size ≤ 8 ∧ (f i).2.2.1.size ≤ 8) : nmV (vAt f x k) = (besN f x k).map .string ∧ (vAt f x k).length = (besN f x k).length := by
  refine ⟨?_, by simp [vAt, besN]⟩
  simp only [nmV, vAt, besN, List.map_map]
  apply List.map_congr_left
  intro i hi
  have hi' : i < k := List.mem_range.1 (List.mem_filter.1 hi).1
  have hz := h8 i hi'
  have hbs : (behS (f i) x).size ≤ 8 := by
    unfold behS
    cases eqB x (f i).2.1 <;> cases eqB x (f i).2.2.1 <;> simp only [cond_true, cond_false] <;> first | omega | exact (by decide : (0 : Nat) ≤ 8)
  simp only [Function.comp_apply, two_of hz.1 hbs]
theorem below_keeps {W W' : World} (h : Below W.heap.size W W') : KeepsOthers W W' := KeepsOthers.of_grownBy (row := none) ⟨h.os, h.tape, h.output, h.size, fun k hk _ => h.block k hk⟩ (fun j o e => by cases e)
theorem step_append_in {F : Fence} {m' : Nat} {P : Program} {ops : Array Oper} {o : Oper} {a : Act} {w : World} {K : Act → World → Prop} {Q : Exit → Act → World → Prop} {E : Prop}
    (hg : o.guard = none) (s x : Operand) (t : TypeId) (hop : o.op = .call { callee := .builtin .append, args := #[s, x], argTypes := #[t, t] })
    (base : Nat) (e : TypeId) (i : TypeInfo) (z : Value) (size bytes : Nat) (ht : P.underlying t = some (.slice e)) (hi : P.info? e = some i) (hz : i.zero = some z)
    (hsize : i.size = size) (hby : i.bytes = bytes) (hzs : z.cells.size = size) (hsz : 0 < size)
    (v : Value) (n : Nat) (xs : List Value) (hs : a.eval s = v) (hown : w.ownsRow base e size v n xs)
    (ad : Addr) (m c : Nat) (news : List Value) (hx : a.eval x = .slice (some ad) m c) (hl : news.length = m * size) (hnews : ∀ j u, news[j]? = some u → w.cell? (ad.add j) = some u) (h1 : ∀ u ∈ news, u.oneCell' = true)
    (h63 : n + m ≤ maxLen) (hbytes : (n + m) * bytes ≤ 140737488355328) (hbase : base ≤ w.heap.size)
    (hK : ∀ v' w', w'.ownsRow base e size v' (n + m) (xs ++ news) → w.grownBy w' v.ownBlock → K (a.put o.dst v') w') :
    if Region.wanted o (yielded ops a.tmps) = true then Oper.wpIn F m' P o a w K Q else E := by
  have hw : Region.wanted o (yielded ops a.tmps) = true := by simp [Region.wanted, hg]
  rw [if_pos hw]
  obtain ⟨v', w', hrun, r1, r2, r3⟩ := run_append_own (P := P) w base t o.type e i z size bytes ht hi hz hsize hby hzs hsz v n xs hown ad m c news hl hnews h1 h63 hbytes hbase
  unfold Oper.wpIn
  refine ⟨?_, ?_⟩
  · simp [Oper.about, hop, resolve, Target.leads, Sem.run_pure]
  · rw [Oper.semAt_plain F _ _ (by rw [hop]; intro c hc'; cases hc')]
    simp [execOp, hop, resolve, invoke, builtin, hs, hx, hrun, Result.andThen]
    exact hK _ _ r1 r2
theorem vals_stops (n b1 b2 n₀ : Nat) (hn : 2 ≤ n) (v3 : Value) (nv : Nat) (f : Nat → ByteArray × ByteArray × ByteArray × ByteArray) (x : ByteArray) (w : World)
    (hb1 : w.cell? ⟨b1, 3, none⟩ = some v3) (hb2 : w.cell? ⟨b2, 0, none⟩ = some (.string x)) (h : Lst n₀ w v3 nv 4 (cV f)) (h8 : ∀ i, i < nv → (f i).1.size ≤ 8 ∧ (f i).2.1.size ≤ 8 ∧ (f i).2.2.1.size ≤ 8)
    (hs1 : b1 < w.heap.size) (hs2 : b2 < w.heap.size) (hn₀ : n₀ ≤ w.heap.size) :
    SeqStopsK Fence.wide n Try.prog 46 #[.pointer (some ⟨b1, 0, none⟩), .pointer (some ⟨b2, 0, none⟩)] (fun y : Two => #[Value.string y.1.1, Value.string y.1.2]) (KpV n₀ b2) (fun ys => ys = vAt f x nv) (fun pre => pre <+: vAt f x nv) nv w := fun l J Jx W hW hJ _ hY h0 =>
  vals_in n l b1 b2 n₀ hn v3 nv f x J Jx W hJ hY ((hW.cell (p := ⟨b1, 3, none⟩) hs1).trans hb1) ((hW.cell (p := ⟨b2, 0, none⟩) hs2).trans hb2) (h.kept hW hn₀) h8 (Nat.lt_of_lt_of_le hs2 hW.size) (Nat.le_trans hn₀ hW.size) h0
theorem below_undrew {W w2 : World} (h : Below W.drew.heap.size W.drew w2) : Below W.heap.size W w2 := ⟨h.os, h.tape, h.output, h.size, h.block⟩
set_option maxRecDepth 100000 in
set_option maxHeartbeats 4000000 in
theorem besideI_of (B : Nat) (v0 v1 v2 v3 : Value) (D : PD) (x : ByteArray) (w : World) (h : PAt B w v0 v1 v2 v3 D) (hB : B ≤ w.heap.size)
    (hV : ∀ w', Below w.heap.size w w' → Calls Try.prog 15 #[.agg #[v0, v1, v2, v3]] w' fun e w'' => ∃ b, e = .returned (.bool b) ∧ (b = true ↔ D.V) ∧ Below w'.heap.size w' w'')
    (h8 : D.V → ∀ i, i < D.nv → (D.fv i).1.size ≤ 8 ∧ (D.fv i).2.1.size ≤ 8 ∧ (D.fv i).2.2.1.size ≤ 8) :
    Calls Try.prog 10 #[.agg #[v0, v1, v2, v3], .string x] w fun e w' => ∃ v b, e = .returned v ∧ (b = true ↔ D.V) ∧ w'.ownsRow w.heap.size 9 1 v (besL b D x).length ((besL b D x).map .string) ∧ Below w.heap.size w w' := by
  obtain ⟨i0, hi, hz0, hz1, hz2⟩ := info_parts info9b
  have HP : Hid _ := h
  have HV : Hid _ := hV
  have H8 : Hid _ := h8
  clear h hV h8
  refine (callsIn_wide (n := 5)).1 ?_
  refine callsIn_of_wp_marks Try.func10 rfl trivial ?_ rfl
  simp only [Try.ntmps10, List.size_toArray, List.length_cons, List.length_nil, Nat.reduceAdd, Nat.reduceSub, Array.replicate_succ, Array.replicate_zero, List.push_toArray, List.append_toArray, List.nil_append, List.cons_append]
  have b0 : Hid (Below w.heap.size w (w.alloc (.cells #[v0, v1, v2, v3] 28))) := (Below.refl _ _).alloc (Nat.le_refl _) _
  gi_wp2
  refine ⟨trivial, ?_⟩
  refine (callsIn_wide.2 (HV.out _ b0.out)).mono ?_
  rintro e w1 ⟨b, rfl, hb, hb1⟩
  have IB : Hid (b = true ↔ D.V) := hb
  clear hb
  have k1 : Hid (Below (w.heap.size + 1) (w.alloc (.cells #[v0, v1, v2, v3] 28)) w1) := by have := hb1; simpa [Hid] using this
  clear hb1
  have s1 : w.heap.size + 1 ≤ w1.heap.size := by have := k1.out.size; simpa using this
  cases b
  · gi_wp2
    exact ⟨_, results_tmp rfl _ _ _, _, false, rfl, IB.out, World.ownsRow_nil _ _ _ _, below_end k1.out⟩
  · have c0 := cell_past (box_in k1.out 0 _ rfl) (by omega) (.cells #[.slice none 0 0] 23)
    have c1 := cell_past (box_in k1.out 1 _ rfl) (by omega) (.cells #[.slice none 0 0] 23)
    have c2 := cell_past (box_in k1.out 2 _ rfl) (by omega) (.cells #[.slice none 0 0] 23)
    have c3 := cell_past (box_in k1.out 3 _ rfl) (by omega) (.cells #[.slice none 0 0] 23)
    simp only [List.getElem_toArray, List.getElem_cons_zero, List.getElem_cons_succ] at c0 c1 c2 c3
    gi_wp2_with (refine ⟨trivial, ?_⟩; gi_at_call 24; refine (callsIn_wide.2 (valvesAt_any _ _ _ _ _ _)).mono ?_; rintro e w' ⟨rfl, rfl⟩)
    have bO := Boxed.new w1 23 (.slice none 0 0)
    have bO2 := (bO.alloc (.cells #[v0, v1, v2, v3] 28)).alloc (.cells #[.string x] 9)
    have q1 := cell_past (new_cell (w1.alloc (.cells #[.slice none 0 0] 23)) #[v0, v1, v2, v3] 28 3 _ rfl) (by simp) (.cells #[.string x] 9)
    have q2 := new_cell ((w1.alloc (.cells #[.slice none 0 0] 23)).alloc (.cells #[v0, v1, v2, v3] 28)) #[.string x] 9 0 _ rfl
    simp only [World.size_alloc, List.getElem_toArray, List.getElem_cons_zero, List.getElem_cons_succ] at q1 q2
    have hW0 : Below w.heap.size w (((w1.alloc (.cells #[.slice none 0 0] 23)).alloc (.cells #[v0, v1, v2, v3] 28)).alloc (.cells #[.string x] 9)) := (((below_end k1.out).alloc (by omega) _).alloc (by simp; omega) _).alloc (by simp; omega) _
    have hLv := (HP.out.kept hW0 hB).v
    have h8 := H8.out (by simpa using IB.out)
    have hsz0 : (((w1.alloc (.cells #[.slice none 0 0] 23)).alloc (.cells #[v0, v1, v2, v3] 28)).alloc (.cells #[.string x] 9)).heap.size = w1.heap.size + 3 := by simp
    have hnv : D.nv ≤ 18 := (show D.V from by simpa using IB.out).2.2.1
    generalize (((w1.alloc (.cells #[.slice none 0 0] 23)).alloc (.cells #[v0, v1, v2, v3] 28)).alloc (.cells #[.string x] 9)) = W0 at bO2 q1 q2 hW0 hLv hsz0 ⊢
    refine wpIn_rangeFunc_ownG (F := Fence.wide) rfl (by omega) (gf := 46) (lb := #[.pointer (some ⟨w1.heap.size + 1, 0, none⟩), .pointer (some ⟨w1.heap.size + 1 + 1, 0, none⟩)]) rfl trivial (enters_of Try.func46 (by kernel_rfl) rfl)
      (vals_stops 4 (w1.heap.size + 1) (w1.heap.size + 1 + 1) w.heap.size (by omega) v3 D.nv D.fv x W0 q1 q2 (by obtain ⟨oa, cap, h1, h2, h3⟩ := hLv; exact ⟨oa, cap, h1, h2, fun i hi => by obtain ⟨b, off, g1, g2, g3⟩ := h3 i hi; exact ⟨b, off, g1, by omega, g3⟩⟩) h8 (by omega) (by omega) (by omega))
      KpV.trans (KpV.put (by omega) (by omega)) (Below.refl _ _) (fun _ => rfl)
      (fun pre W => (∃ v, Boxed W w1.heap.size 23 v ∧ W.ownsRow (w1.heap.size + 3) 9 1 v pre.length (nmV pre) ∧ True) ∧ (Below w.heap.size w W ∧ w1.heap.size + 3 ≤ W.heap.size))
      (fun _ _ _ => False)
      (OwnFrom.and (Own.from (holdsRow_own (w1.heap.size + 3) w1.heap.size 23 9 1 (fun pre : List Two => pre.length) (fun pre => nmV pre) (fun _ _ => True)) _) (OwnFrom.and (ownFrom_below (Nat.le_refl _) (by omega)) (fun _ _ _ _ hs hg _ => Nat.le_trans hs hg.size)))
      (fun _ _ _ _ _ hs _ _ => hs)
      ⟨⟨_, bO2, World.ownsRow_nil _ _ _ _, trivial⟩, hW0, by omega⟩
      (fun y => { tmps := #[.agg #[v0, v1, v2, v3], .string x, .pointer (some ⟨w.heap.size, 0, none⟩), undef, .slice none 0 0, .pointer (some ⟨w1.heap.size, 0, none⟩), .string y.1.1, .agg #[v0, v1, v2, v3], .bool true, .bool false, .agg #[v0, v1, v2, v3], .string x, .func (.func 46) #[] #[.pointer (some ⟨w1.heap.size + 1, 0, none⟩), .pointer (some ⟨w1.heap.size + 1 + 1, 0, none⟩)], .string y.1.1, .string y.1.2, undef, undef, undef, undef, undef, undef], defers := [] }) ?assign ?body ?done ?stop
    case assign =>
      intro l y W K hK
      gi_wp2
      exact hK
    case body =>
      rintro l pre y W ⟨⟨v, hv, hrow, _⟩, hBw, hWs⟩ hlt
      have hc := hv.cell
      have hy8 : y.1.1.size ≤ 1048576 := by have := y.2.1; omega
      have hmx : Try.prog.follows .mixedOrders = true := by kernel_rfl
      gi_wp2
      have hle : ∀ q, v.ownBlock = some q → w1.heap.size + 3 ≤ q := fun q hq => (hrow.lt q hq).1
      have hmv : pre.length ≤ 18 := by omega
      have FIN : Hid (∀ g' w2 w3 cap', Below W.heap.size W w2 → w3.ownsRow (w1.heap.size + 3) 9 1 (.slice (some ⟨g', 0, none⟩) (pre.length + 1) cap') (pre.length + 1) (nmV pre ++ [.string y.1.1]) → (w2.alloc (.cells #[.string y.1.1] 9)).grownBy w3 v.ownBlock → Boxed w3 w1.heap.size 23 v →
          KeepsFrom W0.heap.size W (w3.setCell ⟨w1.heap.size, 0, none⟩ (.slice (some ⟨g', 0, none⟩) (pre.length + 1) cap')) ∧ KpV w.heap.size (w1.heap.size + 1 + 1) W (w3.setCell ⟨w1.heap.size, 0, none⟩ (.slice (some ⟨g', 0, none⟩) (pre.length + 1) cap')) ∧
          ((∃ v, Boxed (w3.setCell ⟨w1.heap.size, 0, none⟩ (.slice (some ⟨g', 0, none⟩) (pre.length + 1) cap')) w1.heap.size 23 v ∧ (w3.setCell ⟨w1.heap.size, 0, none⟩ (.slice (some ⟨g', 0, none⟩) (pre.length + 1) cap')).ownsRow (w1.heap.size + 3) 9 1 v (pre ++ [y]).length (nmV (pre ++ [y])) ∧ True) ∧
            (Below w.heap.size w (w3.setCell ⟨w1.heap.size, 0, none⟩ (.slice (some ⟨g', 0, none⟩) (pre.length + 1) cap')) ∧ w1.heap.size + 3 ≤ (w3.setCell ⟨w1.heap.size, 0, none⟩ (.slice (some ⟨g', 0, none⟩) (pre.length + 1) cap')).heap.size))) := fun g' w2 w3 cap' hb2 hown' hgrow hv3 => by
        have hz2' := hb2.size
        have hz3 := hgrow.size
        rw [World.size_alloc] at hz3
        have hin : ∀ k, k < w1.heap.size + 3 → w3.heap[k]? = W.heap[k]? := fun k hk => by
          rw [hgrow.block k (by simp; omega) (fun e => by have := hle _ e.symm; omega), Below.heap_alloc w2 _ k (by omega)]
          exact hb2.block k (by omega)
        have hset : ∀ k, k ≠ w1.heap.size → (w3.setCell ⟨w1.heap.size, 0, none⟩ (.slice (some ⟨g', 0, none⟩) (pre.length + 1) cap')).heap[k]? = w3.heap[k]? := fun k hk => Below.heap_setCell w3 _ _ k hk
        have hss : (w3.setCell ⟨w1.heap.size, 0, none⟩ (.slice (some ⟨g', 0, none⟩) (pre.length + 1) cap')).heap.size = w3.heap.size := by simp [World.setCell]
        refine ⟨?_, ⟨by omega, fun k hk => (hset k (by omega)).trans (hin k (by omega))⟩, ⟨_, hv3.set _, ?_, trivial⟩, ?_, by omega⟩
        · refine (((below_keeps hb2).trans (KeepsOthers.alloc _ _)).trans ((KeepsOthers.of_grownBy hgrow fun j o ej hj => ?_).trans (KeepsOthers.setCell _ _ _))).from _
          rcases ((own_belowR hrow hb2).alloc (.cells #[.string y.1.1] 9)).2 with ⟨e, _⟩ | ⟨g, cap, cur, e, _, hgb, _⟩
          · subst e; cases ej
          · subst e
            obtain rfl : g = j := by simpa [Value.ownBlock] using ej
            rw [hgb] at hj; cases hj; rfl
        · have e1 : (pre ++ [y]).length = pre.length + 1 := by simp
          rw [e1, nmV_snoc]
          exact ownsRow_setCell_below hown' (by show w1.heap.size < _; omega) _
        · have hb3 : Below w.heap.size w3 (w3.setCell ⟨w1.heap.size, 0, none⟩ (.slice (some ⟨g', 0, none⟩) (pre.length + 1) cap')) := (Below.refl _ w3).setCell (p := ⟨w1.heap.size, 0, none⟩) (by show w.heap.size ≤ w1.heap.size; omega) _
          refine (hBw.trans (Below.grown (((hb2.mono (by have := hBw.size; omega)).alloc (by have := hBw.size; omega) _)) hgrow (by simp; have := hBw.size; omega) (fun q hq => by have := hle q hq; omega))).trans hb3
      refine wpIn_region_any hmx ?_
      change wpAnyIn _ _ _ _ _ _ _ _ _ (World.drew _)
      refine wpAnyIn_ready (rs := [0, 1]) (by kernel_rfl) (by simp) ?_
      refine AllReadyIn.cons rfl (fun K hK => ?_) ?_
      · go_simp
        refine hK _ _ ?_
        clear hK K
        refine wpAnyIn_ready (rs := [1]) (by kernel_rfl) (by simp) ?_
        refine AllReadyIn.cons rfl (fun K hK => ?_) ?_
        · go_simp
          refine hK _ _ ?_
          clear hK K
          refine wpAnyIn_ready (rs := [2]) (by kernel_rfl) (by simp) ?_
          refine AllReadyIn.cons rfl (fun K hK => ?_) ?_
          · go_simp
            gi_wp2_with (refine ⟨trivial, ?_⟩; gi_at_call 25; refine (CallsIn.inRound l (callsIn_wide.2 (clones_any _ _ hy8))).mono ?_; rintro e w2 ⟨rfl, hb2⟩)
            replace hb2 := below_undrew hb2
            have hc2 := (hb2.cell (p := ⟨w1.heap.size, 0, none⟩) hv.lt).trans hc
            have hc3 := cell_past hc2 (Nat.lt_of_lt_of_le hv.lt hb2.size) (.cells #[.string y.1.1] 9)
            refine wpAnyIn_ready (rs := [3]) (by kernel_rfl) (by simp) ?_
            refine AllReadyIn.cons rfl (fun K hK => ?_) ?_
            · go_simp
              refine hK _ _ ?_
              clear hK K
              refine wpAnyIn_ready (rs := [4]) (by kernel_rfl) (by simp) ?_
              refine AllReadyIn.cons rfl (fun K hK => ?_) ?_
              · refine step_append_in rfl (.tmp 15) (.tmp 18) 23 rfl (w1.heap.size + 3) 9 i0 (.string ByteArray.empty) 1 16 under24b hi hz0 hz1 hz2 rfl (by decide) v pre.length (nmV pre) (by simp [Act.eval]) ((own_belowR hrow hb2).alloc _) ⟨w2.heap.size, 0, none⟩ 1 1 [.string y.1.1] (by simp [Act.eval]) rfl (cell_one_new _ _ _) (by simp [Value.oneCell']) (by unfold maxLen; omega) (by omega) (by have := hb2.size; simp; omega) ?_
                intro v' w3 hown' hgrow
                obtain ⟨g', cap', rfl⟩ := ownsRow_succ hown'
                have hv3 : Boxed w3 w1.heap.size 23 v := (Boxed.alloc (show Boxed w2 w1.heap.size 23 v from (hb2.block _ hv.lt).trans hv) _).kept hgrow (fun e => by have := hle _ e.symm; omega)
                have hc4 := hv3.cell
                have hf4 := hv3.frozen
                refine hK _ _ ?_
                clear hK K
                refine wpAnyIn_ready (rs := [5]) (by kernel_rfl) (by simp) ?_
                refine AllReadyIn.cons rfl (fun K hK => ?_) ?_
                · go_simp
                  refine hK _ _ ?_
                  clear hK K
                  refine wpAnyIn_done (by kernel_rfl) ?_ _
                  exact FIN.out _ w2 w3 _ hb2 hown' hgrow hv3
                exact AllReadyIn.nil
              exact AllReadyIn.nil
            exact AllReadyIn.nil
          exact AllReadyIn.nil
        exact AllReadyIn.nil
      refine AllReadyIn.cons rfl (fun K hK => ?_) ?_
      · go_simp
        refine hK _ _ ?_
        clear hK K
        refine wpAnyIn_ready (rs := [0, 2]) (by kernel_rfl) (by simp) ?_
        refine AllReadyIn.cons rfl (fun K hK => ?_) ?_
        · go_simp
          refine hK _ _ ?_
          clear hK K
          refine wpAnyIn_ready (rs := [2]) (by kernel_rfl) (by simp) ?_
          refine AllReadyIn.cons rfl (fun K hK => ?_) ?_
          · go_simp
            gi_wp2_with (refine ⟨trivial, ?_⟩; gi_at_call 25; refine (CallsIn.inRound l (callsIn_wide.2 (clones_any _ _ hy8))).mono ?_; rintro e w2 ⟨rfl, hb2⟩)
            replace hb2 := below_undrew hb2
            have hc2 := (hb2.cell (p := ⟨w1.heap.size, 0, none⟩) hv.lt).trans hc
            have hc3 := cell_past hc2 (Nat.lt_of_lt_of_le hv.lt hb2.size) (.cells #[.string y.1.1] 9)
            refine wpAnyIn_ready (rs := [3]) (by kernel_rfl) (by simp) ?_
            refine AllReadyIn.cons rfl (fun K hK => ?_) ?_
            · go_simp
              refine hK _ _ ?_
              clear hK K
              refine wpAnyIn_ready (rs := [4]) (by kernel_rfl) (by simp) ?_
              refine AllReadyIn.cons rfl (fun K hK => ?_) ?_
              · refine step_append_in rfl (.tmp 15) (.tmp 18) 23 rfl (w1.heap.size + 3) 9 i0 (.string ByteArray.empty) 1 16 under24b hi hz0 hz1 hz2 rfl (by decide) v pre.length (nmV pre) (by simp [Act.eval]) ((own_belowR hrow hb2).alloc _) ⟨w2.heap.size, 0, none⟩ 1 1 [.string y.1.1] (by simp [Act.eval]) rfl (cell_one_new _ _ _) (by simp [Value.oneCell']) (by unfold maxLen; omega) (by omega) (by have := hb2.size; simp; omega) ?_
                intro v' w3 hown' hgrow
                obtain ⟨g', cap', rfl⟩ := ownsRow_succ hown'
                have hv3 : Boxed w3 w1.heap.size 23 v := (Boxed.alloc (show Boxed w2 w1.heap.size 23 v from (hb2.block _ hv.lt).trans hv) _).kept hgrow (fun e => by have := hle _ e.symm; omega)
                have hc4 := hv3.cell
                have hf4 := hv3.frozen
                refine hK _ _ ?_
                clear hK K
                refine wpAnyIn_ready (rs := [5]) (by kernel_rfl) (by simp) ?_
                refine AllReadyIn.cons rfl (fun K hK => ?_) ?_
                · go_simp
                  refine hK _ _ ?_
                  clear hK K
                  refine wpAnyIn_done (by kernel_rfl) ?_ _
                  exact FIN.out _ w2 w3 _ hb2 hown' hgrow hv3
                exact AllReadyIn.nil
              exact AllReadyIn.nil
            exact AllReadyIn.nil
          exact AllReadyIn.nil
        refine AllReadyIn.cons rfl (fun K hK => ?_) ?_
        · go_simp
          gi_wp2_with (refine ⟨trivial, ?_⟩; gi_at_call 25; refine (CallsIn.inRound l (callsIn_wide.2 (clones_any _ _ hy8))).mono ?_; rintro e w2 ⟨rfl, hb2⟩)
          replace hb2 := below_undrew hb2
          have hc2 := (hb2.cell (p := ⟨w1.heap.size, 0, none⟩) hv.lt).trans hc
          have hc3 := cell_past hc2 (Nat.lt_of_lt_of_le hv.lt hb2.size) (.cells #[.string y.1.1] 9)
          refine wpAnyIn_ready (rs := [0, 3]) (by kernel_rfl) (by simp) ?_
          refine AllReadyIn.cons rfl (fun K hK => ?_) ?_
          · go_simp
            refine hK _ _ ?_
            clear hK K
            refine wpAnyIn_ready (rs := [3]) (by kernel_rfl) (by simp) ?_
            refine AllReadyIn.cons rfl (fun K hK => ?_) ?_
            · go_simp
              refine hK _ _ ?_
              clear hK K
              refine wpAnyIn_ready (rs := [4]) (by kernel_rfl) (by simp) ?_
              refine AllReadyIn.cons rfl (fun K hK => ?_) ?_
              · refine step_append_in rfl (.tmp 15) (.tmp 18) 23 rfl (w1.heap.size + 3) 9 i0 (.string ByteArray.empty) 1 16 under24b hi hz0 hz1 hz2 rfl (by decide) v pre.length (nmV pre) (by simp [Act.eval]) ((own_belowR hrow hb2).alloc _) ⟨w2.heap.size, 0, none⟩ 1 1 [.string y.1.1] (by simp [Act.eval]) rfl (cell_one_new _ _ _) (by simp [Value.oneCell']) (by unfold maxLen; omega) (by omega) (by have := hb2.size; simp; omega) ?_
                intro v' w3 hown' hgrow
                obtain ⟨g', cap', rfl⟩ := ownsRow_succ hown'
                have hv3 : Boxed w3 w1.heap.size 23 v := (Boxed.alloc (show Boxed w2 w1.heap.size 23 v from (hb2.block _ hv.lt).trans hv) _).kept hgrow (fun e => by have := hle _ e.symm; omega)
                have hc4 := hv3.cell
                have hf4 := hv3.frozen
                refine hK _ _ ?_
                clear hK K
                refine wpAnyIn_ready (rs := [5]) (by kernel_rfl) (by simp) ?_
                refine AllReadyIn.cons rfl (fun K hK => ?_) ?_
                · go_simp
                  refine hK _ _ ?_
                  clear hK K
                  refine wpAnyIn_done (by kernel_rfl) ?_ _
                  exact FIN.out _ w2 w3 _ hb2 hown' hgrow hv3
                exact AllReadyIn.nil
              exact AllReadyIn.nil
            exact AllReadyIn.nil
          refine AllReadyIn.cons rfl (fun K hK => ?_) ?_
          · go_simp
            refine hK _ _ ?_
            clear hK K
            refine wpAnyIn_ready (rs := [0]) (by kernel_rfl) (by simp) ?_
            refine AllReadyIn.cons rfl (fun K hK => ?_) ?_
            · go_simp
              refine hK _ _ ?_
              clear hK K
              refine wpAnyIn_ready (rs := [4]) (by kernel_rfl) (by simp) ?_
              refine AllReadyIn.cons rfl (fun K hK => ?_) ?_
              · refine step_append_in rfl (.tmp 15) (.tmp 18) 23 rfl (w1.heap.size + 3) 9 i0 (.string ByteArray.empty) 1 16 under24b hi hz0 hz1 hz2 rfl (by decide) v pre.length (nmV pre) (by simp [Act.eval]) ((own_belowR hrow hb2).alloc _) ⟨w2.heap.size, 0, none⟩ 1 1 [.string y.1.1] (by simp [Act.eval]) rfl (cell_one_new _ _ _) (by simp [Value.oneCell']) (by unfold maxLen; omega) (by omega) (by have := hb2.size; simp; omega) ?_
                intro v' w3 hown' hgrow
                obtain ⟨g', cap', rfl⟩ := ownsRow_succ hown'
                have hv3 : Boxed w3 w1.heap.size 23 v := (Boxed.alloc (show Boxed w2 w1.heap.size 23 v from (hb2.block _ hv.lt).trans hv) _).kept hgrow (fun e => by have := hle _ e.symm; omega)
                have hc4 := hv3.cell
                have hf4 := hv3.frozen
                refine hK _ _ ?_
                clear hK K
                refine wpAnyIn_ready (rs := [5]) (by kernel_rfl) (by simp) ?_
                refine AllReadyIn.cons rfl (fun K hK => ?_) ?_
                · go_simp
                  refine hK _ _ ?_
                  clear hK K
                  refine wpAnyIn_done (by kernel_rfl) ?_ _
                  exact FIN.out _ w2 w3 _ hb2 hown' hgrow hv3
                exact AllReadyIn.nil
              exact AllReadyIn.nil
            exact AllReadyIn.nil
          exact AllReadyIn.nil
        exact AllReadyIn.nil
      exact AllReadyIn.nil
    case done =>
      rintro E ys W hD rfl ⟨⟨v, hv, hrow, _⟩, hBw, hWs⟩ hK
      have hc := hv.cell
      gi_wp2
      refine ⟨by simp, .inl ⟨_, _, rfl, run_takeDeferred hK, ?_⟩⟩
      obtain ⟨e1, e2⟩ := nmV_of (x := x) h8
      refine ⟨_, results_tmp rfl _ _ _, v, true, rfl, by simpa using IB.out, ?_, hBw.trans (belowK_b (w := w) (Nat.le_refl _) W E _ _ (by have := k1.out.size; simp at this; omega) hK rfl rfl)⟩
      have ho := own_leR (ownsRow_putObj hrow (.deferred none) hK rfl) (B' := w.heap.size) (by omega)
      rw [e1, e2] at ho
      exact ho
    case stop =>
      rintro E c pre W _ _ h _
      exact h.elim
end Go.Proofs.Ytgjcppdeljoimaa

namespace Go.Proofs.Ytgjcppdeljoimaa
open Go.RowKit
set_option maxRecDepth 100000 in
set_option maxHeartbeats 4000000 in
theorem l4Beside_any (B : Nat) (v0 v1 v2 v3 : Value) (nv : Nat) (f : Nat → ByteArray × ByteArray × ByteArray × ByteArray) (x : ByteArray) (w : World) (h : Lst B w v3 nv 4 (cV f)) (hB : B ≤ w.heap.size) (hm : nv ≤ 1048576) :
    Calls Try.prog 26 #[.agg #[v0, v1, v2, v3], .string x] w fun e w' => ∃ v, e = .returned v ∧ w'.ownsRow w.heap.size 9 1 v (besN f x nv).length ((besN f x nv).map .string) ∧ Below w.heap.size w w' := by
  obtain ⟨i0, hi, hz0, hz1, hz2⟩ := info_parts info9b
  obtain ⟨oa, cap, rfl, _, hc⟩ := h
  have HC : Hid _ := hc
  clear hc
  go_enter Try.func26, Try.ntmps26
  go_wp2
  go_loopw [5, 6] (fun v i wr => ∃ k : Nat, k ≤ nv ∧ i = .int .i64 k ∧ Hid (wr.ownsRow (w.heap.size + 1) 9 1 v (besN f x k).length ((besN f x k).map .string)) ∧ Hid (Below (w.heap.size + 1) (w.alloc (.cells #[v0, v1, v2, .slice oa nv cap] 28)) wr)) (fun _ i _ => nv - (intOf i).toNat)
  case atStart =>
    have h0 := World.ownsRow_made (base := w.heap.size + 1) (e := 9) (size := 1) (w.alloc (.cells #[v0, v1, v2, .slice oa nv cap] 28)) #[] 0 (by simp) (Nat.zero_le _) rfl
    exact ⟨0, Nat.zero_le _, rfl, by simpa [Hid, besN] using h0, (Below.refl _ _).alloc (by simp) _⟩
  case round =>
    obtain ⟨k, hk, rfl, hown, hbel⟩ := hrel
    have b3 := box_in hbel.out 3 _ rfl
    simp only [List.getElem_toArray, List.getElem_cons_zero, List.getElem_cons_succ] at b3
    have hsz : w.heap.size + 1 ≤ wr.heap.size := by have := hbel.out.size; simpa using this
    by_cases hlt : k < nv
    · obtain ⟨b, off, rfl, hbB, hcell⟩ := HC.out k hlt
      have e0 : wr.cell? ⟨b, off + k * 4, none⟩ = some (.string (f k).1) := old_in hbel.out (by omega) (by simpa [cV] using hcell 0 (by omega))
      have e1 : wr.cell? ⟨b, off + k * 4 + 1, none⟩ = some (.string (f k).2.1) := old_in hbel.out (by omega) (by simpa [cV] using hcell 1 (by omega))
      have e2 : wr.cell? ⟨b, off + k * 4 + 2, none⟩ = some (.string (f k).2.2.1) := old_in hbel.out (by omega) (by simpa [cV] using hcell 2 (by omega))
      clear hcell
      have hbl := besN_len f x k
      have R : Hid (∀ (v' : Value) (w3 : World), w3.ownsRow (w.heap.size + 1) 9 1 v' ((besN f x k).length + 1) ((besN f x k).map .string ++ [.string (f k).1]) → endB (f k) x = true → w3.ownsRow (w.heap.size + 1) 9 1 v' (besN f x (k + 1)).length ((besN f x (k + 1)).map .string)) := fun v' w3 h hE => by
        rw [besN_yes hE]; exact own_push h
      have Z : Hid (endB (f k) x = false → besN f x (k + 1) = besN f x k) := besN_no
      have ef := endB_flip (f k) x
      unfold eqB at ef
      cases h1 : ((f k).2.1.toList == x.toList) <;> cases h2 : ((f k).2.2.1.toList == x.toList) <;> rw [h1, h2] at ef
      · have EF : Hid (endB (f k) x = false) := ef
        clear ef
        go_wp2
        go_roundw
        case rel => exact ⟨k + 1, by omega, by go_num, by show World.ownsRow _ _ _ _ _ _ _; rw [Z.out EF.out]; exact hown.out, hbel.out⟩
        case measure => simp [intOf]; omega
      all_goals
        have EF : Hid (endB (f k) x = true) := ef
        clear ef
        go_wp2_with (first
          | (at_builtin; refine wpList_append_own _ rfl _ _ 23 rfl (w.heap.size + 1) 9 i0 (.string ByteArray.empty) 1 16 under24b hi hz0 hz1 hz2 rfl (by decide) _ _ _ rfl (hown.out.alloc _) ⟨wr.heap.size, 0, none⟩ 1 1 [.string (f k).1] rfl rfl (cell_one_new _ _ _) (fun x hx => by simp at hx; subst hx; rfl) (by unfold maxLen; omega) (by omega) (by simp; omega) ?_; intro v' w3 hown' hgrow3 hnil3))
        go_roundw
        case rel =>
          have RR : ∃ k' : Nat, k' ≤ nv ∧ Value.int .i64 ((k : Int) + 1) = .int .i64 (k' : Int) ∧ Hid (w3.ownsRow (w.heap.size + 1) 9 1 v' (besN f x k').length ((besN f x k').map .string)) ∧ Hid (Below (w.heap.size + 1) (w.alloc (.cells #[v0, v1, v2, .slice (some ⟨b, off, none⟩) nv cap] 28)) w3) :=
            ⟨k + 1, by omega, by go_num, R.out v' w3 hown' EF.out, (hbel.out.alloc hsz _).grown hgrow3 (by simp; omega) (fun q hq => (hown.out.lt q hq).1)⟩
          first
            | exact RR
            | ((repeat apply Exists.intro); exact ⟨RR, rfl⟩)
        case measure => simp [intOf]; omega
    · have hkn : k = nv := by omega
      subst hkn
      go_wp2
      go_ret
      exact ⟨_, rfl, ⟨by have := hown.out.1; exact this, by
        rcases hown.out.2 with hh | ⟨g, cap', cur, hv, hb, rest⟩
        · exact Or.inl hh
        · exact Or.inr ⟨g, cap', cur, hv, by omega, rest⟩⟩, below_end hbel.out⟩
end Go.Proofs.Ytgjcppdeljoimaa

namespace Go.Proofs.Ytgjcppdeljoimaa
open Go.RowKit
set_option maxRecDepth 100000 in
set_option maxHeartbeats 2000000 in
theorem besideS_any (B : Nat) (v0 v1 v2 v3 : Value) (D : PD) (x : ByteArray) (w : World) (h : PAt B w v0 v1 v2 v3 D) (hB : B ≤ w.heap.size) (hz : D.Sz) (hm : D.nv ≤ 1048576) :
    Calls Try.prog 11 #[.agg #[v0, v1, v2, v3], .string x] w fun e w' => ∃ v b, e = .returned v ∧ (b = true ↔ D.V) ∧ w'.ownsRow w.heap.size 9 1 v (besL b D x).length ((besL b D x).map .string) ∧ Below w.heap.size w w' := by
  have H : Hid (∀ w', Below w.heap.size w w' → PAt B w' v0 v1 v2 v3 D) := fun w' hb => h.kept hb hB
  clear h
  have k0 : Hid (Below (w.heap.size + 1) (w.alloc (.cells #[v0, v1, v2, v3] 28)) (w.alloc (.cells #[v0, v1, v2, v3] 28))) := Below.refl _ _
  go_enter Try.func11, Try.ntmps11
  go_wp2_with fail
  refine (validS_any B v0 v1 v2 v3 D _ (H.out _ (below_end k0.out)) (by simp; omega) hz).mono ?_; rintro e w1 ⟨b, rfl, is, hb1⟩
  have IS : Hid _ := is
  clear is
  have k1 : Hid (Below (w.heap.size + 1) (w.alloc (.cells #[v0, v1, v2, v3] 28)) w1) := below_of k0.out hb1
  have s1 : w.heap.size + 1 ≤ w1.heap.size := by have := k1.out.size; simpa using this
  cases b
  · go_wp2_with fail
    go_ret
    exact ⟨_, false, rfl, IS.out, World.ownsRow_made _ #[] 0 (by omega) (Nat.zero_le _) rfl, (below_end k1.out).alloc (by omega) _⟩
  · have a0 := box_in k1.out 0 _ rfl
    have a1 := box_in k1.out 1 _ rfl
    have a2 := box_in k1.out 2 _ rfl
    have a3 := box_in k1.out 3 _ rfl
    simp only [List.getElem_toArray, List.getElem_cons_zero, List.getElem_cons_succ] at a0 a1 a2 a3
    go_wp2_with fail
    refine (l4Beside_any B v0 v1 v2 v3 D.nv D.fv x _ (H.out _ (below_end k1.out)).v (by omega) hm).mono ?_; rintro e w2 ⟨v, rfl, ho, hb2⟩
    have HO : Hid (w2.ownsRow w1.heap.size 9 1 v (besN D.fv x D.nv).length ((besN D.fv x D.nv).map .string)) := ho
    clear ho
    go_wp2_with fail
    go_ret
    exact ⟨v, true, rfl, by simpa using IS.out, ⟨HO.out.1, by
        rcases HO.out.2 with hh | ⟨g, cap', cur, hv, hb, rest⟩
        · exact Or.inl hh
        · exact Or.inr ⟨g, cap', cur, hv, by omega, rest⟩⟩, (below_end k1.out).trans (hb2.mono (by omega))⟩
end Go.Proofs.Ytgjcppdeljoimaa
