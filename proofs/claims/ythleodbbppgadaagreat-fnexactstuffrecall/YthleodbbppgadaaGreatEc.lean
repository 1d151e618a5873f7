/-
  The program's recall: which vessels, and then which outs, may hold any of a lot, in a list of the call's own.
-/
import Derived.Test.YthleodbbppgadaaGreatEb
import Derived.Test.YthleodbbppgadaaGreatIk
import Derived.Test.YthleodbbppgadaaGreatCl
import Derived.Test.YthleodbbppgadaaGreatHy
import Derived.Maps.OwnIn
namespace Go.Proofs.YthleodbbppgadaaGreat
open Go.RowKit Go.Shelf Go.Sort

attribute [local go_sem] Oper.semAt_some

/-- What a loop owns: its box, and what its list lies in. -/
def ownR (B : Nat) (X : World) (k : Nat) : Prop := k = B ∨ ∃ v : Value, X.cell? ⟨B, 0, none⟩ = some v ∧ v.ownBlock = some k
theorem ownR_st {B base t e size : Nat} {X : World} {v : Value} {k : Nat} {xs : List Value} (hb : Boxed X B t v) (hr : X.ownsRow base e size v k xs) : OwnSt (ownR B) X := by
  refine ⟨fun k hk => ?_, fun X' row hg hrow k hk => ?_⟩
  · rcases hk with rfl | ⟨u, hu, ho⟩
    · exact hb.lt
    · rw [hb.cell] at hu; cases hu
      exact (hr.lt k ho).2
  · rcases hk with rfl | ⟨u, hu, ho⟩
    · exact .inl rfl
    · have hb' : Boxed X' B t v := hb.kept hg (fun e' => by obtain ⟨o, ho', hc⟩ := hrow B e'.symm; rw [show X.heap[B]? = _ from hb] at ho'; cases ho'; cases hc)
      rw [hb'.cell] at hu; cases hu
      exact .inr ⟨_, hb.cell, ho⟩
theorem own_setOther {W : World} {base e size : Nat} {v : Value} {k : Nat} {xs : List Value} (h : W.ownsRow base e size v k xs) (p : Addr) (x : Value) (hne : some p.block ≠ v.ownBlock) : (W.setCell p x).ownsRow base e size v k xs := by
  refine ⟨h.1, ?_⟩
  rcases h.2 with hn | ⟨g, cap, cur, rfl, hb, hg, rest⟩
  · exact .inl hn
  · exact .inr ⟨g, cap, cur, rfl, hb, (Below.heap_setCell W p x g (fun e => hne (by rw [← e]; rfl))).trans hg, rest⟩
theorem enc_str : ∀ l : List ByteArray, enc 1 eS l = l.map .string
  | [] => rfl
  | a :: l => by rw [enc_cons, enc_str l]; rfl
theorem own_lowR {w w' : World} {base e size : Nat} {v : Value} {k : Nat} {xs : List Value} (h : w.ownsRow base e size v k xs) (hb : Below w.heap.size w w') : w'.ownsRow base e size v k xs := by
  refine ⟨h.1, ?_⟩
  rcases h.2 with hn | ⟨g, cap, cur, rfl, h1, hg, rest⟩
  · exact .inl hn
  · exact .inr ⟨g, cap, cur, rfl, h1, (hb.block g (Array.getElem?_eq_some_iff.1 hg).1).trans hg, rest⟩

/-- What a round of a loop that appends to a list in a box leaves: V, more memory, one new block, the list grown, the box set. -/
theorem append_round {B base t e : Nat} {V X2 w1 : World} {v v' : Value} {k m : Nat} {xs ys : List Value} {o : Obj} {n₀ : Nat} (hte : t ≠ e) (hv : Boxed V B t v) (hrow : V.ownsRow base e 1 v k xs) (h2 : Below V.heap.size V X2) (hgrow : (X2.alloc o).grownBy w1 v.ownBlock) (hown' : w1.ownsRow base e 1 v' m ys) (hown2 : v'.ownBlock = v.ownBlock ∨ v'.ownBlock = some (X2.alloc o).heap.size) (hnB : n₀ ≤ B) (hnb : n₀ ≤ base) :
    Boxed (w1.setCell ⟨B, 0, none⟩ v') B t v' ∧ (w1.setCell ⟨B, 0, none⟩ v').ownsRow base e 1 v' m ys ∧ KpO (ownR B) n₀ V (w1.setCell ⟨B, 0, none⟩ v') ∧ KeepsOthers V (w1.setCell ⟨B, 0, none⟩ v') ∧ V.heap.size ≤ (w1.setCell ⟨B, 0, none⟩ v').heap.size ∧ (∀ {b : Nat} {w : World}, b ≤ B → b ≤ base → Below b w V → Below b w (w1.setCell ⟨B, 0, none⟩ v')) := by
  have hBV := hv.lt
  have hs2 := h2.size
  have hv2 : Boxed X2 B t v := (h2.block B hBV).trans hv
  have hrow2 : X2.ownsRow base e 1 v k xs := own_lowR hrow h2
  have hbB : some B ≠ v.ownBlock := Boxed.not_row hv hte hrow
  have hv1 : Boxed w1 B t v := (hv2.alloc o).kept hgrow hbB
  have hbg : some B ≠ v'.ownBlock := Boxed.not_row hv1 hte hown'
  have hnr : ∀ k, v.ownBlock = some k → base ≤ k := fun k hk => (hrow.lt k hk).1
  have hz1 : X2.heap.size + 1 ≤ w1.heap.size := by have := hgrow.size; simpa using this
  have hin : ∀ k, k < V.heap.size → some k ≠ v.ownBlock → w1.heap[k]? = V.heap[k]? := fun k hk hne => (hgrow.block k (by simp; omega) hne).trans ((Below.heap_alloc X2 _ k (by omega)).trans (h2.block k hk))
  have hset : ∀ k, k ≠ B → (w1.setCell ⟨B, 0, none⟩ v').heap[k]? = w1.heap[k]? := fun k hk => Below.heap_setCell w1 _ _ k hk
  have hss : (w1.setCell ⟨B, 0, none⟩ v').heap.size = w1.heap.size := by simp
  refine ⟨hv1.set _, own_setOther hown' _ _ hbg, ⟨by omega, fun k hk => ?_, fun k hk => ?_, fun k c t z hkc hno => ?_⟩, ?_, by omega, fun {b w} hb1 hb2 hbl => ?_⟩
  · rcases hk with rfl | ⟨u, hu, ho⟩
    · exact .inl (.inl rfl)
    · rw [(hv1.set v').cell] at hu
      cases hu
      rcases hown2 with h1 | h1
      · exact .inl (.inr ⟨v, hv.cell, h1.symm.trans ho⟩)
      · rw [h1] at ho
        have : (X2.alloc o).heap.size = k := by simpa using ho
        simp at this
        exact .inr (by omega)
  · exact (hset k (by omega)).trans (hin k (by omega) (fun e => by have := hnr k e.symm; omega))
  · have hkl := (Array.getElem?_eq_some_iff.1 hkc).1
    exact ((hset k (fun e => hno (.inl e))).trans (hin k hkl (fun e => hno (.inr ⟨v, hv.cell, e.symm⟩)))).trans hkc
  · refine (keeps_below h2).trans ((KeepsOthers.alloc _ _).trans ((KeepsOthers.of_grownBy hgrow fun j o' ej hj => ?_).trans (KeepsOthers.setCell _ _ _)))
    rcases (hrow2.alloc o).2 with ⟨e, _⟩ | ⟨g, cap, cur, e, _, hgb, _⟩
    · rw [e] at ej; cases ej
    · rw [e] at ej
      obtain rfl : g = j := by simpa [Value.ownBlock] using ej
      rw [hgb] at hj; cases hj; rfl
  · have hbV := hbl.size
    have hbVs : b ≤ V.heap.size := Nat.le_trans hb1 (Nat.le_of_lt hBV)
    have hB1 : Below b w w1 := ((hbl.trans (h2.mono hbVs)).alloc (by omega) o).grown hgrow (by simp; omega) (fun q hq => Nat.le_trans hb2 (hnr q hq))
    exact hB1.setCell (p := ⟨B, 0, none⟩) hb1 _

set_option maxRecDepth 100000 in
set_option maxHeartbeats 8000000 in
theorem recI_any (S : Nat → Prop) (a : DStuffBook) (c : Nat → Value) (x : ByteArray) (w : World) (h : Lay.At S w a c) (hS : ∀ b, S b → b < w.heap.size) (hl : Lay.tot a ≤ 1048576) :
    Calls Tryz.prog 8 #[.agg #[c 0, c 1, c 2, c 3], .string x] w fun e w' => ∃ r, e = .returned r ∧ Row w' w.heap.size 9 1 eS r (recL a x) ∧ Below w.heap.size w w' := by
  have hlen := tot_lens hl
  obtain ⟨i0, hi, hz0, hz1, hz2⟩ := info_parts infS
  have hzv : Hid (∀ i (h : i < a.2.2.1.length), a.2.2.1[i].1.size ≤ 1048576) := fun i hi => by
    have h1 := totL_el a.2.2.1 i hi
    have e0 : Lay.tot a = Lay.tot a.1 + (Lay.tot a.2.1 + (Lay.tot a.2.2.1 + Lay.tot a.2.2.2)) := rfl
    have e1 : Lay.tot a.2.2.1 = totL a.2.2.1 := rfl
    have e2 : Lay.tot a.2.2.1[i] = Lay.tot a.2.2.1[i].1 + Lay.tot a.2.2.1[i].2 := rfl
    have e3 : Lay.tot a.2.2.1[i].1 = a.2.2.1[i].1.size := rfl
    omega
  have hzo : Hid (∀ i (h : i < a.2.2.2.length), a.2.2.2[i].1.size ≤ 1048576) := fun i hi => by
    have h1 := totL_el a.2.2.2 i hi
    have e0 : Lay.tot a = Lay.tot a.1 + (Lay.tot a.2.1 + (Lay.tot a.2.2.1 + Lay.tot a.2.2.2)) := rfl
    have e1 : Lay.tot a.2.2.2 = totL a.2.2.2 := rfl
    have e2 : Lay.tot a.2.2.2[i] = Lay.tot a.2.2.2[i].1 + Lay.tot a.2.2.2[i].2 := rfl
    have e3 : Lay.tot a.2.2.2[i].1 = a.2.2.2[i].1.size := rfl
    omega
  clear hl
  have HA : Hid (Lay.At S w a c) := h
  have h' := h
  rw [at_DStuffBook] at h'
  obtain ⟨_, _, h2, h3⟩ := h'
  obtain ⟨v0, u0⟩ : ∃ v, c 0 = v := ⟨_, rfl⟩
  obtain ⟨v1, u1⟩ : ∃ v, c 1 = v := ⟨_, rfl⟩
  obtain ⟨ov, cv, u2, _, _⟩ := id h2
  obtain ⟨oo, co, u3, _, _⟩ := id h3
  rw [u2] at h2
  rw [u3] at h3
  have HB : Hid (∀ w', Below w.heap.size w w' → Calls Tryz.prog 26 #[.agg #[c 0, c 1, c 2, c 3]] w' fun e w'' => e = .returned (.bool (bookB a)) ∧ Below w'.heap.size w' w'') := fun w' hb => bookI_any S a c w' (Lay.same HA.out (Same.of_below hb hS)) (fun b hb' => Nat.lt_of_lt_of_le (hS b hb') hb.size)
  rw [u0, u1, u2, u3] at HB
  rw [u0, u1, u2, u3]
  clear u0 u1 u2 u3 h HA
  obtain ⟨nv, env⟩ : ∃ n, a.2.2.1.length = n := ⟨_, rfl⟩
  obtain ⟨no, eno⟩ : ∃ n, a.2.2.2.length = n := ⟨_, rfl⟩
  rw [env, eno] at hlen HB
  rw [env] at h2
  rw [eno] at h3
  rw [env, eno]
  have HV : Hid (AtL S w a.2.2.1 (.slice ov nv cv)) := h2
  have HO : Hid (AtL S w a.2.2.2 (.slice oo no co)) := h3
  have ENV : Hid (a.2.2.1.length = nv) := env
  have ENO : Hid (a.2.2.2.length = no) := eno
  clear env eno h2 h3
  have k0 : Hid (Below (w.heap.size + 1) (w.alloc (.cells #[v0, v1, .slice ov nv cv, .slice oo no co] 36)) (w.alloc (.cells #[v0, v1, .slice ov nv cv, .slice oo no co] 36))) := Below.refl _ _
  cases hB : bookB a
  · rw [hB] at HB
    have RL : Hid (recL a x = []) := by show _ = _; unfold recL; rw [hB]; rfl
    refine (callsIn_wide (n := 9)).1 ?_
    refine callsIn_of_wp_marks Tryz.func8 rfl trivial ?_ rfl
    simp only [Tryz.ntmps8, List.size_toArray, List.length_cons, List.length_nil, Nat.reduceAdd, Nat.reduceSub, Array.replicate_succ, Array.replicate_zero, List.push_toArray, List.append_toArray, List.nil_append, List.cons_append]
    gi_wp2_with (refine ⟨trivial, ?_⟩; gi_at_call 26; refine (callsIn_wide.2 (HB.out _ (below_end k0.out))).mono ?_; rintro e w1 ⟨rfl, hb1⟩)
    exact ⟨_, results_tmp rfl _ _ _, .slice none 0 0, rfl, by rw [RL.out]; exact Row.nil _ _ _ _ _, below_end (below_of k0.out hb1)⟩
  · rw [hB] at HB
    have RL : Hid (recL a x = recV x a.2.2.1 ++ recO x a.2.2.2) := by show _ = _; unfold recL; rw [hB]; rfl
    refine (callsIn_wide (n := 9)).1 ?_
    refine callsIn_of_wp_marks Tryz.func8 rfl trivial ?_ rfl
    simp only [Tryz.ntmps8, List.size_toArray, List.length_cons, List.length_nil, Nat.reduceAdd, Nat.reduceSub, Array.replicate_succ, Array.replicate_zero, List.push_toArray, List.append_toArray, List.nil_append, List.cons_append]
    gi_wp2_with (first
      | (refine ⟨trivial, ?_⟩; gi_at_call 26; refine (callsIn_wide.2 (HB.out _ (below_end k0.out))).mono ?_; rintro e w1 ⟨rfl, hb1⟩; have k1 : Hid (Below (w.heap.size + 1) (w.alloc (.cells #[v0, v1, .slice ov nv cv, .slice oo no co] 36)) w1) := below_of k0.out hb1; have s1 : w.heap.size + 1 ≤ w1.heap.size := (by have := k1.out.size; simpa using this); have y0 := cell_past (box_at _ _ k1.out 0 v0 rfl) (by omega) (.cells #[.slice none 0 0] 29); have y1 := cell_past (box_at _ _ k1.out 1 v1 rfl) (by omega) (.cells #[.slice none 0 0] 29); have y2 := cell_past (box_at _ _ k1.out 2 (.slice ov nv cv) rfl) (by omega) (.cells #[.slice none 0 0] 29); have y3 := cell_past (box_at _ _ k1.out 3 (.slice oo no co) rfl) (by omega) (.cells #[.slice none 0 0] 29))
      | (refine ⟨trivial, ?_⟩; gi_at_call 27; refine (callsIn_wide.2 (mayHold_any _ _ _ _ _ _)).mono ?_; rintro e w' ⟨rfl, rfl⟩))
    obtain ⟨W2, hW2⟩ : ∃ W2, W2 = ((w1.alloc (.cells #[.slice none 0 0] 29)).alloc (.cells #[v0, v1, .slice ov nv cv, .slice oo no co] 36)).alloc (.cells #[.string x] 9) := ⟨_, rfl⟩
    have sA : (w1.alloc (.cells #[.slice none 0 0] 29)).heap.size = w1.heap.size + 1 := by simp
    have E2 : Hid (W2 = ((w1.alloc (.cells #[.slice none 0 0] 29)).alloc (.cells #[v0, v1, .slice ov nv cv, .slice oo no co] 36)).alloc (.cells #[.string x] 9)) := hW2
    have s2 : W2.heap.size = w1.heap.size + 1 + 1 + 1 := by rw [hW2]; simp
    have hv2 : Hid (Boxed W2 w1.heap.size 29 (.slice none 0 0)) := by rw [hW2]; exact ((Boxed.new w1 29 _).alloc _).alloc _
    have hb1' : Hid (W2.heap[w1.heap.size + 1]? = some (.cells #[v0, v1, .slice ov nv cv, .slice oo no co] 36 (0, 0))) := by
      have := heap_alloc_new (w1.alloc (.cells #[.slice none 0 0] 29)) (.cells #[v0, v1, .slice ov nv cv, .slice oo no co] 36)
      rw [sA] at this
      rw [hW2]; exact (Below.heap_alloc _ _ _ (by simp)).trans this
    have hb2' : Hid (W2.heap[w1.heap.size + 1 + 1]? = some (.cells #[.string x] 9 (0, 0))) := by
      have := heap_alloc_new ((w1.alloc (.cells #[.slice none 0 0] 29)).alloc (.cells #[v0, v1, .slice ov nv cv, .slice oo no co] 36)) (.cells #[.string x] 9)
      rw [World.size_alloc, sA] at this
      rw [hW2]; exact this
    have bW2 : Hid (Below w1.heap.size w1 W2) := by rw [hW2]; exact (((Below.refl _ _).alloc (Nat.le_refl _) _).alloc (by simp) _).alloc (by simp; omega) _
    have k2 : Hid (Below w.heap.size w W2) := (below_end k1.out).trans (bW2.out.mono (by omega))
    rw [← E2.out]
    clear hW2 y0 y1 y2 y3 hb1
    refine wpIn_range_fit (F := Fence.wide) rfl (by omega) (gf := 59) (lb := #[.pointer (some ⟨w1.heap.size + 1, 0, none⟩), .pointer (some ⟨w1.heap.size + 1 + 1, 0, none⟩)]) rfl trivial (enters_of Tryz.func59 (by kernel_rfl) rfl)
      (hold_fit 8 (w1.heap.size + 1) (w1.heap.size + 1 + 1) w1.heap.size (by omega) v0 v1 ov oo nv no cv co a.2.2.1 a.2.2.2 x (ownR w1.heap.size) W2 hb1'.out hb2'.out ((HV.out.same (Same.of_below k2.out hS)).up (fun b hb => by have := hS b hb; omega)) ((HO.out.same (Same.of_below k2.out hS)).up (fun b hb => by have := hS b hb; omega)) ENV.out ENO.out hzv.out hzo.out hlen (by omega))
      (fun _ _ _ _ _ _ h _ _ => h) (Below.refl _ _) (fun _ => rfl) ?no (by omega)
      (fun pre X => (∃ v, Boxed X w1.heap.size 29 v ∧ X.ownsRow w1.heap.size 9 1 v pre.length (pre.map fun y => .string y.1) ∧ True) ∧ (Below w1.heap.size w1 X ∧ W2.heap.size ≤ X.heap.size))
      (OwnFrom.and (Own.from (holdsRow_own w1.heap.size w1.heap.size 29 9 1 (fun pre : List Nm => pre.length) (fun pre => pre.map fun y => .string y.1) (fun _ _ => True)) _) (OwnFrom.and (ownFrom_below (Nat.le_refl _) (by omega)) (fun _ _ _ _ hs hg _ => Nat.le_trans hs hg.size)))
      (fun pre X h => by obtain ⟨⟨v, hv, hr, _⟩, _⟩ := h; exact ownR_st hv hr)
      ⟨⟨_, hv2.out, World.ownsRow_nil _ _ _ _, trivial⟩, bW2.out, Nat.le_refl _⟩
      (fun y _ => { tmps := #[.agg #[v0, v1, .slice ov nv cv, .slice oo no co], .string x, .pointer (some ⟨w.heap.size, 0, none⟩), undef, .slice none 0 0, .pointer (some ⟨w1.heap.size, 0, none⟩), .string y.1, .agg #[v0, v1, .slice ov nv cv, .slice oo no co], .bool true, .bool false, .agg #[v0, v1, .slice ov nv cv, .slice oo no co], .string x, .func (.func 59) #[] #[.pointer (some ⟨w1.heap.size + 1, 0, none⟩), .pointer (some ⟨w1.heap.size + 1 + 1, 0, none⟩)], .string y.1, undef, undef, undef, undef, undef, undef], defers := [] })
      (fun _ W => W) (fun _ W => Below.refl _ _) (fun _ _ _ _ h _ => h) ?assign ?body ?done
    case no =>
      intro k hk ho
      have : k = w1.heap.size := by
        rcases ho with h | ⟨u, hu, hb⟩
        · exact h
        · rw [hv2.out.cell] at hu; cases hu
          cases hb
      rcases hk with h | h | h <;> omega
    case assign =>
      intro l y X K hK
      gi_wp2
      exact hK
    case body =>
      rintro l pre y W0 W V _ ⟨⟨v, hv, hrow, _⟩, hBw, hVs⟩ _ _ hpl
      have hc := hv.cell
      have qhc := fun d os => cell_regrown hc d os
      have hy := y.2
      refine wpIn_block ?_
      refine wpIn_region_mix 4 [0, 1] (by kernel_rfl) (by kernel_rfl) (by kernel_rfl) ?_
      simp only [List.filterMap_cons, List.filterMap_nil, List.getElem?_cons_succ, List.getElem?_cons_zero]
      repeat (first | go_big_quiet_step (fail) | quiet_step (fail))
      refine wpQuiet_nil ?_
      clear qhc hc
      refine call1 (md := .any) (f := 1) (i := 2) (dc := 16) (fn := 28) ⟨rfl, rfl, rfl, by decide⟩ (by kernel_rfl) ?run ((clones_any y.1 V.drew hy).mono ?_)
      case run => go_simp
      rintro e X2 ⟨rfl, hb2⟩
      have bX2 : Below V.heap.size V X2 := ((Below.refl _ _).drew).trans hb2
      refine ⟨_, rfl, regrown_of_below bX2, ?_⟩
      refine anyC_step (f := 0) [3] (by kernel_rfl) (by simp) (one_list ⟨by decide, _, rfl, rfl, .slice (some ⟨X2.heap.size, 0, none⟩) 1 1, X2.alloc (.cells #[.string y.1] 9), ?run3, regrown_of_below (bX2.alloc bX2.size _), ?_⟩)
      case run3 => go_simp
      refine ⟨by kernel_rfl, ?_⟩
      simp only [List.drop_succ_cons, List.drop_zero]
      simp only [Act.put, List.setIfInBounds_toArray, List.set_cons_zero, List.set_cons_succ]
      have hrow2 : X2.ownsRow w1.heap.size 9 1 v pre.length (pre.map fun y => .string y.1) := own_lowR hrow bX2
      have hs2 := bX2.size
      gi_wp2_with (gi_at_builtin; refine wpListIn_append_own_at _ rfl _ _ 29 rfl w1.heap.size 9 i0 (.string ByteArray.empty) 1 16 elS.ht hi hz0 hz1 hz2 rfl (by decide) _ _ _ rfl (hrow2.alloc _) ⟨X2.heap.size, 0, none⟩ 1 1 [.string y.1] rfl rfl (cell_one_new _ _ _) (by simp [Value.oneCell']) (by unfold maxLen; omega) (by omega) (by simp; omega) ?_; intro v' w3 hown' hgrow _ hown2; have hv3 : Boxed w3 w1.heap.size 29 v := (Boxed.alloc ((bX2.block _ hv.lt).trans hv) (.cells #[.string y.1] 9)).kept hgrow (Boxed.not_row hv (by decide) hrow); have hc3 := hv3.cell; have hf3 := hv3.frozen; obtain ⟨g', cap', rfl⟩ := ownsRow_succ hown')
      obtain ⟨q1, q2, q3, q4, q5, q6⟩ := append_round (n₀ := w1.heap.size) (by decide) hv hrow bX2 hgrow hown' hown2 (Nat.le_refl _) (Nat.le_refl _)
      refine ⟨q4, q3, ⟨_, q1, ?_, trivial⟩, q6 (Nat.le_refl _) (Nat.le_refl _) hBw, by omega⟩
      rw [List.length_append, List.map_append]
      exact q2
    case done =>
      rintro D ys X hD hDX hys ⟨⟨v, hv, hrow, _⟩, hBw, hXs⟩ hK hko
      have hc := hv.cell
      gi_wp2
      refine ⟨by simp, .inl ⟨_, _, rfl, run_takeDeferred hK, ?_⟩⟩
      refine ⟨_, results_tmp rfl _ _ _, v, rfl, ?_, ?_⟩
      · have h1 := ownsRow_putObj hrow (.deferred none) hK rfl
        have h2 : Row (X.putObj D (.deferred none)) w1.heap.size 9 1 eS v (ys.map (·.1)) := by
          show World.ownsRow _ _ _ _ _ _ _
          rw [enc_str, List.map_map, List.length_map]; exact h1
        rw [RL.out, ← hys]
        exact Row.low h2 (by omega)
      · have hp : Below w1.heap.size X (X.putObj D (.deferred none)) := ⟨rfl, rfl, rfl, by simp, fun k hk => World.putObj_heap_other (by omega)⟩
        have hP : Below w1.heap.size w1 (X.putObj D (.deferred none)) := hBw.trans hp
        exact (below_end k1.out).trans (hP.mono (by omega))

end Go.Proofs.YthleodbbppgadaaGreat
