/-
  A contract of the program's search: all that can be come to from a place, in a list of the call's own.
-/
import Derived.Test.YtbdhlcfcmennjacGreatRp
import Derived.Test.YtbdhlcfcmennjacGreatRw
import Derived.Test.YtbdhlcfcmennjacGreatRv
import Derived.Test.YtbdhlcfcmennjacGreatZb
import Derived.Maps.OwnIn
namespace Go.Proofs.YtbdhlcfcmennjacGreat
open Go.RowKit Go.Shelf

attribute [local go_sem] Oper.semAt_some

/-- The marks that loops over functions have left with an activation. -/
structure MarksOk (b : Nat) (W : World) (Ds : List Nat) : Prop where
  once : Ds.Nodup
  all : ∀ D ∈ Ds, b ≤ D ∧ W.heap[D]? = some (.deferred (some []))
def markOf (D : Nat) : Deferred := { target := .collected D, args := #[] }
/-- What a world is when the marks have been taken in. -/
def closeM (W : World) : List Nat → World
  | [] => W
  | D :: Ds => closeM (W.putObj D (.deferred none)) Ds
theorem leaves_marks {F : Fence} {n : Nat} {P : Program} {fn : Func} {tmps : Array Value} {R : Ending → World → Prop} {b : Nat} : ∀ (Ds : List Nat) (W : World), MarksOk b W Ds → LeavesIn F n P fn tmps R [] .returning (closeM W Ds) → LeavesInM F n P fn tmps R (Ds.map markOf) .returning W
  | [], _, _, h => h
  | D :: Ds, W, hm, h => by
    have hn := List.nodup_cons.1 hm.once
    refine ⟨by simp, .inl ⟨D, _, rfl, run_takeDeferred (hm.all D List.mem_cons_self).2, leaves_marks (b := b) Ds _ ⟨hn.2, fun E hE => ?_⟩ h⟩⟩
    have := hm.all E (List.mem_cons_of_mem _ hE)
    exact ⟨this.1, (World.putObj_heap_other (fun e => hn.1 (by rw [← e]; exact hE))).trans this.2⟩
theorem close_own {b base e size : Nat} {v : Value} {k : Nat} {xs : List Value} : ∀ (Ds : List Nat) (W : World), MarksOk b W Ds → W.ownsRow base e size v k xs → (closeM W Ds).ownsRow base e size v k xs
  | [], _, _, h => h
  | D :: Ds, W, hm, h => by
    have hn := List.nodup_cons.1 hm.once
    refine close_own (b := b) Ds _ ⟨hn.2, fun E hE => ?_⟩ (ownsRow_putObj h _ (hm.all D List.mem_cons_self).2 rfl)
    have := hm.all E (List.mem_cons_of_mem _ hE)
    exact ⟨this.1, (World.putObj_heap_other (fun e => hn.1 (by rw [← e]; exact hE))).trans this.2⟩
theorem close_below {b : Nat} {w : World} : ∀ (Ds : List Nat) (W : World), (∀ D ∈ Ds, b ≤ D) → Below b w W → Below b w (closeM W Ds)
  | [], _, _, h => h
  | D :: Ds, W, hm, h => by
    refine close_below Ds _ (fun E hE => hm E (List.mem_cons_of_mem _ hE)) (h.trans ⟨rfl, rfl, rfl, by simp, fun k hk => World.putObj_heap_other ?_⟩)
    have := hm D List.mem_cons_self
    omega

/-- What the search owns: its box, and what its list lies in. -/
def ownR (B : Nat) (X : World) (k : Nat) : Prop := k = B ∨ ∃ v : Value, X.cell? ⟨B, 0, none⟩ = some v ∧ v.ownBlock = some k
theorem ownR_st {B base t e size : Nat} {X : World} {v : Value} {k : Nat} {xs : List Value} (hb : Boxed X B t v) (hr : X.ownsRow base e size v k xs) : OwnSt (ownR B) X := by
  refine ⟨fun k hk => ?_, fun X' row hg hrow k hk => ?_⟩
  · rcases hk with rfl | ⟨u, hu, ho⟩
    · exact hb.lt
    · rw [hb.cell] at hu; cases hu
      exact (hr.lt k ho).2
  · rcases hk with rfl | ⟨u, hu, ho⟩
    · exact .inl rfl
    · have hb' : Boxed X' B t v := hb.kept hg (fun e' => by obtain ⟨o, ho', hc⟩ := hrow B e'.symm; rw [show X.heap[B]? = _ from hb] at ho'; cases ho'; cases hc)
      rw [hb'.cell] at hu; cases hu
      exact .inr ⟨_, hb.cell, ho⟩

theorem own_setOther {W : World} {base e size : Nat} {v : Value} {k : Nat} {xs : List Value} (h : W.ownsRow base e size v k xs) (p : Addr) (x : Value) (hne : some p.block ≠ v.ownBlock) : (W.setCell p x).ownsRow base e size v k xs := by
  refine ⟨h.1, ?_⟩
  rcases h.2 with hn | ⟨g, cap, cur, rfl, hb, hg, rest⟩
  · exact .inl hn
  · exact .inr ⟨g, cap, cur, rfl, hb, (Below.heap_setCell W p x g (fun e => hne (by rw [← e]; rfl))).trans hg, rest⟩

theorem has_any (L : List ByteArray) (y : ByteArray) : hasB L.length (nthB L) y = L.any (fun z => eqB z y) := by
  rw [Bool.eq_iff_iff, any_mem]
  unfold hasB
  rw [List.any_eq_true]
  constructor
  · rintro ⟨i, hi, he⟩
    rw [← (eqB_iff _ _).1 he]
    have := List.mem_range.1 hi
    exact List.mem_of_getElem? (i := i) (by simp [nthB, this])
  · intro h
    obtain ⟨j, hj, e⟩ := List.mem_iff_getElem.1 h
    exact ⟨j, List.mem_range.2 hj, by rw [eqB_iff]; simp [nthB, hj, e]⟩
theorem nAt_nx {n : Nat} {f : Nat → ByteArray × ByteArray × ByteArray × ByteArray} {x : ByteArray} (h8 : ∀ i, i < n → (f i).1.size ≤ 8 ∧ (f i).2.1.size ≤ 8 ∧ (f i).2.2.1.size ≤ 8) : (nAt f x n).map (·.1) = nx n f x := by
  unfold nAt vAt nx
  rw [List.map_map, List.map_map]
  apply List.map_congr_left
  intro i hi
  have hz := h8 i (List.mem_range.1 (List.mem_filter.1 hi).1)
  have hbs : (behS (f i) x).size ≤ 8 := by
    unfold behS
    cases eqB x (f i).2.1 <;> cases eqB x (f i).2.2.1 <;> simp only [cond_true, cond_false] <;> first | omega | exact (by decide : (0 : Nat) ≤ 8)
  simp only [Function.comp_apply, sndO, two_of hz.1 hbs]

set_option maxRecDepth 100000 in
set_option maxHeartbeats 8000000 in
theorem reached_any (n₀ : Nat) (v0 v1 v2 v3 : Value) (nv : Nat) (f : Nat → ByteArray × ByteArray × ByteArray × ByteArray) (x0 : ByteArray) (w : World) (h : Lst n₀ w v3 nv 4 (cV f)) (hn₀ : n₀ ≤ w.heap.size) (h8 : ∀ i, i < nv → (f i).1.size ≤ 8 ∧ (f i).2.1.size ≤ 8 ∧ (f i).2.2.1.size ≤ 8) (hnv : nv ≤ 18) :
    Calls Tryz.prog 62 #[.string x0, .func (.func 63) #[.agg #[v0, v1, v2, v3]] #[]] w fun e w' => ∃ v L, e = .returned v ∧ Good nv f x0 L ∧ L.length ≤ 37 ∧ w'.ownsRow w.heap.size 9 1 v L.length (L.map .string) ∧ Below w.heap.size w w' := by
  obtain ⟨i0, hi, hz0, hz1, hz2⟩ := info_parts info9b
  have HL : Hid (∀ w', Below w.heap.size w w' → Lst n₀ w' v3 nv 4 (cV f)) := fun w' hb => h.kept hb hn₀
  have H8 : Hid _ := h8
  clear h h8
  refine (callsIn_wide (n := 9)).1 ?_
  refine callsIn_of_wp_marks Tryz.func62 rfl trivial ?_ rfl
  simp only [Tryz.ntmps62, List.size_toArray, List.length_cons, List.length_nil, Nat.reduceAdd, Nat.reduceSub, Array.replicate_succ, Array.replicate_zero, List.push_toArray, List.append_toArray, List.nil_append, List.cons_append]
  gi_wp2
  have sI : ((w.alloc (.cells #[.string x0] 9)).alloc (.cells #[.slice (some ⟨w.heap.size, 0, none⟩) 1 1] 22)).heap.size = w.heap.size + 1 + 1 := by simp
  refine wpIn_loop (fun a W => ∃ (q : Nat) (L : List ByteArray) (Ds : List Nat) (u10 u11 u12 u13 u14 u15 u16 u17 u18 u19 u20 u21 : Value), a = { tmps := #[.string x0, .func (.func 63) #[.agg #[v0, v1, v2, v3]] #[], undef, undef, .slice none 0 0, .pointer (some ⟨w.heap.size + 1, 0, none⟩), .int .i64 q, undef, .string x0, .slice (some ⟨w.heap.size, 0, none⟩) 1 1, u10, u11, u12, u13, u14, u15, u16, u17, u18, u19, u20, u21, undef, undef, undef, undef, undef, undef, undef, undef, undef, undef], defers := Ds.map markOf } ∧ q ≤ L.length ∧ Hid (LI nv f x0 q L) ∧ Hid (∃ v, Boxed W (w.heap.size + 1) 22 v ∧ W.ownsRow w.heap.size 9 1 v L.length (L.map .string)) ∧ Hid (Below w.heap.size w W) ∧ w.heap.size + 1 + 1 ≤ W.heap.size ∧ Hid (MarksOk w.heap.size W Ds))
    (fun a _ => 40 - (intOf (a.tmps.getD 6 undef)).toNat) ?start ?round
  case start =>
    refine ⟨0, [x0], [], _, _, _, _, _, _, _, _, _, _, _, _, rfl, Nat.zero_le _, LI.first nv f x0, ⟨.slice (some ⟨w.heap.size, 0, none⟩) 1 1, ?_, ?_⟩, ?_, by omega, ⟨List.nodup_nil, fun _ h => by cases h⟩⟩
    · have := Boxed.new (w.alloc (.cells #[.string x0] 9)) 22 (.slice (some ⟨w.heap.size, 0, none⟩) 1 1)
      rw [World.size_alloc] at this
      exact this
    · exact World.ownsRow.alloc (w := w.alloc (.cells #[.string x0] 9)) ⟨rfl, .inr ⟨w.heap.size, 1, #[.string x0], rfl, Nat.le_refl _, heap_alloc_new w _, Nat.le_refl _, by unfold maxLen; omega, rfl, rfl⟩⟩ _
    · exact ((Below.refl _ _).alloc (Nat.le_refl _) _).alloc (by simp) _
  case round =>
    clear sI
    rintro a W ⟨q, L, Ds, u10, u11, u12, u13, u14, u15, u16, u17, u18, u19, u20, u21, rfl, hq, hLI, hbox, hbel, hsW, hmk⟩
    obtain ⟨v, hv, hrow⟩ := hbox.out
    have hsh := hLI.out.short
    have LV := own_lst hrow (by omega)
    obtain ⟨oa, cap, rfl, _, hcl⟩ := LV
    have HCL : Hid _ := hcl
    have HV : Hid (Boxed W (w.heap.size + 1) 22 (.slice oa L.length cap)) := hv
    have HR : Hid (W.ownsRow w.heap.size 9 1 (.slice oa L.length cap) L.length (L.map .string)) := hrow
    have hc := hv.cell
    clear hcl hbox hrow
    by_cases hlt : q < L.length
    · obtain ⟨b, off, rfl, hbB, hcell⟩ := HCL.out q hlt
      have zq : W.cell? ⟨b, off + q, none⟩ = some (.string (nthB L q)) := by simpa [cS] using hcell 0 (by omega)
      clear hcell
      gi_wp2_with (refine ⟨trivial, ?_⟩; gi_at_call 63; refine (callsIn_wide.2 (placesNext_any _ _ _ _ _ _)).mono ?_; rintro e w' ⟨rfl, rfl⟩)
      obtain ⟨W2, hW2⟩ : ∃ W2, W2 = (W.alloc (.cells #[v0, v1, v2, v3] 36)).alloc (.cells #[.string (nthB L q)] 9) := ⟨_, rfl⟩
      have E2 : Hid (W2 = (W.alloc (.cells #[v0, v1, v2, v3] 36)).alloc (.cells #[.string (nthB L q)] 9)) := hW2
      have s2 : W2.heap.size = W.heap.size + 1 + 1 := by rw [hW2]; simp
      have hv2 : Hid (Boxed W2 (w.heap.size + 1) 22 (.slice (some ⟨b, off, none⟩) L.length cap)) := by rw [hW2]; exact (HV.out.alloc _).alloc _
      have hr2 : Hid (W2.ownsRow w.heap.size 9 1 (.slice (some ⟨b, off, none⟩) L.length cap) L.length (L.map .string)) := by rw [hW2]; exact (HR.out.alloc _).alloc _
      have hb1 : Hid (W2.heap[W.heap.size]? = some (.cells #[v0, v1, v2, v3] 36 (0, 0))) := by rw [hW2]; exact (Below.heap_alloc _ _ _ (by simp)).trans (heap_alloc_new W _)
      have hb2 : Hid (W2.heap[W.heap.size + 1]? = some (.cells #[.string (nthB L q)] 9 (0, 0))) := by
        have := heap_alloc_new (W.alloc (.cells #[v0, v1, v2, v3] 36)) (.cells #[.string (nthB L q)] 9)
        rw [World.size_alloc] at this
        rw [hW2]; exact this
      have hbel2 : Hid (Below w.heap.size w W2) := by rw [hW2]; exact (hbel.out.alloc (by omega) _).alloc (by simp; omega) _
      have mk2 : Hid (MarksOk w.heap.size W2 Ds) := ⟨hmk.out.once, fun D hD => ⟨(hmk.out.all D hD).1, by
        have h1 := (hmk.out.all D hD).2
        have h2 := (Array.getElem?_eq_some_iff.1 h1).1
        rw [hW2]; exact (Below.heap_alloc _ _ _ (by simp; omega)).trans ((Below.heap_alloc _ _ _ h2).trans h1)⟩⟩
      have hLq : Hid (L[q]? = some (nthB L q)) := by show _ = _; simp [nthB, hlt]
      rw [← E2.out]
      clear hW2 zq hc hv
      refine wpIn_range_own (F := Fence.wide) rfl (by omega) (gf := 89) (lb := #[.pointer (some ⟨W.heap.size, 0, none⟩), .pointer (some ⟨W.heap.size + 1, 0, none⟩)]) rfl trivial (enters_of Tryz.func89 (by kernel_rfl) rfl)
        (next_own 8 W.heap.size (W.heap.size + 1) n₀ (by omega) v0 v1 v2 v3 nv f (nthB L q) (ownR (w.heap.size + 1)) W2 hb1.out hb2.out (HL.out W2 hbel2.out) H8.out (by omega))
        (Below.refl _ _) (fun _ => rfl) ?no (by omega)
        (fun pre X => (∃ v, Boxed X (w.heap.size + 1) 22 v ∧ X.ownsRow w.heap.size 9 1 v (stepL L (pre.map (·.1))).length ((stepL L (pre.map (·.1))).map .string) ∧ True) ∧ (Below w.heap.size w X ∧ W2.heap.size ≤ X.heap.size))
        (OwnFrom.and (Own.from (holdsRow_own w.heap.size (w.heap.size + 1) 22 9 1 (fun pre : List One => (stepL L (pre.map (·.1))).length) (fun pre => (stepL L (pre.map (·.1))).map .string) (fun _ _ => True)) _) (OwnFrom.and (ownFrom_below (Nat.le_refl _) (by omega)) (fun _ _ _ _ hs hg _ => Nat.le_trans hs hg.size)))
        (fun pre X h => by obtain ⟨⟨v, hv, hr, _⟩, _⟩ := h; exact ownR_st hv hr)
        ⟨⟨_, hv2.out, hr2.out, trivial⟩, hbel2.out, Nat.le_refl _⟩
        (fun y => { tmps := #[.string x0, .func (.func 63) #[.agg #[v0, v1, v2, v3]] #[], undef, undef, .slice none 0 0, .pointer (some ⟨w.heap.size + 1, 0, none⟩), .int .i64 q, .string y.1, .string x0, .slice (some ⟨w.heap.size, 0, none⟩) 1 1, .int .i64 q, .slice (some ⟨b, off, none⟩) L.length cap, .int .i64 L.length, .bool true, u14, u15, .func (.func 63) #[.agg #[v0, v1, v2, v3]] #[], .slice (some ⟨b, off, none⟩) L.length cap, .int .i64 q, .pointer (some ⟨b, off + q, none⟩), .string (nthB L q), .func (.func 89) #[] #[.pointer (some ⟨W.heap.size, 0, none⟩), .pointer (some ⟨W.heap.size + 1, 0, none⟩)], .string y.1, undef, undef, undef, undef, undef, undef, undef, undef, undef], defers := [] }) ?assign ?body ?done
      case no =>
        intro k hk ho
        rcases ho with rfl | ⟨u, hu, hb⟩
        · omega
        · rw [hv2.out.cell] at hu; cases hu
          have := (hr2.out.lt k hb).1
          omega
      case assign =>
        intro l y X K hK
        gi_wp2
        exact hK
      case body =>
        rintro l pre y X ⟨⟨v, hv, hrow, _⟩, hBw, hXs⟩ hpl
        have hsl := step_len (pre.map (·.1)) L
        rw [List.length_map] at hsl
        have HS : Hid (stepL L ((pre ++ [y]).map (·.1)) = addL (stepL L (pre.map (·.1))) y.1) := by show _ = _; rw [List.map_append]; exact stepL_snoc _ _ _
        generalize stepL L (pre.map (·.1)) = M at hrow hsl HS
        have LV := own_lst hrow (by omega)
        have hha := has_any M y.1
        have hc := hv.cell
        cases hh : hasB M.length (nthB M) y.1
        · have HA : Hid (addL M y.1 = M ++ [y.1]) := by show _ = _; unfold addL; rw [← hha, hh]; rfl
          have HH : Hid (hasB M.length (nthB M) y.1 = false) := hh
          clear hha hh
          gi_wp2_with (first
            | (refine ⟨trivial, ?_⟩; gi_at_call 46; refine (CallsIn.inRound l (callsIn_wide.2 (hasI_any X.heap.size _ M.length (nthB M) y.1 _ LV))).mono ?_; rintro e w' ⟨rfl, hw'⟩; have hw2 := hw'.symm; subst hw2; rw [HH.out])
            | (gi_at_builtin; refine wpListIn_append_own_at _ rfl _ _ 22 rfl w.heap.size 9 i0 (.string ByteArray.empty) 1 16 under24b hi hz0 hz1 hz2 rfl (by decide) _ _ _ rfl (hrow.alloc _) ⟨X.heap.size, 0, none⟩ 1 1 [.string y.1] rfl rfl (cell_one_new _ _ _) (by simp [Value.oneCell']) (by unfold maxLen; omega) (by omega) (by have := hBw.size; simp; omega) ?_; intro v' w1 hown' hgrow _ hown2; have hv1 := (hv.alloc (.cells #[.string y.1] 9)).kept hgrow (Boxed.not_row (hv.alloc (.cells #[.string y.1] 9)) (by decide) (hrow.alloc (.cells #[.string y.1] 9))); have hc1 := hv1.cell; have hf1 := hv1.frozen; obtain ⟨g', cap', rfl⟩ := ownsRow_succ hown'))
          replace hgrow : (X.alloc (.cells #[.string y.1] 9)).grownBy w1 v.ownBlock := hgrow
          replace hown2 : (Value.slice (some ⟨g', 0, none⟩) (M.length + 1) cap').ownBlock = v.ownBlock ∨ (Value.slice (some ⟨g', 0, none⟩) (M.length + 1) cap').ownBlock = some (X.alloc (.cells #[.string y.1] 9)).heap.size := hown2
          have hnr : ∀ k, v.ownBlock = some k → w.heap.size ≤ k := fun k hk => (hrow.lt k hk).1
          have hbB : some (w.heap.size + 1) ≠ v.ownBlock := Boxed.not_row hv (by decide) hrow
          have hbg : some (w.heap.size + 1) ≠ (Value.slice (some ⟨g', 0, none⟩) (M.length + 1) cap').ownBlock := Boxed.not_row hv1 (by decide) hown'
          have hXl := hv.lt
          have hz1' : X.heap.size + 1 ≤ w1.heap.size := by have := hgrow.size; simpa using this
          have hin : ∀ k, k < X.heap.size → some k ≠ v.ownBlock → w1.heap[k]? = X.heap[k]? := fun k hk hne => (hgrow.block k (by simp; omega) hne).trans (Below.heap_alloc X _ k hk)
          have hset : ∀ k, k ≠ w.heap.size + 1 → (w1.setCell ⟨w.heap.size + 1, 0, none⟩ (.slice (some ⟨g', 0, none⟩) (M.length + 1) cap')).heap[k]? = w1.heap[k]? := fun k hk => Below.heap_setCell w1 _ _ k hk
          have hss : (w1.setCell ⟨w.heap.size + 1, 0, none⟩ (.slice (some ⟨g', 0, none⟩) (M.length + 1) cap')).heap.size = w1.heap.size := by simp
          have hk1 : KeepsOthers X (w1.setCell ⟨w.heap.size + 1, 0, none⟩ (.slice (some ⟨g', 0, none⟩) (M.length + 1) cap')) := by
            refine (KeepsOthers.alloc _ _).trans ((KeepsOthers.of_grownBy hgrow fun j o ej hj => ?_).trans (KeepsOthers.setCell _ _ _))
            rcases (hrow.alloc (.cells #[.string y.1] 9)).2 with ⟨e, _⟩ | ⟨g, cap, cur, e, _, hgb, _⟩
            · rw [e] at ej; cases ej
            · rw [e] at ej
              obtain rfl : g = j := by simpa [Value.ownBlock] using ej
              rw [hgb] at hj; cases hj; rfl
          refine ⟨hk1, ⟨by omega, fun k hk => ?_, fun k hk => ?_, fun k c t z hkc hno => ?_⟩, ⟨_, hv1.set _, ?_, trivial⟩, ?_, by omega⟩
          · rcases hk with rfl | ⟨u, hu, ho⟩
            · exact .inl (.inl rfl)
            · rw [(hv1.set _).cell] at hu
              cases hu
              rcases hown2 with h1 | h1
              · exact .inl (.inr ⟨v, hv.cell, h1.symm.trans ho⟩)
              · rw [h1] at ho
                have : (X.alloc (.cells #[.string y.1] 9)).heap.size = k := by simpa using ho
                simp at this
                exact .inr (by omega)
          · exact (hset k (by omega)).trans (hin k (by omega) (fun e => by have := hnr k e.symm; omega))
          · have hkl := (Array.getElem?_eq_some_iff.1 hkc).1
            exact ((hset k (fun e => hno (.inl e))).trans (hin k hkl (fun e => hno (.inr ⟨v, hv.cell, e.symm⟩)))).trans hkc
          · rw [HS.out, HA.out, List.map_append, List.length_append]
            exact own_setOther hown' _ _ hbg
          · have hB1 : Below w.heap.size w w1 := (hBw.alloc (by have := hBw.size; omega) (.cells #[.string y.1] 9)).grown hgrow (by have := hBw.size; simp; omega) (fun q hq => hnr q hq)
            exact hB1.setCell (p := ⟨w.heap.size + 1, 0, none⟩) (by show w.heap.size ≤ w.heap.size + 1; omega) _
        · have HA : Hid (addL M y.1 = M) := by show _ = _; unfold addL; rw [← hha, hh]; rfl
          have HH : Hid (hasB M.length (nthB M) y.1 = true) := hh
          clear hha hh
          gi_wp2_with (first
            | (refine ⟨trivial, ?_⟩; gi_at_call 46; refine (CallsIn.inRound l (callsIn_wide.2 (hasI_any X.heap.size _ M.length (nthB M) y.1 _ LV))).mono ?_; rintro e w' ⟨rfl, hw'⟩; have hw2 := hw'.symm; subst hw2; rw [HH.out]))
          exact ⟨KeepsOthers.refl _, KpO.refl _ _ _, ⟨v, hv, by rw [HS.out, HA.out]; exact hrow, trivial⟩, hBw, hXs⟩
      case done =>
        rintro D ys X hD hDX rfl ⟨⟨v, hv, hrow, _⟩, hBw, hXs⟩ hK hko
        have hpl := (step_pre ((nAt f (nthB L q) nv).map (·.1)) L).length_le
        have hnx := hLI.out.next hLq.out
        rw [← nAt_nx H8.out] at hnx
        have HNX : Hid (LI nv f x0 (q + 1) (stepL L ((nAt f (nthB L q) nv).map (·.1)))) := hnx
        have HMK : Hid (MarksOk w.heap.size X (D :: Ds)) := by
          refine ⟨List.nodup_cons.2 ⟨fun hD' => ?_, mk2.out.once⟩, fun E hE => ?_⟩
          · have := (Array.getElem?_eq_some_iff.1 (mk2.out.all D hD').2).1
            omega
          · rcases List.mem_cons.1 hE with rfl | hE
            · exact ⟨by omega, hK⟩
            · exact ⟨(mk2.out.all E hE).1, hko.same E _ (mk2.out.all E hE).2 rfl⟩
        have HBW : Hid (Below w.heap.size w X) := hBw
        clear hnx
        gi_wp2
        refine ⟨⟨q + 1, _, D :: Ds, ⟨by omega, rfl⟩, by omega, HNX, ⟨v, hv, hrow⟩, trivial, by omega, HMK⟩, ?_⟩
        simp [intOf]; omega
    · obtain rfl : q = L.length := by omega
      gi_wp2
      refine leaves_marks (b := w.heap.size) Ds W hmk.out ?_
      exact ⟨_, results_tmp rfl _ _ _, .slice oa L.length cap, L, rfl, hLI.out.good, by omega, close_own Ds W hmk.out HR.out, close_below Ds W (fun D hD => (hmk.out.all D hD).1) hbel.out⟩

end Go.Proofs.YtbdhlcfcmennjacGreat
