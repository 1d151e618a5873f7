/-
  Several texts in one.
-/
import Derived.Test.YtobchllaopdchacGreatM21
import Derived.Test.YtobchllaopdchacGreatM10
import Derived.Test.YtobchllaopdchacGreatXsu
import Derived.Test.YtobchllaopdchacGreatM22
import Derived.Test.YtobchllaopdchacGreatM4
import Derived.Test.YtobchllaopdchacGreatM11
import Derived.Test.YtobchllaopdchacGreatZma
import Derived.Test.YtobchllaopdchacGreatM3
import Derived.Laws.EntriesVeiled
namespace Go.Proofs.YtobchllaopdchacGreat
open Go.RowKit Go.Sort
theorem own_things (sl : List DRunSlot) (p : DRecPhase) : thL sl (ownL p.2.1 p.2.2.1 p.2.2.2.1) = thL sl (ofL p) := by
  refine asc_unique _ _ (both_asc _ _ List.Pairwise.nil) (both_asc _ _ List.Pairwise.nil) fun y => ?_
  unfold thL
  rw [both_memI, both_memI, List.mem_map, List.mem_map]
  constructor
  · rintro (h | ⟨z, hz, e⟩)
    · exact Or.inl h
    · exact Or.inr ⟨z, (own_mem p z).1 hz, e⟩
  · rintro (h | ⟨z, hz, e⟩)
    · exact Or.inl h
    · exact Or.inr ⟨z, (own_mem p z).2 hz, e⟩
theorem slotsV (kd : Int) (a b : ByteArray) (n wi : Int) (hk : kd = 1 ∨ kd = 2 ∨ kd = 3 ∨ kd = 4 ∨ kd = 5) : ∃ (t : TypeId) (v : Value) (fn : FuncId) (a0 : Value), phV kd a b n wi = .iface t v ∧ (∀ W, (Go.method 388 t v "loop.example/malthouse/impl.slots").run Tryz.prog W = .ok (fn, a0) W) ∧ (∀ W, (callFunc fn #[a0]).run Tryz.prog W = .ok (.enter fn #[a0]) W) ∧
    ∀ w : World, Calls Tryz.prog fn #[a0] w fun e w' => ∃ q, e = .returned q ∧ Row w' w.heap.size 9 1 eS q (ownL kd a b) ∧ Below w.heap.size w w' := by
  rcases hk with rfl | rfl | rfl | rfl | rfl
  · exact ⟨_, _, 234, .agg #[.string a], ph_1 a b n wi, fun W => by kernel_rfl, fun W => by kernel_rfl, fun w => by rw [own_1 a b (by decide)]; exact slotA_any a w⟩
  · exact ⟨_, _, 238, .agg #[.int .i64 n, .string a, .string b], ph_2 a b n wi, fun W => by kernel_rfl, fun W => by kernel_rfl, fun w => by rw [own_2]; exact slotM_any a b n w⟩
  · exact ⟨_, _, 234, .agg #[.string a], ph_3 a b n wi, fun W => by kernel_rfl, fun W => by kernel_rfl, fun w => by rw [own_1 a b (by decide)]; exact slotA_any a w⟩
  · exact ⟨_, _, 234, .agg #[.string a], ph_4 a b n wi, fun W => by kernel_rfl, fun W => by kernel_rfl, fun w => by rw [own_1 a b (by decide)]; exact slotA_any a w⟩
  · exact ⟨_, _, 234, .agg #[.string a], ph_5 a b n wi, fun W => by kernel_rfl, fun W => by kernel_rfl, fun w => by rw [own_1 a b (by decide)]; exact slotA_any a w⟩
set_option maxRecDepth 100000 in
set_option maxHeartbeats 8000000 in
theorem ownI_any (S : Nat → Prop) (nm : ByteArray) (r : List DRecPhase) (sl : List DRunSlot) (at_ : ByteArray) (si st : Int) (o1 o2 : Option Addr) (n1 k1 n2 k2 : Nat) (w : World) (hn : nm.size ≤ maxLen) (hr : AtL S w r (.slice o1 n1 k1)) (h : AtL S w sl (.slice o2 n2 k2)) (hS : ∀ b, S b → b < w.heap.size) (tr : totL r ≤ 1048576) (ts : totL sl ≤ 1048576) :
    Calls Tryz.prog 117 #[.agg #[.string nm, .slice o1 n1 k1, .slice o2 n2 k2, .string at_, .int .i64 si, .int .i64 st]] w fun e w' => ∃ q, e = .returned q ∧ Row w' w.heap.size 9 1 eS q (owL (nm, r, sl, at_, si, st)) ∧ Below w.heap.size w w' := by
  have HN : Hid (nm.size ≤ maxLen) := hn
  have TR : Hid (totL r ≤ 1048576) := tr
  have TS : Hid (totL sl ≤ 1048576) := ts
  obtain ⟨G, hG⟩ : ∃ G, G = owL (nm, r, sl, at_, si, st) := ⟨_, rfl⟩
  rw [← hG]
  have TG : Hid (G = if runB (nm, r, sl, at_, si, st) = true then thL sl (ofL (phX r at_)) else []) := hG
  clear hG
  obtain ⟨W, EW, BW, RW, sW⟩ := box_new w #[.string nm, .slice o1 n1 k1, .slice o2 n2 k2, .string at_, .int .i64 si, .int .i64 st] 49
  have BOX : Hid (∀ u, Below W.heap.size W u → u.heap[w.heap.size]? = some (.cells #[.string nm, .slice o1 n1 k1, .slice o2 n2 k2, .string at_, .int .i64 si, .int .i64 st] 49 (0, 0)) ∧ Below w.heap.size w u) := fun u hu => ⟨(hu.block _ (by omega)).trans RW.out, BW.out.trans (hu.mono (by omega))⟩
  have HR : Hid _ := hr.ups hS
  have HA : Hid _ := h.ups hS
  have HS : Hid _ := lt_up hS
  have h0 := fun u (hu : Below W.heap.size W u) => cell_row (BOX.out u hu).1
  have Y : Hid (∀ u, Below W.heap.size W u → u.cell? ⟨w.heap.size, 0, none⟩ = some (.string nm) ∧ u.cell? ⟨w.heap.size, 1, none⟩ = some (.slice o1 n1 k1) ∧ u.cell? ⟨w.heap.size, 2, none⟩ = some (.slice o2 n2 k2) ∧ u.cell? ⟨w.heap.size, 3, none⟩ = some (.string at_) ∧ u.cell? ⟨w.heap.size, 4, none⟩ = some (.int .i64 si) ∧ u.cell? ⟨w.heap.size, 5, none⟩ = some (.int .i64 st)) := fun u hu =>
    ⟨(h0 u hu 0 _ rfl).1, (h0 u hu 1 _ rfl).1, (h0 u hu 2 _ rfl).1, (h0 u hu 3 _ rfl).1, (h0 u hu 4 _ rfl).1, (h0 u hu 5 _ rfl).1⟩
  clear h0
  have PH : Hid (runB (nm, r, sl, at_, si, st) = true → ∃ (k : Nat), atI r at_ = (k : Int) ∧ k < n1 ∧ (phaseB (phX r at_) = true) ∧ ∃ b off, o1 = some ⟨b, off, none⟩ ∧ b < w.heap.size ∧ ∀ u, Below w.heap.size w u → u.cell? ⟨b, off + k * 8, none⟩ = some (.string (phX r at_).1) ∧ u.cell? ⟨b, off + k * 8 + 1, none⟩ = some (.int .i64 (phX r at_).2.1) ∧ u.cell? ⟨b, off + k * 8 + 2, none⟩ = some (.string (phX r at_).2.2.1) ∧ u.cell? ⟨b, off + k * 8 + 3, none⟩ = some (.string (phX r at_).2.2.2.1) ∧ u.cell? ⟨b, off + k * 8 + 4, none⟩ = some (.int .i64 (phX r at_).2.2.2.2.1) ∧ u.cell? ⟨b, off + k * 8 + 5, none⟩ = some (.int .i64 (phX r at_).2.2.2.2.2.1) ∧ u.cell? ⟨b, off + k * 8 + 6, none⟩ = some (.string (phX r at_).2.2.2.2.2.2.1) ∧ u.cell? ⟨b, off + k * 8 + 7, none⟩ = some (.string (phX r at_).2.2.2.2.2.2.2)) := fun hb => by
    have hR : RecP r := (run_rec hb).1
    have h0 : 0 ≤ atI r at_ := by
      unfold runB at hb
      simp only [Bool.and_eq_true, decide_eq_true_eq] at hb
      exact hb.1.2
    rcases at_cases r at_ with e | ⟨k', hk', e, _⟩
    · omega
    obtain ⟨oa, cap, ev, _, hc⟩ := id hr
    obtain ⟨b, off, eo, hbS, cc, hcell, hat⟩ := hc k' hk'
    rw [width_DRecPhase] at hcell
    rw [at_DRecPhase, ← ph_at hk' e] at hat
    obtain ⟨⟨q0, _⟩, ⟨q1, _, _⟩, ⟨q2, _⟩, ⟨q3, _⟩, ⟨q4, _, _⟩, ⟨q5, _, _⟩, ⟨q6, _⟩, ⟨q7, _⟩⟩ := hat
    cases ev
    have hbb := hS b hbS
    refine ⟨k', e, hk', by rw [ph_at hk' e]; exact (step_of hR hk').1, b, off, eo, hbb, fun u hu => ?_⟩
    rw [← q0, ← q1, ← q2, ← q3, ← q4, ← q5, ← q6, ← q7]
    exact ⟨(hu.cell hbb).trans (hcell 0 (by omega)), (hu.cell hbb).trans (hcell 1 (by omega)), (hu.cell hbb).trans (hcell 2 (by omega)), (hu.cell hbb).trans (hcell 3 (by omega)), (hu.cell hbb).trans (hcell 4 (by omega)), (hu.cell hbb).trans (hcell 5 (by omega)), (hu.cell hbb).trans (hcell 6 (by omega)), (hu.cell hbb).trans (hcell 7 (by omega))⟩
  clear h hr hS hn tr ts
  obtain ⟨y0, y1, y2, y3, y4, y5⟩ := Y.out W (Below.refl _ _)
  have szW := BW.out.size
  go_enter Tryz.func117, Tryz.ntmps117
  go_upto_region 1 with fail
  rw [← EW.out]
  go_wp2_with fail
  refine (runI_any S nm r sl at_ si st o1 o2 n1 k1 n2 k2 W HN.out (HR.out _ BW.out) (HA.out _ BW.out) (HS.out _ BW.out) TR.out TS.out).mono ?_; rintro e w1 ⟨rfl, hb1⟩
  have B1 : Hid (Below W.heap.size W w1) := hb1
  have BW1 : Hid (Below w.heap.size w w1) := (BOX.out w1 hb1).2
  clear y0 y1 y2 y3 y4 y5 hb1
  obtain ⟨y0, y1, y2, y3, y4, y5⟩ := Y.out w1 B1.out
  cases c : runB (nm, r, sl, at_, si, st)
  · rw [c] at TG
    obtain rfl : G = [] := TG.out
    clear y0 y1 y2 y3 y4 y5 szW
    go_wp2_with fail
    go_ret
    exact ⟨_, rfl, Row.nil _ _ _ _ _, BW1.out⟩
  rw [c, if_pos rfl] at TG
  have HD : Hid ((sl.map (·.1)).Nodup) := run_dist c
  obtain ⟨k, hk, hkn, hph, b, off, rfl, hb, hx⟩ := PH.out c
  have HX : Hid _ := hx
  obtain ⟨p, hp⟩ : ∃ p, p = phX r at_ := ⟨_, rfl⟩
  rw [← hp] at HX TG hph
  have hG : G = thL sl (ofL p) := TG.out
  have hkd := kind_of hph
  have hz := ph_args hph
  rw [← own_things] at hG
  obtain ⟨pn, kd, pa, pb, pc, wi, th, el⟩ := p
  simp only at HX hG hkd hz
  obtain ⟨t, v, fn, a0, hv, hm, hcf, hc⟩ := slotsV kd pa pb pc wi hkd
  obtain ⟨L, hL⟩ : ∃ L, L = ownL kd pa pb := ⟨_, rfl⟩
  rw [← hL] at hG hc
  have hzz : ∀ x ∈ L, OkS x := fun x hx => by
    have : x.size ≤ 8 := by
      rw [hL] at hx
      unfold ownL at hx
      split at hx
      · rename_i h2
        rcases List.mem_cons.1 hx with rfl | hx
        · exact name_le hz.1
        · rcases List.mem_cons.1 hx with rfl | hx
          · exact name_le (hz.2 h2)
          · cases hx
      · rcases List.mem_cons.1 hx with rfl | hx
        · exact name_le hz.1
        · cases hx
    show x.size ≤ maxLen
    exact Nat.le_trans this (by decide)
  have HZ : Hid (∀ x ∈ L, OkS x) := hzz
  have HLL : Hid (L.length ≤ 100000) := by
    show _ ≤ _
    rw [hL]
    unfold ownL
    split <;> simp
  have HC : Hid _ := hc
  subst hG
  have CP : Hid (∀ u, Calls Tryz.prog 161 #[.agg #[.string pn, .int .i64 kd, .string pa, .string pb, .int .i64 pc, .int .i64 wi, .string th, .string el]] u fun e w' => e = .returned (.iface t v) ∧ Below u.heap.size u w') := fun u => by rw [← hv]; exact phasing_any pn pa pb th el kd pc wi u
  have CA : Hid (∀ u, Below w.heap.size w u → Calls Tryz.prog 111 #[.slice (some ⟨b, off, none⟩) n1 k1, .string at_] u fun e w' => e = .returned (.int .i64 (k : Int)) ∧ Below u.heap.size u w') := fun u hu => by rw [← hk]; exact phAt_any S r _ at_ u (HR.out u hu) (HS.out u hu)
  clear hL TG hk hp hv hc hph hkd hz hzz szW hx
  have HDR : Hid (Below w1.heap.size w1 w1.drew) := (Below.refl _ _).drew
  have CQ : Hid (∀ u, Below w.heap.size w u → Calls Tryz.prog 162 #[.agg #[.string nm, .slice (some ⟨b, off, none⟩) n1 k1, .slice o2 n2 k2, .string at_, .int .i64 si, .int .i64 st]] u fun e w' => e = .returned (.agg #[.string pn, .int .i64 kd, .string pa, .string pb, .int .i64 pc, .int .i64 wi, .string th, .string el]) ∧ Below u.heap.size u w') := fun u hu => by
    obtain ⟨x0, x1, x2, x3, x4, x5, x6, x7⟩ := HX.out u hu
    exact phaseM_any nm at_ si st b off n1 k1 k (.slice o2 n2 k2) pn pa pb th el kd pc wi u hkn (Nat.lt_of_lt_of_le hb hu.size) x0 x1 x2 x3 x4 x5 x6 x7 (fun u' hu' => CA.out u' (hu.trans (hu'.mono hu.size)))
  have q0 := fun d os => cell_regrown y0 d os
  have q1 := fun d os => cell_regrown y1 d os
  have q2 := fun d os => cell_regrown y2 d os
  have q3 := fun d os => cell_regrown y3 d os
  have q4 := fun d os => cell_regrown y4 d os
  have q5 := fun d os => cell_regrown y5 d os
  clear y0 y1 y2 y3 y4 y5
  go_wp2_with fail
  refine wp_region_mix 6 [0, 2] (by kernel_rfl) (by kernel_rfl) ?_
  simp only [List.filterMap_cons, List.filterMap_nil, List.getElem?_cons_succ, List.getElem?_cons_zero]
  repeat (first | go_big_quiet_step (fail) | quiet_step (fail))
  refine wpQuiet_nil ?_
  clear q0 q1 q2 q3 q4 q5
  have bdr : Hid (Below w.heap.size w w1.drew) := BW1.out.trans (HDR.out.mono BW1.out.size)
  refine call1 (md := .any) (f := 3) (i := 1) (dc := 7) (fn := 146) ⟨rfl, rfl, rfl, by decide⟩ (by kernel_rfl) ?run ((slotThings_any S sl nm at_ (.slice (some ⟨b, off, none⟩) n1 k1) (.slice o2 n2 k2) si st w1.drew (HA.out _ bdr.out) (HS.out _ bdr.out) HD.out ⟨_, _, _, rfl⟩).mono ?_)
  case run => go_simp
  rintro e u ⟨m, rfl, hm', hM, hb1⟩
  have MM : Hid (Mr u m (thO sl)) := hM
  have C1 : Hid (Below w1.heap.size w1 u) := HDR.out.trans (hb1.mono HDR.out.size)
  have BU : Hid (Below w.heap.size w u) := BW1.out.trans (C1.out.mono BW1.out.size)
  refine ⟨_, rfl, regrown_of_below C1.out, ?_⟩
  clear hb1 hM hm'
  simp only [Act.put, List.setIfInBounds_toArray, List.set_cons_zero, List.set_cons_succ]
  refine call1 (md := .any) (f := 2) (i := 3) (dc := 9) (fn := 162) ⟨rfl, rfl, rfl, by decide⟩ (by kernel_rfl) ?runp ((CQ.out u BU.out).mono ?_)
  case runp => go_simp
  rintro e u' ⟨rfl, hb1⟩
  have C1' : Hid (Below w1.heap.size w1 u') := C1.out.trans (hb1.mono C1.out.size)
  have BU' : Hid (Below w.heap.size w u') := BU.out.trans (hb1.mono BU.out.size)
  have MM' : Hid (Mr u' m (thO sl)) := MM.out.below hb1 MM.out.lt
  refine ⟨_, rfl, regrown_of_below C1'.out, ?_⟩
  clear hb1
  simp only [Act.put, List.setIfInBounds_toArray, List.set_cons_zero, List.set_cons_succ]
  refine call1 (md := .any) (f := 1) (i := 4) (dc := 10) (fn := 161) ⟨rfl, rfl, rfl, by decide⟩ (by kernel_rfl) ?run2 ((CP.out u').mono ?_)
  case run2 => go_simp
  rintro e u2 ⟨rfl, hb2⟩
  have C2 : Hid (Below w1.heap.size w1 u2) := C1'.out.trans (hb2.mono C1'.out.size)
  have BU2 : Hid (Below w.heap.size w u2) := BU'.out.trans (hb2.mono BU'.out.size)
  have M2 : Hid (Mr u2 m (thO sl)) := MM'.out.below hb2 MM'.out.lt
  refine ⟨_, rfl, regrown_of_below C2.out, ?_⟩
  clear hb2
  simp only [Act.put, List.setIfInBounds_toArray, List.set_cons_zero, List.set_cons_succ]
  refine call1 (md := .any) (f := 0) (i := 5) (dc := 11) (fn := fn) (args := #[a0]) ⟨rfl, rfl, rfl, by decide⟩ (by kernel_rfl) ?run3 (Calls.mono (HC.out u2) ?_)
  case run3 => go_simp
  rintro e u3 ⟨q, rfl, hrow, hb3⟩
  have C3 : Hid (Below w1.heap.size w1 u3) := C2.out.trans (hb3.mono C2.out.size)
  have BU3 : Hid (Below w.heap.size w u3) := BU2.out.trans (hb3.mono BU2.out.size)
  have M3 : Hid (Mr u3 m (thO sl)) := M2.out.below hb3 M2.out.lt
  have AL : Hid (AtL (fun b => u2.heap.size ≤ b ∧ b < u3.heap.size) u3 L q) := flatS.row_at hrow (fun g hg => World.ownsRow.lt hrow g hg) HZ.out
  refine ⟨_, rfl, regrown_of_below C3.out, ?_⟩
  clear hb3 hrow
  refine ⟨by kernel_rfl, ?_⟩
  simp only [List.drop_succ_cons, List.drop_zero, Act.put, List.setIfInBounds_toArray, List.set_cons_zero, List.set_cons_succ]
  have s2 := BU3.out.size
  go_wp2_with fail
  refine (things_any _ sl L q m u3 AL.out (fun b hb => hb.2) M3.out HLL.out (thing_small TS.out)).mono ?_; rintro e u4 ⟨q', rfl, hrow, hb4⟩
  have HO : Hid (Row u4 w.heap.size 9 1 eS q' (thL sl L)) := hrow.low s2
  have HB : Hid (Below w.heap.size w u4) := BU3.out.trans (hb4.mono s2)
  clear hrow hb4
  go_wp2_with fail
  go_ret
  exact ⟨_, rfl, HO.out, HB.out⟩
end Go.Proofs.YtobchllaopdchacGreat

namespace Go.Proofs.YtobchllaopdchacGreat
open Go.RowKit
open Go.Sort in
theorem cmpSr (a b : ByteArray) (wr : World) (r : Int) (hr : cmpB a b = r) (d : Nat) (os : Array Obj) : Calls Tryz.prog 164 #[.string a, .string b] (grow (redrawn wr d) os) fun e w'' => e = .returned (.int .i64 r) ∧ ∃ p : Regrown, w'' = grow (redrawn wr p.d) p.os :=
  Calls.regrown_of (by subst hr; exact (cmpS_any a b _).mono fun _ _ ⟨he, hw⟩ => ⟨he, by subst hw; exact Below.refl _ _⟩)
theorem idx_has (l : List ByteArray) (x : ByteArray) : decide (0 ≤ idxI l (fun f => eqB f x)) = hasB l x := by
  cases h : hasB l x
  · have hn : ∀ j (hj : j < l.length), eqB l[j] x = false := fun j hj => by
      have := (List.any_eq_false.1 h) _ (List.getElem_mem hj)
      simpa using this
    rw [idx_no hn]; decide
  · obtain ⟨y, hy, hp⟩ := List.any_eq_true.1 h
    have : l.findIdx? (fun f => eqB f x) ≠ none := by
      rw [ne_eq, List.findIdx?_eq_none_iff]
      intro h'
      have := h' y hy
      rw [hp] at this; cases this
    unfold idxI
    cases e : l.findIdx? (fun f => eqB f x) with
    | none => exact absurd e this
    | some i => simp
set_option maxRecDepth 100000 in
set_option maxHeartbeats 4000000 in
theorem index_any (S : Nat → Prop) (v : Value) (l : List ByteArray) (x : ByteArray) (w : World) (h : AtL S w l v) :
    Calls Tryz.prog 199 #[v, .string x] w fun e w' => e = .returned (.int .i64 (idxI l (fun f => eqB f x))) ∧ w' = w := by
  obtain ⟨oa, cap, rfl, hn, hc⟩ := h
  obtain ⟨n, en⟩ : ∃ n, l.length = n := ⟨_, rfl⟩
  rw [en] at hn
  rw [en]
  unfold maxLen at hn
  have HC : Hid _ := hc
  clear hc
  go_enter Tryz.func199, Tryz.ntmps199
  go_wp2
  go_loop [8] (fun i => ∃ k : Nat, k ≤ n ∧ i = .int .i64 k ∧ Hid (∀ j (hj : j < l.length), j < k → eqB l[j] x = false)) (fun i => n - (intOf i).toNat)
  case atStart => exact ⟨0, Nat.zero_le _, rfl, fun _ _ h => by omega⟩
  case round =>
    obtain ⟨k, hk, rfl, hno⟩ := hrel
    by_cases hlt : k < n
    · obtain ⟨b, off, rfl, _, cc, hcell, hat⟩ := HC.out k (by omega)
      rw [width_str] at hcell
      have hcell := hcell 0 (by omega)
      rw [Nat.mul_one, Nat.add_zero] at hcell
      rw [at_str] at hat
      rw [hat.1] at hcell
      go_wp2
      · have hy : (x.toList == (l[k]'(by omega)).toList) = true := by assumption
        rw [idx_yes (k := k) (by omega) (by rw [eqB_comm]; exact hy) hno.out]
        go_ret
        exact ⟨rfl, rfl⟩
      · have hy : (x.toList == (l[k]'(by omega)).toList) = false := by assumption
        go_round
        case rel => exact ⟨k + 1, by omega, by go_num, fun j hj hjk => by
          by_cases e : j = k
          · subst e; rw [eqB_comm]; exact hy
          · exact hno.out j hj (by omega)⟩
        case measure => simp [intOf]; omega
    · go_wp2
      go_ret
      rw [idx_no (fun j hj => hno.out j hj (by omega))]
      exact ⟨rfl, rfl⟩
set_option maxRecDepth 100000 in
set_option maxHeartbeats 4000000 in
theorem hasI_any (S : Nat → Prop) (v : Value) (l : List ByteArray) (x : ByteArray) (w : World) (h : AtL S w l v) :
    Calls Tryz.prog 194 #[v, .string x] w fun e w' => e = .returned (.bool (hasB l x)) ∧ w' = w := by
  rw [← idx_has]
  go_enter Tryz.func194, Tryz.ntmps194
  go_wp2_with (go_at_call 199; refine (index_any S v l x _ h).mono ?_; rintro e w1 ⟨rfl, rfl⟩)
  go_ret
  exact ⟨rfl, rfl⟩
set_option maxRecDepth 100000 in
set_option maxHeartbeats 4000000 in
theorem hasN_any (S : Nat → Prop) (v : Value) (l : List ByteArray) (x : ByteArray) (w : World) (h : AtL S w l v) :
    Calls Tryz.prog 165 #[v, .string x] w fun e w' => e = .returned (.bool (hasB l x)) ∧ w' = w := by
  have H : Hid _ := hasI_any S v l x w h
  clear h
  go_enter Tryz.func165, Tryz.ntmps165
  go_wp2_with fail
  refine Calls.mono H.out ?_
  rintro e w1 ⟨rfl, rfl⟩
  go_wp2_with fail
  go_ret
  exact ⟨rfl, rfl⟩
set_option maxRecDepth 100000 in
set_option maxHeartbeats 4000000 in
theorem ascstring_any (S : Nat → Prop) (v : Value) (l : List ByteArray) (w : World) (h : AtL S w l v) (hS : ∀ b, S b → b < w.heap.size) :
    Calls Tryz.prog 192 #[v, .func (.func 164) #[] #[]] w fun e w' => e = .returned (.bool (ascB (fun p f : ByteArray => ltB p f) l)) ∧ Below w.heap.size w w' := by
  obtain ⟨oa, cap, rfl, hn, hc⟩ := h
  obtain ⟨n, en⟩ : ∃ n, l.length = n := ⟨_, rfl⟩
  rw [en] at hn
  rw [en]
  unfold maxLen at hn
  have HC : Hid _ := hc
  clear hc
  go_enter Tryz.func192, Tryz.ntmps192
  go_wp2
  go_loopw [5] (fun i wr => ∃ k : Nat, i = .int .i64 ((k : Int) + 1) ∧ (k + 1 ≤ n ∨ k = 0) ∧ Hid (∀ j (hj : j < l.length), j < k + 1 → asO (fun p f : ByteArray => ltB p f) (prevO l j) l[j] = true) ∧ Hid (Below w.heap.size w wr)) (fun i _ => n - (intOf i).toNat)
  case atStart => exact ⟨0, rfl, Or.inr rfl, fun j hj h => as_zero j hj (by omega), Below.refl _ _⟩
  case round =>
    obtain ⟨k, rfl, hk, hall, hbel⟩ := hrel
    have hs := hbel.out.size
    by_cases hlt : k + 1 < n
    · clear hk
      obtain ⟨b, off, rfl, hbS, ce, hcelle, hate⟩ := HC.out (k + 1) (by omega)
      obtain ⟨b', off', e', hbS', ca, hcella, hata⟩ := HC.out k (by omega)
      cases e'
      have hbb := hS b hbS
      have hbw := hbel.out
      rw [width_str] at hcella
      have a0 : wr.cell? ⟨b, off + k, none⟩ = some (ca 0) := (hbw.cell (p := ⟨b, off + k, none⟩) (by show b < _; omega)).trans (by have hq := hcella 0 (by omega); first | exact hq | simpa using hq)
      clear hcella
      have hata := Lay.same hata (Same.of_below hbw hS)
      rw [at_str] at hata
      obtain ⟨af, eaf⟩ : ∃ f, l[k]'(by omega) = f := ⟨_, rfl⟩
      rw [eaf] at hata
      obtain ⟨ta0, za0⟩ := hata
      rw [ta0] at a0
      clear ta0
      rw [width_str] at hcelle
      have e0 : wr.cell? ⟨b, off + (k + 1), none⟩ = some (ce 0) := (hbw.cell (p := ⟨b, off + (k + 1), none⟩) (by show b < _; omega)).trans (by have hq := hcelle 0 (by omega); first | exact hq | simpa using hq)
      clear hcelle
      have hate := Lay.same hate (Same.of_below hbw hS)
      rw [at_str] at hate
      obtain ⟨ef, eef⟩ : ∃ f, l[k + 1]'(by omega) = f := ⟨_, rfl⟩
      rw [eef] at hate
      obtain ⟨te0, ze0⟩ := hate
      rw [te0] at e0
      clear te0
      clear hbw
      have qa0 := fun d os => cell_regrown a0 d os
      have qe0 := fun d os => cell_regrown e0 d os
      have hrl : asO (fun p f : ByteArray => ltB p f) (prevO l (k + 1)) (l[k + 1]'(by omega)) = ltB af ef := by
        rw [prev_succ l k (by omega), eaf, eef]; rfl
      have hge : decide (0 ≤ cmpB af ef) = !ltB af ef := cmpB_ge _ _
      cases hlb : ltB af ef
      · rw [hlb] at hrl
        rw [hlb, Bool.not_false] at hge
        go_wp2
        refine wp_region_quiet_below (by kernel_rfl) (by kernel_rfl) ?_
        repeat (first | go_big_quiet_step (with_reducible exact cmpSr _ _ _ _ rfl _ _) | quiet_step (with_reducible exact cmpSr _ _ _ _ rfl _ _))
        refine wpQuiet_nil ?_
        intro _ hw'
        obtain ⟨⟨dq, osq⟩, hw''⟩ := hw'
        subst hw''
        go_wp2
        rw [show ascB (fun p f : ByteArray => ltB p f) l = false from ok_no (k := k + 1) (by omega) hrl]
        go_ret
        exact ⟨rfl, hbel.out.trans ((below_regrown _ dq osq).mono hs)⟩
      · rw [hlb] at hrl
        rw [hlb, Bool.not_true] at hge
        go_wp2
        refine wp_region_quiet_below (by kernel_rfl) (by kernel_rfl) ?_
        repeat (first | go_big_quiet_step (with_reducible exact cmpSr _ _ _ _ rfl _ _) | quiet_step (with_reducible exact cmpSr _ _ _ _ rfl _ _))
        refine wpQuiet_nil ?_
        intro _ hw'
        obtain ⟨⟨dq, osq⟩, hw''⟩ := hw'
        subst hw''
        go_wp2
        go_roundw
        case rel => exact ⟨k + 1, by go_num, Or.inl (by omega), fun j hj hjk => by
          by_cases e : j = k + 1
          · subst e; exact hrl
          · exact hall.out j hj (by omega), hbel.out.trans ((below_regrown _ dq osq).mono hs)⟩
        case measure => simp [intOf]; omega
    · go_wp2
      rw [show ascB (fun p f : ByteArray => ltB p f) l = true from ok_yes (Nat.le_refl _) (fun j hj => hall.out j hj (by omega))]
      go_ret
      exact ⟨rfl, hbel.out⟩
set_option maxRecDepth 100000 in
set_option maxHeartbeats 4000000 in
theorem liststring_any (S : Nat → Prop) (v : Value) (l : List ByteArray) (lim : Nat) (w : World) (h : AtL S w l v) (hS : ∀ b, S b → b < w.heap.size) :
    Calls Tryz.prog 163 #[v, .int .i64 lim, .func (.func 164) #[] #[], .func (.func 68) #[] #[]] w fun e w' => e = .returned (.bool (okB lim (tst (fun f : ByteArray => nameB f) (fun p f : ByteArray => ltB p f)) l)) ∧ Below w.heap.size w w' := by
  have H : Hid (AtL S w l v) := h
  obtain ⟨oa, cap, hv, hn, hc⟩ := h
  rw [hv] at H
  subst hv
  obtain ⟨n, en⟩ : ∃ n, l.length = n := ⟨_, rfl⟩
  rw [en] at hn H
  rw [en]
  unfold maxLen at hn
  have HC : Hid _ := hc
  clear hc
  by_cases hl : n ≤ lim
  · have dl : decide (lim < n) = false := by simp; omega
    go_enter Tryz.func163, Tryz.ntmps163
    go_wp2
    go_loopw [17] (fun i wr => ∃ k : Nat, k ≤ n ∧ i = .int .i64 k ∧ Hid (∀ j (hj : j < l.length), j < k → (fun f : ByteArray => nameB f) l[j] = true) ∧ Hid (Below w.heap.size w wr)) (fun i _ => n - (intOf i).toNat)
    case atStart => exact ⟨0, Nat.zero_le _, rfl, fun _ _ h => by omega, Below.refl _ _⟩
    case round =>
      obtain ⟨k, hk, rfl, hall, hbel⟩ := hrel
      have hs := hbel.out.size
      have hSr : ∀ b, S b → b < wr.heap.size := fun b hb => by have := hS b hb; omega
      by_cases hlt : k < n
      · obtain ⟨b, off, rfl, hbS, ce, hcelle, hate⟩ := HC.out k (by omega)
        have hbb := hS b hbS
        have hbw := hbel.out
        rw [width_str] at hcelle
        have e0 : wr.cell? ⟨b, off + k, none⟩ = some (ce 0) := (hbw.cell (p := ⟨b, off + k, none⟩) (by show b < _; omega)).trans (by have hq := hcelle 0 (by omega); first | exact hq | simpa using hq)
        clear hcelle
        have hate := Lay.same hate (Same.of_below hbw hS)
        rw [at_str] at hate
        obtain ⟨ef, eef⟩ : ∃ f, l[k]'(by omega) = f := ⟨_, rfl⟩
        rw [eef] at hate
        obtain ⟨te0, ze0⟩ := hate
        rw [te0] at e0
        clear te0
        clear hbw
        have hB1 : Hid (Below w.heap.size w wr) := hbel
        have hP : (fun f : ByteArray => nameB f) (l[k]'(by omega)) = (nameB ef) := by rw [eef]
        cases hy : (nameB ef)
        · rw [hy] at hP
          go_wp2_with (go_at_call 68; refine (nameI_any _ _ ze0).mono ?_; rintro e w1 ⟨rfl, hb1⟩; rw [hy])
          rw [tst_no (k := k) (by omega) hP]
          go_ret
          exact ⟨rfl, hB1.out.trans (hb1.mono hB1.out.size)⟩
        · rw [hy] at hP
          go_wp2_with (go_at_call 68; refine (nameI_any _ _ ze0).mono ?_; rintro e w1 ⟨rfl, hb1⟩; rw [hy])
          go_roundw
          case rel => exact ⟨k + 1, by omega, by go_num, fun j hj hjk => by
            by_cases e : j = k
            · subst e; exact hP
            · exact hall.out j hj (by omega), hB1.out.trans (hb1.mono hB1.out.size)⟩
          case measure => simp [intOf]; omega
      · go_wp2_with (go_at_call 192; refine (ascstring_any S _ l _ (H.out.same (Same.of_below hbel.out hS)) hSr).mono ?_; rintro e w1 ⟨rfl, hb1⟩)
        rw [tst_asc (by omega) (fun j hj => hall.out j hj (by omega))]
        go_ret
        exact ⟨rfl, hbel.out.trans (hb1.mono hs)⟩
  · have dl : decide (lim < n) = true := by simp; omega
    rw [ok_long (by omega)]
    go_enter Tryz.func163, Tryz.ntmps163
    go_wp2
    go_ret
    exact ⟨rfl, Below.refl _ _⟩
set_option maxRecDepth 100000 in
set_option maxHeartbeats 4000000 in
theorem listOf_any (S SA : Nat → Prop) (v va : Value) (l all : List ByteArray) (lim : Nat) (w : World) (h : AtL S w l v) (hS : ∀ b, S b → b < w.heap.size) (ha : AtL SA w all va) (hSA : ∀ b, SA b → b < w.heap.size) :
    Calls Tryz.prog 163 #[v, .int .i64 lim, .func (.func 164) #[] #[], .func (.func 165) #[va] #[]] w fun e w' => e = .returned (.bool (okB lim (tst (fun f : ByteArray => hasB all f) (fun p f : ByteArray => ltB p f)) l)) ∧ Below w.heap.size w w' := by
  have HA : Hid _ := ha.ups hSA
  clear ha
  have H : Hid (AtL S w l v) := h
  obtain ⟨oa, cap, hv, hn, hc⟩ := h
  rw [hv] at H
  subst hv
  obtain ⟨n, en⟩ : ∃ n, l.length = n := ⟨_, rfl⟩
  rw [en] at hn H
  rw [en]
  unfold maxLen at hn
  have HC : Hid _ := hc
  clear hc
  by_cases hl : n ≤ lim
  · have dl : decide (lim < n) = false := by simp; omega
    go_enter Tryz.func163, Tryz.ntmps163
    go_wp2
    go_loopw [17] (fun i wr => ∃ k : Nat, k ≤ n ∧ i = .int .i64 k ∧ Hid (∀ j (hj : j < l.length), j < k → (fun f : ByteArray => hasB all f) l[j] = true) ∧ Hid (Below w.heap.size w wr)) (fun i _ => n - (intOf i).toNat)
    case atStart => exact ⟨0, Nat.zero_le _, rfl, fun _ _ h => by omega, Below.refl _ _⟩
    case round =>
      obtain ⟨k, hk, rfl, hall, hbel⟩ := hrel
      have hs := hbel.out.size
      have hSr : ∀ b, S b → b < wr.heap.size := fun b hb => by have := hS b hb; omega
      by_cases hlt : k < n
      · obtain ⟨b, off, rfl, hbS, ce, hcelle, hate⟩ := HC.out k (by omega)
        have hbb := hS b hbS
        have hbw := hbel.out
        rw [width_str] at hcelle
        have e0 : wr.cell? ⟨b, off + k, none⟩ = some (ce 0) := (hbw.cell (p := ⟨b, off + k, none⟩) (by show b < _; omega)).trans (by have hq := hcelle 0 (by omega); first | exact hq | simpa using hq)
        clear hcelle
        have hate := Lay.same hate (Same.of_below hbw hS)
        rw [at_str] at hate
        obtain ⟨ef, eef⟩ : ∃ f, l[k]'(by omega) = f := ⟨_, rfl⟩
        rw [eef] at hate
        obtain ⟨te0, _⟩ := hate
        rw [te0] at e0
        clear te0
        clear hbw
        have hB1 : Hid (Below w.heap.size w wr) := hbel
        have hP : (fun f : ByteArray => hasB all f) (l[k]'(by omega)) = (hasB all ef) := by rw [eef]
        cases hy : (hasB all ef)
        · rw [hy] at hP
          go_wp2_with (go_at_call 165; refine (hasN_any SA va all _ _ (HA.out _ hbel.out)).mono ?_; rintro e w1 ⟨rfl, rfl⟩; rw [hy])
          rw [tst_no (k := k) (by omega) hP]
          go_ret
          exact ⟨rfl, hB1.out⟩
        · rw [hy] at hP
          go_wp2_with (go_at_call 165; refine (hasN_any SA va all _ _ (HA.out _ hbel.out)).mono ?_; rintro e w1 ⟨rfl, rfl⟩; rw [hy])
          go_roundw
          case rel => exact ⟨k + 1, by omega, by go_num, fun j hj hjk => by
            by_cases e : j = k
            · subst e; exact hP
            · exact hall.out j hj (by omega), hB1.out⟩
          case measure => simp [intOf]; omega
      · go_wp2_with (go_at_call 192; refine (ascstring_any S _ l _ (H.out.same (Same.of_below hbel.out hS)) hSr).mono ?_; rintro e w1 ⟨rfl, hb1⟩)
        rw [tst_asc (by omega) (fun j hj => hall.out j hj (by omega))]
        go_ret
        exact ⟨rfl, hbel.out.trans (hb1.mono hs)⟩
  · have dl : decide (lim < n) = true := by simp; omega
    rw [ok_long (by omega)]
    go_enter Tryz.func163, Tryz.ntmps163
    go_wp2
    go_ret
    exact ⟨rfl, Below.refl _ _⟩
set_option maxRecDepth 100000 in
set_option maxHeartbeats 4000000 in
theorem names_any (S : Nat → Prop) (v : Value) (l : List ByteArray) (lim : Nat) (w : World) (h : AtL S w l v) (hS : ∀ b, S b → b < w.heap.size) :
    Calls Tryz.prog 195 #[v, .int .i64 lim] w fun e w' => e = .returned (.bool (okB lim (tst (fun f : ByteArray => nameB f) (fun p f : ByteArray => ltB p f)) l)) ∧ Below w.heap.size w w' := by
  have H : Hid (Calls Tryz.prog _ _ w _) := liststring_any S v l lim _ h hS
  clear h
  go_enter Tryz.func195, Tryz.ntmps195
  go_wp2_with fail
  refine Calls.mono H.out ?_
  rintro e w1 ⟨rfl, hb1⟩
  go_wp2_with fail
  go_ret
  exact ⟨rfl, hb1⟩
set_option maxRecDepth 100000 in
set_option maxHeartbeats 4000000 in
theorem isOkN_any (S : Nat → Prop) (v : Value) (l : List ByteArray) (lim : Nat) (w : World) (h : AtL S w l v) (hS : ∀ b, S b → b < w.heap.size) :
    Calls Tryz.prog 171 #[v, .int .i64 lim] w fun e w' => e = .returned (.bool (okB lim (tst (fun f : ByteArray => nameB f) (fun p f : ByteArray => ltB p f)) l)) ∧ Below w.heap.size w w' := by
  have H : Hid (Calls Tryz.prog _ _ w _) := names_any S v l lim _ h hS
  clear h
  go_enter Tryz.func171, Tryz.ntmps171
  go_wp2_with fail
  refine Calls.mono H.out ?_
  rintro e w1 ⟨rfl, hb1⟩
  go_wp2_with fail
  go_ret
  exact ⟨rfl, hb1⟩
theorem hasB_iff (l : List ByteArray) (x : ByteArray) : hasB l x = true ↔ x ∈ l := by
  unfold hasB
  rw [List.any_eq_true]
  constructor
  · rintro ⟨y, hy, he⟩; rw [eqB_iff] at he; exact he ▸ hy
  · intro h; exact ⟨x, h, (eqB_iff _ _).2 rfl⟩
theorem asc_far {α : Type} {R : α → α → Bool} (tr : ∀ {a b c : α}, R a b = true → R b c = true → R a c = true) {l : List α} (h : ∀ i (hi : i < l.length), asO R (prevO l i) l[i] = true) : ∀ (j i : Nat) (hj : j < l.length) (hij : i < j), R (l[i]'(by omega)) l[j] = true
  | 0, i, _, hij => by omega
  | j + 1, i, hj, hij => by
    have h1 := h (j + 1) hj
    rw [prev_succ l j (by omega)] at h1
    have h2 : R (l[j]'(by omega)) l[j + 1] = true := h1
    by_cases e : i = j
    · subst e; exact h2
    · have h3 := asc_far (R := R) (l := l) tr h j i (by omega) (by omega)
      exact tr h3 h2
theorem asc_nodup {l : List ByteArray} (h : ∀ i (hi : i < l.length), asO ltB (prevO l i) l[i] = true) : l.Nodup := by
  refine List.pairwise_iff_getElem.2 fun i j hi hj hij e => ?_
  have := asc_far (R := ltB) ltB_trans h j i hj hij
  rw [e, ltB_irrefl] at this
  cases this
theorem sub_parts {all l : List ByteArray} (h : subB all l = true) : l.Nodup ∧ ∀ x ∈ l, x ∈ all := by
  rw [subB, ok_iff] at h
  refine ⟨asc_nodup fun i hi => ?_, fun x hx => ?_⟩
  · have := h.2 i hi; rw [tst, Bool.and_eq_true] at this; exact this.2
  · obtain ⟨i, hi, rfl⟩ := List.getElem_of_mem hx
    have := h.2 i hi; rw [tst, Bool.and_eq_true] at this; exact (hasB_iff _ _).1 this.1
theorem sub_lim (all l : List ByteArray) : okB all.length (tst (fun f => hasB all f) (fun p f => ltB p f)) l = subB all l := by
  rw [Bool.eq_iff_iff]
  constructor
  · intro h; rw [ok_iff] at h; rw [subB, ok_iff]; exact ⟨Nat.le_refl _, h.2⟩
  · intro h
    obtain ⟨h1, h2⟩ := sub_parts h
    rw [subB, ok_iff] at h
    rw [ok_iff]
    exact ⟨h1.length_le_of_subset h2, h.2⟩
set_option maxRecDepth 100000 in
set_option maxHeartbeats 4000000 in
theorem isOf_any (S SA : Nat → Prop) (v va : Value) (l all : List ByteArray) (w : World) (h : AtL S w l v) (ha : AtL SA w all va) (hS : ∀ b, S b → b < w.heap.size) (hSA : ∀ b, SA b → b < w.heap.size) :
    Calls Tryz.prog 118 #[v, va] w fun e w' => e = .returned (.bool (subB all l)) ∧ Below w.heap.size w w' := by
  have hmf : ∀ (fn : Fn) (first cap : Array Value) (w : World), (Instr.makeFunc fn first cap).run Tryz.prog w = .ok (.func fn first cap) w := fun _ _ _ _ => rfl
  rw [← sub_lim]
  have H : Hid (Calls Tryz.prog _ _ w _) := listOf_any S SA v va l all all.length w h hS ha hSA
  obtain ⟨oa, ca, rfl, _⟩ := ha
  clear h
  go_enter Tryz.func118, Tryz.ntmps118
  go_wp2_with fail
  refine Calls.mono H.out ?_
  rintro e w1 ⟨rfl, hb1⟩
  go_wp2_with fail
  go_ret
  exact ⟨rfl, hb1⟩
end Go.Proofs.YtobchllaopdchacGreat

namespace Go.Proofs.YtobchllaopdchacGreat
open Go.RowKit
set_option maxRecDepth 100000 in
set_option maxHeartbeats 4000000 in
theorem batchAtIs_any (a x : ByteArray) (a1 a2 : Value) (nb : Nat) (w : World) (hx : w.cell? ⟨nb, 0, none⟩ = some (.string x)) (hnb : nb < w.heap.size) :
    Calls Tryz.prog 120 #[.agg #[.string a, a1, a2], .pointer (some ⟨nb, 0, none⟩)] w fun e w' => e = .returned (.bool (eqB a x)) ∧ Below w.heap.size w w' := by
  have hx' := fun o => cell_past hx hnb o
  go_enter Tryz.func120, Tryz.ntmps120
  go_wp2
  go_ret
  exact ⟨rfl, (Below.refl _ _).alloc (Nat.le_refl _) _⟩
set_option maxRecDepth 100000 in
set_option maxHeartbeats 4000000 in
theorem batchAtIdx_any (S : Nat → Prop) (v : Value) (l : List DShareBatch) (x : ByteArray) (nb : Nat) (w : World) (h : AtL S w l v) (hS : ∀ b, S b → b < w.heap.size) (hx : w.cell? ⟨nb, 0, none⟩ = some (.string x)) (hnb : nb < w.heap.size) :
    Calls Tryz.prog 119 #[v, .func (.func 120) #[] #[.pointer (some ⟨nb, 0, none⟩)]] w fun e w' => e = .returned (.int .i64 (idxI l (fun p : DShareBatch => eqB p.1 x))) ∧ Below w.heap.size w w' := by
  obtain ⟨oa, cap, rfl, hn, hc⟩ := h
  obtain ⟨n, en⟩ : ∃ n, l.length = n := ⟨_, rfl⟩
  rw [en] at hn
  rw [en]
  unfold maxLen at hn
  have HC : Hid _ := hc
  have HX : Hid _ := hx
  clear hc hx
  go_enter Tryz.func119, Tryz.ntmps119
  go_wp2
  go_loopw [8] (fun i wr => ∃ k : Nat, k ≤ n ∧ i = .int .i64 k ∧ Hid (∀ j (hj : j < l.length), j < k → eqB l[j].1 x = false) ∧ Hid (Below w.heap.size w wr)) (fun i _ => n - (intOf i).toNat)
  case atStart => exact ⟨0, Nat.zero_le _, rfl, fun _ _ h => by omega, Below.refl _ _⟩
  case round =>
    obtain ⟨k, hk, rfl, hno, hbel⟩ := hrel
    have hs := hbel.out.size
    by_cases hlt : k < n
    · obtain ⟨b, off, rfl, hbS, ce, hcelle, hate⟩ := HC.out k (by omega)
      have hbb := hS b hbS
      have hbw := hbel.out
      rw [width_DShareBatch] at hcelle
      have e0 : wr.cell? ⟨b, off + k * 3, none⟩ = some (ce 0) := (hbw.cell (p := ⟨b, off + k * 3, none⟩) (by show b < _; omega)).trans (by have hq := hcelle 0 (by omega); first | exact hq | simpa using hq)
      have e1 : wr.cell? ⟨b, off + k * 3 + 1, none⟩ = some (ce 1) := (hbw.cell (p := ⟨b, off + k * 3 + 1, none⟩) (by show b < _; omega)).trans (by have hq := hcelle 1 (by omega); first | exact hq | simpa using hq)
      have e2 : wr.cell? ⟨b, off + k * 3 + 2, none⟩ = some (ce 2) := (hbw.cell (p := ⟨b, off + k * 3 + 2, none⟩) (by show b < _; omega)).trans (by have hq := hcelle 2 (by omega); first | exact hq | simpa using hq)
      clear hcelle
      have hate := Lay.same hate (Same.of_below hbw hS)
      rw [at_DShareBatch] at hate
      obtain ⟨ef, eef⟩ : ∃ f, l[k]'(by omega) = f := ⟨_, rfl⟩
      rw [eef] at hate
      obtain ⟨⟨te0, ze0⟩, le1, le2⟩ := hate
      obtain ⟨soe1, sce1, te1, _⟩ := id le1
      clear le1
      obtain ⟨soe2, sce2, te2, _⟩ := id le2
      clear le2
      rw [te0] at e0
      rw [te1] at e1
      rw [te2] at e2
      clear te0 te1 te2
      clear hbw
      have HXR : Hid (wr.cell? ⟨nb, 0, none⟩ = some (.string x)) := (hbel.out.cell (p := ⟨nb, 0, none⟩) hnb).trans HX.out
      cases hy : eqB ef.1 x
      · go_wp2_with (go_at_call 120; refine (batchAtIs_any _ x _ _ nb _ HXR.out (by omega)).mono ?_; rintro e w1 ⟨rfl, hb1⟩; rw [hy])
        go_roundw
        case rel => exact ⟨k + 1, by omega, by go_num, fun j hj hjk => by
          by_cases e : j = k
          · subst e; rw [eef]; exact hy
          · exact hno.out j hj (by omega), hbel.out.trans (hb1.mono hs)⟩
        case measure => simp [intOf]; omega
      · go_wp2_with (go_at_call 120; refine (batchAtIs_any _ x _ _ nb _ HXR.out (by omega)).mono ?_; rintro e w1 ⟨rfl, hb1⟩; rw [hy])
        rw [idx_yes (k := k) (by omega) (by rw [eef]; exact hy) hno.out]
        go_ret
        exact ⟨rfl, hbel.out.trans (hb1.mono hs)⟩
    · go_wp2
      go_ret
      rw [idx_no (fun j hj => hno.out j hj (by omega))]
      exact ⟨rfl, hbel.out⟩
set_option maxRecDepth 100000 in
set_option maxHeartbeats 4000000 in
theorem batchAtI_any (S : Nat → Prop) (v0 v1 : Value) (l : List DShareBatch) (x : ByteArray) (w : World) (h : AtL S w l v1) (hS : ∀ b, S b → b < w.heap.size) :
    Calls Tryz.prog 84 #[.agg #[v0, v1], .string x] w fun e w' => e = .returned (.int .i64 (idxI l (fun p : DShareBatch => eqB p.1 x))) ∧ Below w.heap.size w w' := by
  have hmf : ∀ (fn : Fn) (first cap : Array Value) (w : World), (Instr.makeFunc fn first cap).run Tryz.prog w = .ok (.func fn first cap) w := fun _ _ _ _ => rfl
  have H : Hid (∀ o1 o2, AtL S ((w.alloc o1).alloc o2) l v1) := fun o1 o2 => h.same (Same.of_below (((Below.refl _ _).alloc (Nat.le_refl _) o1).alloc (by simp) o2) hS)
  have HS : Hid (∀ o1 o2 b, S b → b < ((w.alloc o1).alloc o2).heap.size) := fun o1 o2 b hb => by have := hS b hb; simp; omega
  clear h
  go_enter Tryz.func84, Tryz.ntmps84
  go_wp2_with (go_at_call 119; refine (batchAtIdx_any S v1 l x (w.heap.size + 1) _ (H.out _ _) (HS.out _ _) (by simp) (by simp)).mono ?_; rintro e w1 ⟨rfl, hb1⟩)
  go_ret
  exact ⟨rfl, (((Below.refl _ _).alloc (Nat.le_refl _) _).alloc (by simp) _).trans (hb1.mono (by simp; omega))⟩
end Go.Proofs.YtobchllaopdchacGreat
