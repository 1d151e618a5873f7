/-
  Several texts in one.
-/
import Derived.Test.YtigkkelaadbhcabGreatM20
import Derived.Test.YtigkkelaadbhcabGreatM22
import Derived.Test.YtigkkelaadbhcabGreatM19
import Derived.Test.YtigkkelaadbhcabGreatM10
import Derived.Test.YtigkkelaadbhcabGreatM7
import Derived.Lib.Bytealg
import Derived.Lib.Strings
import Derived.Deep.RegionWith
import Derived.Stop.Asserts
import Derived.RangeFuncNested
import Derived.RangeFuncBound
import Derived.RangeFuncLeaves
import Derived.RangeFuncBox
namespace Go.Proofs.YtigkkelaadbhcabGreat
open Go.RowKit Go.Sort
noncomputable def owL (b : DRunBatch) : List ByteArray := if runB b = true then thL b.2.2.1 (ofL (phX b.2.1 b.2.2.2.1)) else []
theorem ow_len (b : DRunBatch) : (owL b).length ≤ 8192 := by
  unfold owL
  split
  · exact Nat.le_trans (thL_len _ _) (Nat.le_trans (of_len _) (by decide))
  · simp
set_option maxRecDepth 100000 in
set_option maxHeartbeats 8000000 in
theorem ownX_any (S : Nat → Prop) (nm : ByteArray) (r : List DRecPhase) (sl : List DRunSlot) (at_ : ByteArray) (si st : Int) (o1 o2 : Option Addr) (n1 k1 n2 k2 : Nat) (w : World) (hn : nm.size ≤ maxLen) (hr : AtL S w r (.slice o1 n1 k1)) (h : AtL S w sl (.slice o2 n2 k2)) (hS : ∀ b, S b → b < w.heap.size) :
    Calls Tryz.prog 69 #[.agg #[.string nm, .slice o1 n1 k1, .slice o2 n2 k2, .string at_, .int .i64 si, .int .i64 st]] w fun e w' => ∃ q, e = .returned q ∧ w'.ownsRow w.heap.size 9 1 q (owL (nm, r, sl, at_, si, st)).length ((owL (nm, r, sl, at_, si, st)).map .string) ∧ Below w.heap.size w w' := by
  have HN : Hid (nm.size ≤ maxLen) := hn
  obtain ⟨G, hG⟩ : ∃ G, G = owL (nm, r, sl, at_, si, st) := ⟨_, rfl⟩
  rw [← hG]
  have TG : Hid (G = if runB (nm, r, sl, at_, si, st) = true then thL sl (ofL (phX r at_)) else []) := hG
  clear hG
  obtain ⟨W, EW, BW, RW, sW⟩ := box_new w #[.string nm, .slice o1 n1 k1, .slice o2 n2 k2, .string at_, .int .i64 si, .int .i64 st] 52
  have BOX : Hid (∀ u, Below W.heap.size W u → u.heap[w.heap.size]? = some (.cells #[.string nm, .slice o1 n1 k1, .slice o2 n2 k2, .string at_, .int .i64 si, .int .i64 st] 52 (0, 0)) ∧ Below w.heap.size w u) := fun u hu => ⟨(hu.block _ (by omega)).trans RW.out, BW.out.trans (hu.mono (by omega))⟩
  have HR : Hid _ := hr.ups hS
  have HA : Hid _ := h.ups hS
  have HS : Hid _ := lt_up hS
  have h0 := fun u (hu : Below W.heap.size W u) => cell_row (BOX.out u hu).1
  have Y : Hid (∀ u, Below W.heap.size W u → u.cell? ⟨w.heap.size, 0, none⟩ = some (.string nm) ∧ u.cell? ⟨w.heap.size, 1, none⟩ = some (.slice o1 n1 k1) ∧ u.cell? ⟨w.heap.size, 2, none⟩ = some (.slice o2 n2 k2) ∧ u.cell? ⟨w.heap.size, 3, none⟩ = some (.string at_) ∧ u.cell? ⟨w.heap.size, 4, none⟩ = some (.int .i64 si) ∧ u.cell? ⟨w.heap.size, 5, none⟩ = some (.int .i64 st)) := fun u hu =>
    ⟨(h0 u hu 0 _ rfl).1, (h0 u hu 1 _ rfl).1, (h0 u hu 2 _ rfl).1, (h0 u hu 3 _ rfl).1, (h0 u hu 4 _ rfl).1, (h0 u hu 5 _ rfl).1⟩
  clear h0
  have PH : Hid (runB (nm, r, sl, at_, si, st) = true → ∃ (k : Nat), atI r at_ = (k : Int) ∧ k < n1 ∧ (phaseB (phX r at_) = true) ∧ ∃ b off, o1 = some ⟨b, off, none⟩ ∧ b < w.heap.size ∧ ∀ u, Below w.heap.size w u → u.cell? ⟨b, off + k * 8, none⟩ = some (.string (phX r at_).1) ∧ u.cell? ⟨b, off + k * 8 + 1, none⟩ = some (.int .i64 (phX r at_).2.1) ∧ u.cell? ⟨b, off + k * 8 + 2, none⟩ = some (.string (phX r at_).2.2.1) ∧ u.cell? ⟨b, off + k * 8 + 3, none⟩ = some (.string (phX r at_).2.2.2.1) ∧ u.cell? ⟨b, off + k * 8 + 4, none⟩ = some (.int .i64 (phX r at_).2.2.2.2.1) ∧ u.cell? ⟨b, off + k * 8 + 5, none⟩ = some (.int .i64 (phX r at_).2.2.2.2.2.1) ∧ u.cell? ⟨b, off + k * 8 + 6, none⟩ = some (.string (phX r at_).2.2.2.2.2.2.1) ∧ u.cell? ⟨b, off + k * 8 + 7, none⟩ = some (.string (phX r at_).2.2.2.2.2.2.2)) := fun hb => by
    have hR : RecP r := (run_rec hb).1
    have h0 : 0 ≤ atI r at_ := by
      unfold runB at hb
      simp only [Bool.and_eq_true, decide_eq_true_eq] at hb
      exact hb.1.2
    rcases at_cases r at_ with e | ⟨k', hk', e, _⟩
    · omega
    obtain ⟨oa, cap, ev, _, hc⟩ := id hr
    obtain ⟨b, off, eo, hbS, cc, hcell, hat⟩ := hc k' hk'
    rw [width_DRecPhase] at hcell
    rw [at_DRecPhase, ← ph_at hk' e] at hat
    obtain ⟨⟨q0, _⟩, ⟨q1, _, _⟩, ⟨q2, _⟩, ⟨q3, _⟩, ⟨q4, _, _⟩, ⟨q5, _, _⟩, ⟨q6, _⟩, ⟨q7, _⟩⟩ := hat
    cases ev
    have hbb := hS b hbS
    refine ⟨k', e, hk', by rw [ph_at hk' e]; exact (step_of hR hk').1, b, off, eo, hbb, fun u hu => ?_⟩
    rw [← q0, ← q1, ← q2, ← q3, ← q4, ← q5, ← q6, ← q7]
    exact ⟨(hu.cell hbb).trans (hcell 0 (by omega)), (hu.cell hbb).trans (hcell 1 (by omega)), (hu.cell hbb).trans (hcell 2 (by omega)), (hu.cell hbb).trans (hcell 3 (by omega)), (hu.cell hbb).trans (hcell 4 (by omega)), (hu.cell hbb).trans (hcell 5 (by omega)), (hu.cell hbb).trans (hcell 6 (by omega)), (hu.cell hbb).trans (hcell 7 (by omega))⟩
  clear h hr hS hn
  obtain ⟨y0, y1, y2, y3, y4, y5⟩ := Y.out W (Below.refl _ _)
  have szW := BW.out.size
  go_enter Tryz.func69, Tryz.ntmps69
  go_upto_region 1 with fail
  rw [← EW.out]
  go_wp2_with fail
  refine (runX_any S nm r sl at_ si st o1 o2 n1 k1 n2 k2 W HN.out (HR.out _ BW.out) (HA.out _ BW.out) (HS.out _ BW.out)).mono ?_; rintro e w1 ⟨rfl, hb1⟩
  have B1 : Hid (Below W.heap.size W w1) := hb1
  have BW1 : Hid (Below w.heap.size w w1) := (BOX.out w1 hb1).2
  clear y0 y1 y2 y3 y4 y5 hb1
  obtain ⟨y0, y1, y2, y3, y4, y5⟩ := Y.out w1 B1.out
  cases c : runB (nm, r, sl, at_, si, st)
  · rw [c] at TG
    obtain rfl : G = [] := TG.out
    clear y0 y1 y2 y3 y4 y5 szW
    go_wp2_with fail
    go_ret
    have sz := BW1.out.size
    exact ⟨_, rfl, own_nil sz, BW1.out.alloc sz _⟩
  rw [c, if_pos rfl] at TG
  obtain ⟨k, hk, hkn, _, b, off, rfl, hb, hx⟩ := PH.out c
  obtain ⟨x0, x1, x2, x3, x4, x5, x6, x7⟩ := hx w1 BW1.out
  obtain ⟨p, hp⟩ : ∃ p, p = phX r at_ := ⟨_, rfl⟩
  rw [← hp] at x0 x1 x2 x3 x4 x5 x6 x7 TG
  have hG : G = thL sl (ofL p) := TG.out
  obtain ⟨pn, kd, pa, pb, pc, wi, th, el⟩ := p
  simp only at x0 x1 x2 x3 x4 x5 x6 x7
  obtain ⟨L, hL⟩ : ∃ L, L = ofL (pn, kd, pa, pb, pc, wi, th, el) := ⟨_, rfl⟩
  rw [← hL] at hG
  have hll : L.length ≤ 2 := by rw [hL]; exact of_len _
  have HLL : Hid (L.length ≤ 2) := hll
  have CO : Hid (∀ u, Calls Tryz.prog 104 #[.agg #[.string pn, .int .i64 kd, .string pa, .string pb, .int .i64 pc, .int .i64 wi, .string th, .string el]] u fun e w' => ∃ g cap, e = .returned (.slice (some ⟨g, 0, none⟩) L.length cap) ∧ w'.ownsRow u.heap.size 9 1 (.slice (some ⟨g, 0, none⟩) L.length cap) L.length (L.map .string) ∧ Below u.heap.size u w') := fun u => by rw [hL]; exact ofX_any pn pa pb th el kd pc wi u
  have CA : Hid (∀ u, Below w.heap.size w u → Calls Tryz.prog 64 #[.slice (some ⟨b, off, none⟩) n1 k1, .string at_] u fun e w' => e = .returned (.int .i64 (k : Int)) ∧ w' = u) := fun u hu => by rw [← hk]; exact atX_any S r _ at_ u (HR.out u hu)
  subst hG
  have HDR : Hid (Below w1.heap.size w1 w1.drew) := (Below.refl _ _).drew
  have q0 := fun d os => cell_regrown y0 d os
  have q1 := fun d os => cell_regrown y1 d os
  have q2 := fun d os => cell_regrown y2 d os
  have q3 := fun d os => cell_regrown y3 d os
  have q4 := fun d os => cell_regrown y4 d os
  have q5 := fun d os => cell_regrown y5 d os
  have qx0 := fun d os => cell_regrown x0 d os
  have qx1 := fun d os => cell_regrown x1 d os
  have qx2 := fun d os => cell_regrown x2 d os
  have qx3 := fun d os => cell_regrown x3 d os
  have qx4 := fun d os => cell_regrown x4 d os
  have qx5 := fun d os => cell_regrown x5 d os
  have qx6 := fun d os => cell_regrown x6 d os
  have qx7 := fun d os => cell_regrown x7 d os
  clear hL hll TG hk hx hp y0 y1 y2 y3 y4 y5 x0 x1 x2 x3 x4 x5 x6 x7 szW
  go_wp2_with fail
  refine wp_region_mix 11 [0, 1, 2, 3, 4, 5, 6] (by kernel_rfl) (by kernel_rfl) ?_
  simp only [List.filterMap_cons, List.filterMap_nil, List.getElem?_cons_succ, List.getElem?_cons_zero]
  repeat (first | go_big_quiet_step (fail) | quiet_step (fail))
  refine wpQuiet_nil ?_
  have bdr : Hid (Below w.heap.size w w1.drew) := BW1.out.trans (HDR.out.mono BW1.out.size)
  refine call1 (md := .any) (f := 3) (i := 7) (dc := 14) (fn := 64) ⟨rfl, rfl, rfl, by decide⟩ (by kernel_rfl) ?run ((CA.out w1.drew bdr.out).mono ?_)
  case run => go_simp
  rintro e u ⟨rfl, rfl⟩
  refine ⟨_, rfl, regrown_of_below HDR.out, ?_⟩
  simp only [Act.put, List.setIfInBounds_toArray, List.set_cons_zero, List.set_cons_succ]
  refine lexT (g := 1) [8, 9] (by kernel_rfl) (regrown_of_below HDR.out) ?_
  simp only [List.filterMap_cons, List.filterMap_nil, List.getElem?_cons_succ, List.getElem?_cons_zero]
  repeat (first | go_big_quiet_step (fail) | quiet_step (fail))
  refine wpQuiet_nil ?_
  clear q0 q1 q2 q3 q4 q5 qx0 qx1 qx2 qx3 qx4 qx5 qx6 qx7
  refine call1 (md := .any) (f := 0) (i := 10) (dc := 17) (fn := 104) ⟨rfl, rfl, rfl, by decide⟩ (by kernel_rfl) ?run2 ((CO.out w1.drew).mono ?_)
  case run2 => go_simp
  rintro e u ⟨g, cap, rfl, ho, hb1⟩
  have C1 : Hid (Below w1.heap.size w1 u) := HDR.out.trans (hb1.mono HDR.out.size)
  have BU : Hid (Below w.heap.size w u) := BW1.out.trans (C1.out.mono BW1.out.size)
  have RD : Hid (RdB u (.slice (some ⟨g, 0, none⟩) L.length cap) L) := RdB.of ho
  refine ⟨_, rfl, regrown_of_below C1.out, ?_⟩
  clear hb1 ho
  refine ⟨by kernel_rfl, ?_⟩
  simp only [List.drop_succ_cons, List.drop_zero, Act.put, List.setIfInBounds_toArray, List.set_cons_zero, List.set_cons_succ]
  have s1 := BU.out.size
  go_wp2_with fail
  refine (thingsX_any S sl nm at_ si st _ o2 n1 k1 n2 k2 L _ u (HA.out _ BU.out) (HS.out _ BU.out) RD.out (by have := HLL.out; omega)).mono ?_; rintro e u2 ⟨g', cap', rfl, ho, hb2⟩
  have HO : Hid _ := ho
  have HB : Hid (Below w.heap.size w u2) := BU.out.trans (hb2.mono s1)
  clear ho hb2
  go_wp2_with fail
  go_ret
  exact ⟨_, rfl, own_leR HO.out s1, HB.out⟩
end Go.Proofs.YtigkkelaadbhcabGreat

namespace Go.Proofs.YtigkkelaadbhcabGreat
open Go.RowKit
theorem insR_fresh : ∀ (l : List ByteArray) (x : ByteArray), x ∉ l → (insR l x).length = l.length + 1
  | [], x, _ => by simp [insR]
  | y :: l, x, h => by
    have h1 : x ≠ y := fun e => h (by simp [e])
    have h2 := insR_fresh l x (fun e => h (by simp [e]))
    have h3 : eqB y x = false := by
      cases c : eqB y x with
      | false => rfl
      | true => exact absurd ((eqB_iff _ _).1 c).symm h1
    unfold insR
    cases c : ltB y x
    · simp [h3]
    · simp [h2]
theorem insR_old {l : List ByteArray} {x : ByteArray} (ha : AscL l) (h : x ∈ l) : insR l x = l :=
  asc_unique _ _ (ins_asc l x ha) ha fun y => by
    rw [ins_mem]
    exact ⟨fun h' => h'.elim id (fun e => e ▸ h), Or.inl⟩
theorem both_full : ∀ (b a : List ByteArray), AscL a → ((bothL a b).length = a.length + b.length ↔ b.Nodup ∧ ∀ y ∈ b, y ∉ a)
  | [], a, _ => by simp [bothL]
  | x :: b, a, ha => by
    have e : bothL a (x :: b) = bothL (insR a x) b := rfl
    have ih := both_full b (insR a x) (ins_asc a x ha)
    have hle := both_len b (insR a x)
    rw [e, List.length_cons, List.nodup_cons]
    by_cases hx : x ∈ a
    · have := insR_old ha hx
      rw [this] at hle ⊢
      refine ⟨fun h => by omega, fun h => absurd hx (h.2 x (by simp))⟩
    · have hl := insR_fresh a x hx
      rw [hl] at ih
      rw [show a.length + (b.length + 1) = a.length + 1 + b.length by omega, ih]
      constructor
      · rintro ⟨h1, h2⟩
        refine ⟨⟨fun hb => h2 x hb ((ins_mem a x x).2 (Or.inr rfl)), h1⟩, fun y hy => ?_⟩
        rcases List.mem_cons.1 hy with rfl | hy
        · exact hx
        · exact fun hya => h2 y hy ((ins_mem a x y).2 (Or.inl hya))
      · rintro ⟨⟨h1, h2⟩, h3⟩
        refine ⟨h2, fun y hy hya => ?_⟩
        rcases (ins_mem a x y).1 hya with h | rfl
        · exact h3 y (by simp [hy]) h
        · exact h1 hy
def EqP (L : List ByteArray) (sl : List DRunSlot) : Prop := sl.length = L.length ∧ ∀ i (h : i < sl.length), eqB sl[i].1 (nthB L i) = true ∧ nameB sl[i].2 = true
theorem EqP.fst {L : List ByteArray} {sl : List DRunSlot} (h : EqP L sl) : sl.map (·.1) = L := by
  refine List.ext_getElem (by simpa using h.1) fun i h1 h2 => ?_
  have := (h.2 i (by simpa using h1)).1
  rw [nth_is h2] at this
  simpa using (eqB_iff _ _).1 this
theorem EqP.dist {L : List ByteArray} {sl : List DRunSlot} (h : EqP L sl) (ha : AscL L) : (sl.map (·.1)).Nodup := by rw [h.fst]; exact ha.nodup
theorem EqP.snd {L : List ByteArray} {sl : List DRunSlot} (h : EqP L sl) (ha : AscL L) : L.map (thT sl) = sl.map (·.2) := by
  rw [← h.fst, List.map_map]
  refine List.ext_getElem (by simp) fun i h1 h2 => ?_
  have hi : i < sl.length := by simpa using h2
  simp only [List.getElem_map, Function.comp]
  exact thT_at (h.dist ha) hi
theorem nodup_others {sl : List DRunSlot} : (sl.map (·.2)).Nodup ↔ ∀ i (h : i < sl.length) k (hk : k < sl.length), k < i → eqB sl[k].2 sl[i].2 = false := by
  constructor
  · intro h i hi k hk hki
    cases c : eqB sl[k].2 sl[i].2 with
    | false => rfl
    | true =>
      have h1 := (List.pairwise_iff_getElem.1 h) k i (by simpa using hk) (by simpa using hi) hki
      exact absurd ((eqB_iff _ _).1 c) (by simpa using h1)
  · intro h
    refine List.pairwise_iff_getElem.2 fun k i hk hi hki => ?_
    have := h i (by simpa using hi) k (by simpa using hk) hki
    simp only [List.getElem_map]
    exact fun e => by rw [(eqB_iff _ _).2 e] at this; cases this
theorem sl_two {L : List ByteArray} {sl : List DRunSlot} (ha : AscL L) : SlP L sl ↔ EqP L sl ∧ (thL sl L).length = L.length := by
  have key : ∀ h : EqP L sl, ((thL sl L).length = L.length ↔ (sl.map (·.2)).Nodup) := fun h => by
    have := both_full (L.map (thT sl)) [] List.Pairwise.nil
    rw [h.snd ha] at this
    unfold thL
    rw [h.snd ha, ← h.1]
    simpa using this
  constructor
  · intro h
    have he : EqP L sl := ⟨h.len.symm, fun i hi => ⟨(h.row i hi).slot, (h.row i hi).name⟩⟩
    exact ⟨he, (key he).2 (nodup_others.2 fun i hi k hk hki => (h.row i hi).other k hk hki)⟩
  · rintro ⟨he, hl⟩
    have hn := nodup_others.1 ((key he).1 hl)
    exact ⟨he.1.symm, fun i hi => ⟨(he.2 i hi).1, (he.2 i hi).2, fun k hk hki => hn i hi k hk hki⟩⟩
theorem slB_two (r : List DRecPhase) (sl : List DRunSlot) : slB r sl = true ↔ EqP (sltF 12 r (fstN r)) sl ∧ (thL sl (sltF 12 r (fstN r))).length = (sltF 12 r (fstN r)).length :=
  sl_iff.trans (sl_two (slt_asc r 12 _))
end Go.Proofs.YtigkkelaadbhcabGreat

namespace Go.Proofs.YtigkkelaadbhcabGreat
open Go.RowKit
theorem okn_cases (r : Int) : (r < 45 ∧ okn r = false) ∨ (r = 45 ∧ okn r = true) ∨ ((45 < r ∧ r < 48) ∧ okn r = false) ∨ ((48 ≤ r ∧ r ≤ 57) ∧ okn r = true) ∨ ((57 < r ∧ r < 97) ∧ okn r = false) ∨ ((97 ≤ r ∧ r ≤ 122) ∧ okn r = true) ∨ (122 < r ∧ okn r = false) := by
  simp only [okn, decide_eq_true_eq, decide_eq_false_iff_not]; omega
set_option maxHeartbeats 1000000 in
theorem okn_any (r : Int) (w : World) : Calls Tryz.prog 108 #[.int .i32 r] w fun e w' => e = .returned (.bool (okn r)) ∧ w' = w := by
  rcases okn_cases r with ⟨h, ho⟩ | ⟨h, ho⟩ | ⟨⟨h, h'⟩, ho⟩ | ⟨⟨h, h'⟩, ho⟩ | ⟨⟨h, h'⟩, ho⟩ | ⟨⟨h, h'⟩, ho⟩ | ⟨h, ho⟩
  · have h45 : (r == 45) = false := by simp; omega
    rw [ho]
    go_enter Tryz.func108, Tryz.ntmps108
    go_wp2
    go_ret
    exact ⟨rfl, rfl⟩
  · subst h
    rw [ho]
    go_enter Tryz.func108, Tryz.ntmps108
    go_wp2
    go_ret
    exact ⟨rfl, rfl⟩
  · have h45 : (r == 45) = false := by simp; omega
    rw [ho]
    go_enter Tryz.func108, Tryz.ntmps108
    go_wp2
    go_ret
    exact ⟨rfl, rfl⟩
  · have h45 : (r == 45) = false := by simp; omega
    rw [ho]
    go_enter Tryz.func108, Tryz.ntmps108
    go_wp2
    go_ret
    exact ⟨rfl, rfl⟩
  · have h45 : (r == 45) = false := by simp; omega
    have d57 : decide (r ≤ 57) = false := by simp; omega
    rw [ho]
    go_enter Tryz.func108, Tryz.ntmps108
    go_wp2
    go_ret
    exact ⟨rfl, rfl⟩
  · have h45 : (r == 45) = false := by simp; omega
    rw [ho]
    go_enter Tryz.func108, Tryz.ntmps108
    go_wp2
    go_ret
    exact ⟨rfl, rfl⟩
  · have h45 : (r == 45) = false := by simp; omega
    have d57 : decide (r ≤ 57) = false := by simp; omega
    have d122 : decide (r ≤ 122) = false := by simp; omega
    rw [ho]
    go_enter Tryz.func108, Tryz.ntmps108
    go_wp2
    go_ret
    exact ⟨rfl, rfl⟩
theorem rune_okn (t : ByteArray) (pos : Nat) (h : pos < t.size) : ∃ (r : Int) (wd : Nat), ((Utf8.decode t pos).1 : Int) = r ∧ (Utf8.decode t pos).2 = wd ∧ okn r = okn (t[pos].toNat : Int) ∧ (okn r = true → wd = 1) := by
  by_cases ha : (t[pos]'h).toNat < 128
  · refine ⟨_, _, rfl, rfl, ?_, fun _ => ?_⟩
    · rw [decode_ascii t pos h ha]
    · rw [decode_ascii t pos h ha]
  · have hh := decode_high t pos h (by omega)
    have e1 : okn ((Utf8.decode t pos).1 : Int) = false := by simp [okn]; omega
    have e2 : okn (t[pos].toNat : Int) = false := by simp [okn]; omega
    exact ⟨_, _, rfl, rfl, e1.trans e2.symm, fun h => by rw [e1] at h; cases h⟩
set_option maxRecDepth 100000 in
set_option maxHeartbeats 1000000 in
theorem nameI_any (s : ByteArray) (w : World) (hs : s.size ≤ maxLen) : Calls Tryz.prog 75 #[.string s] w fun e w' => e = .returned (.bool (nameB s)) ∧ Below w.heap.size w w' := by
  unfold maxLen at hs
  by_cases hl : 1 ≤ s.size ∧ s.size ≤ 8
  · have d1 : decide ((s.size : Int) < 1) = false := by simp; omega
    have d2 : decide ((8 : Int) < (s.size : Int)) = false := by simp; omega
    go_enter Tryz.func75, Tryz.ntmps75
    go_wp2
    go_loopw [4] (fun _ wr => ∃ pos : Nat, pos ≤ s.size ∧ wr = w.iter s pos ∧ Hid (∀ j (hj : j < s.size), j < pos → okn s[j].toNat = true)) (fun _ wr => s.size - wr.iterPos w.heap.size)
    case atStart => exact ⟨0, Nat.zero_le _, rfl, fun _ _ h => by omega⟩
    case round =>
      obtain ⟨pos, hpos, rfl, hno⟩ := hrel
      by_cases hp : pos < s.size
      · obtain ⟨r, wd, hr1, hr2, hr3, hr4⟩ := rune_okn s pos hp
        have hnx : ∀ ty, (Instr.next (.pointer (some ⟨w.heap.size, 0, none⟩)) true ty).run Tryz.prog (w.iter s pos) = .ok (.tuple #[.bool true, .int .i64 pos, .int .i32 r]) (w.iter s (pos + wd)) := fun ty => by
          rw [run_next_any w s pos ty hp, hr1, hr2]
        clear hr1 hr2
        have H3 : Hid _ := hr3
        have H4 : Hid _ := hr4
        clear hr3 hr4
        cases hok : okn r
        · have hnb := name_bad hp (by rw [← H3.out]; exact hok)
          have HN : Hid _ := hnb
          clear hnb
          go_wp2_with (go_at_call 108; refine (okn_any _ _).mono ?_; rintro e w1 ⟨rfl, rfl⟩; rw [hok])
          rw [HN.out]
          go_ret
          exact ⟨rfl, (Below.refl _ w).alloc (Nat.le_refl _) _⟩
        · have hw1 := H4.out hok
          subst hw1
          go_wp2_with (go_at_call 108; refine (okn_any _ _).mono ?_; rintro e w1 ⟨rfl, rfl⟩; rw [hok])
          go_roundw
          case rel => exact ⟨pos + 1, by omega, rfl, fun j hj hjp => by
            by_cases e : j = pos
            · subst e; rw [← H3.out]; exact hok
            · exact hno.out j hj (by omega)⟩
          case measure => simp; omega
      · have hnx : ∀ ty, (Instr.next (.pointer (some ⟨w.heap.size, 0, none⟩)) true ty).run Tryz.prog (w.iter s pos) = .ok (.tuple #[.bool false]) (w.iter s pos) := fun ty => run_next_end w s pos ty hp
        have hnm := name_all hl (fun j hj => hno.out j hj (by omega))
        have HN : Hid _ := hnm
        clear hnm
        go_wp2
        rw [HN.out]
        go_ret
        exact ⟨rfl, (Below.refl _ w).alloc (Nat.le_refl _) _⟩
  · rw [name_short hl]
    by_cases h1 : s.size < 1
    · have d1 : decide ((s.size : Int) < 1) = true := by simp; omega
      go_enter Tryz.func75, Tryz.ntmps75
      go_wp2
      go_ret
      exact ⟨rfl, Below.refl _ _⟩
    · have d1 : decide ((s.size : Int) < 1) = false := by simp; omega
      have d2 : decide ((8 : Int) < (s.size : Int)) = true := by simp; omega
      go_enter Tryz.func75, Tryz.ntmps75
      go_wp2
      go_ret
      exact ⟨rfl, Below.refl _ _⟩
end Go.Proofs.YtigkkelaadbhcabGreat

namespace Go.Proofs.YtigkkelaadbhcabGreat
open Go.RowKit
def paV (si : Int) : Value := if si = -1 then .iface 90 (.agg #[]) else .iface 57 (.agg #[.int .i64 si])
theorem pa_w : paV (-1) = .iface 90 (.agg #[]) := rfl
theorem pa_g {si : Int} (h : ¬ si = -1) : paV si = .iface 57 (.agg #[.int .i64 si]) := if_neg h
set_option maxRecDepth 100000 in
set_option maxHeartbeats 4000000 in
theorem pace_any (nm at_ : ByteArray) (si st : Int) (o1 o2 : Option Addr) (n1 k1 n2 k2 : Nat) (w : World) :
    Calls Tryz.prog 21 #[.agg #[.string nm, .slice o1 n1 k1, .slice o2 n2 k2, .string at_, .int .i64 si, .int .i64 st]] w fun e w' => e = .returned (paV si) ∧ Below w.heap.size w w' := by
  by_cases h : si = -1
  · subst h
    rw [pa_w]
    go_enter Tryz.func21, Tryz.ntmps21
    go_wp2
    go_ret
    exact ⟨rfl, (Below.refl _ _).alloc (Nat.le_refl _) _⟩
  · have hb : (si == -1) = false := by simpa using h
    rw [pa_g h]
    go_enter Tryz.func21, Tryz.ntmps21
    go_wp2
    go_ret
    exact ⟨rfl, (Below.refl _ _).alloc (Nat.le_refl _) _⟩
set_option maxRecDepth 100000 in
set_option maxHeartbeats 4000000 in
theorem fitsW_any (wi : Int) (w : World) : Calls Tryz.prog 233 #[.agg #[], .int .i64 wi] w fun e w' => e = .returned (.bool true) ∧ Below w.heap.size w w' := by
  go_enter Tryz.func233, Tryz.ntmps233
  go_wp2
  go_ret
  exact ⟨rfl, (Below.refl _ _).alloc (Nat.le_refl _) _⟩
set_option maxRecDepth 100000 in
set_option maxHeartbeats 4000000 in
theorem fitsG_any (si wi : Int) (w : World) : Calls Tryz.prog 231 #[.agg #[.int .i64 si], .int .i64 wi] w fun e w' => e = .returned (.bool (decide (0 ≤ si) && decide (si < wi))) ∧ Below w.heap.size w w' := by
  by_cases h : 0 ≤ si
  · go_enter Tryz.func231, Tryz.ntmps231
    go_wp2
    go_ret
    exact ⟨by simp [h], (Below.refl _ _).alloc (Nat.le_refl _) _⟩
  · go_enter Tryz.func231, Tryz.ntmps231
    go_wp2
    go_ret
    exact ⟨by simp; omega, (Below.refl _ _).alloc (Nat.le_refl _) _⟩
set_option maxRecDepth 100000 in
set_option maxHeartbeats 4000000 in
theorem isSlot_any (a t x : ByteArray) (w : World) (hz : t.size ≤ maxLen) : Calls Tryz.prog 144 #[.agg #[.string a, .string t], .string x] w fun e w' => e = .returned (.bool (eqB a x && nameB t)) ∧ Below w.heap.size w w' := by
  have HZ : Hid (t.size ≤ maxLen) := hz
  clear hz
  cases c : (a.toList == x.toList)
  · have e : (eqB a x && nameB t) = false := by simp [eqB, c]
    rw [e]
    go_enter Tryz.func144, Tryz.ntmps144
    go_wp2
    go_ret
    exact ⟨rfl, (Below.refl _ _).alloc (Nat.le_refl _) _⟩
  · have e : (eqB a x && nameB t) = nameB t := by simp [eqB, c]
    rw [e]
    go_enter Tryz.func144, Tryz.ntmps144
    go_wp2_with fail
    refine (nameI_any t _ HZ.out).mono ?_; rintro e w1 ⟨rfl, hb⟩
    have HB : Hid _ := hb
    clear hb
    go_wp2_with fail
    go_ret
    exact ⟨rfl, ((Below.refl _ _).alloc (Nat.le_refl _) _).trans (HB.out.mono (by simp))⟩
noncomputable def eqPB (L : List ByteArray) (sl : List DRunSlot) : Bool := @decide (EqP L sl) (Classical.propDecidable _)
theorem eqp_yes {L : List ByteArray} {sl : List DRunSlot} (h : EqP L sl) : eqPB L sl = true := by unfold eqPB; exact @decide_eq_true _ (Classical.propDecidable _) h
theorem eqp_no {L : List ByteArray} {sl : List DRunSlot} (h : ¬ EqP L sl) : eqPB L sl = false := by unfold eqPB; exact @decide_eq_false _ (Classical.propDecidable _) h
theorem eqp_iff {L : List ByteArray} {sl : List DRunSlot} : eqPB L sl = true ↔ EqP L sl := by unfold eqPB; exact @decide_eq_true_iff _ (Classical.propDecidable _)
set_option maxRecDepth 100000 in
set_option maxHeartbeats 8000000 in
theorem eqf_any (S S' : Nat → Prop) (sl : List DRunSlot) (L : List ByteArray) (v vL : Value) (w : World) (h : AtL S w sl v) (hL : AtL S' w L vL) (hS : ∀ b, S b → b < w.heap.size) (hS' : ∀ b, S' b → b < w.heap.size) :
    Calls Tryz.prog 145 #[v, vL, .func (.func 144) #[] #[]] w fun e w' => e = .returned (.bool (eqPB L sl)) ∧ Below w.heap.size w w' := by
  obtain ⟨oa, cap, rfl, hn, hc⟩ := h
  obtain ⟨ob, capb, rfl, hnb, hcb⟩ := hL
  obtain ⟨n, en⟩ : ∃ n, sl.length = n := ⟨_, rfl⟩
  obtain ⟨m, em⟩ : ∃ m, L.length = m := ⟨_, rfl⟩
  rw [en] at hn
  rw [em] at hnb
  have hmx := hn.1
  have hmb := hnb.1
  unfold maxLen at hmx hmb
  have NAM : Hid (∀ i (hi : i < sl.length), ∃ b off, oa = some ⟨b, off, none⟩ ∧ b < w.heap.size ∧ w.cell? ⟨b, off + i * 2, none⟩ = some (.string sl[i].1) ∧ w.cell? ⟨b, off + i * 2 + 1, none⟩ = some (.string sl[i].2) ∧ sl[i].2.size ≤ maxLen) := fun i hi => by
    obtain ⟨b, off, eo, hbS, cc, hcell, hat⟩ := hc i hi
    rw [width_DRunSlot] at hcell
    rw [at_DRunSlot] at hat
    exact ⟨b, off, eo, hS b hbS, (hcell 0 (by omega) : w.cell? ⟨b, off + i * 2, none⟩ = some (cc 0)).trans (by rw [hat.1.1]), (hcell 1 (by omega)).trans (by rw [hat.2.1]), hat.2.2⟩
  have LAT : Hid (∀ i (hi : i < L.length), ∃ b off, ob = some ⟨b, off, none⟩ ∧ b < w.heap.size ∧ w.cell? ⟨b, off + i, none⟩ = some (.string (nthB L i))) := fun i hi => by
    obtain ⟨b, off, eo, hbS, cc, hcell, hat⟩ := hcb i hi
    have e0 := hcell 0 (by decide)
    rw [hat.1] at e0
    exact ⟨b, off, eo, hS' b hbS, by simpa [width_str, nth_is hi] using e0⟩
  have EN : Hid (sl.length ≤ n ∧ n ≤ sl.length) := ⟨by omega, by omega⟩
  have EM : Hid (L.length ≤ m ∧ m ≤ L.length) := ⟨by omega, by omega⟩
  rw [en, em]
  clear hn hnb hc hcb en em
  go_enter Tryz.func145, Tryz.ntmps145
  by_cases hlen : n = m
  case neg =>
    go_wp2_with fail
    go_ret
    rw [eqp_no (fun h => hlen (by have := h.1; have := EN.out; have := EM.out; omega))]
    exact ⟨rfl, Below.refl _ _⟩
  subst hlen
  go_wp2_with fail
  go_loopw [17] (fun i wr => ∃ k : Nat, k ≤ n ∧ i = .int .i64 k ∧ Hid (∀ j (hj : j < sl.length), j < k → eqB sl[j].1 (nthB L j) = true ∧ nameB sl[j].2 = true) ∧ Hid (Below w.heap.size w wr)) (fun i _ => n - (intOf i).toNat)
  case atStart => exact ⟨0, Nat.zero_le _, rfl, fun _ _ h => by omega, Below.refl _ _⟩
  case round =>
    obtain ⟨k, hk, rfl, hall, hbel⟩ := hrel
    have hs := hbel.out.size
    by_cases hlt : k < n
    case neg =>
      go_wp2_with fail
      go_ret
      rw [eqp_yes ⟨by have := EN.out; have := EM.out; omega, fun i hi => hall.out i hi (by have := EN.out; omega)⟩]
      exact ⟨rfl, hbel.out⟩
    have hks : k < sl.length := by have := EN.out; omega
    obtain ⟨b, off, rfl, hb, c0, c1, z1⟩ := NAM.out k hks
    obtain ⟨g, of2, rfl, hg, cg⟩ := LAT.out k (by have := EM.out; omega)
    obtain ⟨x, ex⟩ : ∃ x, sl[k].1 = x := ⟨_, rfl⟩
    obtain ⟨t, et⟩ : ∃ t, sl[k].2 = t := ⟨_, rfl⟩
    rw [ex] at c0
    rw [et] at c1 z1
    obtain ⟨y, ey⟩ : ∃ y, nthB L k = y := ⟨_, rfl⟩
    rw [ey] at cg
    have HZ : Hid (t.size ≤ maxLen) := z1
    obtain ⟨X, hX⟩ : ∃ X, X = wr.alloc (.cells #[.string x, .string t] 137) := ⟨_, rfl⟩
    have EX : Hid (X = wr.alloc (.cells #[.string x, .string t] 137)) := hX
    have BX : Hid (Below w.heap.size w X) := by rw [hX]; exact hbel.out.alloc hs _
    have r0 : X.cell? ⟨wr.heap.size, 0, none⟩ = some (.string x) := by rw [hX]; exact box_at _ _ (Below.refl _ _) 0 _ rfl
    have r1 : X.cell? ⟨wr.heap.size, 1, none⟩ = some (.string t) := by rw [hX]; exact box_at _ _ (Below.refl _ _) 1 _ rfl
    have e0 := (hbel.out.cell (p := ⟨b, off + k * 2, none⟩) hb).trans c0
    have e1 := (hbel.out.cell (p := ⟨b, off + k * 2 + 1, none⟩) hb).trans c1
    have eg := (BX.out.cell (p := ⟨g, of2 + k, none⟩) hg).trans cg
    have EQ : Hid (∀ R, (eqB x y && nameB t) = R → (eqB sl[k].1 (nthB L k) && nameB sl[k].2) = R) := fun R h => by rw [ex, et, ey]; exact h
    clear c0 c1 cg z1 hX ex et ey
    go_upto_region 6 with fail
    rw [← EX.out]
    cases c : (eqB x y && nameB t)
    · have HP : Hid (¬ EqP L sl) := fun h => by
        have h1 := h.2 k hks
        have := EQ.out _ c
        rw [h1.1, h1.2] at this
        cases this
      go_wp2_with fail
      refine (isSlot_any x t y _ HZ.out).mono ?_; rintro e u ⟨rfl, hb1⟩
      rw [c]
      have HB : Hid (Below w.heap.size w u) := BX.out.trans (hb1.mono BX.out.size)
      clear hb1
      go_wp2_with fail
      go_ret
      rw [eqp_no HP.out]
      exact ⟨rfl, HB.out⟩
    · have HP : Hid (eqB sl[k].1 (nthB L k) = true ∧ nameB sl[k].2 = true) := by
        have := EQ.out _ c
        rw [Bool.and_eq_true] at this
        exact this
      go_wp2_with fail
      refine (isSlot_any x t y _ HZ.out).mono ?_; rintro e u ⟨rfl, hb1⟩
      rw [c]
      have HB : Hid (Below w.heap.size w u) := BX.out.trans (hb1.mono BX.out.size)
      clear hb1
      go_wp2_with fail
      go_roundw
      case rel => exact ⟨k + 1, by omega, by go_num, fun j hj hjk => by
        by_cases e : j = k
        · subst e; exact HP.out
        · exact hall.out j hj (by omega), HB.out⟩
      case measure => simp [intOf]; omega
end Go.Proofs.YtigkkelaadbhcabGreat

namespace Go.Proofs.YtigkkelaadbhcabGreat
open Go.RowKit
structure KpO (own : World → Nat → Prop) (n₀ : Nat) (W W' : World) : Prop where
  size : W.heap.size ≤ W'.heap.size
  old : ∀ k, own W' k → own W k ∨ W.heap.size ≤ k
  low : ∀ k, k < n₀ → W'.heap[k]? = W.heap[k]?
  blk : ∀ (k : Nat) (c : Array Value) (t : TypeId) (z : Nat × Nat), W.heap[k]? = some (.cells c t z) → ¬ own W k → W'.heap[k]? = some (.cells c t z)
theorem KpO.refl (own : World → Nat → Prop) (n₀ : Nat) (W : World) : KpO own n₀ W W := ⟨Nat.le_refl _, fun _ h => .inl h, fun _ _ => rfl, fun _ _ _ _ h _ => h⟩
theorem KpO.trans {own : World → Nat → Prop} {n₀ : Nat} {A B C : World} (h : KpO own n₀ A B) (k : KpO own n₀ B C) : KpO own n₀ A C := by
  refine ⟨Nat.le_trans h.size k.size, fun i hi => ?_, fun i hi => (k.low i hi).trans (h.low i hi), fun i c t z hc ho => k.blk i c t z (h.blk i c t z hc ho) (fun hB => ?_)⟩
  · rcases k.old i hi with h1 | h1
    · exact h.old i h1
    · exact .inr (Nat.le_trans h.size h1)
  · rcases h.old i hB with h1 | h1
    · exact ho h1
    · exact absurd (Array.getElem?_eq_some_iff.1 hc).1 (by omega)
def OwnSt (own : World → Nat → Prop) (W : World) : Prop :=
  (∀ k, own W k → k < W.heap.size) ∧ ∀ W' row, W.grownBy W' row → (∀ r, row = some r → ∃ o : Obj, W.heap[r]? = some o ∧ o.isCells = false) → ∀ k, own W' k → own W k
theorem OwnSt.kp {own : World → Nat → Prop} {n₀ : Nat} {W W' : World} {row : Option Nat} (h : OwnSt own W) (hn : n₀ ≤ W.heap.size) (hg : W.grownBy W' row) (hr : ∀ r, row = some r → n₀ ≤ r ∧ ∃ o : Obj, W.heap[r]? = some o ∧ o.isCells = false) : KpO own n₀ W W' := by
  refine ⟨hg.size, fun k hk => .inl (h.2 W' row hg (fun r e => (hr r e).2) k hk), fun k hk => hg.block k (by omega) (fun e => by have := (hr k e.symm).1; omega), fun k c t z hc _ => (hg.block k (Array.getElem?_eq_some_iff.1 hc).1 (fun e => ?_)).trans hc⟩
  obtain ⟨o, ho, hn⟩ := (hr k e.symm).2
  rw [hc] at ho
  cases ho; cases hn
theorem keeps_put {w W : World} {l : Nat} (h : KeepsOthers w W) (hl : w.heap.size ≤ l) (o' : Obj) : KeepsOthers w (W.putObj l o') :=
  ⟨by have := h.size; simpa using this, fun k o hk ho => (World.putObj_heap_other (by have := (Array.getElem?_eq_some_iff.1 hk).1; omega)).trans (h.same k o hk ho)⟩
theorem from_put {W : World} {l B : Nat} (hl : l < B) (o' : Obj) : KeepsFrom B W (W.putObj l o') :=
  ⟨by simp, fun k o hk h0 _ => (World.putObj_heap_other (by omega)).trans h0⟩
theorem from_trans {A B C : World} {b : Nat} (h : KeepsFrom b A B) (k : KeepsFrom b B C) : KeepsFrom b A C :=
  ⟨Nat.le_trans h.size k.size, fun i o hi h0 ho => k.same i o hi (h.same i o hi h0 ho) ho⟩
def postO {α : Type} (own : World → Nat → Prop) (n₀ : Nat) (I : List α → World → Prop) (xs : List α) (W : World) : Exit → Act → World → Prop
  | .normal, _, W' => KeepsOthers W W' ∧ KpO own n₀ W W' ∧ I xs W'
  | _, _, _ => False
variable {F : Fence} {n : Nat} {P : Program}
end Go.Proofs.YtigkkelaadbhcabGreat

namespace Go.Proofs.YtigkkelaadbhcabGreat
open Go.RowKit
theorem below_grown0 {A C : World} (h : Below A.heap.size A C) : A.grownBy C none := ⟨h.os, h.tape, h.output, h.size, fun k hk _ => h.block k hk⟩
theorem keeps_below {A C : World} (h : Below A.heap.size A C) : KeepsOthers A C := ⟨h.size, fun k _ hk _ => (h.block k (Array.getElem?_eq_some_iff.1 hk).1).trans hk⟩
variable {F : Fence} {n : Nat} {P : Program}
end Go.Proofs.YtigkkelaadbhcabGreat
