/-
  Several texts in one.
-/
import Derived.Test.YtobchllaopdchabGreatM3
import Derived.Test.YtobchllaopdchabGreatM17
import Derived.Test.YtobchllaopdchabGreatM7
import Derived.Test.YtobchllaopdchabGreatM16
import Derived.Test.YtobchllaopdchabGreatZma
import Derived.Deep.Cut
namespace Go.Proofs.YtobchllaopdchabGreat
open Go.RowKit Go.Sort
section
variable {P : Program} {md : Region.Mode} {ops : Array Oper} {C : World → Prop} {n : Nat} {L : Array Bool → Act → World → Prop}
def bx (d : Nat) (o : Option Nat) (a : Act) : Act := match o with
  | none => a
  | some p => a.put (some d) (.pointer (some ⟨p, 0, none⟩))
theorem bx_put {d e : Nat} (h : e ≠ d) (o : Option Nat) (a : Act) (v : Value) : (bx d o a).put (some e) v = bx d o (a.put (some e) v) := by
  cases o with
  | none => rfl
  | some p => exact Act.put_comm a (x := some d) (y := some e) _ v (fun x hx => by cases hx; simpa using h)
def lexB (l : List Oper) (n : Nat) (ks : List Nat) (listed : Array Bool) : Bool :=
  Region.noSelect l.toArray && decide (n < l.length) && Region.sinkB .any l.toArray n && Region.chainB .any l.toArray n && invB l.toArray n listed && mixB .any l.toArray n ks listed
theorem lexT {Q : Exit → Act → World → Prop} {l : List Oper} {listed : Array Bool} {a : Act} {w : World} (g : Nat) (ks : List Nat) (hB : lexB l n ks listed = true) (hw : C w)
    (h : wpQuiet P l.toArray C (fun a' => anyC P .any l.toArray C n (tailC P Q l n) g (listAll ks listed) a' w) (ks.filterMap fun k => l[k]?) a) : anyC P .any l.toArray C n (tailC P Q l n) (ks.length + g) listed a w := by
  simp only [lexB, Bool.and_eq_true, decide_eq_true_eq] at hB
  obtain ⟨⟨⟨⟨⟨hsel, hn⟩, hs⟩, hc⟩, hi⟩, hm⟩ := hB
  exact anyC_lex hsel hs hc (by first | exact hn | (simp; done) | simpa using hn) (fun listed a w hL => seqB_ready hL.1) g w hw ks _ listed a (mix_ops ks _ hm) (inv_of hi) hm h
end
end Go.Proofs.YtobchllaopdchabGreat

namespace Go.Proofs.YtobchllaopdchabGreat
open Go.RowKit Go.Sort
noncomputable def owL (b : DRunBatch) : List ByteArray := if runB b = true then thL b.2.2.1 (ofL (phX b.2.1 b.2.2.2.1)) else []
theorem ow_len (b : DRunBatch) : (owL b).length ≤ 8192 := by
  unfold owL
  split
  · exact Nat.le_trans (thL_len _ _) (Nat.le_trans (of_len _) (by decide))
  · simp
set_option maxRecDepth 100000 in
set_option maxHeartbeats 8000000 in
theorem ownX_any (S : Nat → Prop) (nm : ByteArray) (r : List DRecPhase) (sl : List DRunSlot) (at_ : ByteArray) (si st : Int) (o1 o2 : Option Addr) (n1 k1 n2 k2 : Nat) (w : World) (hn : nm.size ≤ maxLen) (hr : AtL S w r (.slice o1 n1 k1)) (h : AtL S w sl (.slice o2 n2 k2)) (hS : ∀ b, S b → b < w.heap.size) :
    Calls Tryz.prog 43 #[.agg #[.string nm, .slice o1 n1 k1, .slice o2 n2 k2, .string at_, .int .i64 si, .int .i64 st]] w fun e w' => ∃ q, e = .returned q ∧ w'.ownsRow w.heap.size 9 1 q (owL (nm, r, sl, at_, si, st)).length ((owL (nm, r, sl, at_, si, st)).map .string) ∧ Below w.heap.size w w' := by
  have HN : Hid (nm.size ≤ maxLen) := hn
  obtain ⟨G, hG⟩ : ∃ G, G = owL (nm, r, sl, at_, si, st) := ⟨_, rfl⟩
  rw [← hG]
  have TG : Hid (G = if runB (nm, r, sl, at_, si, st) = true then thL sl (ofL (phX r at_)) else []) := hG
  clear hG
  obtain ⟨W, EW, BW, RW, sW⟩ := box_new w #[.string nm, .slice o1 n1 k1, .slice o2 n2 k2, .string at_, .int .i64 si, .int .i64 st] 50
  have BOX : Hid (∀ u, Below W.heap.size W u → u.heap[w.heap.size]? = some (.cells #[.string nm, .slice o1 n1 k1, .slice o2 n2 k2, .string at_, .int .i64 si, .int .i64 st] 50 (0, 0)) ∧ Below w.heap.size w u) := fun u hu => ⟨(hu.block _ (by omega)).trans RW.out, BW.out.trans (hu.mono (by omega))⟩
  have HR : Hid _ := hr.ups hS
  have HA : Hid _ := h.ups hS
  have HS : Hid _ := lt_up hS
  have h0 := fun u (hu : Below W.heap.size W u) => cell_row (BOX.out u hu).1
  have Y : Hid (∀ u, Below W.heap.size W u → u.cell? ⟨w.heap.size, 0, none⟩ = some (.string nm) ∧ u.cell? ⟨w.heap.size, 1, none⟩ = some (.slice o1 n1 k1) ∧ u.cell? ⟨w.heap.size, 2, none⟩ = some (.slice o2 n2 k2) ∧ u.cell? ⟨w.heap.size, 3, none⟩ = some (.string at_) ∧ u.cell? ⟨w.heap.size, 4, none⟩ = some (.int .i64 si) ∧ u.cell? ⟨w.heap.size, 5, none⟩ = some (.int .i64 st)) := fun u hu =>
    ⟨(h0 u hu 0 _ rfl).1, (h0 u hu 1 _ rfl).1, (h0 u hu 2 _ rfl).1, (h0 u hu 3 _ rfl).1, (h0 u hu 4 _ rfl).1, (h0 u hu 5 _ rfl).1⟩
  clear h0
  have PH : Hid (runB (nm, r, sl, at_, si, st) = true → ∃ (k : Nat), atI r at_ = (k : Int) ∧ k < n1 ∧ (phaseB (phX r at_) = true) ∧ ∃ b off, o1 = some ⟨b, off, none⟩ ∧ b < w.heap.size ∧ ∀ u, Below w.heap.size w u → u.cell? ⟨b, off + k * 8, none⟩ = some (.string (phX r at_).1) ∧ u.cell? ⟨b, off + k * 8 + 1, none⟩ = some (.int .i64 (phX r at_).2.1) ∧ u.cell? ⟨b, off + k * 8 + 2, none⟩ = some (.string (phX r at_).2.2.1) ∧ u.cell? ⟨b, off + k * 8 + 3, none⟩ = some (.string (phX r at_).2.2.2.1) ∧ u.cell? ⟨b, off + k * 8 + 4, none⟩ = some (.int .i64 (phX r at_).2.2.2.2.1) ∧ u.cell? ⟨b, off + k * 8 + 5, none⟩ = some (.int .i64 (phX r at_).2.2.2.2.2.1) ∧ u.cell? ⟨b, off + k * 8 + 6, none⟩ = some (.string (phX r at_).2.2.2.2.2.2.1) ∧ u.cell? ⟨b, off + k * 8 + 7, none⟩ = some (.string (phX r at_).2.2.2.2.2.2.2)) := fun hb => by
    have hR : RecP r := (run_rec hb).1
    have h0 : 0 ≤ atI r at_ := by
      unfold runB at hb
      simp only [Bool.and_eq_true, decide_eq_true_eq] at hb
      exact hb.1.2
    rcases at_cases r at_ with e | ⟨k', hk', e, _⟩
    · omega
    obtain ⟨oa, cap, ev, _, hc⟩ := id hr
    obtain ⟨b, off, eo, hbS, cc, hcell, hat⟩ := hc k' hk'
    rw [width_DRecPhase] at hcell
    rw [at_DRecPhase, ← ph_at hk' e] at hat
    obtain ⟨⟨q0, _⟩, ⟨q1, _, _⟩, ⟨q2, _⟩, ⟨q3, _⟩, ⟨q4, _, _⟩, ⟨q5, _, _⟩, ⟨q6, _⟩, ⟨q7, _⟩⟩ := hat
    cases ev
    have hbb := hS b hbS
    refine ⟨k', e, hk', by rw [ph_at hk' e]; exact (step_of hR hk').1, b, off, eo, hbb, fun u hu => ?_⟩
    rw [← q0, ← q1, ← q2, ← q3, ← q4, ← q5, ← q6, ← q7]
    exact ⟨(hu.cell hbb).trans (hcell 0 (by omega)), (hu.cell hbb).trans (hcell 1 (by omega)), (hu.cell hbb).trans (hcell 2 (by omega)), (hu.cell hbb).trans (hcell 3 (by omega)), (hu.cell hbb).trans (hcell 4 (by omega)), (hu.cell hbb).trans (hcell 5 (by omega)), (hu.cell hbb).trans (hcell 6 (by omega)), (hu.cell hbb).trans (hcell 7 (by omega))⟩
  clear h hr hS hn
  obtain ⟨y0, y1, y2, y3, y4, y5⟩ := Y.out W (Below.refl _ _)
  have szW := BW.out.size
  go_enter Tryz.func43, Tryz.ntmps43
  go_upto_region 1 with fail
  rw [← EW.out]
  go_wp2_with fail
  refine (runX_any S nm r sl at_ si st o1 o2 n1 k1 n2 k2 W HN.out (HR.out _ BW.out) (HA.out _ BW.out) (HS.out _ BW.out)).mono ?_; rintro e w1 ⟨rfl, hb1⟩
  have B1 : Hid (Below W.heap.size W w1) := hb1
  have BW1 : Hid (Below w.heap.size w w1) := (BOX.out w1 hb1).2
  clear y0 y1 y2 y3 y4 y5 hb1
  obtain ⟨y0, y1, y2, y3, y4, y5⟩ := Y.out w1 B1.out
  cases c : runB (nm, r, sl, at_, si, st)
  · rw [c] at TG
    obtain rfl : G = [] := TG.out
    clear y0 y1 y2 y3 y4 y5 szW
    go_wp2_with fail
    go_ret
    have sz := BW1.out.size
    exact ⟨_, rfl, own_nil sz, BW1.out.alloc sz _⟩
  rw [c, if_pos rfl] at TG
  obtain ⟨k, hk, hkn, _, b, off, rfl, hb, hx⟩ := PH.out c
  obtain ⟨x0, x1, x2, x3, x4, x5, x6, x7⟩ := hx w1 BW1.out
  obtain ⟨p, hp⟩ : ∃ p, p = phX r at_ := ⟨_, rfl⟩
  rw [← hp] at x0 x1 x2 x3 x4 x5 x6 x7 TG
  have hG : G = thL sl (ofL p) := TG.out
  obtain ⟨pn, kd, pa, pb, pc, wi, th, el⟩ := p
  simp only at x0 x1 x2 x3 x4 x5 x6 x7
  obtain ⟨L, hL⟩ : ∃ L, L = ofL (pn, kd, pa, pb, pc, wi, th, el) := ⟨_, rfl⟩
  rw [← hL] at hG
  have hll : L.length ≤ 2 := by rw [hL]; exact of_len _
  have HLL : Hid (L.length ≤ 2) := hll
  have CO : Hid (∀ u, Calls Tryz.prog 81 #[.agg #[.string pn, .int .i64 kd, .string pa, .string pb, .int .i64 pc, .int .i64 wi, .string th, .string el]] u fun e w' => ∃ g cap, e = .returned (.slice (some ⟨g, 0, none⟩) L.length cap) ∧ w'.ownsRow u.heap.size 9 1 (.slice (some ⟨g, 0, none⟩) L.length cap) L.length (L.map .string) ∧ Below u.heap.size u w') := fun u => by rw [hL]; exact ofX_any pn pa pb th el kd pc wi u
  have CA : Hid (∀ u, Below w.heap.size w u → Calls Tryz.prog 38 #[.slice (some ⟨b, off, none⟩) n1 k1, .string at_] u fun e w' => e = .returned (.int .i64 (k : Int)) ∧ w' = u) := fun u hu => by rw [← hk]; exact atX_any S r _ at_ u (HR.out u hu)
  subst hG
  have HDR : Hid (Below w1.heap.size w1 w1.drew) := (Below.refl _ _).drew
  have q0 := fun d os => cell_regrown y0 d os
  have q1 := fun d os => cell_regrown y1 d os
  have q2 := fun d os => cell_regrown y2 d os
  have q3 := fun d os => cell_regrown y3 d os
  have q4 := fun d os => cell_regrown y4 d os
  have q5 := fun d os => cell_regrown y5 d os
  have qx0 := fun d os => cell_regrown x0 d os
  have qx1 := fun d os => cell_regrown x1 d os
  have qx2 := fun d os => cell_regrown x2 d os
  have qx3 := fun d os => cell_regrown x3 d os
  have qx4 := fun d os => cell_regrown x4 d os
  have qx5 := fun d os => cell_regrown x5 d os
  have qx6 := fun d os => cell_regrown x6 d os
  have qx7 := fun d os => cell_regrown x7 d os
  clear hL hll TG hk hx hp y0 y1 y2 y3 y4 y5 x0 x1 x2 x3 x4 x5 x6 x7 szW
  go_wp2_with fail
  refine wp_region_mix 11 [0, 1, 2, 3, 4, 5, 6] (by kernel_rfl) (by kernel_rfl) ?_
  simp only [List.filterMap_cons, List.filterMap_nil, List.getElem?_cons_succ, List.getElem?_cons_zero]
  repeat (first | go_big_quiet_step (fail) | quiet_step (fail))
  refine wpQuiet_nil ?_
  have bdr : Hid (Below w.heap.size w w1.drew) := BW1.out.trans (HDR.out.mono BW1.out.size)
  refine call1 (md := .any) (f := 3) (i := 7) (dc := 14) (fn := 38) ⟨rfl, rfl, rfl, by decide⟩ (by kernel_rfl) ?run ((CA.out w1.drew bdr.out).mono ?_)
  case run => go_simp
  rintro e u ⟨rfl, rfl⟩
  refine ⟨_, rfl, regrown_of_below HDR.out, ?_⟩
  simp only [Act.put, List.setIfInBounds_toArray, List.set_cons_zero, List.set_cons_succ]
  refine lexT (g := 1) [8, 9] (by kernel_rfl) (regrown_of_below HDR.out) ?_
  simp only [List.filterMap_cons, List.filterMap_nil, List.getElem?_cons_succ, List.getElem?_cons_zero]
  repeat (first | go_big_quiet_step (fail) | quiet_step (fail))
  refine wpQuiet_nil ?_
  clear q0 q1 q2 q3 q4 q5 qx0 qx1 qx2 qx3 qx4 qx5 qx6 qx7
  refine call1 (md := .any) (f := 0) (i := 10) (dc := 17) (fn := 81) ⟨rfl, rfl, rfl, by decide⟩ (by kernel_rfl) ?run2 ((CO.out w1.drew).mono ?_)
  case run2 => go_simp
  rintro e u ⟨g, cap, rfl, ho, hb1⟩
  have C1 : Hid (Below w1.heap.size w1 u) := HDR.out.trans (hb1.mono HDR.out.size)
  have BU : Hid (Below w.heap.size w u) := BW1.out.trans (C1.out.mono BW1.out.size)
  have RD : Hid (RdB u (.slice (some ⟨g, 0, none⟩) L.length cap) L) := RdB.of ho
  refine ⟨_, rfl, regrown_of_below C1.out, ?_⟩
  clear hb1 ho
  refine ⟨by kernel_rfl, ?_⟩
  simp only [List.drop_succ_cons, List.drop_zero, Act.put, List.setIfInBounds_toArray, List.set_cons_zero, List.set_cons_succ]
  have s1 := BU.out.size
  go_wp2_with fail
  refine (thingsX_any S sl nm at_ si st _ o2 n1 k1 n2 k2 L _ u (HA.out _ BU.out) (HS.out _ BU.out) RD.out (by have := HLL.out; omega)).mono ?_; rintro e u2 ⟨g', cap', rfl, ho, hb2⟩
  have HO : Hid _ := ho
  have HB : Hid (Below w.heap.size w u2) := BU.out.trans (hb2.mono s1)
  clear ho hb2
  go_wp2_with fail
  go_ret
  exact ⟨_, rfl, own_leR HO.out s1, HB.out⟩
end Go.Proofs.YtobchllaopdchabGreat

namespace Go.Proofs.YtobchllaopdchabGreat
open Go.RowKit
theorem tg_len (b : DRunBatch) (x : ByteArray) : (tgL b x).length ≤ 8192 := by
  unfold tgL
  split
  · exact Nat.le_trans (thL_len _ _) (slt_small _ (Nat.le_refl _) _)
  · simp
end Go.Proofs.YtobchllaopdchabGreat

namespace Go.Proofs.YtobchllaopdchabGreat
open Go.RowKit Go.Sort
open Go.Sort in
theorem namesZ_q (S SA : Nat → Prop) (v va : Value) (l all : List ByteArray) (wr : World) (h : AtL S wr l v) (ha : AtL SA wr all va) (hS : ∀ b, S b → b < wr.heap.size) (hSA : ∀ b, SA b → b < wr.heap.size) (r : Bool) (hr : subB all l = r) (d : Nat) (os : Array Obj) : Calls Tryz.prog 110 #[v, va] (grow (redrawn wr d) os) fun e w'' => e = .returned (.bool r) ∧ ∃ p : Regrown, w'' = grow (redrawn wr p.d) p.os :=
  Calls.regrown_of ((namesZ_any S SA v va l all _ (h.same (Same.of_below (below_regrown wr d os) hS)) (ha.same (Same.of_below (below_regrown wr d os) hSA)) (fun b hb => Nat.lt_of_lt_of_le (hS b hb) (below_regrown wr d os).size) (fun b hb => Nat.lt_of_lt_of_le (hSA b hb) (below_regrown wr d os).size)).mono fun _ _ ⟨he, hw⟩ => ⟨by subst hr; exact he, hw⟩)
open Go.Sort in
theorem shareZ_q (S : Nat → Prop) (va vb : Value) (a b : List ByteArray) (wr : World) (ha : AtL S wr a va) (hb : AtL S wr b vb) (hS : ∀ b, S b → b < wr.heap.size) (r : Bool) (hr : shareB a b = r) (d : Nat) (os : Array Obj) : Calls Tryz.prog 111 #[va, vb] (grow (redrawn wr d) os) fun e w'' => e = .returned (.bool r) ∧ ∃ p : Regrown, w'' = grow (redrawn wr p.d) p.os :=
  Calls.regrown_of ((shareZ_any S va vb a b _ (ha.same (Same.of_below (below_regrown wr d os) hS)) (hb.same (Same.of_below (below_regrown wr d os) hS)) (fun b hb => Nat.lt_of_lt_of_le (hS b hb) (below_regrown wr d os).size)).mono fun _ _ ⟨he, hw⟩ => ⟨by subst hr; exact he, hw⟩)
noncomputable def batB (T : List ByteArray) (p : Option DShareBatch) (x : DShareBatch) : Bool := nameB x.1 && asO (fun a b : DShareBatch => ltB a.1 b.1) p x && subB T x.2.2 && subB x.2.2 x.2.1
structure RowP (D : DShareBook) (i : Nat) (hi : i < D.2.length) : Prop where
  bat : batB D.1 (prevO D.2 i) D.2[i] = true
  sha : ∀ k (hk : k < i), shareB D.2[i].2.1 (D.2[k]'(by omega)).2.1 = false
structure BokP (D : DShareBook) : Prop where
  things : okB 8 (tst nameB ltB) D.1 = true
  len : D.2.length ≤ 5
  row : ∀ i (hi : i < D.2.length), RowP D i hi
noncomputable def bokB (D : DShareBook) : Bool := @decide (BokP D) (Classical.propDecidable _)
theorem bok_yes {D : DShareBook} (h : BokP D) : bokB D = true := by unfold bokB; exact @decide_eq_true _ (Classical.propDecidable _) h
theorem bok_no {D : DShareBook} (h : ¬ BokP D) : bokB D = false := by unfold bokB; exact @decide_eq_false _ (Classical.propDecidable _) h
theorem bok_iff {D : DShareBook} : bokB D = true ↔ BokP D := by unfold bokB; exact @decide_eq_true_iff _ (Classical.propDecidable _)
set_option maxRecDepth 100000 in
set_option maxHeartbeats 16000000 in
theorem bookZ_any (S : Nat → Prop) (D : DShareBook) (v0 v1 : Value) (w : World) (h0 : AtL S w D.1 v0) (h1 : AtL S w D.2 v1) (hS : ∀ b, S b → b < w.heap.size) :
    Calls Tryz.prog 74 #[.agg #[v0, v1]] w fun e w' => e = .returned (.bool (bokB D)) ∧ Below w.heap.size w w' := by
  obtain ⟨o0, k0, rfl, _⟩ := id h0
  obtain ⟨oa, kb, rfl, hfit, hc⟩ := id h1
  have H0 : Hid _ := h0.ups hS
  have HL : Hid (∀ u, Below w.heap.size w u → ∀ (l : List ByteArray) (v : Value), AtL S w l v → AtL S u l v) := fun u hu l v h => h.same (Same.of_below hu hS)
  have HS : Hid _ := lt_up hS
  have HC : Hid _ := hc
  obtain ⟨T, Bs⟩ := D
  simp only at H0 HC hfit
  obtain ⟨n0, en0⟩ : ∃ n, T.length = n := ⟨_, rfl⟩
  obtain ⟨nb, enb⟩ : ∃ n, Bs.length = n := ⟨_, rfl⟩
  have ENB : Hid (Bs.length ≤ nb ∧ nb ≤ Bs.length) := ⟨by omega, by omega⟩
  simp only
  rw [en0] at H0
  rw [en0, enb]
  have hmx : nb ≤ maxLen := by rw [← enb]; exact hfit.1
  unfold maxLen at hmx
  clear h0 h1 hc hfit en0 enb
  obtain ⟨W, EW, BW, RW, sW⟩ := box_new w #[.slice o0 n0 k0, .slice oa nb kb] 34
  have BOX : Hid (∀ u, Below W.heap.size W u → u.heap[w.heap.size]? = some (.cells #[.slice o0 n0 k0, .slice oa nb kb] 34 (0, 0)) ∧ Below w.heap.size w u) := fun u hu => ⟨(hu.block _ (by omega)).trans RW.out, BW.out.trans (hu.mono (by omega))⟩
  go_enter Tryz.func74, Tryz.ntmps74
  go_wp2_with fail
  rw [← EW.out]
  refine (thingsZ_any S _ T W (H0.out W BW.out) (HS.out W BW.out)).mono ?_; rintro e u1 ⟨rfl, hb1⟩
  have B1 : Hid (Below W.heap.size W u1) := hb1
  clear hb1
  cases hT : okB 8 (tst nameB ltB) T
  · go_wp2_with fail
    go_ret
    rw [bok_no (fun h => by have := h.things; simp only at this; rw [hT] at this; cases this)]
    exact ⟨rfl, (BOX.out u1 B1.out).2⟩
  have y1 := (cell_row (BOX.out u1 B1.out).1 1 (.slice oa nb kb) rfl).1
  by_cases hlen : nb ≤ 5
  case neg =>
    have d5 : decide ((5 : Int) < (nb : Int)) = true := by simp; omega
    go_wp2_with fail
    go_ret
    rw [bok_no (fun h => by have := h.len; have := ENB.out; simp only at *; omega)]
    exact ⟨rfl, (BOX.out u1 B1.out).2⟩
  have d5 : decide ((5 : Int) < (nb : Int)) = false := by simp; omega
  go_wp2_with fail
  clear y1 d5
  go_loopw [3] (fun i wr => ∃ q : Nat, q ≤ nb ∧ i = .int .i64 q ∧ Hid (∀ j (hj : j < Bs.length), j < q → RowP (T, Bs) j hj) ∧ Hid (Below W.heap.size W wr)) (fun i _ => nb - (intOf i).toNat)
  case atStart => exact ⟨0, Nat.zero_le _, rfl, fun _ _ h => by omega, B1⟩
  case round =>
    obtain ⟨q, hq, rfl, hall, hbel⟩ := hrel
    have y1 := (cell_row (BOX.out wr hbel.out).1 1 (.slice oa nb kb) rfl).1
    by_cases hlt : q < nb
    case neg =>
      go_wp2_with fail
      go_ret
      rw [bok_yes ⟨hT, by have := ENB.out; simp only; omega, fun i hi => hall.out i hi (by have := ENB.out; simp only at hi; omega)⟩]
      exact ⟨rfl, (BOX.out wr hbel.out).2⟩
    have hqb : q < Bs.length := by have := ENB.out; omega
    obtain ⟨bb, off, rfl, hbS, cc, hcell, hat⟩ := HC.out q hqb
    have hbb := HS.out w (Below.refl _ _) bb hbS
    rw [width_DShareBatch] at hcell
    obtain ⟨f, ef⟩ : ∃ f, Bs[q] = f := ⟨_, rfl⟩
    rw [at_DShareBatch, ef] at hat
    obtain ⟨nm, has, needs⟩ := f
    obtain ⟨⟨t0, z0⟩, a1, a2⟩ := hat
    simp only at t0 z0 a1 a2
    obtain ⟨o1, k1, t1, _⟩ := id a1
    obtain ⟨o2, k2, t2, _⟩ := id a2
    rw [t1] at a1
    rw [t2] at a2
    obtain ⟨n1, en1⟩ : ∃ n, has.length = n := ⟨_, rfl⟩
    obtain ⟨n2, en2⟩ : ∃ n, needs.length = n := ⟨_, rfl⟩
    rw [en1] at a1 t1
    rw [en2] at a2 t2
    have sq := hbel.out.size
    have bwr := (BOX.out wr hbel.out).2
    have e0 : wr.cell? ⟨bb, off + q * 3, none⟩ = some (.string nm) := (bwr.cell (p := ⟨bb, off + q * 3, none⟩) hbb).trans ((by have hq := hcell 0 (by omega); first | exact hq | simpa using hq : w.cell? ⟨bb, off + q * 3, none⟩ = some (cc 0)).trans (by rw [t0]))
    have e1 : wr.cell? ⟨bb, off + q * 3 + 1, none⟩ = some (.slice o1 n1 k1) := (bwr.cell (p := ⟨bb, off + q * 3 + 1, none⟩) hbb).trans ((hcell 1 (by omega)).trans (by rw [t1]))
    have e2 : wr.cell? ⟨bb, off + q * 3 + 2, none⟩ = some (.slice o2 n2 k2) := (bwr.cell (p := ⟨bb, off + q * 3 + 2, none⟩) hbb).trans ((hcell 2 (by omega)).trans (by rw [t2]))
    have A1 : Hid (AtL S w has (.slice o1 n1 k1)) := a1
    have A2 : Hid (AtL S w needs (.slice o2 n2 k2)) := a2
    have NAM : Hid (∀ (i : Nat) (hi : i < Bs.length), ∃ hv, w.cell? ⟨bb, off + i * 3, none⟩ = some (.string Bs[i].1) ∧ w.cell? ⟨bb, off + i * 3 + 1, none⟩ = some hv ∧ AtL S w Bs[i].2.1 hv) := fun i hi => by
      obtain ⟨b', off', e', _, dd, hcl, hat'⟩ := HC.out i hi
      cases e'
      rw [width_DShareBatch] at hcl
      rw [at_DShareBatch] at hat'
      exact ⟨dd 1, (by have hq := hcl 0 (by omega); first | exact hq | simpa using hq : w.cell? ⟨bb, off + i * 3, none⟩ = some (dd 0)).trans (by rw [hat'.1.1]), hcl 1 (by omega), hat'.2.1⟩
    clear hcell a1 a2 t0 t1 t2 en1 en2
    obtain ⟨X, hX⟩ : ∃ X, X = wr.alloc (.cells #[.string nm, .slice o1 n1 k1, .slice o2 n2 k2] 82) := ⟨_, rfl⟩
    have EX : Hid (X = wr.alloc (.cells #[.string nm, .slice o1 n1 k1, .slice o2 n2 k2] 82)) := hX
    have BX : Hid (Below W.heap.size W X) := by rw [hX]; exact hbel.out.alloc (by omega) _
    have RX : Hid (X.heap[wr.heap.size]? = some (.cells #[.string nm, .slice o1 n1 k1, .slice o2 n2 k2] 82 (0, 0))) := by rw [hX]; exact heap_alloc_new wr _
    have sX : wr.heap.size + 1 ≤ X.heap.size := by rw [hX]; simp
    clear hX
    go_upto_region 7 with fail
    rw [← EX.out]
    clear e0 e1 e2 y1
    have bX := (BOX.out X BX.out).2
    have rX := (BOX.out X BX.out).1
    have qy0 := fun d os => cell_regrown (cell_row rX 0 (.slice o0 n0 k0) rfl).1 d os
    have qy1 := fun d os => cell_regrown (cell_row rX 1 (.slice (some ⟨bb, off, none⟩) nb kb) rfl).1 d os
    have qn0 := fun d os => cell_regrown (cell_row RX.out 0 (.string nm) rfl).1 d os
    have qn1 := fun d os => cell_regrown (cell_row RX.out 1 (.slice o1 n1 k1) rfl).1 d os
    have qn2 := fun d os => cell_regrown (cell_row RX.out 2 (.slice o2 n2 k2) rfl).1 d os
    have AX1 : Hid (AtL S X has (.slice o1 n1 k1)) := HL.out X bX _ _ A1.out
    have AX2 : Hid (AtL S X needs (.slice o2 n2 k2)) := HL.out X bX _ _ A2.out
    have AX0 : Hid (AtL S X T (.slice o0 n0 k0)) := H0.out X bX
    have SX : Hid (∀ b, S b → b < X.heap.size) := HS.out X bX
    have HZ : Hid (nm.size ≤ maxLen) := z0
    clear z0
    rcases Nat.eq_zero_or_pos q with rfl | hpos
    · cases c0 : nameB nm
      · go_wp2
        refine wp_region_quiet_below (by kernel_rfl) (by kernel_rfl) ?_
        repeat (first | go_big_quiet_step (first | (with_reducible exact nameZ_q _ _ HZ.out _ c0 _ _)) | quiet_step (first | (with_reducible exact nameZ_q _ _ HZ.out _ c0 _ _)))
        refine wpQuiet_nil ?_
        intro _ hw'
        obtain ⟨⟨dq, osq⟩, hw''⟩ := hw'
        subst hw''
        go_wp2
        go_ret
        rw [bok_no (fun h => by
          have hb := (h.row 0 (by simp only; omega)).bat
          simp only at hb
          rw [prev_zero Bs, ef] at hb
          simp [batB, asO, c0] at hb)]
        exact ⟨rfl, bX.trans ((below_regrown _ dq osq).mono bX.size)⟩
      cases c2 : subB T needs
      · go_wp2
        refine wp_region_quiet_below (by kernel_rfl) (by kernel_rfl) ?_
        repeat (first | go_big_quiet_step (first | (with_reducible exact nameZ_q _ _ HZ.out _ c0 _ _) | (with_reducible exact namesZ_q S S _ _ needs T _ AX2.out AX0.out SX.out SX.out _ c2 _ _)) | quiet_step (first | (with_reducible exact nameZ_q _ _ HZ.out _ c0 _ _) | (with_reducible exact namesZ_q S S _ _ needs T _ AX2.out AX0.out SX.out SX.out _ c2 _ _)))
        refine wpQuiet_nil ?_
        intro _ hw'
        obtain ⟨⟨dq, osq⟩, hw''⟩ := hw'
        subst hw''
        go_wp2
        go_ret
        rw [bok_no (fun h => by
          have hb := (h.row 0 (by simp only; omega)).bat
          simp only at hb
          rw [prev_zero Bs, ef] at hb
          simp [batB, asO, c0, c2] at hb)]
        exact ⟨rfl, bX.trans ((below_regrown _ dq osq).mono bX.size)⟩
      cases c3 : subB needs has
      · go_wp2
        refine wp_region_quiet_below (by kernel_rfl) (by kernel_rfl) ?_
        repeat (first | go_big_quiet_step (first | (with_reducible exact nameZ_q _ _ HZ.out _ c0 _ _) | (with_reducible exact namesZ_q S S _ _ needs T _ AX2.out AX0.out SX.out SX.out _ c2 _ _) | (with_reducible exact namesZ_q S S _ _ has needs _ AX1.out AX2.out SX.out SX.out _ c3 _ _)) | quiet_step (first | (with_reducible exact nameZ_q _ _ HZ.out _ c0 _ _) | (with_reducible exact namesZ_q S S _ _ needs T _ AX2.out AX0.out SX.out SX.out _ c2 _ _) | (with_reducible exact namesZ_q S S _ _ has needs _ AX1.out AX2.out SX.out SX.out _ c3 _ _)))
        refine wpQuiet_nil ?_
        intro _ hw'
        obtain ⟨⟨dq, osq⟩, hw''⟩ := hw'
        subst hw''
        go_wp2
        go_ret
        rw [bok_no (fun h => by
          have hb := (h.row 0 (by simp only; omega)).bat
          simp only at hb
          rw [prev_zero Bs, ef] at hb
          simp [batB, asO, c0, c2, c3] at hb)]
        exact ⟨rfl, bX.trans ((below_regrown _ dq osq).mono bX.size)⟩
      have hbat : batB T (prevO Bs 0) (Bs[0]'hqb) = true := by
        rw [prev_zero Bs, ef]
        simp [batB, asO, c0, c2, c3]
      go_wp2
      refine wp_region_quiet_below (by kernel_rfl) (by kernel_rfl) ?_
      repeat (first | go_big_quiet_step (first | (with_reducible exact nameZ_q _ _ HZ.out _ c0 _ _) | (with_reducible exact namesZ_q S S _ _ needs T _ AX2.out AX0.out SX.out SX.out _ c2 _ _) | (with_reducible exact namesZ_q S S _ _ has needs _ AX1.out AX2.out SX.out SX.out _ c3 _ _)) | quiet_step (first | (with_reducible exact nameZ_q _ _ HZ.out _ c0 _ _) | (with_reducible exact namesZ_q S S _ _ needs T _ AX2.out AX0.out SX.out SX.out _ c2 _ _) | (with_reducible exact namesZ_q S S _ _ has needs _ AX1.out AX2.out SX.out SX.out _ c3 _ _)))
      refine wpQuiet_nil ?_
      intro _ hw'
      obtain ⟨⟨dq, osq⟩, hw''⟩ := hw'
      subst hw''
      have BY : Hid (Below X.heap.size X (grow (redrawn X dq) osq)) := below_regrown X dq osq
      obtain ⟨Y, hY⟩ : ∃ Y, Y = grow (redrawn X dq) osq := ⟨_, rfl⟩
      rw [← hY] at BY ⊢
      clear hY qy0 qy1 qn0 qn1 qn2
      have HBAT : Hid _ := hbat
      clear hbat
      obtain ⟨gx, hgx⟩ : ∃ g, g = wr.heap.size := ⟨_, rfl⟩
      rw [← hgx] at RX sX
      go_wp2
      rw [← hgx]
      clear hgx
      go_loopw [5] (fun i wr => ∃ j : Nat, j ≤ 0 ∧ i = .int .i64 j ∧ Hid (∀ k (hk : k < Bs.length), k < j → shareB has Bs[k].2.1 = false) ∧ Hid (Below X.heap.size X wr)) (fun i _ => 0 - (intOf i).toNat)
      case atStart => exact ⟨0, Nat.zero_le _, rfl, fun _ _ h => by omega, BY⟩
      case round =>
        obtain ⟨j, hj, rfl, hno, hbk⟩ := hrel
        have sk := hbk.out.size
        have BWk : Below W.heap.size W wr := BX.out.trans (hbk.out.mono BX.out.size)
        by_cases hjq : j < 0
        case neg =>
          obtain rfl : j = 0 := by omega
          go_wp2
          go_roundw
          case rel =>
            refine ⟨0 + 1, by omega, by go_num, fun i hi hiq => ?_, BWk⟩
            by_cases e : i = 0
            · subst e
              exact ⟨HBAT.out, fun k hk => by have := hno.out k (by omega) hk; simp only; rw [ef]; exact this⟩
            · exact hall.out i hi (by omega)
          case measure => simp [intOf]; omega
        exact absurd hjq (by omega)
    · obtain ⟨m, rfl⟩ : ∃ m, q = m + 1 := ⟨q - 1, by omega⟩
      obtain ⟨g, eg⟩ : ∃ g, (Bs[m]'(by omega)) = g := ⟨_, rfl⟩
      obtain ⟨_, hg0, _, _⟩ := NAM.out m (by omega)
      rw [eg] at hg0
      have qm0 := fun d os => cell_regrown ((bX.cell (p := ⟨bb, off + m * 3, none⟩) hbb).trans hg0) d os
      have gt0 : decide ((0 : Int) < ((m : Int) + 1)) = true := by rw [decide_eq_true_eq]; omega
      cases c0 : nameB nm
      · go_wp2
        refine wp_region_quiet_below (by kernel_rfl) (by kernel_rfl) ?_
        repeat (first | go_big_quiet_step (first | (with_reducible exact nameZ_q _ _ HZ.out _ c0 _ _)) | quiet_step (first | (with_reducible exact nameZ_q _ _ HZ.out _ c0 _ _)))
        refine wpQuiet_nil ?_
        intro _ hw'
        obtain ⟨⟨dq, osq⟩, hw''⟩ := hw'
        subst hw''
        go_wp2
        go_ret
        rw [bok_no (fun h => by
          have hb := (h.row (m + 1) (by simp only; omega)).bat
          simp only at hb
          rw [prev_succ Bs m (by omega), eg, ef] at hb
          simp [batB, asO, c0] at hb)]
        exact ⟨rfl, bX.trans ((below_regrown _ dq osq).mono bX.size)⟩
      cases c1 : ltB g.1 nm
      · have c1' : (Op.bytesLess g.1.toList nm.toList) = false := c1
        go_wp2
        refine wp_region_quiet_below (by kernel_rfl) (by kernel_rfl) ?_
        repeat (first | go_big_quiet_step (first | (with_reducible exact nameZ_q _ _ HZ.out _ c0 _ _)) | quiet_step (first | (with_reducible exact nameZ_q _ _ HZ.out _ c0 _ _)))
        refine wpQuiet_nil ?_
        intro _ hw'
        obtain ⟨⟨dq, osq⟩, hw''⟩ := hw'
        subst hw''
        go_wp2
        go_ret
        rw [bok_no (fun h => by
          have hb := (h.row (m + 1) (by simp only; omega)).bat
          simp only at hb
          rw [prev_succ Bs m (by omega), eg, ef] at hb
          simp [batB, asO, c0, c1] at hb)]
        exact ⟨rfl, bX.trans ((below_regrown _ dq osq).mono bX.size)⟩
      have c1' : (Op.bytesLess g.1.toList nm.toList) = true := c1
      cases c2 : subB T needs
      · go_wp2
        refine wp_region_quiet_below (by kernel_rfl) (by kernel_rfl) ?_
        repeat (first | go_big_quiet_step (first | (with_reducible exact nameZ_q _ _ HZ.out _ c0 _ _) | (with_reducible exact namesZ_q S S _ _ needs T _ AX2.out AX0.out SX.out SX.out _ c2 _ _)) | quiet_step (first | (with_reducible exact nameZ_q _ _ HZ.out _ c0 _ _) | (with_reducible exact namesZ_q S S _ _ needs T _ AX2.out AX0.out SX.out SX.out _ c2 _ _)))
        refine wpQuiet_nil ?_
        intro _ hw'
        obtain ⟨⟨dq, osq⟩, hw''⟩ := hw'
        subst hw''
        go_wp2
        go_ret
        rw [bok_no (fun h => by
          have hb := (h.row (m + 1) (by simp only; omega)).bat
          simp only at hb
          rw [prev_succ Bs m (by omega), eg, ef] at hb
          simp [batB, asO, c0, c1, c2] at hb)]
        exact ⟨rfl, bX.trans ((below_regrown _ dq osq).mono bX.size)⟩
      cases c3 : subB needs has
      · go_wp2
        refine wp_region_quiet_below (by kernel_rfl) (by kernel_rfl) ?_
        repeat (first | go_big_quiet_step (first | (with_reducible exact nameZ_q _ _ HZ.out _ c0 _ _) | (with_reducible exact namesZ_q S S _ _ needs T _ AX2.out AX0.out SX.out SX.out _ c2 _ _) | (with_reducible exact namesZ_q S S _ _ has needs _ AX1.out AX2.out SX.out SX.out _ c3 _ _)) | quiet_step (first | (with_reducible exact nameZ_q _ _ HZ.out _ c0 _ _) | (with_reducible exact namesZ_q S S _ _ needs T _ AX2.out AX0.out SX.out SX.out _ c2 _ _) | (with_reducible exact namesZ_q S S _ _ has needs _ AX1.out AX2.out SX.out SX.out _ c3 _ _)))
        refine wpQuiet_nil ?_
        intro _ hw'
        obtain ⟨⟨dq, osq⟩, hw''⟩ := hw'
        subst hw''
        go_wp2
        go_ret
        rw [bok_no (fun h => by
          have hb := (h.row (m + 1) (by simp only; omega)).bat
          simp only at hb
          rw [prev_succ Bs m (by omega), eg, ef] at hb
          simp [batB, asO, c0, c1, c2, c3] at hb)]
        exact ⟨rfl, bX.trans ((below_regrown _ dq osq).mono bX.size)⟩
      have hbat : batB T (prevO Bs (m + 1)) (Bs[m + 1]'hqb) = true := by
        rw [prev_succ Bs m (by omega), eg, ef]
        simp [batB, asO, c0, c1, c2, c3]
      go_wp2
      refine wp_region_quiet_below (by kernel_rfl) (by kernel_rfl) ?_
      repeat (first | go_big_quiet_step (first | (with_reducible exact nameZ_q _ _ HZ.out _ c0 _ _) | (with_reducible exact namesZ_q S S _ _ needs T _ AX2.out AX0.out SX.out SX.out _ c2 _ _) | (with_reducible exact namesZ_q S S _ _ has needs _ AX1.out AX2.out SX.out SX.out _ c3 _ _)) | quiet_step (first | (with_reducible exact nameZ_q _ _ HZ.out _ c0 _ _) | (with_reducible exact namesZ_q S S _ _ needs T _ AX2.out AX0.out SX.out SX.out _ c2 _ _) | (with_reducible exact namesZ_q S S _ _ has needs _ AX1.out AX2.out SX.out SX.out _ c3 _ _)))
      refine wpQuiet_nil ?_
      intro _ hw'
      obtain ⟨⟨dq, osq⟩, hw''⟩ := hw'
      subst hw''
      have BY : Hid (Below X.heap.size X (grow (redrawn X dq) osq)) := below_regrown X dq osq
      obtain ⟨Y, hY⟩ : ∃ Y, Y = grow (redrawn X dq) osq := ⟨_, rfl⟩
      rw [← hY] at BY ⊢
      clear hY qy0 qy1 qn0 qn1 qn2
      have HBAT : Hid _ := hbat
      clear hbat
      obtain ⟨gx, hgx⟩ : ∃ g, g = wr.heap.size := ⟨_, rfl⟩
      rw [← hgx] at RX sX
      go_wp2
      rw [← hgx]
      clear hgx
      go_loopw [5] (fun i wr => ∃ j : Nat, j ≤ m + 1 ∧ i = .int .i64 j ∧ Hid (∀ k (hk : k < Bs.length), k < j → shareB has Bs[k].2.1 = false) ∧ Hid (Below X.heap.size X wr)) (fun i _ => m + 1 - (intOf i).toNat)
      case atStart => exact ⟨0, Nat.zero_le _, rfl, fun _ _ h => by omega, BY⟩
      case round =>
        obtain ⟨j, hj, rfl, hno, hbk⟩ := hrel
        have sk := hbk.out.size
        have BWk : Below W.heap.size W wr := BX.out.trans (hbk.out.mono BX.out.size)
        by_cases hjq : j < m + 1
        case neg =>
          obtain rfl : j = m + 1 := by omega
          go_wp2
          go_roundw
          case rel =>
            refine ⟨m + 1 + 1, by omega, by go_num, fun i hi hiq => ?_, BWk⟩
            by_cases e : i = m + 1
            · subst e
              exact ⟨HBAT.out, fun k hk => by have := hno.out k (by omega) hk; simp only; rw [ef]; exact this⟩
            · exact hall.out i hi (by omega)
          case measure => simp [intOf]; omega
        obtain ⟨hv, _, h2, h3⟩ := NAM.out j (by omega)
        obtain ⟨o3, k3, t3, _⟩ := id h3
        rw [t3] at h2 h3
        obtain ⟨hasj, ehj⟩ : ∃ l, (Bs[j]'(by omega)).2.1 = l := ⟨_, rfl⟩
        rw [ehj] at h2 h3
        obtain ⟨n3, en3⟩ : ∃ n, hasj.length = n := ⟨_, rfl⟩
        rw [en3] at h2 h3
        clear en3 t3
        have bk := (BOX.out wr BWk).2
        have g1 := ((bk.cell (p := ⟨bb, off + j * 3 + 1, none⟩) hbb)).trans h2
        have qg1 := fun d os => cell_regrown g1 d os
        have qy1 := fun d os => cell_regrown (cell_row (BOX.out wr BWk).1 1 (.slice (some ⟨bb, off, none⟩) nb kb) rfl).1 d os
        have qn1 := fun d os => cell_regrown (cell_row ((hbk.out.block _ (by omega)).trans RX.out) 1 (.slice o1 n1 k1) rfl).1 d os
        have K1 : Hid (AtL S wr has (.slice o1 n1 k1)) := HL.out wr bk _ _ A1.out
        have K3 : Hid (AtL S wr hasj (.slice o3 n3 k3)) := HL.out wr bk _ _ h3
        have KS : Hid (∀ b, S b → b < wr.heap.size) := HS.out wr bk
        cases cs : shareB has hasj
        · go_wp2
          refine wp_region_quiet_below (by kernel_rfl) (by kernel_rfl) ?_
          repeat (first | go_big_quiet_step (with_reducible exact shareZ_q S _ _ has hasj _ K1.out K3.out KS.out _ cs _ _) | quiet_step (with_reducible exact shareZ_q S _ _ has hasj _ K1.out K3.out KS.out _ cs _ _))
          refine wpQuiet_nil ?_
          intro _ hw'
          obtain ⟨⟨dq, osq⟩, hw''⟩ := hw'
          subst hw''
          go_wp2
          go_roundw
          case rel => exact ⟨j + 1, by omega, by go_num, fun k hk hkj => by
            by_cases e : k = j
            · subst e; rw [ehj]; exact cs
            · exact hno.out k hk (by omega), hbk.out.trans ((below_regrown _ dq osq).mono sk)⟩
          case measure => simp [intOf]; omega
        · go_wp2
          refine wp_region_quiet_below (by kernel_rfl) (by kernel_rfl) ?_
          repeat (first | go_big_quiet_step (with_reducible exact shareZ_q S _ _ has hasj _ K1.out K3.out KS.out _ cs _ _) | quiet_step (with_reducible exact shareZ_q S _ _ has hasj _ K1.out K3.out KS.out _ cs _ _))
          refine wpQuiet_nil ?_
          intro _ hw'
          obtain ⟨⟨dq, osq⟩, hw''⟩ := hw'
          subst hw''
          go_wp2
          go_ret
          rw [bok_no (fun h => by
            have hb := (h.row (m + 1) (by simp only; omega)).sha j hjq
            simp only at hb
            rw [ef, ehj] at hb
            simp only at hb
            rw [cs] at hb; cases hb)]
          exact ⟨rfl, bk.trans ((below_regrown _ dq osq).mono bk.size)⟩
end Go.Proofs.YtobchllaopdchabGreat

namespace Go.Proofs.YtobchllaopdchabGreat
open Go.RowKit Go.Sort
theorem bat_at {S : Nat → Prop} {w : World} {Bs : List DShareBatch} {oa : Option Addr} {nb kb : Nat} (h : AtL S w Bs (.slice oa nb kb)) (i : Nat) (hi : i < Bs.length) :
    ∃ bb off o1 n1 k1 o2 n2 k2, oa = some ⟨bb, off, none⟩ ∧ S bb ∧ w.cell? ⟨bb, off + i * 3, none⟩ = some (.string Bs[i].1) ∧ w.cell? ⟨bb, off + i * 3 + 1, none⟩ = some (.slice o1 n1 k1) ∧ w.cell? ⟨bb, off + i * 3 + 2, none⟩ = some (.slice o2 n2 k2) ∧ AtL S w Bs[i].2.1 (.slice o1 n1 k1) ∧ AtL S w Bs[i].2.2 (.slice o2 n2 k2) ∧ Bs[i].1.size ≤ maxLen := by
  obtain ⟨oa', kb', e, _, hc⟩ := h
  cases e
  obtain ⟨bb, off, e, hS, cc, hcl, hat⟩ := hc i hi
  rw [width_DShareBatch] at hcl
  obtain ⟨⟨t0, z0⟩, a1, a2⟩ := at_DShareBatch.1 hat
  obtain ⟨o1, k1, t1, _⟩ := id a1
  obtain ⟨o2, k2, t2, _⟩ := id a2
  rw [t1] at a1
  rw [t2] at a2
  exact ⟨bb, off, o1, _, k1, o2, _, k2, e, hS, (by have hq := hcl 0 (by omega); first | exact hq | simpa using hq : w.cell? ⟨bb, off + i * 3, none⟩ = some (cc 0)).trans (by rw [t0]), (hcl 1 (by omega)).trans (by rw [t1]), (hcl 2 (by omega)).trans (by rw [t2]), a1, a2, z0⟩
def btN (Bs : List DShareBatch) (i : Nat) : DShareBatch := Bs[i]?.getD default
theorem btN_at {Bs : List DShareBatch} {i : Nat} (h : i < Bs.length) : btN Bs i = Bs[i] := by simp [btN, h]
def inWay (Bs : List DShareBatch) (a : Nat) (gone : List ByteArray) (i : Nat) : Bool := !(i == a) && !(hasB gone (btN Bs i).1) && shareB (btN Bs i).2.1 (btN Bs a).2.2
def canB (Bs : List DShareBatch) (a : Nat) (gone : List ByteArray) : Bool := !((List.range Bs.length).any (inWay Bs a gone))
theorem can_yes {Bs : List DShareBatch} {a : Nat} {gone : List ByteArray} (h : ∀ i, i < Bs.length → inWay Bs a gone i = false) : canB Bs a gone = true := by
  unfold canB
  rw [Bool.not_eq_true', List.any_eq_false]
  intro i hi
  rw [h i (List.mem_range.1 hi)]; simp
theorem can_no {Bs : List DShareBatch} {a i : Nat} {gone : List ByteArray} (hi : i < Bs.length) (h : inWay Bs a gone i = true) : canB Bs a gone = false := by
  unfold canB
  rw [Bool.not_eq_false', List.any_eq_true]
  exact ⟨i, List.mem_range.2 hi, h⟩
end Go.Proofs.YtobchllaopdchabGreat

namespace Go.Proofs.YtobchllaopdchabGreat
open Go.RowKit Go.Sort
def atZI (Bs : List DShareBatch) (x : ByteArray) : Int := idxI Bs (fun f => eqB f.1 x)
theorem at_lt {Bs : List DShareBatch} {x : ByteArray} (h : ¬ atZI Bs x < 0) : ∃ q : Nat, atZI Bs x = (q : Int) ∧ q < Bs.length := by
  unfold atZI idxI at h ⊢
  cases e : Bs.findIdx? (fun f => eqB f.1 x) with
  | none => rw [e] at h; simp at h
  | some i =>
    refine ⟨i, rfl, ?_⟩
    obtain ⟨h1, _⟩ := List.findIdx?_eq_some_iff_getElem.1 e
    exact h1
set_option maxRecDepth 100000 in
set_option maxHeartbeats 8000000 in
theorem atZ_any (S : Nat → Prop) (T : List ByteArray) (Bs : List DShareBatch) (o0 oa : Option Addr) (n0 k0 nb kb : Nat) (x : ByteArray) (w : World) (h0 : AtL S w T (.slice o0 n0 k0)) (h1 : AtL S w Bs (.slice oa nb kb)) (hS : ∀ b, S b → b < w.heap.size) :
    Calls Tryz.prog 39 #[.agg #[.slice o0 n0 k0, .slice oa nb kb], .string x] w fun e w' => e = .returned (.int .i64 (atZI Bs x)) ∧ Below w.heap.size w w' := by
  have enb : Bs.length = nb := by obtain ⟨_, _, e, _⟩ := h1; cases e; rfl
  have hmx : nb ≤ 9223372036854775807 := by obtain ⟨_, _, e, hf, _⟩ := id h1; cases e; have := hf.1; unfold maxLen at this; omega
  have ENB : Hid (Bs.length ≤ nb ∧ nb ≤ Bs.length) := ⟨by omega, by omega⟩
  have H0 : Hid _ := h0.ups hS
  have H1 : Hid _ := h1.ups hS
  have HS : Hid _ := lt_up hS
  obtain ⟨W, EW, BW, RW, sW⟩ := box_new w #[.slice o0 n0 k0, .slice oa nb kb] 34
  clear enb
  have BOX : Hid (∀ u, Below W.heap.size W u → u.heap[w.heap.size]? = some (.cells #[.slice o0 n0 k0, .slice oa nb kb] 34 (0, 0)) ∧ Below w.heap.size w u) := fun u hu => ⟨(hu.block _ (by omega)).trans RW.out, BW.out.trans (hu.mono (by omega))⟩
  go_enter Tryz.func39, Tryz.ntmps39
  go_wp2_with fail
  rw [← EW.out]
  go_loopw [5] (fun i wr => ∃ q : Nat, q ≤ nb ∧ i = .int .i64 q ∧ Hid (∀ j (hj : j < Bs.length), j < q → (fun f : DShareBatch => eqB f.1 x) Bs[j] = false) ∧ Hid (Below W.heap.size W wr)) (fun i _ => nb - (intOf i).toNat)
  case atStart => exact ⟨0, Nat.zero_le _, rfl, fun _ _ h => by omega, Below.refl _ _⟩
  case round =>
    obtain ⟨q, hq, rfl, hall, hbel⟩ := hrel
    have HB := hbel.out
    have bwr := (BOX.out wr HB).2
    have hsz := HB.size
    have y0 := (cell_row (BOX.out wr HB).1 0 (.slice o0 n0 k0) rfl).1
    have y1 := (cell_row (BOX.out wr HB).1 1 (.slice oa nb kb) rfl).1
    by_cases hlt : q < nb
    case neg =>
      go_wp2_with fail
      go_ret
      rw [show atZI Bs x = -1 from idx_no (fun i hi => hall.out i hi (by have := ENB.out; omega))]
      exact ⟨rfl, bwr⟩
    have hqb : q < Bs.length := by have := ENB.out; omega
    obtain ⟨bb, off, o1, n1, k1, o2, n2, k2, rfl, hbS, e0, _, _, _, _, _⟩ := bat_at (H1.out wr bwr) q hqb
    obtain ⟨f, ef⟩ : ∃ f, Bs[q] = f := ⟨_, rfl⟩
    rw [ef] at e0
    cases c0 : (f.1.toList == x.toList)
    · have hp : (fun f : DShareBatch => eqB f.1 x) Bs[q] = false := by rw [ef]; simp [eqB, c0]
      go_wp2_with fail
      go_roundw
      case rel => exact ⟨q + 1, by omega, by go_num, fun j hj hjq => by
        by_cases e : j = q
        · subst e; exact hp
        · exact hall.out j hj (by omega), HB⟩
      case measure => simp [intOf]; omega
    · have hp : (fun f : DShareBatch => eqB f.1 x) Bs[q] = true := by rw [ef]; simp [eqB, c0]
      go_wp2_with fail
      go_ret
      rw [show atZI Bs x = (q : Int) from idx_yes hqb hp (fun j hj hjq => hall.out j hj hjq)]
      exact ⟨rfl, bwr⟩
end Go.Proofs.YtobchllaopdchabGreat
