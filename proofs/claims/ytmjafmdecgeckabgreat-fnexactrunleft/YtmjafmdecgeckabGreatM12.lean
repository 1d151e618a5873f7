/-
  Several texts in one.
-/
import Derived.Test.YtmjafmdecgeckabGreatM3
import Derived.Test.YtmjafmdecgeckabGreatM11
import Derived.Test.YtmjafmdecgeckabGreatM8
import Derived.Test.YtmjafmdecgeckabGreatM10
import Derived.Test.YtmjafmdecgeckabGreatM4
import Derived.Test.YtmjafmdecgeckabGreatM1
import Derived.Lib.Bytealg
import Derived.Lib.Strings
import Derived.Deep.RegionWith
import Derived.Stop.Asserts
/-
  A law for a chain of calls beside a box that is made meanwhile, in a region that draws its order. No program is named here.
-/
namespace Go.Proofs.YtmjafmdecgeckabGreat
open Go.RowKit Go.Sort

section
variable {P : Program} {md : Region.Mode} {ops : Array Oper} {C : World → Prop} {n : Nat} {L : Array Bool → Act → World → Prop}

/-- The rest of a chain, the box made already. -/
theorem chain_done {g : Nat} (Φ : Nat → Act → World → Prop) :
    ∀ (is : List Nat) (k : Nat) (listed : Array Bool) (a : Act) (w : World), (∀ i ∈ is, i < n) → (∀ j (hj : j < is.length), Region.ready md ops (listAll (is.take j) listed) = [is[j]]) →
      (∀ j (hj : j < is.length) a w, Φ (k + j) a w → stepE P ops is[j] (fun a' w' => C w' ∧ Φ (k + j + 1) a' w') a w) →
      (∀ a w, Φ (k + is.length) a w → anyC P md ops C n L g (listAll is listed) a w) → Φ k a w → anyC P md ops C n L (is.length + g) listed a w
  | [], k, listed, a, w, _, _, _, he, h => by
    rw [List.length_nil, Nat.zero_add]
    exact he a w (by simpa using h)
  | i :: is, k, listed, a, w, hn, hr, hs, he, h => by
    rw [List.length_cons, show is.length + 1 + g = (is.length + g) + 1 by omega]
    have r0 : Region.ready md ops listed = [i] := hr 0 (Nat.succ_pos _)
    refine anyC_call i r0 (hn i (by simp)) ?_
    obtain ⟨o, ho, hg, fn, args, hrun, hc⟩ := hs 0 (by simp) a w (by simpa using h)
    refine ⟨o, ho, hg, fn, args, hrun, hc.mono fun e u ⟨v, hv, hC, hk⟩ => ⟨v, hv, hC, ?_⟩⟩
    refine chain_done Φ is (k + 1) _ _ _ (fun j hj => hn j (by simp [hj])) (fun j hj => ?_) (fun j hj a w h => ?_) (fun a w h => ?_) (by simpa using hk)
    · have := hr (j + 1) (by simpa using hj)
      simpa [listAll] using this
    · have := hs (j + 1) (by simpa using hj) a w (by rw [show k + (j + 1) = k + 1 + j by omega]; exact h)
      rw [show k + (j + 1) + 1 = k + 1 + j + 1 by omega] at this
      simpa using this
    · have := he a w (by rw [List.length_cons, show k + (is.length + 1) = k + 1 + is.length by omega]; exact h)
      simpa [listAll] using this

/-- The box that is made meanwhile. -/
theorem chain_box {g : Nat} (Φ : Option Nat → Nat → Act → World → Prop) (ia da : Nat) (oa : Oper) (z : Array Value) (t : TypeId) (ha : ops[ia]? = some oa ∧ oa.guard = none ∧ oa.dst = some da ∧ ia < n)
    (exa : ∀ (b : Act) (u : World), (execOp b.eval oa).run P u = .ok (.value (.pointer (some ⟨u.heap.size, 0, none⟩))) (u.alloc (.cells z t)))
    (hal : ∀ k a w, Φ none k a w → C (w.alloc (.cells z t)) ∧ Φ (some w.heap.size) k (a.put (some da) (.pointer (some ⟨w.heap.size, 0, none⟩))) (w.alloc (.cells z t))) :
    ∀ (is : List Nat) (k : Nat) (listed : Array Bool) (a : Act) (w : World), ia ∉ is → (∀ i ∈ is, i < n) →
      (∀ j (hj : j < is.length), Region.ready md ops (listAll (is.take j) listed) = [is[j], ia]) →
      (∀ j (hj : j < is.length), Region.ready md ops (listAll (is.take j) (listed.setIfInBounds ia true)) = [is[j]]) →
      (∀ o j (hj : j < is.length) a w, Φ o (k + j) a w → stepE P ops is[j] (fun a' w' => C w' ∧ Φ o (k + j + 1) a' w') a w) →
      (∀ a w, Φ none (k + is.length) a w → anyC P md ops C n L (g + 1) (listAll is listed) a w) →
      (∀ p a w, Φ (some p) (k + is.length) a w → anyC P md ops C n L g (listAll is (listed.setIfInBounds ia true)) a w) → Φ none k a w → anyC P md ops C n L (is.length + (g + 1)) listed a w
  | [], k, listed, a, w, _, _, _, _, _, he, _, h => by
    rw [List.length_nil, Nat.zero_add]
    exact he a w (by simpa using h)
  | i :: is, k, listed, a, w, hia, hn, hr, hr1, hs, he, he1, h => by
    rw [List.length_cons, show is.length + 1 + (g + 1) = (is.length + 1 + g) + 1 by omega]
    have r0 : Region.ready md ops listed = [i, ia] := hr 0 (Nat.succ_pos _)
    obtain ⟨ha1, ha2, ha3, ha4⟩ := ha
    refine ⟨by rw [r0]; simp, fun j hj => ?_⟩
    rw [r0] at hj
    simp only [List.mem_cons, List.not_mem_nil, or_false] at hj
    rcases hj with rfl | rfl
    · refine ⟨hn j (by simp), .inr ?_⟩
      obtain ⟨o, ho, hg, fn, args, hrun, hc⟩ := hs none 0 (by simp) a w (by simpa using h)
      refine ⟨o, ho, hg, fn, args, hrun, hc.mono fun e u ⟨v, hv, hC, hk⟩ => ⟨v, hv, hC, ?_⟩⟩
      rw [show is.length + 1 + g = is.length + (g + 1) by omega]
      simp only [List.mem_cons, not_or] at hia
      have cm : ∀ l : Array Bool, (l.setIfInBounds ia true).setIfInBounds j true = (l.setIfInBounds j true).setIfInBounds ia true := fun l => Array.setIfInBounds_comm _ _ hia.1
      refine chain_box Φ ia da oa z t ⟨ha1, ha2, ha3, ha4⟩ exa hal is (k + 1) _ _ _ hia.2 (fun j hj => hn j (by simp [hj])) (fun m hm => ?_) (fun m hm => ?_) (fun o m hm a w h => ?_) (fun a w h => ?_) (fun p a w h => ?_) (by simpa using hk)
      · have := hr (m + 1) (by simpa using hm)
        simpa [listAll] using this
      · have := hr1 (m + 1) (by simpa using hm)
        simpa [listAll, cm] using this
      · have := hs o (m + 1) (by simpa using hm) a w (by rw [show k + (m + 1) = k + 1 + m by omega]; exact h)
        rw [show k + (m + 1) + 1 = k + 1 + m + 1 by omega] at this
        simpa using this
      · have := he a w (by rw [List.length_cons, show k + (is.length + 1) = k + 1 + is.length by omega]; exact h)
        simpa [listAll] using this
      · have := he1 p a w (by rw [List.length_cons, show k + (is.length + 1) = k + 1 + is.length by omega]; exact h)
        simpa [listAll, cm] using this
    · obtain ⟨hC, hk⟩ := hal k a w h
      refine ⟨ha4, .inl ⟨oa, ha1, ha2, _, _, exa a w, hC, ?_⟩⟩
      rw [ha3]
      have := chain_done (g := g) (P := P) (md := md) (ops := ops) (C := C) (n := n) (L := L) (fun m => Φ (some w.heap.size) m) (i :: is) k (listed.setIfInBounds j true) _ _ hn hr1 (fun m hm a w h => hs _ m hm a w h) (fun a w h => he1 _ a w h) hk
      rwa [List.length_cons] at this

/-- A box that is made, or not yet. -/
def bx (d : Nat) (o : Option Nat) (a : Act) : Act := match o with
  | none => a
  | some p => a.put (some d) (.pointer (some ⟨p, 0, none⟩))
theorem bx_put {d e : Nat} (h : e ≠ d) (o : Option Nat) (a : Act) (v : Value) : (bx d o a).put (some e) v = bx d o (a.put (some e) v) := by
  cases o with
  | none => rfl
  | some p => exact Act.put_comm a (x := some d) (y := some e) _ v (fun x hx => by cases hx; simpa using h)

/-- The same, where the states are told from the first one on. -/
theorem chain_box0 {g : Nat} {listed : Array Bool} {a : Act} {w : World} (Φ : Act → Option Nat → Nat → Act → World → Prop) (is : List Nat) (ia da : Nat) (oa : Oper) (z : Array Value) (t : TypeId) (ha : ops[ia]? = some oa ∧ oa.guard = none ∧ oa.dst = some da ∧ ia < n) (hia : ia ∉ is) (hn : ∀ i ∈ is, i < n)
    (exa : ∀ (b : Act) (u : World), (execOp b.eval oa).run P u = .ok (.value (.pointer (some ⟨u.heap.size, 0, none⟩))) (u.alloc (.cells z t)))
    (hr : ∀ j (hj : j < is.length), Region.ready md ops (listAll (is.take j) listed) = [is[j], ia]) (hr1 : ∀ j (hj : j < is.length), Region.ready md ops (listAll (is.take j) (listed.setIfInBounds ia true)) = [is[j]])
    (hal : ∀ k b u, Φ a none k b u → C (u.alloc (.cells z t)) ∧ Φ a (some u.heap.size) k (b.put (some da) (.pointer (some ⟨u.heap.size, 0, none⟩))) (u.alloc (.cells z t)))
    (hs : ∀ o j (hj : j < is.length) b u, Φ a o j b u → stepE P ops is[j] (fun a' w' => C w' ∧ Φ a o (j + 1) a' w') b u)
    (h0 : Φ a none 0 a w)
    (he : ∀ b u, Φ a none is.length b u → anyC P md ops C n L (g + 1) (listAll is listed) b u)
    (he1 : ∀ p b u, Φ a (some p) is.length b u → anyC P md ops C n L g (listAll is (listed.setIfInBounds ia true)) b u) : anyC P md ops C n L (is.length + (g + 1)) listed a w :=
  chain_box (Φ a) ia da oa z t ha exa hal is 0 listed a w hia hn hr hr1 (fun o j hj b u h => by rw [Nat.zero_add] at h ⊢; exact hs o j hj b u h) (fun b u h => he b u (by rwa [Nat.zero_add] at h)) (fun p b u h => he1 p b u (by rwa [Nat.zero_add] at h)) h0

/-- Quiet ones may be taken first, behind calls too. -/
def lexB (l : List Oper) (n : Nat) (ks : List Nat) (listed : Array Bool) : Bool :=
  Region.noSelect l.toArray && decide (n < l.length) && Region.sinkB .any l.toArray n && Region.chainB .any l.toArray n && invB l.toArray n listed && mixB .any l.toArray n ks listed
theorem lexT {Q : Exit → Act → World → Prop} {l : List Oper} {listed : Array Bool} {a : Act} {w : World} (g : Nat) (ks : List Nat) (hB : lexB l n ks listed = true) (hw : C w)
    (h : wpQuiet P l.toArray C (fun a' => anyC P .any l.toArray C n (tailC P Q l n) g (listAll ks listed) a' w) (ks.filterMap fun k => l[k]?) a) : anyC P .any l.toArray C n (tailC P Q l n) (ks.length + g) listed a w := by
  simp only [lexB, Bool.and_eq_true, decide_eq_true_eq] at hB
  obtain ⟨⟨⟨⟨⟨hsel, hn⟩, hs⟩, hc⟩, hi⟩, hm⟩ := hB
  exact anyC_lex hsel hs hc (by simpa using hn) (fun listed a w hL => seqB_ready hL.1) g w hw ks _ listed a (mix_ops ks _ hm) (inv_of hi) hm h
end

end Go.Proofs.YtmjafmdecgeckabGreat

/-
  RunOwn, by the model.
-/
namespace Go.Proofs.YtmjafmdecgeckabGreat
open Go.RowKit Go.Sort

/-- The things that a batch needs now. -/
noncomputable def owL (b : DRunBatch) : List ByteArray := if runB b = true then thL b.2.2.1 (ofL (phX b.2.1 b.2.2.2.1)) else []
theorem ow_len (b : DRunBatch) : (owL b).length ≤ 8192 := by
  unfold owL
  split
  · exact Nat.le_trans (thL_len _ _) (Nat.le_trans (of_len _) (by decide))
  · simp

set_option maxRecDepth 100000 in
set_option maxHeartbeats 8000000 in
theorem ownX_any (S : Nat → Prop) (nm : ByteArray) (r : List DRecPhase) (sl : List DRunSlot) (at_ : ByteArray) (si st : Int) (o1 o2 : Option Addr) (n1 k1 n2 k2 : Nat) (w : World) (hn : nm.size ≤ maxLen) (hr : AtL S w r (.slice o1 n1 k1)) (h : AtL S w sl (.slice o2 n2 k2)) (hS : ∀ b, S b → b < w.heap.size) :
    Calls Tryz.prog 62 #[.agg #[.string nm, .slice o1 n1 k1, .slice o2 n2 k2, .string at_, .int .i64 si, .int .i64 st]] w fun e w' => ∃ q, e = .returned q ∧ w'.ownsRow w.heap.size 9 1 q (owL (nm, r, sl, at_, si, st)).length ((owL (nm, r, sl, at_, si, st)).map .string) ∧ Below w.heap.size w w' := by
  have HN : Hid (nm.size ≤ maxLen) := hn
  obtain ⟨G, hG⟩ : ∃ G, G = owL (nm, r, sl, at_, si, st) := ⟨_, rfl⟩
  rw [← hG]
  have TG : Hid (G = if runB (nm, r, sl, at_, si, st) = true then thL sl (ofL (phX r at_)) else []) := hG
  clear hG
  obtain ⟨W, hW⟩ : ∃ W, W = w.alloc (.cells #[.string nm, .slice o1 n1 k1, .slice o2 n2 k2, .string at_, .int .i64 si, .int .i64 st] 49) := ⟨_, rfl⟩
  have EW : Hid (W = w.alloc (.cells #[.string nm, .slice o1 n1 k1, .slice o2 n2 k2, .string at_, .int .i64 si, .int .i64 st] 49)) := hW
  have BW : Hid (Below w.heap.size w W) := by rw [hW]; exact (Below.refl _ _).alloc (Nat.le_refl _) _
  have RW : Hid (W.heap[w.heap.size]? = some (.cells #[.string nm, .slice o1 n1 k1, .slice o2 n2 k2, .string at_, .int .i64 si, .int .i64 st] 49 (0, 0))) := by rw [hW]; exact heap_alloc_new w _
  have sW : w.heap.size + 1 ≤ W.heap.size := by rw [hW]; simp
  clear hW
  have BOX : Hid (∀ u, Below W.heap.size W u → u.heap[w.heap.size]? = some (.cells #[.string nm, .slice o1 n1 k1, .slice o2 n2 k2, .string at_, .int .i64 si, .int .i64 st] 49 (0, 0)) ∧ Below w.heap.size w u) := fun u hu => ⟨(hu.block _ (by omega)).trans RW.out, BW.out.trans (hu.mono (by omega))⟩
  have HR : Hid (∀ u, Below w.heap.size w u → AtL S u r (.slice o1 n1 k1)) := fun u hu => hr.same (Same.of_below hu hS)
  have HA : Hid (∀ u, Below w.heap.size w u → AtL S u sl (.slice o2 n2 k2)) := fun u hu => h.same (Same.of_below hu hS)
  have HS : Hid (∀ u, Below w.heap.size w u → ∀ b, S b → b < u.heap.size) := fun u hu b hb => Nat.lt_of_lt_of_le (hS b hb) hu.size
  have h0 := fun u (hu : Below W.heap.size W u) => cell_row (BOX.out u hu).1
  have Y : Hid (∀ u, Below W.heap.size W u → u.cell? ⟨w.heap.size, 0, none⟩ = some (.string nm) ∧ u.cell? ⟨w.heap.size, 1, none⟩ = some (.slice o1 n1 k1) ∧ u.cell? ⟨w.heap.size, 2, none⟩ = some (.slice o2 n2 k2) ∧ u.cell? ⟨w.heap.size, 3, none⟩ = some (.string at_) ∧ u.cell? ⟨w.heap.size, 4, none⟩ = some (.int .i64 si) ∧ u.cell? ⟨w.heap.size, 5, none⟩ = some (.int .i64 st)) := fun u hu =>
    ⟨(h0 u hu 0 _ rfl).1, (h0 u hu 1 _ rfl).1, (h0 u hu 2 _ rfl).1, (h0 u hu 3 _ rfl).1, (h0 u hu 4 _ rfl).1, (h0 u hu 5 _ rfl).1⟩
  clear h0
  have PH : Hid (runB (nm, r, sl, at_, si, st) = true → ∃ (k : Nat), atI r at_ = (k : Int) ∧ k < n1 ∧ (phaseB (phX r at_) = true) ∧ ∃ b off, o1 = some ⟨b, off, none⟩ ∧ b < w.heap.size ∧ ∀ u, Below w.heap.size w u → u.cell? ⟨b, off + k * 8, none⟩ = some (.string (phX r at_).1) ∧ u.cell? ⟨b, off + k * 8 + 1, none⟩ = some (.int .i64 (phX r at_).2.1) ∧ u.cell? ⟨b, off + k * 8 + 2, none⟩ = some (.string (phX r at_).2.2.1) ∧ u.cell? ⟨b, off + k * 8 + 3, none⟩ = some (.string (phX r at_).2.2.2.1) ∧ u.cell? ⟨b, off + k * 8 + 4, none⟩ = some (.int .i64 (phX r at_).2.2.2.2.1) ∧ u.cell? ⟨b, off + k * 8 + 5, none⟩ = some (.int .i64 (phX r at_).2.2.2.2.2.1) ∧ u.cell? ⟨b, off + k * 8 + 6, none⟩ = some (.string (phX r at_).2.2.2.2.2.2.1) ∧ u.cell? ⟨b, off + k * 8 + 7, none⟩ = some (.string (phX r at_).2.2.2.2.2.2.2)) := fun hb => by
    have hR : RecP r := (run_rec hb).1
    have h0 : 0 ≤ atI r at_ := by
      unfold runB at hb
      simp only [Bool.and_eq_true, decide_eq_true_eq] at hb
      exact hb.1.2
    rcases at_cases r at_ with e | ⟨k', hk', e, _⟩
    · omega
    obtain ⟨oa, cap, ev, _, hc⟩ := id hr
    obtain ⟨b, off, eo, hbS, cc, hcell, hat⟩ := hc k' hk'
    rw [width_DRecPhase] at hcell
    rw [at_DRecPhase, ← ph_at hk' e] at hat
    obtain ⟨⟨q0, _⟩, ⟨q1, _, _⟩, ⟨q2, _⟩, ⟨q3, _⟩, ⟨q4, _, _⟩, ⟨q5, _, _⟩, ⟨q6, _⟩, ⟨q7, _⟩⟩ := hat
    cases ev
    have hbb := hS b hbS
    refine ⟨k', e, hk', by rw [ph_at hk' e]; exact (step_of hR hk').1, b, off, eo, hbb, fun u hu => ?_⟩
    rw [← q0, ← q1, ← q2, ← q3, ← q4, ← q5, ← q6, ← q7]
    exact ⟨(hu.cell hbb).trans (hcell 0 (by omega)), (hu.cell hbb).trans (hcell 1 (by omega)), (hu.cell hbb).trans (hcell 2 (by omega)), (hu.cell hbb).trans (hcell 3 (by omega)), (hu.cell hbb).trans (hcell 4 (by omega)), (hu.cell hbb).trans (hcell 5 (by omega)), (hu.cell hbb).trans (hcell 6 (by omega)), (hu.cell hbb).trans (hcell 7 (by omega))⟩
  clear h hr hS hn
  obtain ⟨y0, y1, y2, y3, y4, y5⟩ := Y.out W (Below.refl _ _)
  have szW := BW.out.size
  go_enter Tryz.func62, Tryz.ntmps62
  go_upto_region 1 with fail
  rw [← EW.out]
  go_wp2_with fail
  refine (runX_any S nm r sl at_ si st o1 o2 n1 k1 n2 k2 W HN.out (HR.out _ BW.out) (HA.out _ BW.out) (HS.out _ BW.out)).mono ?_; rintro e w1 ⟨rfl, hb1⟩
  have B1 : Hid (Below W.heap.size W w1) := hb1
  have BW1 : Hid (Below w.heap.size w w1) := (BOX.out w1 hb1).2
  clear y0 y1 y2 y3 y4 y5 hb1
  obtain ⟨y0, y1, y2, y3, y4, y5⟩ := Y.out w1 B1.out
  cases c : runB (nm, r, sl, at_, si, st)
  · rw [c] at TG
    obtain rfl : G = [] := TG.out
    clear y0 y1 y2 y3 y4 y5 szW
    go_wp2_with fail
    go_ret
    have sz := BW1.out.size
    exact ⟨_, rfl, own_nil sz, BW1.out.alloc sz _⟩
  rw [c, if_pos rfl] at TG
  obtain ⟨k, hk, hkn, _, b, off, rfl, hb, hx⟩ := PH.out c
  obtain ⟨x0, x1, x2, x3, x4, x5, x6, x7⟩ := hx w1 BW1.out
  obtain ⟨p, hp⟩ : ∃ p, p = phX r at_ := ⟨_, rfl⟩
  rw [← hp] at x0 x1 x2 x3 x4 x5 x6 x7 TG
  have hG : G = thL sl (ofL p) := TG.out
  obtain ⟨pn, kd, pa, pb, pc, wi, th, el⟩ := p
  simp only at x0 x1 x2 x3 x4 x5 x6 x7
  obtain ⟨L, hL⟩ : ∃ L, L = ofL (pn, kd, pa, pb, pc, wi, th, el) := ⟨_, rfl⟩
  rw [← hL] at hG
  have hll : L.length ≤ 2 := by rw [hL]; exact of_len _
  have HLL : Hid (L.length ≤ 2) := hll
  have CO : Hid (∀ u, Calls Tryz.prog 102 #[.agg #[.string pn, .int .i64 kd, .string pa, .string pb, .int .i64 pc, .int .i64 wi, .string th, .string el]] u fun e w' => ∃ g cap, e = .returned (.slice (some ⟨g, 0, none⟩) L.length cap) ∧ w'.ownsRow u.heap.size 9 1 (.slice (some ⟨g, 0, none⟩) L.length cap) L.length (L.map .string) ∧ Below u.heap.size u w') := fun u => by rw [hL]; exact ofX_any pn pa pb th el kd pc wi u
  have CA : Hid (∀ u, Below w.heap.size w u → Calls Tryz.prog 34 #[.slice (some ⟨b, off, none⟩) n1 k1, .string at_] u fun e w' => e = .returned (.int .i64 (k : Int)) ∧ w' = u) := fun u hu => by rw [← hk]; exact atX_any S r _ at_ u (HR.out u hu)
  subst hG
  have HDR : Hid (Below w1.heap.size w1 w1.drew) := (Below.refl _ _).drew
  have q0 := fun d os => cell_regrown y0 d os
  have q1 := fun d os => cell_regrown y1 d os
  have q2 := fun d os => cell_regrown y2 d os
  have q3 := fun d os => cell_regrown y3 d os
  have q4 := fun d os => cell_regrown y4 d os
  have q5 := fun d os => cell_regrown y5 d os
  have qx0 := fun d os => cell_regrown x0 d os
  have qx1 := fun d os => cell_regrown x1 d os
  have qx2 := fun d os => cell_regrown x2 d os
  have qx3 := fun d os => cell_regrown x3 d os
  have qx4 := fun d os => cell_regrown x4 d os
  have qx5 := fun d os => cell_regrown x5 d os
  have qx6 := fun d os => cell_regrown x6 d os
  have qx7 := fun d os => cell_regrown x7 d os
  clear hL hll TG hk hx hp y0 y1 y2 y3 y4 y5 x0 x1 x2 x3 x4 x5 x6 x7 szW
  go_wp2_with fail
  refine wp_region_mix 11 [0, 1, 2, 3, 4, 5, 6] (by kernel_rfl) (by kernel_rfl) ?_
  simp only [List.filterMap_cons, List.filterMap_nil, List.getElem?_cons_succ, List.getElem?_cons_zero]
  repeat (first | go_big_quiet_step (fail) | quiet_step (fail))
  refine wpQuiet_nil ?_
  have bdr : Hid (Below w.heap.size w w1.drew) := BW1.out.trans (HDR.out.mono BW1.out.size)
  refine call1 (md := .any) (f := 3) (i := 7) (dc := 14) (fn := 34) ⟨rfl, rfl, rfl, by decide⟩ (by kernel_rfl) ?run ((CA.out w1.drew bdr.out).mono ?_)
  case run => go_simp
  rintro e u ⟨rfl, rfl⟩
  refine ⟨_, rfl, regrown_of_below HDR.out, ?_⟩
  simp only [Act.put, List.setIfInBounds_toArray, List.set_cons_zero, List.set_cons_succ]
  refine lexT (g := 1) [8, 9] (by kernel_rfl) (regrown_of_below HDR.out) ?_
  simp only [List.filterMap_cons, List.filterMap_nil, List.getElem?_cons_succ, List.getElem?_cons_zero]
  repeat (first | go_big_quiet_step (fail) | quiet_step (fail))
  refine wpQuiet_nil ?_
  clear q0 q1 q2 q3 q4 q5 qx0 qx1 qx2 qx3 qx4 qx5 qx6 qx7
  refine call1 (md := .any) (f := 0) (i := 10) (dc := 17) (fn := 102) ⟨rfl, rfl, rfl, by decide⟩ (by kernel_rfl) ?run2 ((CO.out w1.drew).mono ?_)
  case run2 => go_simp
  rintro e u ⟨g, cap, rfl, ho, hb1⟩
  have C1 : Hid (Below w1.heap.size w1 u) := HDR.out.trans (hb1.mono HDR.out.size)
  have BU : Hid (Below w.heap.size w u) := BW1.out.trans (C1.out.mono BW1.out.size)
  have RD : Hid (RdB u (.slice (some ⟨g, 0, none⟩) L.length cap) L) := RdB.of ho
  refine ⟨_, rfl, regrown_of_below C1.out, ?_⟩
  clear hb1 ho
  refine ⟨by kernel_rfl, ?_⟩
  simp only [List.drop_succ_cons, List.drop_zero, Act.put, List.setIfInBounds_toArray, List.set_cons_zero, List.set_cons_succ]
  have s1 := BU.out.size
  go_wp2_with fail
  refine (thingsX_any S sl nm at_ si st _ o2 n1 k1 n2 k2 L _ u (HA.out _ BU.out) (HS.out _ BU.out) RD.out (by have := HLL.out; omega)).mono ?_; rintro e u2 ⟨g', cap', rfl, ho, hb2⟩
  have HO : Hid _ := ho
  have HB : Hid (Below w.heap.size w u2) := BU.out.trans (hb2.mono s1)
  clear ho hb2
  go_wp2_with fail
  go_ret
  exact ⟨_, rfl, own_leR HO.out s1, HB.out⟩

end Go.Proofs.YtmjafmdecgeckabGreat

/-
  Slots that are just those of a recipe, each another thing (plain): as many things as slots.
-/
namespace Go.Proofs.YtmjafmdecgeckabGreat
open Go.RowKit

theorem insR_fresh : ∀ (l : List ByteArray) (x : ByteArray), x ∉ l → (insR l x).length = l.length + 1
  | [], x, _ => by simp [insR]
  | y :: l, x, h => by
    have h1 : x ≠ y := fun e => h (by simp [e])
    have h2 := insR_fresh l x (fun e => h (by simp [e]))
    have h3 : eqB y x = false := by
      cases c : eqB y x with
      | false => rfl
      | true => exact absurd ((eqB_iff _ _).1 c).symm h1
    unfold insR
    cases c : ltB y x
    · simp [h3]
    · simp [h2]
theorem insR_old {l : List ByteArray} {x : ByteArray} (ha : AscL l) (h : x ∈ l) : insR l x = l :=
  asc_unique _ _ (ins_asc l x ha) ha fun y => by
    rw [ins_mem]
    exact ⟨fun h' => h'.elim id (fun e => e ▸ h), Or.inl⟩
theorem both_full : ∀ (b a : List ByteArray), AscL a → ((bothL a b).length = a.length + b.length ↔ b.Nodup ∧ ∀ y ∈ b, y ∉ a)
  | [], a, _ => by simp [bothL]
  | x :: b, a, ha => by
    have e : bothL a (x :: b) = bothL (insR a x) b := rfl
    have ih := both_full b (insR a x) (ins_asc a x ha)
    have hle := both_len b (insR a x)
    rw [e, List.length_cons, List.nodup_cons]
    by_cases hx : x ∈ a
    · have := insR_old ha hx
      rw [this] at hle ⊢
      refine ⟨fun h => by omega, fun h => absurd hx (h.2 x (by simp))⟩
    · have hl := insR_fresh a x hx
      rw [hl] at ih
      rw [show a.length + (b.length + 1) = a.length + 1 + b.length by omega, ih]
      constructor
      · rintro ⟨h1, h2⟩
        refine ⟨⟨fun hb => h2 x hb ((ins_mem a x x).2 (Or.inr rfl)), h1⟩, fun y hy => ?_⟩
        rcases List.mem_cons.1 hy with rfl | hy
        · exact hx
        · exact fun hya => h2 y hy ((ins_mem a x y).2 (Or.inl hya))
      · rintro ⟨⟨h1, h2⟩, h3⟩
        refine ⟨h2, fun y hy hya => ?_⟩
        rcases (ins_mem a x y).1 hya with h | rfl
        · exact h3 y (by simp [hy]) h
        · exact h1 hy

/-- The first half: they are just these slots, and their things are names. -/
def EqP (L : List ByteArray) (sl : List DRunSlot) : Prop := sl.length = L.length ∧ ∀ i (h : i < sl.length), eqB sl[i].1 (nthB L i) = true ∧ nameB sl[i].2 = true
theorem EqP.fst {L : List ByteArray} {sl : List DRunSlot} (h : EqP L sl) : sl.map (·.1) = L := by
  refine List.ext_getElem (by simpa using h.1) fun i h1 h2 => ?_
  have := (h.2 i (by simpa using h1)).1
  rw [nth_is h2] at this
  simpa using (eqB_iff _ _).1 this
theorem EqP.dist {L : List ByteArray} {sl : List DRunSlot} (h : EqP L sl) (ha : AscL L) : (sl.map (·.1)).Nodup := by rw [h.fst]; exact ha.nodup
theorem EqP.snd {L : List ByteArray} {sl : List DRunSlot} (h : EqP L sl) (ha : AscL L) : L.map (thT sl) = sl.map (·.2) := by
  rw [← h.fst, List.map_map]
  refine List.ext_getElem (by simp) fun i h1 h2 => ?_
  have hi : i < sl.length := by simpa using h2
  simp only [List.getElem_map, Function.comp]
  exact thT_at (h.dist ha) hi
theorem nodup_others {sl : List DRunSlot} : (sl.map (·.2)).Nodup ↔ ∀ i (h : i < sl.length) k (hk : k < sl.length), k < i → eqB sl[k].2 sl[i].2 = false := by
  constructor
  · intro h i hi k hk hki
    cases c : eqB sl[k].2 sl[i].2 with
    | false => rfl
    | true =>
      have h1 := (List.pairwise_iff_getElem.1 h) k i (by simpa using hk) (by simpa using hi) hki
      exact absurd ((eqB_iff _ _).1 c) (by simpa using h1)
  · intro h
    refine List.pairwise_iff_getElem.2 fun k i hk hi hki => ?_
    have := h i (by simpa using hi) k (by simpa using hk) hki
    simp only [List.getElem_map]
    exact fun e => by rw [(eqB_iff _ _).2 e] at this; cases this
theorem sl_two {L : List ByteArray} {sl : List DRunSlot} (ha : AscL L) : SlP L sl ↔ EqP L sl ∧ (thL sl L).length = L.length := by
  have key : ∀ h : EqP L sl, ((thL sl L).length = L.length ↔ (sl.map (·.2)).Nodup) := fun h => by
    have := both_full (L.map (thT sl)) [] List.Pairwise.nil
    rw [h.snd ha] at this
    unfold thL
    rw [h.snd ha, ← h.1]
    simpa using this
  constructor
  · intro h
    have he : EqP L sl := ⟨h.len.symm, fun i hi => ⟨(h.row i hi).slot, (h.row i hi).name⟩⟩
    exact ⟨he, (key he).2 (nodup_others.2 fun i hi k hk hki => (h.row i hi).other k hk hki)⟩
  · rintro ⟨he, hl⟩
    have hn := nodup_others.1 ((key he).1 hl)
    exact ⟨he.1.symm, fun i hi => ⟨(he.2 i hi).1, (he.2 i hi).2, fun k hk hki => hn i hi k hk hki⟩⟩
theorem slB_two (r : List DRecPhase) (sl : List DRunSlot) : slB r sl = true ↔ EqP (sltF 12 r (fstN r)) sl ∧ (thL sl (sltF 12 r (fstN r))).length = (sltF 12 r (fstN r)).length :=
  sl_iff.trans (sl_two (slt_asc r 12 _))

end Go.Proofs.YtmjafmdecgeckabGreat

/-
  The program's test of a name.
-/
namespace Go.Proofs.YtmjafmdecgeckabGreat
open Go.RowKit

theorem okn_cases (r : Int) : (r < 45 ∧ okn r = false) ∨ (r = 45 ∧ okn r = true) ∨ ((45 < r ∧ r < 48) ∧ okn r = false) ∨ ((48 ≤ r ∧ r ≤ 57) ∧ okn r = true) ∨ ((57 < r ∧ r < 97) ∧ okn r = false) ∨ ((97 ≤ r ∧ r ≤ 122) ∧ okn r = true) ∨ (122 < r ∧ okn r = false) := by
  simp only [okn, decide_eq_true_eq, decide_eq_false_iff_not]; omega

set_option maxHeartbeats 1000000 in
theorem okn_any (r : Int) (w : World) : Calls Tryz.prog 106 #[.int .i32 r] w fun e w' => e = .returned (.bool (okn r)) ∧ w' = w := by
  rcases okn_cases r with ⟨h, ho⟩ | ⟨h, ho⟩ | ⟨⟨h, h'⟩, ho⟩ | ⟨⟨h, h'⟩, ho⟩ | ⟨⟨h, h'⟩, ho⟩ | ⟨⟨h, h'⟩, ho⟩ | ⟨h, ho⟩
  · have h45 : (r == 45) = false := by simp; omega
    rw [ho]
    go_enter Tryz.func106, Tryz.ntmps106
    go_wp2
    go_ret
    exact ⟨rfl, rfl⟩
  · subst h
    rw [ho]
    go_enter Tryz.func106, Tryz.ntmps106
    go_wp2
    go_ret
    exact ⟨rfl, rfl⟩
  · have h45 : (r == 45) = false := by simp; omega
    rw [ho]
    go_enter Tryz.func106, Tryz.ntmps106
    go_wp2
    go_ret
    exact ⟨rfl, rfl⟩
  · have h45 : (r == 45) = false := by simp; omega
    rw [ho]
    go_enter Tryz.func106, Tryz.ntmps106
    go_wp2
    go_ret
    exact ⟨rfl, rfl⟩
  · have h45 : (r == 45) = false := by simp; omega
    have d57 : decide (r ≤ 57) = false := by simp; omega
    rw [ho]
    go_enter Tryz.func106, Tryz.ntmps106
    go_wp2
    go_ret
    exact ⟨rfl, rfl⟩
  · have h45 : (r == 45) = false := by simp; omega
    rw [ho]
    go_enter Tryz.func106, Tryz.ntmps106
    go_wp2
    go_ret
    exact ⟨rfl, rfl⟩
  · have h45 : (r == 45) = false := by simp; omega
    have d57 : decide (r ≤ 57) = false := by simp; omega
    have d122 : decide (r ≤ 122) = false := by simp; omega
    rw [ho]
    go_enter Tryz.func106, Tryz.ntmps106
    go_wp2
    go_ret
    exact ⟨rfl, rfl⟩

theorem rune_okn (t : ByteArray) (pos : Nat) (h : pos < t.size) : ∃ (r : Int) (wd : Nat), ((Utf8.decode t pos).1 : Int) = r ∧ (Utf8.decode t pos).2 = wd ∧ okn r = okn (t[pos].toNat : Int) ∧ (okn r = true → wd = 1) := by
  by_cases ha : (t[pos]'h).toNat < 128
  · refine ⟨_, _, rfl, rfl, ?_, fun _ => ?_⟩
    · rw [decode_ascii t pos h ha]
    · rw [decode_ascii t pos h ha]
  · have hh := decode_high t pos h (by omega)
    have e1 : okn ((Utf8.decode t pos).1 : Int) = false := by simp [okn]; omega
    have e2 : okn (t[pos].toNat : Int) = false := by simp [okn]; omega
    exact ⟨_, _, rfl, rfl, e1.trans e2.symm, fun h => by rw [e1] at h; cases h⟩

set_option maxRecDepth 100000 in
set_option maxHeartbeats 1000000 in
theorem nameI_any (s : ByteArray) (w : World) (hs : s.size ≤ maxLen) : Calls Tryz.prog 68 #[.string s] w fun e w' => e = .returned (.bool (nameB s)) ∧ Below w.heap.size w w' := by
  unfold maxLen at hs
  by_cases hl : 1 ≤ s.size ∧ s.size ≤ 8
  · have d1 : decide ((s.size : Int) < 1) = false := by simp; omega
    have d2 : decide ((8 : Int) < (s.size : Int)) = false := by simp; omega
    go_enter Tryz.func68, Tryz.ntmps68
    go_wp2
    go_loopw [4] (fun _ wr => ∃ pos : Nat, pos ≤ s.size ∧ wr = w.iter s pos ∧ Hid (∀ j (hj : j < s.size), j < pos → okn s[j].toNat = true)) (fun _ wr => s.size - wr.iterPos w.heap.size)
    case atStart => exact ⟨0, Nat.zero_le _, rfl, fun _ _ h => by omega⟩
    case round =>
      obtain ⟨pos, hpos, rfl, hno⟩ := hrel
      by_cases hp : pos < s.size
      · obtain ⟨r, wd, hr1, hr2, hr3, hr4⟩ := rune_okn s pos hp
        have hnx : ∀ ty, (Instr.next (.pointer (some ⟨w.heap.size, 0, none⟩)) true ty).run Tryz.prog (w.iter s pos) = .ok (.tuple #[.bool true, .int .i64 pos, .int .i32 r]) (w.iter s (pos + wd)) := fun ty => by
          rw [run_next_any w s pos ty hp, hr1, hr2]
        clear hr1 hr2
        have H3 : Hid _ := hr3
        have H4 : Hid _ := hr4
        clear hr3 hr4
        cases hok : okn r
        · have hnb := name_bad hp (by rw [← H3.out]; exact hok)
          have HN : Hid _ := hnb
          clear hnb
          go_wp2_with (go_at_call 106; refine (okn_any _ _).mono ?_; rintro e w1 ⟨rfl, rfl⟩; rw [hok])
          rw [HN.out]
          go_ret
          exact ⟨rfl, (Below.refl _ w).alloc (Nat.le_refl _) _⟩
        · have hw1 := H4.out hok
          subst hw1
          go_wp2_with (go_at_call 106; refine (okn_any _ _).mono ?_; rintro e w1 ⟨rfl, rfl⟩; rw [hok])
          go_roundw
          case rel => exact ⟨pos + 1, by omega, rfl, fun j hj hjp => by
            by_cases e : j = pos
            · subst e; rw [← H3.out]; exact hok
            · exact hno.out j hj (by omega)⟩
          case measure => simp; omega
      · have hnx : ∀ ty, (Instr.next (.pointer (some ⟨w.heap.size, 0, none⟩)) true ty).run Tryz.prog (w.iter s pos) = .ok (.tuple #[.bool false]) (w.iter s pos) := fun ty => run_next_end w s pos ty hp
        have hnm := name_all hl (fun j hj => hno.out j hj (by omega))
        have HN : Hid _ := hnm
        clear hnm
        go_wp2
        rw [HN.out]
        go_ret
        exact ⟨rfl, (Below.refl _ w).alloc (Nat.le_refl _) _⟩
  · rw [name_short hl]
    by_cases h1 : s.size < 1
    · have d1 : decide ((s.size : Int) < 1) = true := by simp; omega
      go_enter Tryz.func68, Tryz.ntmps68
      go_wp2
      go_ret
      exact ⟨rfl, Below.refl _ _⟩
    · have d1 : decide ((s.size : Int) < 1) = false := by simp; omega
      have d2 : decide ((8 : Int) < (s.size : Int)) = true := by simp; omega
      go_enter Tryz.func68, Tryz.ntmps68
      go_wp2
      go_ret
      exact ⟨rfl, Below.refl _ _⟩

end Go.Proofs.YtmjafmdecgeckabGreat

/-
  How a batch stands at its phase; whether a slot is as it must be: the program's.
-/
namespace Go.Proofs.YtmjafmdecgeckabGreat
open Go.RowKit

/-- How a batch stands: it waits, or it goes on. -/
def paV (si : Int) : Value := if si = -1 then .iface 130 (.agg #[]) else .iface 83 (.agg #[.int .i64 si])
theorem pa_w : paV (-1) = .iface 130 (.agg #[]) := rfl
theorem pa_g {si : Int} (h : ¬ si = -1) : paV si = .iface 83 (.agg #[.int .i64 si]) := if_neg h

set_option maxRecDepth 100000 in
set_option maxHeartbeats 4000000 in
theorem pace_any (nm at_ : ByteArray) (si st : Int) (o1 o2 : Option Addr) (n1 k1 n2 k2 : Nat) (w : World) :
    Calls Tryz.prog 46 #[.agg #[.string nm, .slice o1 n1 k1, .slice o2 n2 k2, .string at_, .int .i64 si, .int .i64 st]] w fun e w' => e = .returned (paV si) ∧ Below w.heap.size w w' := by
  by_cases h : si = -1
  · subst h
    rw [pa_w]
    go_enter Tryz.func46, Tryz.ntmps46
    go_wp2
    go_ret
    exact ⟨rfl, (Below.refl _ _).alloc (Nat.le_refl _) _⟩
  · have hb : (si == -1) = false := by simpa using h
    rw [pa_g h]
    go_enter Tryz.func46, Tryz.ntmps46
    go_wp2
    go_ret
    exact ⟨rfl, (Below.refl _ _).alloc (Nat.le_refl _) _⟩

set_option maxRecDepth 100000 in
set_option maxHeartbeats 4000000 in
theorem fitsW_any (wi : Int) (w : World) : Calls Tryz.prog 228 #[.agg #[], .int .i64 wi] w fun e w' => e = .returned (.bool true) ∧ Below w.heap.size w w' := by
  go_enter Tryz.func228, Tryz.ntmps228
  go_wp2
  go_ret
  exact ⟨rfl, (Below.refl _ _).alloc (Nat.le_refl _) _⟩

set_option maxRecDepth 100000 in
set_option maxHeartbeats 4000000 in
theorem fitsG_any (si wi : Int) (w : World) : Calls Tryz.prog 227 #[.agg #[.int .i64 si], .int .i64 wi] w fun e w' => e = .returned (.bool (decide (0 ≤ si) && decide (si < wi))) ∧ Below w.heap.size w w' := by
  by_cases h : 0 ≤ si
  · go_enter Tryz.func227, Tryz.ntmps227
    go_wp2
    go_ret
    exact ⟨by simp [h], (Below.refl _ _).alloc (Nat.le_refl _) _⟩
  · go_enter Tryz.func227, Tryz.ntmps227
    go_wp2
    go_ret
    exact ⟨by simp; omega, (Below.refl _ _).alloc (Nat.le_refl _) _⟩

set_option maxRecDepth 100000 in
set_option maxHeartbeats 4000000 in
theorem isSlot_any (a t x : ByteArray) (w : World) (hz : t.size ≤ maxLen) : Calls Tryz.prog 144 #[.agg #[.string a, .string t], .string x] w fun e w' => e = .returned (.bool (eqB a x && nameB t)) ∧ Below w.heap.size w w' := by
  have HZ : Hid (t.size ≤ maxLen) := hz
  clear hz
  cases c : (a.toList == x.toList)
  · have e : (eqB a x && nameB t) = false := by simp [eqB, c]
    rw [e]
    go_enter Tryz.func144, Tryz.ntmps144
    go_wp2
    go_ret
    exact ⟨rfl, (Below.refl _ _).alloc (Nat.le_refl _) _⟩
  · have e : (eqB a x && nameB t) = nameB t := by simp [eqB, c]
    rw [e]
    go_enter Tryz.func144, Tryz.ntmps144
    go_wp2_with fail
    refine (nameI_any t _ HZ.out).mono ?_; rintro e w1 ⟨rfl, hb⟩
    have HB : Hid _ := hb
    clear hb
    go_wp2_with fail
    go_ret
    exact ⟨rfl, ((Below.refl _ _).alloc (Nat.le_refl _) _).trans (HB.out.mono (by simp))⟩

noncomputable def eqPB (L : List ByteArray) (sl : List DRunSlot) : Bool := @decide (EqP L sl) (Classical.propDecidable _)
theorem eqp_yes {L : List ByteArray} {sl : List DRunSlot} (h : EqP L sl) : eqPB L sl = true := by unfold eqPB; exact @decide_eq_true _ (Classical.propDecidable _) h
theorem eqp_no {L : List ByteArray} {sl : List DRunSlot} (h : ¬ EqP L sl) : eqPB L sl = false := by unfold eqPB; exact @decide_eq_false _ (Classical.propDecidable _) h
theorem eqp_iff {L : List ByteArray} {sl : List DRunSlot} : eqPB L sl = true ↔ EqP L sl := by unfold eqPB; exact @decide_eq_true_iff _ (Classical.propDecidable _)

set_option maxRecDepth 100000 in
set_option maxHeartbeats 8000000 in
theorem eqf_any (S S' : Nat → Prop) (sl : List DRunSlot) (L : List ByteArray) (v vL : Value) (w : World) (h : AtL S w sl v) (hL : AtL S' w L vL) (hS : ∀ b, S b → b < w.heap.size) (hS' : ∀ b, S' b → b < w.heap.size) :
    Calls Tryz.prog 145 #[v, vL, .func (.func 144) #[] #[]] w fun e w' => e = .returned (.bool (eqPB L sl)) ∧ Below w.heap.size w w' := by
  obtain ⟨oa, cap, rfl, hn, hc⟩ := h
  obtain ⟨ob, capb, rfl, hnb, hcb⟩ := hL
  obtain ⟨n, en⟩ : ∃ n, sl.length = n := ⟨_, rfl⟩
  obtain ⟨m, em⟩ : ∃ m, L.length = m := ⟨_, rfl⟩
  rw [en] at hn
  rw [em] at hnb
  have hmx := hn.1
  have hmb := hnb.1
  unfold maxLen at hmx hmb
  have NAM : Hid (∀ i (hi : i < sl.length), ∃ b off, oa = some ⟨b, off, none⟩ ∧ b < w.heap.size ∧ w.cell? ⟨b, off + i * 2, none⟩ = some (.string sl[i].1) ∧ w.cell? ⟨b, off + i * 2 + 1, none⟩ = some (.string sl[i].2) ∧ sl[i].2.size ≤ maxLen) := fun i hi => by
    obtain ⟨b, off, eo, hbS, cc, hcell, hat⟩ := hc i hi
    rw [width_DRunSlot] at hcell
    rw [at_DRunSlot] at hat
    exact ⟨b, off, eo, hS b hbS, (hcell 0 (by omega) : w.cell? ⟨b, off + i * 2, none⟩ = some (cc 0)).trans (by rw [hat.1.1]), (hcell 1 (by omega)).trans (by rw [hat.2.1]), hat.2.2⟩
  have LAT : Hid (∀ i (hi : i < L.length), ∃ b off, ob = some ⟨b, off, none⟩ ∧ b < w.heap.size ∧ w.cell? ⟨b, off + i, none⟩ = some (.string (nthB L i))) := fun i hi => by
    obtain ⟨b, off, eo, hbS, cc, hcell, hat⟩ := hcb i hi
    have e0 := hcell 0 (by decide)
    rw [hat.1] at e0
    exact ⟨b, off, eo, hS' b hbS, by simpa [width_str, nth_is hi] using e0⟩
  have EN : Hid (sl.length ≤ n ∧ n ≤ sl.length) := ⟨by omega, by omega⟩
  have EM : Hid (L.length ≤ m ∧ m ≤ L.length) := ⟨by omega, by omega⟩
  rw [en, em]
  clear hn hnb hc hcb en em
  go_enter Tryz.func145, Tryz.ntmps145
  by_cases hlen : n = m
  case neg =>
    go_wp2_with fail
    go_ret
    rw [eqp_no (fun h => hlen (by have := h.1; have := EN.out; have := EM.out; omega))]
    exact ⟨rfl, Below.refl _ _⟩
  subst hlen
  go_wp2_with fail
  go_loopw [17] (fun i wr => ∃ k : Nat, k ≤ n ∧ i = .int .i64 k ∧ Hid (∀ j (hj : j < sl.length), j < k → eqB sl[j].1 (nthB L j) = true ∧ nameB sl[j].2 = true) ∧ Hid (Below w.heap.size w wr)) (fun i _ => n - (intOf i).toNat)
  case atStart => exact ⟨0, Nat.zero_le _, rfl, fun _ _ h => by omega, Below.refl _ _⟩
  case round =>
    obtain ⟨k, hk, rfl, hall, hbel⟩ := hrel
    have hs := hbel.out.size
    by_cases hlt : k < n
    case neg =>
      go_wp2_with fail
      go_ret
      rw [eqp_yes ⟨by have := EN.out; have := EM.out; omega, fun i hi => hall.out i hi (by have := EN.out; omega)⟩]
      exact ⟨rfl, hbel.out⟩
    have hks : k < sl.length := by have := EN.out; omega
    obtain ⟨b, off, rfl, hb, c0, c1, z1⟩ := NAM.out k hks
    obtain ⟨g, of2, rfl, hg, cg⟩ := LAT.out k (by have := EM.out; omega)
    obtain ⟨x, ex⟩ : ∃ x, sl[k].1 = x := ⟨_, rfl⟩
    obtain ⟨t, et⟩ : ∃ t, sl[k].2 = t := ⟨_, rfl⟩
    rw [ex] at c0
    rw [et] at c1 z1
    obtain ⟨y, ey⟩ : ∃ y, nthB L k = y := ⟨_, rfl⟩
    rw [ey] at cg
    have HZ : Hid (t.size ≤ maxLen) := z1
    obtain ⟨X, hX⟩ : ∃ X, X = wr.alloc (.cells #[.string x, .string t] 142) := ⟨_, rfl⟩
    have EX : Hid (X = wr.alloc (.cells #[.string x, .string t] 142)) := hX
    have BX : Hid (Below w.heap.size w X) := by rw [hX]; exact hbel.out.alloc hs _
    have r0 : X.cell? ⟨wr.heap.size, 0, none⟩ = some (.string x) := by rw [hX]; exact box_at _ _ (Below.refl _ _) 0 _ rfl
    have r1 : X.cell? ⟨wr.heap.size, 1, none⟩ = some (.string t) := by rw [hX]; exact box_at _ _ (Below.refl _ _) 1 _ rfl
    have e0 := (hbel.out.cell (p := ⟨b, off + k * 2, none⟩) hb).trans c0
    have e1 := (hbel.out.cell (p := ⟨b, off + k * 2 + 1, none⟩) hb).trans c1
    have eg := (BX.out.cell (p := ⟨g, of2 + k, none⟩) hg).trans cg
    have EQ : Hid (∀ R, (eqB x y && nameB t) = R → (eqB sl[k].1 (nthB L k) && nameB sl[k].2) = R) := fun R h => by rw [ex, et, ey]; exact h
    clear c0 c1 cg z1 hX ex et ey
    go_upto_region 6 with fail
    rw [← EX.out]
    cases c : (eqB x y && nameB t)
    · have HP : Hid (¬ EqP L sl) := fun h => by
        have h1 := h.2 k hks
        have := EQ.out _ c
        rw [h1.1, h1.2] at this
        cases this
      go_wp2_with fail
      refine (isSlot_any x t y _ HZ.out).mono ?_; rintro e u ⟨rfl, hb1⟩
      rw [c]
      have HB : Hid (Below w.heap.size w u) := BX.out.trans (hb1.mono BX.out.size)
      clear hb1
      go_wp2_with fail
      go_ret
      rw [eqp_no HP.out]
      exact ⟨rfl, HB.out⟩
    · have HP : Hid (eqB sl[k].1 (nthB L k) = true ∧ nameB sl[k].2 = true) := by
        have := EQ.out _ c
        rw [Bool.and_eq_true] at this
        exact this
      go_wp2_with fail
      refine (isSlot_any x t y _ HZ.out).mono ?_; rintro e u ⟨rfl, hb1⟩
      rw [c]
      have HB : Hid (Below w.heap.size w u) := BX.out.trans (hb1.mono BX.out.size)
      clear hb1
      go_wp2_with fail
      go_roundw
      case rel => exact ⟨k + 1, by omega, by go_num, fun j hj hjk => by
        by_cases e : j = k
        · subst e; exact HP.out
        · exact hall.out j hj (by omega), HB.out⟩
      case measure => simp [intOf]; omega

end Go.Proofs.YtmjafmdecgeckabGreat
