/-
  A law for a chain of calls beside a box that is made meanwhile, in a region that draws its order. No program is named here.
-/
import Derived.Test.YtkbocdkgkhgioabHi
import Derived.Test.YtkbocdkgkhgioabHj
namespace Go.Proofs.Ytkbocdkgkhgioab
open Go.RowKit Go.Sort

section
variable {P : Program} {md : Region.Mode} {ops : Array Oper} {C : World → Prop} {n : Nat} {L : Array Bool → Act → World → Prop}

/-- The rest of a chain, the box made already. -/
theorem chain_done {g : Nat} (Φ : Nat → Act → World → Prop) :
    ∀ (is : List Nat) (k : Nat) (listed : Array Bool) (a : Act) (w : World), (∀ i ∈ is, i < n) → (∀ j (hj : j < is.length), Region.ready md ops (listAll (is.take j) listed) = [is[j]]) →
      (∀ j (hj : j < is.length) a w, Φ (k + j) a w → stepE P ops is[j] (fun a' w' => C w' ∧ Φ (k + j + 1) a' w') a w) →
      (∀ a w, Φ (k + is.length) a w → anyC P md ops C n L g (listAll is listed) a w) → Φ k a w → anyC P md ops C n L (is.length + g) listed a w
  | [], k, listed, a, w, _, _, _, he, h => by
    rw [List.length_nil, Nat.zero_add]
    exact he a w (by simpa using h)
  | i :: is, k, listed, a, w, hn, hr, hs, he, h => by
    rw [List.length_cons, show is.length + 1 + g = (is.length + g) + 1 by omega]
    have r0 : Region.ready md ops listed = [i] := hr 0 (Nat.succ_pos _)
    refine anyC_call i r0 (hn i (by simp)) ?_
    obtain ⟨o, ho, hg, fn, args, hrun, hc⟩ := hs 0 (by simp) a w (by simpa using h)
    refine ⟨o, ho, hg, fn, args, hrun, hc.mono fun e u ⟨v, hv, hC, hk⟩ => ⟨v, hv, hC, ?_⟩⟩
    refine chain_done Φ is (k + 1) _ _ _ (fun j hj => hn j (by simp [hj])) (fun j hj => ?_) (fun j hj a w h => ?_) (fun a w h => ?_) (by simpa using hk)
    · have := hr (j + 1) (by simpa using hj)
      simpa [listAll] using this
    · have := hs (j + 1) (by simpa using hj) a w (by rw [show k + (j + 1) = k + 1 + j by omega]; exact h)
      rw [show k + (j + 1) + 1 = k + 1 + j + 1 by omega] at this
      simpa using this
    · have := he a w (by rw [List.length_cons, show k + (is.length + 1) = k + 1 + is.length by omega]; exact h)
      simpa [listAll] using this

/-- The box that is made meanwhile. -/
theorem chain_box {g : Nat} (Φ : Option Nat → Nat → Act → World → Prop) (ia da : Nat) (oa : Oper) (z : Array Value) (t : TypeId) (ha : ops[ia]? = some oa ∧ oa.guard = none ∧ oa.dst = some da ∧ ia < n)
    (exa : ∀ (b : Act) (u : World), (execOp b.eval oa).run P u = .ok (.value (.pointer (some ⟨u.heap.size, 0, none⟩))) (u.alloc (.cells z t)))
    (hal : ∀ k a w, Φ none k a w → C (w.alloc (.cells z t)) ∧ Φ (some w.heap.size) k (a.put (some da) (.pointer (some ⟨w.heap.size, 0, none⟩))) (w.alloc (.cells z t))) :
    ∀ (is : List Nat) (k : Nat) (listed : Array Bool) (a : Act) (w : World), ia ∉ is → (∀ i ∈ is, i < n) →
      (∀ j (hj : j < is.length), Region.ready md ops (listAll (is.take j) listed) = [is[j], ia]) →
      (∀ j (hj : j < is.length), Region.ready md ops (listAll (is.take j) (listed.setIfInBounds ia true)) = [is[j]]) →
      (∀ o j (hj : j < is.length) a w, Φ o (k + j) a w → stepE P ops is[j] (fun a' w' => C w' ∧ Φ o (k + j + 1) a' w') a w) →
      (∀ a w, Φ none (k + is.length) a w → anyC P md ops C n L (g + 1) (listAll is listed) a w) →
      (∀ p a w, Φ (some p) (k + is.length) a w → anyC P md ops C n L g (listAll is (listed.setIfInBounds ia true)) a w) → Φ none k a w → anyC P md ops C n L (is.length + (g + 1)) listed a w
  | [], k, listed, a, w, _, _, _, _, _, he, _, h => by
    rw [List.length_nil, Nat.zero_add]
    exact he a w (by simpa using h)
  | i :: is, k, listed, a, w, hia, hn, hr, hr1, hs, he, he1, h => by
    rw [List.length_cons, show is.length + 1 + (g + 1) = (is.length + 1 + g) + 1 by omega]
    have r0 : Region.ready md ops listed = [i, ia] := hr 0 (Nat.succ_pos _)
    obtain ⟨ha1, ha2, ha3, ha4⟩ := ha
    refine ⟨by rw [r0]; simp, fun j hj => ?_⟩
    rw [r0] at hj
    simp only [List.mem_cons, List.not_mem_nil, or_false] at hj
    rcases hj with rfl | rfl
    · refine ⟨hn j (by simp), .inr ?_⟩
      obtain ⟨o, ho, hg, fn, args, hrun, hc⟩ := hs none 0 (by simp) a w (by simpa using h)
      refine ⟨o, ho, hg, fn, args, hrun, hc.mono fun e u ⟨v, hv, hC, hk⟩ => ⟨v, hv, hC, ?_⟩⟩
      rw [show is.length + 1 + g = is.length + (g + 1) by omega]
      simp only [List.mem_cons, not_or] at hia
      have cm : ∀ l : Array Bool, (l.setIfInBounds ia true).setIfInBounds j true = (l.setIfInBounds j true).setIfInBounds ia true := fun l => Array.setIfInBounds_comm _ _ hia.1
      refine chain_box Φ ia da oa z t ⟨ha1, ha2, ha3, ha4⟩ exa hal is (k + 1) _ _ _ hia.2 (fun j hj => hn j (by simp [hj])) (fun m hm => ?_) (fun m hm => ?_) (fun o m hm a w h => ?_) (fun a w h => ?_) (fun p a w h => ?_) (by simpa using hk)
      · have := hr (m + 1) (by simpa using hm)
        simpa [listAll] using this
      · have := hr1 (m + 1) (by simpa using hm)
        simpa [listAll, cm] using this
      · have := hs o (m + 1) (by simpa using hm) a w (by rw [show k + (m + 1) = k + 1 + m by omega]; exact h)
        rw [show k + (m + 1) + 1 = k + 1 + m + 1 by omega] at this
        simpa using this
      · have := he a w (by rw [List.length_cons, show k + (is.length + 1) = k + 1 + is.length by omega]; exact h)
        simpa [listAll] using this
      · have := he1 p a w (by rw [List.length_cons, show k + (is.length + 1) = k + 1 + is.length by omega]; exact h)
        simpa [listAll, cm] using this
    · obtain ⟨hC, hk⟩ := hal k a w h
      refine ⟨ha4, .inl ⟨oa, ha1, ha2, _, _, exa a w, hC, ?_⟩⟩
      rw [ha3]
      have := chain_done (g := g) (P := P) (md := md) (ops := ops) (C := C) (n := n) (L := L) (fun m => Φ (some w.heap.size) m) (i :: is) k (listed.setIfInBounds j true) _ _ hn hr1 (fun m hm a w h => hs _ m hm a w h) (fun a w h => he1 _ a w h) hk
      rwa [List.length_cons] at this

/-- A box that is made, or not yet. -/
def bx (d : Nat) (o : Option Nat) (a : Act) : Act := match o with
  | none => a
  | some p => a.put (some d) (.pointer (some ⟨p, 0, none⟩))
theorem bx_put {d e : Nat} (h : e ≠ d) (o : Option Nat) (a : Act) (v : Value) : (bx d o a).put (some e) v = bx d o (a.put (some e) v) := by
  cases o with
  | none => rfl
  | some p => exact Act.put_comm a (x := some d) (y := some e) _ v (fun x hx => by cases hx; simpa using h)

/-- The same, where the states are told from the first one on. -/
theorem chain_box0 {g : Nat} {listed : Array Bool} {a : Act} {w : World} (Φ : Act → Option Nat → Nat → Act → World → Prop) (is : List Nat) (ia da : Nat) (oa : Oper) (z : Array Value) (t : TypeId) (ha : ops[ia]? = some oa ∧ oa.guard = none ∧ oa.dst = some da ∧ ia < n) (hia : ia ∉ is) (hn : ∀ i ∈ is, i < n)
    (exa : ∀ (b : Act) (u : World), (execOp b.eval oa).run P u = .ok (.value (.pointer (some ⟨u.heap.size, 0, none⟩))) (u.alloc (.cells z t)))
    (hr : ∀ j (hj : j < is.length), Region.ready md ops (listAll (is.take j) listed) = [is[j], ia]) (hr1 : ∀ j (hj : j < is.length), Region.ready md ops (listAll (is.take j) (listed.setIfInBounds ia true)) = [is[j]])
    (hal : ∀ k b u, Φ a none k b u → C (u.alloc (.cells z t)) ∧ Φ a (some u.heap.size) k (b.put (some da) (.pointer (some ⟨u.heap.size, 0, none⟩))) (u.alloc (.cells z t)))
    (hs : ∀ o j (hj : j < is.length) b u, Φ a o j b u → stepE P ops is[j] (fun a' w' => C w' ∧ Φ a o (j + 1) a' w') b u)
    (h0 : Φ a none 0 a w)
    (he : ∀ b u, Φ a none is.length b u → anyC P md ops C n L (g + 1) (listAll is listed) b u)
    (he1 : ∀ p b u, Φ a (some p) is.length b u → anyC P md ops C n L g (listAll is (listed.setIfInBounds ia true)) b u) : anyC P md ops C n L (is.length + (g + 1)) listed a w :=
  chain_box (Φ a) ia da oa z t ha exa hal is 0 listed a w hia hn hr hr1 (fun o j hj b u h => by rw [Nat.zero_add] at h ⊢; exact hs o j hj b u h) (fun b u h => he b u (by rwa [Nat.zero_add] at h)) (fun p b u h => he1 p b u (by rwa [Nat.zero_add] at h)) h0

/-- Quiet ones may be taken first, behind calls too. -/
def lexB (l : List Oper) (n : Nat) (ks : List Nat) (listed : Array Bool) : Bool :=
  Region.noSelect l.toArray && decide (n < l.length) && Region.sinkB .any l.toArray n && Region.chainB .any l.toArray n && invB l.toArray n listed && mixB .any l.toArray n ks listed
theorem lexT {Q : Exit → Act → World → Prop} {l : List Oper} {listed : Array Bool} {a : Act} {w : World} (g : Nat) (ks : List Nat) (hB : lexB l n ks listed = true) (hw : C w)
    (h : wpQuiet P l.toArray C (fun a' => anyC P .any l.toArray C n (tailC P Q l n) g (listAll ks listed) a' w) (ks.filterMap fun k => l[k]?) a) : anyC P .any l.toArray C n (tailC P Q l n) (ks.length + g) listed a w := by
  simp only [lexB, Bool.and_eq_true, decide_eq_true_eq] at hB
  obtain ⟨⟨⟨⟨⟨hsel, hn⟩, hs⟩, hc⟩, hi⟩, hm⟩ := hB
  exact anyC_lex hsel hs hc (by simpa using hn) (fun listed a w hL => seqB_ready hL.1) g w hw ks _ listed a (mix_ops ks _ hm) (inv_of hi) hm h
end

end Go.Proofs.Ytkbocdkgkhgioab
