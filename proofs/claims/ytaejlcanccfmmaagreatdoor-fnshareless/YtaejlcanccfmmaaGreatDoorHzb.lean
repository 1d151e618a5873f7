import Derived.Test.YtaejlcanccfmmaaGreatDoorM13
namespace Go.Proofs.YtaejlcanccfmmaaGreatDoor
open Go.RowKit Go.Sort
section
variable {P : Program} {md : Region.Mode} {ops : Array Oper} {C : World → Prop} {n : Nat} {L : Array Bool → Act → World → Prop}
theorem chainH_done {g : Nat} (Φ : Nat → Act → World → Prop) :
    ∀ (is : List Nat) (k : Nat) (listed : Array Bool) (a : Act) (w : World), (∀ i ∈ is, i < n) → (∀ j (hj : j < is.length), Region.ready md ops (listAll (is.take j) listed) = [is[j]]) →
      (∀ j (hj : j < is.length) a w, Φ (k + j) a w → stepH P ops is[j] (fun a' w' => C w' ∧ Φ (k + j + 1) a' w') a w) →
      (∀ a w, Φ (k + is.length) a w → anyH P md ops C n L g (listAll is listed) a w) → Φ k a w → anyH P md ops C n L (is.length + g) listed a w
  | [], k, listed, a, w, _, _, _, he, h => by
    rw [List.length_nil, Nat.zero_add]
    exact he a w (by simpa using h)
  | i :: is, k, listed, a, w, hn, hr, hs, he, h => by
    rw [List.length_cons, show is.length + 1 + g = (is.length + g) + 1 by omega]
    have r0 : Region.ready md ops listed = [i] := hr 0 (Nat.succ_pos _)
    refine ⟨by rw [r0]; simp, fun j hj => ?_⟩
    rw [r0] at hj
    obtain rfl := List.mem_singleton.1 hj
    refine ⟨hn j (by simp), (hs 0 (by simp) a w (by simpa using h)).mono fun a w ⟨hC, hk⟩ => ⟨hC, ?_⟩⟩
    refine chainH_done Φ is (k + 1) _ _ _ (fun j hj => hn j (by simp [hj])) (fun j hj => ?_) (fun j hj a w h => ?_) (fun a w h => ?_) (by simpa using hk)
    · have := hr (j + 1) (by simpa using hj)
      simpa [listAll] using this
    · have := hs (j + 1) (by simpa using hj) a w (by rw [show k + (j + 1) = k + 1 + j by omega]; exact h)
      rw [show k + (j + 1) + 1 = k + 1 + j + 1 by omega] at this
      simpa using this
    · have := he a w (by rw [List.length_cons, show k + (is.length + 1) = k + 1 + is.length by omega]; exact h)
      simpa [listAll] using this
theorem chainH_box {g : Nat} (Φ : Option Nat → Nat → Act → World → Prop) (ia da : Nat) (oa : Oper) (z : Array Value) (t : TypeId) (ha : ops[ia]? = some oa ∧ oa.guard = none ∧ oa.dst = some da ∧ ia < n)
    (exa : ∀ (b : Act) (u : World), (execOp b.eval oa).run P u = .ok (.value (.pointer (some ⟨u.heap.size, 0, none⟩))) (u.alloc (.cells z t)))
    (hal : ∀ k a w, Φ none k a w → C (w.alloc (.cells z t)) ∧ Φ (some w.heap.size) k (a.put (some da) (.pointer (some ⟨w.heap.size, 0, none⟩))) (w.alloc (.cells z t))) :
    ∀ (is : List Nat) (k : Nat) (listed : Array Bool) (a : Act) (w : World), ia ∉ is → (∀ i ∈ is, i < n) →
      (∀ j (hj : j < is.length), Region.ready md ops (listAll (is.take j) listed) = [is[j], ia]) →
      (∀ j (hj : j < is.length), Region.ready md ops (listAll (is.take j) (listed.setIfInBounds ia true)) = [is[j]]) →
      (∀ o j (hj : j < is.length) a w, Φ o (k + j) a w → stepH P ops is[j] (fun a' w' => C w' ∧ Φ o (k + j + 1) a' w') a w) →
      (∀ a w, Φ none (k + is.length) a w → anyH P md ops C n L (g + 1) (listAll is listed) a w) →
      (∀ p a w, Φ (some p) (k + is.length) a w → anyH P md ops C n L g (listAll is (listed.setIfInBounds ia true)) a w) → Φ none k a w → anyH P md ops C n L (is.length + (g + 1)) listed a w
  | [], k, listed, a, w, _, _, _, _, _, he, _, h => by
    rw [List.length_nil, Nat.zero_add]
    exact he a w (by simpa using h)
  | i :: is, k, listed, a, w, hia, hn, hr, hr1, hs, he, he1, h => by
    rw [List.length_cons, show is.length + 1 + (g + 1) = (is.length + 1 + g) + 1 by omega]
    have r0 : Region.ready md ops listed = [i, ia] := hr 0 (Nat.succ_pos _)
    obtain ⟨ha1, ha2, ha3, ha4⟩ := ha
    refine ⟨by rw [r0]; simp, fun j hj => ?_⟩
    rw [r0] at hj
    simp only [List.mem_cons, List.not_mem_nil, or_false] at hj
    rcases hj with rfl | rfl
    · refine ⟨hn j (by simp), (hs none 0 (by simp) a w (by simpa using h)).mono fun a w ⟨hC, hk⟩ => ⟨hC, ?_⟩⟩
      rw [show is.length + 1 + g = is.length + (g + 1) by omega]
      simp only [List.mem_cons, not_or] at hia
      have cm : ∀ l : Array Bool, (l.setIfInBounds ia true).setIfInBounds j true = (l.setIfInBounds j true).setIfInBounds ia true := fun l => Array.setIfInBounds_comm _ _ hia.1
      refine chainH_box Φ ia da oa z t ⟨ha1, ha2, ha3, ha4⟩ exa hal is (k + 1) _ _ _ hia.2 (fun j hj => hn j (by simp [hj])) (fun m hm => ?_) (fun m hm => ?_) (fun o m hm a w h => ?_) (fun a w h => ?_) (fun p a w h => ?_) (by simpa using hk)
      · have := hr (m + 1) (by simpa using hm)
        simpa [listAll] using this
      · have := hr1 (m + 1) (by simpa using hm)
        simpa [listAll, cm] using this
      · have := hs o (m + 1) (by simpa using hm) a w (by rw [show k + (m + 1) = k + 1 + m by omega]; exact h)
        rw [show k + (m + 1) + 1 = k + 1 + m + 1 by omega] at this
        simpa using this
      · have := he a w (by rw [List.length_cons, show k + (is.length + 1) = k + 1 + is.length by omega]; exact h)
        simpa [listAll] using this
      · have := he1 p a w (by rw [List.length_cons, show k + (is.length + 1) = k + 1 + is.length by omega]; exact h)
        simpa [listAll, cm] using this
    · obtain ⟨hC, hk⟩ := hal k a w h
      refine ⟨ha4, oa, ha1, .inl ⟨wanted_none ha2 _, _, _, exa a w, hC, ?_⟩⟩
      rw [ha3]
      have := chainH_done (g := g) (P := P) (md := md) (ops := ops) (C := C) (n := n) (L := L) (fun m => Φ (some w.heap.size) m) (i :: is) k (listed.setIfInBounds j true) _ _ hn hr1 (fun m hm a w h => hs _ m hm a w h) (fun a w h => he1 _ a w h) hk
      rwa [List.length_cons] at this
theorem chainH_box0 {g : Nat} {listed : Array Bool} {a : Act} {w : World} (Φ : Act → Option Nat → Nat → Act → World → Prop) (is : List Nat) (ia da : Nat) (oa : Oper) (z : Array Value) (t : TypeId) (ha : ops[ia]? = some oa ∧ oa.guard = none ∧ oa.dst = some da ∧ ia < n) (hia : ia ∉ is) (hn : ∀ i ∈ is, i < n)
    (exa : ∀ (b : Act) (u : World), (execOp b.eval oa).run P u = .ok (.value (.pointer (some ⟨u.heap.size, 0, none⟩))) (u.alloc (.cells z t)))
    (hr : ((List.range is.length).all fun j => Region.ready md ops (listAll (is.take j) listed) == [is.getD j 0, ia] && Region.ready md ops (listAll (is.take j) (listed.setIfInBounds ia true)) == [is.getD j 0]) = true)
    (hal : ∀ k b u, Φ a none k b u → C (u.alloc (.cells z t)) ∧ Φ a (some u.heap.size) k (b.put (some da) (.pointer (some ⟨u.heap.size, 0, none⟩))) (u.alloc (.cells z t)))
    (hs : ∀ o j (hj : j < is.length) b u, Φ a o j b u → stepH P ops is[j] (fun a' w' => C w' ∧ Φ a o (j + 1) a' w') b u)
    (h0 : Φ a none 0 a w)
    (he : ∀ b u, Φ a none is.length b u → anyH P md ops C n L (g + 1) (listAll is listed) b u)
    (he1 : ∀ p b u, Φ a (some p) is.length b u → anyH P md ops C n L g (listAll is (listed.setIfInBounds ia true)) b u) : anyH P md ops C n L (is.length + (g + 1)) listed a w := by
  have hr' : ∀ j (hj : j < is.length), Region.ready md ops (listAll (is.take j) listed) = [is[j], ia] ∧ Region.ready md ops (listAll (is.take j) (listed.setIfInBounds ia true)) = [is[j]] := fun j hj => by
    have h := List.all_eq_true.1 hr j (List.mem_range.2 hj)
    simp only [Bool.and_eq_true, beq_iff_eq] at h
    rw [show is.getD j 0 = is[j] by simp [hj]] at h
    exact h
  exact chainH_box (Φ a) ia da oa z t ha exa hal is 0 listed a w hia hn (fun j hj => (hr' j hj).1) (fun j hj => (hr' j hj).2) (fun o j hj b u h => by rw [Nat.zero_add] at h ⊢; exact hs o j hj b u h) (fun b u h => he b u (by rwa [Nat.zero_add] at h)) (fun p b u h => he1 p b u (by rwa [Nat.zero_add] at h)) h0
def headB (l : List Oper) (n : Nat) (ks : List Nat) : Bool :=
  Region.noSelect l.toArray && decide (n < l.length) && decide (ks.length ≤ n) && waitB .any l.toArray n (Array.replicate l.length false) && Region.chainB .any l.toArray n && mixH .any l.toArray n ks (Array.replicate l.length false)
theorem wp_region_head {id : Nat} {Q : Exit → Act → World → Prop} {a : Act} {w : World} {l : List Oper} (n : Nat) (ks : List Nat) (hm : P.follows .mixedOrders = true) (hB : headB l n ks = true)
    (h : wpQuiet P l.toArray (fun w' => ∃ p : Regrown, w' = grow (redrawn w p.d) p.os) (fun a' => anyH P .any l.toArray (fun w' => ∃ p : Regrown, w' = grow (redrawn w p.d) p.os) n (tailC P Q l n) (n - ks.length) (listAll ks (Array.replicate l.length false)) a' w.drew) (ks.filterMap fun k => l[k]?) a) :
    (Code.region id l.toArray true).wp P Q a w := by
  simp only [headB, Bool.and_eq_true, decide_eq_true_eq] at hB
  obtain ⟨⟨⟨⟨⟨hsel, hn⟩, hkn⟩, hs⟩, hc⟩, hmix⟩ := hB
  have hn' : n < l.toArray.size := by simpa using hn
  have hdl : (l.drop n).length = l.length - n := by simp
  have inv0 : HeadInv .any l.toArray n (Array.replicate l.length false) :=
    ⟨by simp, fun j oj _ hl => (by rw [getD_replicate_false] at hl; cases hl), fun t _ ht => getD_in (by simpa using ht) (getD_replicate_false _ _)⟩
  have H := anyH_lex (P := P) (md := .any) (L := tailC P Q l n) hsel hs hc hn' (fun listed a w hL => seqB_ready hL.1) (n - ks.length) w.drew ⟨⟨w.drawn + 1, #[]⟩, by rw [grow_empty]; rfl⟩ ks _ _ a (mixH_ops ks _ hmix) inv0 (fun k hk => hk) hmix h
  have G := any_of_H (Q := Q) (g := l.length - n) (fun listed a' w' hL => by
    have := wpAny_of_seq (P := P) (md := .any) (ops := l.toArray) (Q' := Q) (l.drop n) n listed a' w' (fun j => by simp [List.getElem?_drop]) (by rw [hdl]; exact hL.1) hL.2
    rwa [hdl] at this) _ _ _ _ H
  rw [show ks.length + (n - ks.length) + (l.length - n) = l.toArray.size by simp; omega] at G
  refine wp_region_any hm ?_
  simpa using G
end
end Go.Proofs.YtaejlcanccfmmaaGreatDoor
