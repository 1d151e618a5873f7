/-
  Several texts in one.
-/
import Derived.Test.YtigkkelaadbhcabGreatM22
import Derived.Test.YtigkkelaadbhcabGreatM46
namespace Go.Proofs.YtigkkelaadbhcabGreat
open Go.RowKit Go.Sort
section
variable {P : Program} {md : Region.Mode} {ops : Array Oper} {C : World → Prop} {n : Nat} {L : Array Bool → Act → World → Prop}
theorem chainH_done {g : Nat} (Φ : Nat → Act → World → Prop) :
    ∀ (is : List Nat) (k : Nat) (listed : Array Bool) (a : Act) (w : World), (∀ i ∈ is, i < n) → (∀ j (hj : j < is.length), Region.ready md ops (listAll (is.take j) listed) = [is[j]]) →
      (∀ j (hj : j < is.length) a w, Φ (k + j) a w → stepH P ops is[j] (fun a' w' => C w' ∧ Φ (k + j + 1) a' w') a w) →
      (∀ a w, Φ (k + is.length) a w → anyH P md ops C n L g (listAll is listed) a w) → Φ k a w → anyH P md ops C n L (is.length + g) listed a w
  | [], k, listed, a, w, _, _, _, he, h => by
    rw [List.length_nil, Nat.zero_add]
    exact he a w (by simpa using h)
  | i :: is, k, listed, a, w, hn, hr, hs, he, h => by
    rw [List.length_cons, show is.length + 1 + g = (is.length + g) + 1 by omega]
    have r0 : Region.ready md ops listed = [i] := hr 0 (Nat.succ_pos _)
    refine ⟨by rw [r0]; simp, fun j hj => ?_⟩
    rw [r0] at hj
    obtain rfl := List.mem_singleton.1 hj
    refine ⟨hn j (by simp), (hs 0 (by simp) a w (by simpa using h)).mono fun a w ⟨hC, hk⟩ => ⟨hC, ?_⟩⟩
    refine chainH_done Φ is (k + 1) _ _ _ (fun j hj => hn j (by simp [hj])) (fun j hj => ?_) (fun j hj a w h => ?_) (fun a w h => ?_) (by simpa using hk)
    · have := hr (j + 1) (by simpa using hj)
      simpa [listAll] using this
    · have := hs (j + 1) (by simpa using hj) a w (by rw [show k + (j + 1) = k + 1 + j by omega]; exact h)
      rw [show k + (j + 1) + 1 = k + 1 + j + 1 by omega] at this
      simpa using this
    · have := he a w (by rw [List.length_cons, show k + (is.length + 1) = k + 1 + is.length by omega]; exact h)
      simpa [listAll] using this
theorem chainH_box {g : Nat} (Φ : Option Nat → Nat → Act → World → Prop) (ia da : Nat) (oa : Oper) (z : Array Value) (t : TypeId) (ha : ops[ia]? = some oa ∧ oa.guard = none ∧ oa.dst = some da ∧ ia < n)
    (exa : ∀ (b : Act) (u : World), (execOp b.eval oa).run P u = .ok (.value (.pointer (some ⟨u.heap.size, 0, none⟩))) (u.alloc (.cells z t)))
    (hal : ∀ k a w, Φ none k a w → C (w.alloc (.cells z t)) ∧ Φ (some w.heap.size) k (a.put (some da) (.pointer (some ⟨w.heap.size, 0, none⟩))) (w.alloc (.cells z t))) :
    ∀ (is : List Nat) (k : Nat) (listed : Array Bool) (a : Act) (w : World), ia ∉ is → (∀ i ∈ is, i < n) →
      (∀ j (hj : j < is.length), Region.ready md ops (listAll (is.take j) listed) = [is[j], ia]) →
      (∀ j (hj : j < is.length), Region.ready md ops (listAll (is.take j) (listed.setIfInBounds ia true)) = [is[j]]) →
      (∀ o j (hj : j < is.length) a w, Φ o (k + j) a w → stepH P ops is[j] (fun a' w' => C w' ∧ Φ o (k + j + 1) a' w') a w) →
      (∀ a w, Φ none (k + is.length) a w → anyH P md ops C n L (g + 1) (listAll is listed) a w) →
      (∀ p a w, Φ (some p) (k + is.length) a w → anyH P md ops C n L g (listAll is (listed.setIfInBounds ia true)) a w) → Φ none k a w → anyH P md ops C n L (is.length + (g + 1)) listed a w
  | [], k, listed, a, w, _, _, _, _, _, he, _, h => by
    rw [List.length_nil, Nat.zero_add]
    exact he a w (by simpa using h)
  | i :: is, k, listed, a, w, hia, hn, hr, hr1, hs, he, he1, h => by
    rw [List.length_cons, show is.length + 1 + (g + 1) = (is.length + 1 + g) + 1 by omega]
    have r0 : Region.ready md ops listed = [i, ia] := hr 0 (Nat.succ_pos _)
    obtain ⟨ha1, ha2, ha3, ha4⟩ := ha
    refine ⟨by rw [r0]; simp, fun j hj => ?_⟩
    rw [r0] at hj
    simp only [List.mem_cons, List.not_mem_nil, or_false] at hj
    rcases hj with rfl | rfl
    · refine ⟨hn j (by simp), (hs none 0 (by simp) a w (by simpa using h)).mono fun a w ⟨hC, hk⟩ => ⟨hC, ?_⟩⟩
      rw [show is.length + 1 + g = is.length + (g + 1) by omega]
      simp only [List.mem_cons, not_or] at hia
      have cm : ∀ l : Array Bool, (l.setIfInBounds ia true).setIfInBounds j true = (l.setIfInBounds j true).setIfInBounds ia true := fun l => Array.setIfInBounds_comm _ _ hia.1
      refine chainH_box Φ ia da oa z t ⟨ha1, ha2, ha3, ha4⟩ exa hal is (k + 1) _ _ _ hia.2 (fun j hj => hn j (by simp [hj])) (fun m hm => ?_) (fun m hm => ?_) (fun o m hm a w h => ?_) (fun a w h => ?_) (fun p a w h => ?_) (by simpa using hk)
      · have := hr (m + 1) (by simpa using hm)
        simpa [listAll] using this
      · have := hr1 (m + 1) (by simpa using hm)
        simpa [listAll, cm] using this
      · have := hs o (m + 1) (by simpa using hm) a w (by rw [show k + (m + 1) = k + 1 + m by omega]; exact h)
        rw [show k + (m + 1) + 1 = k + 1 + m + 1 by omega] at this
        simpa using this
      · have := he a w (by rw [List.length_cons, show k + (is.length + 1) = k + 1 + is.length by omega]; exact h)
        simpa [listAll] using this
      · have := he1 p a w (by rw [List.length_cons, show k + (is.length + 1) = k + 1 + is.length by omega]; exact h)
        simpa [listAll, cm] using this
    · obtain ⟨hC, hk⟩ := hal k a w h
      refine ⟨ha4, oa, ha1, .inl ⟨wanted_none ha2 _, _, _, exa a w, hC, ?_⟩⟩
      rw [ha3]
      have := chainH_done (g := g) (P := P) (md := md) (ops := ops) (C := C) (n := n) (L := L) (fun m => Φ (some w.heap.size) m) (i :: is) k (listed.setIfInBounds j true) _ _ hn hr1 (fun m hm a w h => hs _ m hm a w h) (fun a w h => he1 _ a w h) hk
      rwa [List.length_cons] at this
theorem chainH_box0 {g : Nat} {listed : Array Bool} {a : Act} {w : World} (Φ : Act → Option Nat → Nat → Act → World → Prop) (is : List Nat) (ia da : Nat) (oa : Oper) (z : Array Value) (t : TypeId) (ha : ops[ia]? = some oa ∧ oa.guard = none ∧ oa.dst = some da ∧ ia < n) (hia : ia ∉ is) (hn : ∀ i ∈ is, i < n)
    (exa : ∀ (b : Act) (u : World), (execOp b.eval oa).run P u = .ok (.value (.pointer (some ⟨u.heap.size, 0, none⟩))) (u.alloc (.cells z t)))
    (hr : ((List.range is.length).all fun j => Region.ready md ops (listAll (is.take j) listed) == [is.getD j 0, ia] && Region.ready md ops (listAll (is.take j) (listed.setIfInBounds ia true)) == [is.getD j 0]) = true)
    (hal : ∀ k b u, Φ a none k b u → C (u.alloc (.cells z t)) ∧ Φ a (some u.heap.size) k (b.put (some da) (.pointer (some ⟨u.heap.size, 0, none⟩))) (u.alloc (.cells z t)))
    (hs : ∀ o j (hj : j < is.length) b u, Φ a o j b u → stepH P ops is[j] (fun a' w' => C w' ∧ Φ a o (j + 1) a' w') b u)
    (h0 : Φ a none 0 a w)
    (he : ∀ b u, Φ a none is.length b u → anyH P md ops C n L (g + 1) (listAll is listed) b u)
    (he1 : ∀ p b u, Φ a (some p) is.length b u → anyH P md ops C n L g (listAll is (listed.setIfInBounds ia true)) b u) : anyH P md ops C n L (is.length + (g + 1)) listed a w := by
  have hr' : ∀ j (hj : j < is.length), Region.ready md ops (listAll (is.take j) listed) = [is[j], ia] ∧ Region.ready md ops (listAll (is.take j) (listed.setIfInBounds ia true)) = [is[j]] := fun j hj => by
    have h := List.all_eq_true.1 hr j (List.mem_range.2 hj)
    simp only [Bool.and_eq_true, beq_iff_eq] at h
    rw [show is.getD j 0 = is[j] by simp [hj]] at h
    exact h
  exact chainH_box (Φ a) ia da oa z t ha exa hal is 0 listed a w hia hn (fun j hj => (hr' j hj).1) (fun j hj => (hr' j hj).2) (fun o j hj b u h => by rw [Nat.zero_add] at h ⊢; exact hs o j hj b u h) (fun b u h => he b u (by rwa [Nat.zero_add] at h)) (fun p b u h => he1 p b u (by rwa [Nat.zero_add] at h)) h0
def headB (l : List Oper) (n : Nat) (ks : List Nat) : Bool :=
  Region.noSelect l.toArray && decide (n < l.length) && decide (ks.length ≤ n) && waitB .any l.toArray n (Array.replicate l.length false) && Region.chainB .any l.toArray n && mixH .any l.toArray n ks (Array.replicate l.length false)
theorem wp_region_head {id : Nat} {Q : Exit → Act → World → Prop} {a : Act} {w : World} {l : List Oper} (n : Nat) (ks : List Nat) (hm : P.follows .mixedOrders = true) (hB : headB l n ks = true)
    (h : wpQuiet P l.toArray (fun w' => ∃ p : Regrown, w' = grow (redrawn w p.d) p.os) (fun a' => anyH P .any l.toArray (fun w' => ∃ p : Regrown, w' = grow (redrawn w p.d) p.os) n (tailC P Q l n) (n - ks.length) (listAll ks (Array.replicate l.length false)) a' w.drew) (ks.filterMap fun k => l[k]?) a) :
    (Code.region id l.toArray true).wp P Q a w := by
  simp only [headB, Bool.and_eq_true, decide_eq_true_eq] at hB
  obtain ⟨⟨⟨⟨⟨hsel, hn⟩, hkn⟩, hs⟩, hc⟩, hmix⟩ := hB
  have hn' : n < l.toArray.size := by simpa using hn
  have hdl : (l.drop n).length = l.length - n := by simp
  have inv0 : HeadInv .any l.toArray n (Array.replicate l.length false) :=
    ⟨by simp, fun j oj _ hl => (by rw [getD_replicate_false] at hl; cases hl), fun t _ ht => getD_in (by simpa using ht) (getD_replicate_false _ _)⟩
  have H := anyH_lex (P := P) (md := .any) (L := tailC P Q l n) hsel hs hc hn' (fun listed a w hL => seqB_ready hL.1) (n - ks.length) w.drew ⟨⟨w.drawn + 1, #[]⟩, by rw [grow_empty]; rfl⟩ ks _ _ a (mixH_ops ks _ hmix) inv0 (fun k hk => hk) hmix h
  have G := any_of_H (Q := Q) (g := l.length - n) (fun listed a' w' hL => by
    have := wpAny_of_seq (P := P) (md := .any) (ops := l.toArray) (Q' := Q) (l.drop n) n listed a' w' (fun j => by simp [List.getElem?_drop]) (by rw [hdl]; exact hL.1) hL.2
    rwa [hdl] at this) _ _ _ _ H
  rw [show ks.length + (n - ks.length) + (l.length - n) = l.toArray.size by simp; omega] at G
  refine wp_region_any hm ?_
  simpa using G
end
end Go.Proofs.YtigkkelaadbhcabGreat

namespace Go.Proofs.YtigkkelaadbhcabGreat
open Go.RowKit Go.Sort
theorem own_built3 {w : World} {t : TypeId} {c : Array Value} {n k B : Nat} (hB : B ≤ w.heap.size) (hn : n ≤ maxLen) (hc : c.size = n * k) : (w.alloc (.cells c t)).ownsRow B t k (.slice (some ⟨w.heap.size, 0, none⟩) n n) n c.toList := by
  refine ⟨by simpa using hc, .inr ⟨w.heap.size, n, c, rfl, hB, heap_alloc_new w _, Nat.le_refl _, hn, by simp [hc], ?_⟩⟩
  rw [List.take_of_length_le (by simp [hc])]
theorem own_src3 {base e size n : Nat} {w : World} {v : Value} {xs : List Value} (h : w.ownsRow base e size v n xs) : Src w v n size xs := by
  refine ⟨h.1, ?_⟩
  rcases h.2 with ⟨rfl, hn⟩ | ⟨g, cap, cur, rfl, hb, hg, hc, hm, hs, ht⟩
  · exact .inl ⟨rfl, hn⟩
  · refine .inr ⟨_, _, rfl, fun j u hj => ?_⟩
    rw [add_at, Nat.zero_add]
    have hjl : j < n * size := by
      have := (List.getElem?_eq_some_iff.1 hj).1
      rw [h.1] at this; exact this
    have : cur.toList[j]? = some u := by
      rw [← ht, List.getElem?_take_of_lt hjl] at hj; exact hj
    have e : cur[j]? = some u := by simpa using this
    simp only [World.cell?, hg, e]; rfl
theorem row_shape3 {w : World} {base e size n : Nat} {v : Value} {xs : List Value} (h : w.ownsRow base e size v n xs) : ∃ oa cap, v = .slice oa n cap := by
  rcases h.2 with ⟨rfl, rfl⟩ | ⟨g, cap, cur, rfl, _⟩
  · exact ⟨_, _, rfl⟩
  · exact ⟨_, _, rfl⟩
set_option maxRecDepth 100000 in
set_option maxHeartbeats 16000000 in
theorem leavingOf_any (S : Nat → Prop) (T : List ByteArray) (Bs : List DShareBatch) (o0 oa : Option Addr) (n0 k0 nb kb : Nat) (w : World) (h0 : AtL S w T (.slice o0 n0 k0)) (h1 : AtL S w Bs (.slice oa nb kb)) (hS : ∀ b, S b → b < w.heap.size) (hok : BokP (T, Bs)) :
    Calls Tryz.prog 137 #[.agg #[.slice o0 n0 k0, .slice oa nb kb]] w fun e w' => ∃ g v, e = .returned (.pointer (some ⟨g, 0, none⟩)) ∧ Lv w.heap.size w' g v (lvL T Bs []) (freM T Bs []) ∧ Below w.heap.size w w' := by
  have H0 : Hid _ := h0.ups hS
  have H1 : Hid _ := h1.ups hS
  have HS : Hid _ := lt_up hS
  have enb : Bs.length = nb := by obtain ⟨_, _, e, _⟩ := h1; cases e; rfl
  have ENB : Hid (Bs.length ≤ nb ∧ nb ≤ Bs.length) := ⟨by omega, by omega⟩
  have hnb5 : nb ≤ 5 := by have := hok.len; simp only at this; omega
  have OK : Hid (BokP (T, Bs)) := hok
  have N8 : Hid (T.length ≤ 8) := (bok_things hok).1
  have ND : Hid T.Nodup := (bok_things hok).2
  clear h0 h1 enb hok
  obtain ⟨W, EW, BW, RW, sW⟩ := box_new w #[.slice o0 n0 k0, .slice oa nb kb] 34
  have y0 := (cell_row RW.out 0 (.slice o0 n0 k0) rfl).1
  have BT : Hid (Calls Tryz.prog 170 #[.slice o0 n0 k0, .slice o0 n0 k0] W fun e w' => e = .returned (.int .u32 (hasM T T : Nat)) ∧ w' = W) := bits_any S _ _ T T W (H0.out W BW.out) (H0.out W BW.out) N8.out ND.out ND.out (fun _ h => h)
  obtain ⟨f0, hf0⟩ : ∃ f, f = hasM T T := ⟨_, rfl⟩
  have EF0 : Hid (f0 = hasM T T) := hf0
  rw [← hf0] at BT
  clear hf0
  obtain ⟨U, hU⟩ : ∃ U, U = W.alloc (.cells #[.slice none 0 0, .int .u32 (f0 : Nat)] 210) := ⟨_, rfl⟩
  have EU : Hid (U = W.alloc (.cells #[.slice none 0 0, .int .u32 (f0 : Nat)] 210)) := hU
  have BU : Hid (Below w.heap.size w U) := by rw [hU]; exact BW.out.alloc (by omega) _
  obtain ⟨g, hg⟩ : ∃ g, g = W.heap.size := ⟨_, rfl⟩
  have EG : Hid (g = W.heap.size) := hg
  have hgw : w.heap.size ≤ g := by omega
  have LU : Hid (Lv w.heap.size U g (.slice none 0 0) (lvL T (Bs.take 0) []) (freM T (Bs.take 0) [])) := by
    refine ⟨Row.nil _ _ _ _ _, ?_, hgw⟩
    rw [hU, hg, free_none, ← EF0.out]
    exact heap_alloc_new W _
  have RU : Hid (U.heap[w.heap.size]? = some (.cells #[.slice o0 n0 k0, .slice oa nb kb] 34 (0, 0))) := by
    rw [hU]; exact (Below.heap_alloc W _ _ (by omega)).trans RW.out
  clear hU hg
  go_enter Tryz.func137, Tryz.ntmps137
  go_upto_region 1 with fail
  rw [← EW.out]
  go_wp2_with fail
  refine BT.out.mono ?_
  rintro e w1 ⟨rfl, rfl⟩
  go_upto_region 3 with fail
  rw [← EU.out]
  have y1 := (cell_row RU.out 1 (.slice oa nb kb) rfl).1
  rw [← EG.out]
  clear y0
  go_wp2_with fail
  clear y1
  go_loopw [17] (fun i wr => ∃ k : Nat, k ≤ nb ∧ i = .int .i64 k ∧ Hid (∃ v, Lv w.heap.size wr g v (lvL T (Bs.take k) []) (freM T (Bs.take k) [])) ∧ Hid (Below w.heap.size w wr)) (fun i _ => nb - (intOf i).toNat)
  case atStart => exact ⟨0, Nat.zero_le _, rfl, ⟨_, LU.out⟩, BU⟩
  case round =>
    obtain ⟨k, hk, rfl, hlv, hbel⟩ := hrel
    by_cases hlt : k < nb
    case neg =>
      go_wp2_with fail
      go_ret
      obtain ⟨v, hl⟩ := hlv.out
      have e : Bs.take k = Bs := List.take_of_length_le (by have := ENB.out; omega)
      rw [e] at hl
      exact ⟨g, v, rfl, hl, hbel.out⟩
    have hkb : k < Bs.length := by have := ENB.out; omega
    obtain ⟨v, hl⟩ := hlv.out
    have LR : Hid (Lv w.heap.size wr g v (lvL T (Bs.take k) []) (freM T (Bs.take k) [])) := hl
    clear hl hlv
    obtain ⟨bb, off, o1, n1, k1, o2, n2, k2, rfl, hbS, e0, e1, e2, a1, a2, z0⟩ := bat_at (H1.out wr hbel.out) k hkb
    have hbb := HS.out wr hbel.out bb hbS
    obtain ⟨⟨q1, s1⟩, ⟨q2, s2⟩⟩ := bok_lists OK.out k hkb
    obtain ⟨hs, hhs⟩ : ∃ x, x = hasM T Bs[k].2.1 := ⟨_, rfl⟩
    obtain ⟨nd, hnd⟩ : ∃ x, x = hasM T Bs[k].2.2 := ⟨_, rfl⟩
    have hs8 : hs < 256 := by rw [hhs]; exact hasM_lt N8.out _
    have nd8 : nd < 256 := by rw [hnd]; exact hasM_lt N8.out _
    obtain ⟨fr, hfr⟩ : ∃ x, x = freM T (Bs.take k) [] := ⟨_, rfl⟩
    have fr8 : fr < 256 := by rw [hfr]; exact freM_lt N8.out _ _
    obtain ⟨fn, hfn⟩ : ∃ x, x = freM T (Bs.take (k + 1)) [] := ⟨_, rfl⟩
    have hsum : fn + hs = fr := by rw [hfn, hhs, hfr]; exact free_next OK.out hkb
    have HSUM : Hid (fn + hs = fr) := hsum
    have hle : hs ≤ fr := by omega
    clear hsum
    have SN : Hid (lvL T (Bs.take (k + 1)) [] = lvL T (Bs.take k) [] ++ [(hs, nd, false)]) := by rw [hhs, hnd]; exact lv_snoc k hkb
    have ELN : Hid ((lvL T (Bs.take k) []).length = k) := by show _ = _; rw [lv_len, List.length_take]; omega
    rw [← hfr] at LR
    obtain ⟨nm, enm⟩ : ∃ x, Bs[k].1 = x := ⟨_, rfl⟩
    rw [enm] at e0
    have HC1 : Hid (∀ u, Below wr.heap.size wr u → Calls Tryz.prog 170 #[.slice o1 n1 k1, .slice o0 n0 k0] u fun e w' => e = .returned (.int .u32 (hs : Nat)) ∧ w' = u) := fun u hu => by
      rw [hhs]
      exact bits_any S _ _ _ T u (a1.same (Same.of_below hu (HS.out wr hbel.out))) (H0.out u (hbel.out.trans (hu.mono hbel.out.size))) N8.out ND.out q1 s1
    have HC2 : Hid (∀ u, Below wr.heap.size wr u → Calls Tryz.prog 170 #[.slice o2 n2 k2, .slice o0 n0 k0] u fun e w' => e = .returned (.int .u32 (nd : Nat)) ∧ w' = u) := fun u hu => by
      rw [hnd]
      exact bits_any S _ _ _ T u (a2.same (Same.of_below hu (HS.out wr hbel.out))) (H0.out u (hbel.out.trans (hu.mono hbel.out.size))) N8.out ND.out q2 s2
    have EFN : Hid (fn = freM T (Bs.take (k + 1)) []) := hfn
    clear a1 a2 q1 s1 q2 s2 hhs hnd hfr hfn enm z0
    obtain ⟨X, EX, BX, RX, sX⟩ := box_new wr #[.string nm, .slice o1 n1 k1, .slice o2 n2 k2] 112
    go_upto_region 6 with fail
    rw [← EX.out]
    clear e0 e1 e2
    have r1 := fun d os => cell_regrown (cell_row RX.out 1 (.slice o1 n1 k1) rfl).1 d os
    have r2 := fun d os => cell_regrown (cell_row RX.out 2 (.slice o2 n2 k2) rfl).1 d os
    go_wp2_with fail
    have hdr : Hid (Below X.heap.size X X.drew) := (Below.refl _ _).drew
    refine wp_region_head 10 [0, 1, 2, 4, 5, 6] (by kernel_rfl) (by kernel_rfl) ?_
    simp only [List.filterMap_cons, List.filterMap_nil, List.getElem?_cons_succ, List.getElem?_cons_zero]
    repeat (first | go_big_quiet_step (fail) | quiet_step (fail))
    refine wpQuiet_nil ?_
    clear r1 r2
    refine chainH_box0 (g := 0) (fun a0 o k a u => Below X.heap.size X u ∧ (∀ p, o = some p → u.heap[p]? = some (.cells #[.int .u32 0, .int .u32 0, .bool false] 212 (0, 0)) ∧ X.heap.size ≤ p) ∧ (match k with
      | 0 => a = bx 7 o a0
      | 1 => a = bx 7 o (a0.put (some 24) (.int .u32 (hs : Nat)))
      | 2 => a = bx 7 o ((a0.put (some 24) (.int .u32 (hs : Nat))).put (some 28) (.int .u32 (nd : Nat)))
      | _ => a = bx 7 o (((a0.put (some 24) (.int .u32 (hs : Nat))).put (some 28) (.int .u32 (nd : Nat))).put (some 29) (.agg #[.int .u32 (hs : Nat), .int .u32 (nd : Nat), .bool false])))) [3, 7, 8] 9 7 _ #[.int .u32 0, .int .u32 0, .bool false] 212 ⟨rfl, rfl, rfl, by decide⟩ (by decide) (by decide) ?exa (by kernel_rfl) ?hal ?hs ?h0 ?he ?he1
    case exa => intro b u; go_simp
    case h0 => exact ⟨hdr.out, fun p hp => (by cases hp), rfl⟩
    case hal =>
      intro k b u h
      obtain ⟨hb, _, h⟩ := h
      have hal := hb.alloc hb.size (.cells #[.int .u32 0, .int .u32 0, .bool false] 212)
      refine ⟨regrown_of_below hal, hal, fun p hp => (by cases hp; exact ⟨heap_alloc_new u _, hb.size⟩), ?_⟩
      match k, h with
      | 0, h => subst h; rfl
      | 1, h => subst h; rfl
      | 2, h => subst h; rfl
      | _ + 3, h => subst h; rfl
    case hs =>
      intro o j hj b u h
      obtain ⟨hb, hp, h⟩ := h
      have hbr : Below wr.heap.size wr u := BX.out.trans (hb.mono (by omega))
      have : j = 0 ∨ j = 1 ∨ j = 2 := (by simp at hj; omega)
      rcases this with rfl | rfl | rfl
      · simp only at h
        subst h
        refine stepH_call (fn := 170) (args := #[.slice o1 n1 k1, .slice o0 n0 k0]) rfl (wanted_none rfl _) (by cases o <;> simp only [bx, Act.put, List.setIfInBounds_toArray, List.set_cons_zero, List.set_cons_succ] <;> go_simp) ((HC1.out u hbr).mono fun e w' ⟨he, hw'⟩ => ⟨_, he, by rw [hw']; exact regrown_of_below hb, by rw [hw']; exact hb, by rw [hw']; exact hp, bx_put (by decide) o _ _⟩)
      · simp only at h
        subst h
        refine stepH_call (fn := 170) (args := #[.slice o2 n2 k2, .slice o0 n0 k0]) rfl (wanted_none rfl _) (by cases o <;> simp only [bx, Act.put, List.setIfInBounds_toArray, List.set_cons_zero, List.set_cons_succ] <;> go_simp) ((HC2.out u hbr).mono fun e w' ⟨he, hw'⟩ => ⟨_, he, by rw [hw']; exact regrown_of_below hb, by rw [hw']; exact hb, by rw [hw']; exact hp, bx_put (by decide) o _ _⟩)
      · simp only at h
        subst h
        refine stepH_value (.agg #[.int .u32 (hs : Nat), .int .u32 (nd : Nat), .bool false]) u rfl (wanted_none rfl _) (by cases o <;> simp only [bx, Act.put, List.setIfInBounds_toArray, List.set_cons_zero, List.set_cons_succ] <;> go_simp) ⟨regrown_of_below hb, hb, hp, bx_put (by decide) o _ _⟩
    case he =>
      intro b u h
      obtain ⟨hb, _, h⟩ := h
      obtain rfl : b = _ := h
      have hbu : Below X.heap.size X (u.alloc (.cells #[.int .u32 0, .int .u32 0, .bool false] 212)) := hb.alloc hb.size _
      have row : (u.alloc (.cells #[.int .u32 0, .int .u32 0, .bool false] 212)).heap[u.heap.size]? = some (.cells #[.int .u32 0, .int .u32 0, .bool false] 212 (0, 0)) := heap_alloc_new u _
      refine oneH (f := 0) (i := 9) (.pointer (some ⟨u.heap.size, 0, none⟩)) (u.alloc (.cells #[.int .u32 0, .int .u32 0, .bool false] 212)) ⟨rfl, by decide⟩ (by kernel_rfl) (wanted_none rfl _) ?run (regrown_of_below hbu) ?_
      case run => go_simp
      have hge := hb.size
      clear hb
      generalize u.alloc (.cells #[.int .u32 0, .int .u32 0, .bool false] 212) = w6 at hbu row ⊢
      generalize u.heap.size = p6 at row hge ⊢
      refine ⟨by kernel_rfl, ?_⟩
      simp only [List.drop_succ_cons, List.drop_zero, bx, Act.put, List.setIfInBounds_toArray, List.set_cons_zero, List.set_cons_succ]
      obtain ⟨e0, f0⟩ := cell_row row 0 _ rfl
      obtain ⟨e1, f1⟩ := cell_row row 1 _ rfl
      obtain ⟨e2, f2⟩ := cell_row row 2 _ rfl
      have fin := set_row (set_row (set_row row 0 (.int .u32 (hs : Nat))) 1 (.int .u32 (nd : Nat))) 2 (.bool false)
      have bF := ((hbu.setCell (p := ⟨p6, 0, none⟩) hge (.int .u32 (hs : Nat))).setCell (p := ⟨p6, 1, none⟩) hge (.int .u32 (nd : Nat))).setCell (p := ⟨p6, 2, none⟩) hge (.bool false)
      go_upto_region 7 with fail
      have R7 : Hid ((((w6.setCell ⟨p6, 0, none⟩ (.int .u32 (hs : Nat))).setCell ⟨p6, 1, none⟩ (.int .u32 (nd : Nat))).setCell ⟨p6, 2, none⟩ (.bool false)).heap[p6]? = some (.cells #[.int .u32 (hs : Nat), .int .u32 (nd : Nat), .bool false] 212 (0, 0))) := fin
      have B7 : Hid (Below X.heap.size X (((w6.setCell ⟨p6, 0, none⟩ (.int .u32 (hs : Nat))).setCell ⟨p6, 1, none⟩ (.int .u32 (nd : Nat))).setCell ⟨p6, 2, none⟩ (.bool false))) := bF
      clear fin bF e0 f0 e1 f1 e2 f2 row hbu
      generalize (((w6.setCell ⟨p6, 0, none⟩ (.int .u32 (hs : Nat))).setCell ⟨p6, 1, none⟩ (.int .u32 (nd : Nat))).setCell ⟨p6, 2, none⟩ (.bool false)) = w7 at R7 B7 ⊢
      have BR7 : Hid (Below wr.heap.size wr w7) := BX.out.trans (B7.out.mono (by omega))
      have L7 : Hid (Lv w.heap.size w7 g v (lvL T (Bs.take k) []) fr) := LR.out.below BR7.out
      have s7 := BR7.out.size
      have sw := hbel.out.size
      have g7 := L7.out.lt
      have p7 := (Array.getElem?_eq_some_iff.1 R7.out).1
      have gp : g ≠ p6 := by have := LR.out.lt; omega
      obtain ⟨ov, kv, hv⟩ := Row.form L7.out.row
      rw [ELN.out] at hv
      subst hv
      obtain ⟨y0, z0⟩ := cell_row L7.out.box 0 _ rfl
      obtain ⟨x0, _⟩ := cell_row R7.out 0 _ rfl
      obtain ⟨x1, _⟩ := cell_row R7.out 1 _ rfl
      obtain ⟨x2, _⟩ := cell_row R7.out 2 _ rfl
      have HOWN : Hid ((w7.alloc (.cells #[.int .u32 (hs : Nat), .int .u32 (nd : Nat), .bool false] 212)).ownsRow w.heap.size 212 3 (.slice ov k kv) k (enc 3 eG (lvL T (Bs.take k) []))) := by
        have h1 := Row.below L7.out.row ((Below.refl _ _).alloc (Nat.le_refl _) (.cells #[.int .u32 (hs : Nat), .int .u32 (nd : Nat), .bool false] 212))
        rw [Row, ELN.out] at h1
        exact h1
      have HSRC : Hid (Src (w7.alloc (.cells #[.int .u32 (hs : Nat), .int .u32 (nd : Nat), .bool false] 212)) (.slice (some ⟨w7.heap.size, 0, none⟩) 1 1) 1 3 [.int .u32 (hs : Nat), .int .u32 (nd : Nat), .bool false]) := own_src3 (own_built3 (B := 0) (Nat.zero_le _) (by unfold maxLen; omega) rfl)
      have HONE : Hid (∀ z ∈ ([.int .u32 (hs : Nat), .int .u32 (nd : Nat), .bool false] : List Value), z.oneCell' = true) := by intro z hz; simp at hz; rcases hz with rfl | rfl | rfl <;> rfl
      go_upto_region 8 with (first
        | (at_builtin; refine wpList_app elG rfl _ _ rfl rfl rfl HOWN.out HSRC.out HONE.out (by unfold maxLen; omega) (by omega) (by simp; omega) ?_; intro v' u8 hown hgr0 hbk; obtain ⟨ov', kv', rfl⟩ := row_shape3 hown; have hgr : (w7.alloc (.cells #[.int .u32 (hs : Nat), .int .u32 (nd : Nat), .bool false] 212)).grownBy u8 (Value.slice ov k kv).ownBlock := hgr0; have hb8 : u8.heap[g]? = some (.cells #[.slice ov k kv, .int .u32 (fr : Nat)] 210 (0, 0)) := (hgr.block g (by simp; omega) (fun e => L7.out.apart e.symm)).trans ((Below.heap_alloc w7 _ _ g7).trans L7.out.box); obtain ⟨zc8, zf8⟩ := cell_row hb8 0 _ rfl))
      have ow : ∀ q, (Value.slice ov k kv).ownBlock = some q → w.heap.size ≤ q ∧ q < wr.heap.size := fun q hq => World.ownsRow.lt LR.out.row q hq
      have R8 : u8.heap[p6]? = some (.cells #[.int .u32 (hs : Nat), .int .u32 (nd : Nat), .bool false] 212 (0, 0)) := (hgr.block p6 (by simp; omega) (fun e => by have := (ow p6 e.symm).2; omega)).trans ((Below.heap_alloc w7 _ _ p7).trans R7.out)
      have ap8 : ∀ q, (Value.slice ov' (k + 1) kv').ownBlock = some q → q ≠ g := fun q hq e => by
        subst e
        obtain ⟨c, hc⟩ : ∃ c, u8.heap[q]? = some (.cells c 212 (0, 0)) := by
          rcases hown.2 with ⟨h1, h2⟩ | ⟨g', cap', cur', h1, _, hg', _⟩
          · omega
          · rw [h1] at hq; cases hq; exact ⟨_, hg'⟩
        rw [hb8] at hc
        injection hc with h1
        injection h1 with _ h2
        revert h2
        decide
      have L9 : Hid (Lv w.heap.size (u8.setCell ⟨g, 0, none⟩ (.slice ov' (k + 1) kv')) g (.slice ov' (k + 1) kv') (lvL T (Bs.take (k + 1)) []) fr) := by
        refine ⟨?_, ?_, hgw⟩
        · show World.ownsRow _ _ _ _ _ _ _
          rw [SN.out, List.length_append, ELN.out, enc_append]
          have hr : (u8.setCell ⟨g, 0, none⟩ (.slice ov' (k + 1) kv')).ownsRow w.heap.size 212 3 (.slice ov' (k + 1) kv') (k + 1) (enc 3 eG (lvL T (Bs.take k) []) ++ [.int .u32 (hs : Nat), .int .u32 (nd : Nat), .bool false]) := by
            refine ⟨hown.1, ?_⟩
            rcases hown.2 with hn | ⟨g', cap', cur', h1, h2, hg', rest⟩
            · exact .inl hn
            · exact .inr ⟨g', cap', cur', h1, h2, (Below.heap_setCell _ _ _ _ (ap8 g' (by rw [h1]; rfl))).trans hg', rest⟩
          exact hr
        · rw [set_row hb8 0 (.slice ov' (k + 1) kv')]; rfl
      have R9 : Hid ((u8.setCell ⟨g, 0, none⟩ (.slice ov' (k + 1) kv')).heap[p6]? = some (.cells #[.int .u32 (hs : Nat), .int .u32 (nd : Nat), .bool false] 212 (0, 0))) := (Below.heap_setCell _ _ _ _ (fun e => gp e.symm)).trans R8
      have B9 : Hid (Below w.heap.size w (u8.setCell ⟨g, 0, none⟩ (.slice ov' (k + 1) kv'))) := by
        have h1 : Below w.heap.size w (w7.alloc (.cells #[.int .u32 (hs : Nat), .int .u32 (nd : Nat), .bool false] 212)) := (hbel.out.trans (BR7.out.mono sw)).alloc (by omega) _
        have h2 : Below w.heap.size w u8 := h1.grown hgr (by simp; omega) (fun i hi => (ow i hi).1)
        exact h2.setCell (p := ⟨g, 0, none⟩) hgw _
      clear hgr hgr0 hbk hown R8 ap8 hb8 zc8 zf8 y0 z0 x0 x1 x2 HOWN HSRC HONE
      generalize (u8.setCell ⟨g, 0, none⟩ (.slice ov' (k + 1) kv')) = w9 at L9 R9 B9 ⊢
      obtain ⟨y1, z1⟩ := cell_row L9.out.box 1 _ rfl
      obtain ⟨x0, _⟩ := cell_row R9.out 0 _ rfl
      have FIN : Hid (Lv w.heap.size (w9.setCell ⟨g, 1, none⟩ (.int .u32 ((fr : Int) - (hs : Int)))) g (.slice ov' (k + 1) kv') (lvL T (Bs.take (k + 1)) []) (freM T (Bs.take (k + 1)) [])) := by
        refine ⟨Row.block L9.out.row fun q hq => Below.heap_setCell _ _ _ _ (fun e => L9.out.apart (by rw [hq]; exact congrArg some e)), ?_, hgw⟩
        have := set_row L9.out.box 1 (.int .u32 ((fr : Int) - (hs : Int)))
        rw [this, ← EFN.out, show ((fr : Int) - (hs : Int)) = (fn : Int) by have := HSUM.out; omega]; rfl
      have BFIN : Hid (Below w.heap.size w (w9.setCell ⟨g, 1, none⟩ (.int .u32 ((fr : Int) - (hs : Int))))) := B9.out.setCell (p := ⟨g, 1, none⟩) hgw _
      go_wp2_with fail
      go_roundw
      case rel => exact ⟨k + 1, by omega, by go_num, ⟨_, FIN.out⟩, BFIN⟩
      case measure => simp [intOf]; omega
    case he1 =>
      intro p6 b w6 h
      obtain ⟨hbu, hp, h⟩ := h
      obtain ⟨row, hge⟩ := hp p6 rfl
      clear hp
      obtain rfl : b = _ := h
      refine ⟨by kernel_rfl, ?_⟩
      simp only [List.drop_succ_cons, List.drop_zero, bx, Act.put, List.setIfInBounds_toArray, List.set_cons_zero, List.set_cons_succ]
      obtain ⟨e0, f0⟩ := cell_row row 0 _ rfl
      obtain ⟨e1, f1⟩ := cell_row row 1 _ rfl
      obtain ⟨e2, f2⟩ := cell_row row 2 _ rfl
      have fin := set_row (set_row (set_row row 0 (.int .u32 (hs : Nat))) 1 (.int .u32 (nd : Nat))) 2 (.bool false)
      have bF := ((hbu.setCell (p := ⟨p6, 0, none⟩) hge (.int .u32 (hs : Nat))).setCell (p := ⟨p6, 1, none⟩) hge (.int .u32 (nd : Nat))).setCell (p := ⟨p6, 2, none⟩) hge (.bool false)
      go_upto_region 7 with fail
      have R7 : Hid ((((w6.setCell ⟨p6, 0, none⟩ (.int .u32 (hs : Nat))).setCell ⟨p6, 1, none⟩ (.int .u32 (nd : Nat))).setCell ⟨p6, 2, none⟩ (.bool false)).heap[p6]? = some (.cells #[.int .u32 (hs : Nat), .int .u32 (nd : Nat), .bool false] 212 (0, 0))) := fin
      have B7 : Hid (Below X.heap.size X (((w6.setCell ⟨p6, 0, none⟩ (.int .u32 (hs : Nat))).setCell ⟨p6, 1, none⟩ (.int .u32 (nd : Nat))).setCell ⟨p6, 2, none⟩ (.bool false))) := bF
      clear fin bF e0 f0 e1 f1 e2 f2 row hbu
      generalize (((w6.setCell ⟨p6, 0, none⟩ (.int .u32 (hs : Nat))).setCell ⟨p6, 1, none⟩ (.int .u32 (nd : Nat))).setCell ⟨p6, 2, none⟩ (.bool false)) = w7 at R7 B7 ⊢
      have BR7 : Hid (Below wr.heap.size wr w7) := BX.out.trans (B7.out.mono (by omega))
      have L7 : Hid (Lv w.heap.size w7 g v (lvL T (Bs.take k) []) fr) := LR.out.below BR7.out
      have s7 := BR7.out.size
      have sw := hbel.out.size
      have g7 := L7.out.lt
      have p7 := (Array.getElem?_eq_some_iff.1 R7.out).1
      have gp : g ≠ p6 := by have := LR.out.lt; omega
      obtain ⟨ov, kv, hv⟩ := Row.form L7.out.row
      rw [ELN.out] at hv
      subst hv
      obtain ⟨y0, z0⟩ := cell_row L7.out.box 0 _ rfl
      obtain ⟨x0, _⟩ := cell_row R7.out 0 _ rfl
      obtain ⟨x1, _⟩ := cell_row R7.out 1 _ rfl
      obtain ⟨x2, _⟩ := cell_row R7.out 2 _ rfl
      have HOWN : Hid ((w7.alloc (.cells #[.int .u32 (hs : Nat), .int .u32 (nd : Nat), .bool false] 212)).ownsRow w.heap.size 212 3 (.slice ov k kv) k (enc 3 eG (lvL T (Bs.take k) []))) := by
        have h1 := Row.below L7.out.row ((Below.refl _ _).alloc (Nat.le_refl _) (.cells #[.int .u32 (hs : Nat), .int .u32 (nd : Nat), .bool false] 212))
        rw [Row, ELN.out] at h1
        exact h1
      have HSRC : Hid (Src (w7.alloc (.cells #[.int .u32 (hs : Nat), .int .u32 (nd : Nat), .bool false] 212)) (.slice (some ⟨w7.heap.size, 0, none⟩) 1 1) 1 3 [.int .u32 (hs : Nat), .int .u32 (nd : Nat), .bool false]) := own_src3 (own_built3 (B := 0) (Nat.zero_le _) (by unfold maxLen; omega) rfl)
      have HONE : Hid (∀ z ∈ ([.int .u32 (hs : Nat), .int .u32 (nd : Nat), .bool false] : List Value), z.oneCell' = true) := by intro z hz; simp at hz; rcases hz with rfl | rfl | rfl <;> rfl
      go_upto_region 8 with (first
        | (at_builtin; refine wpList_app elG rfl _ _ rfl rfl rfl HOWN.out HSRC.out HONE.out (by unfold maxLen; omega) (by omega) (by simp; omega) ?_; intro v' u8 hown hgr0 hbk; obtain ⟨ov', kv', rfl⟩ := row_shape3 hown; have hgr : (w7.alloc (.cells #[.int .u32 (hs : Nat), .int .u32 (nd : Nat), .bool false] 212)).grownBy u8 (Value.slice ov k kv).ownBlock := hgr0; have hb8 : u8.heap[g]? = some (.cells #[.slice ov k kv, .int .u32 (fr : Nat)] 210 (0, 0)) := (hgr.block g (by simp; omega) (fun e => L7.out.apart e.symm)).trans ((Below.heap_alloc w7 _ _ g7).trans L7.out.box); obtain ⟨zc8, zf8⟩ := cell_row hb8 0 _ rfl))
      have ow : ∀ q, (Value.slice ov k kv).ownBlock = some q → w.heap.size ≤ q ∧ q < wr.heap.size := fun q hq => World.ownsRow.lt LR.out.row q hq
      have R8 : u8.heap[p6]? = some (.cells #[.int .u32 (hs : Nat), .int .u32 (nd : Nat), .bool false] 212 (0, 0)) := (hgr.block p6 (by simp; omega) (fun e => by have := (ow p6 e.symm).2; omega)).trans ((Below.heap_alloc w7 _ _ p7).trans R7.out)
      have ap8 : ∀ q, (Value.slice ov' (k + 1) kv').ownBlock = some q → q ≠ g := fun q hq e => by
        subst e
        obtain ⟨c, hc⟩ : ∃ c, u8.heap[q]? = some (.cells c 212 (0, 0)) := by
          rcases hown.2 with ⟨h1, h2⟩ | ⟨g', cap', cur', h1, _, hg', _⟩
          · omega
          · rw [h1] at hq; cases hq; exact ⟨_, hg'⟩
        rw [hb8] at hc
        injection hc with h1
        injection h1 with _ h2
        revert h2
        decide
      have L9 : Hid (Lv w.heap.size (u8.setCell ⟨g, 0, none⟩ (.slice ov' (k + 1) kv')) g (.slice ov' (k + 1) kv') (lvL T (Bs.take (k + 1)) []) fr) := by
        refine ⟨?_, ?_, hgw⟩
        · show World.ownsRow _ _ _ _ _ _ _
          rw [SN.out, List.length_append, ELN.out, enc_append]
          have hr : (u8.setCell ⟨g, 0, none⟩ (.slice ov' (k + 1) kv')).ownsRow w.heap.size 212 3 (.slice ov' (k + 1) kv') (k + 1) (enc 3 eG (lvL T (Bs.take k) []) ++ [.int .u32 (hs : Nat), .int .u32 (nd : Nat), .bool false]) := by
            refine ⟨hown.1, ?_⟩
            rcases hown.2 with hn | ⟨g', cap', cur', h1, h2, hg', rest⟩
            · exact .inl hn
            · exact .inr ⟨g', cap', cur', h1, h2, (Below.heap_setCell _ _ _ _ (ap8 g' (by rw [h1]; rfl))).trans hg', rest⟩
          exact hr
        · rw [set_row hb8 0 (.slice ov' (k + 1) kv')]; rfl
      have R9 : Hid ((u8.setCell ⟨g, 0, none⟩ (.slice ov' (k + 1) kv')).heap[p6]? = some (.cells #[.int .u32 (hs : Nat), .int .u32 (nd : Nat), .bool false] 212 (0, 0))) := (Below.heap_setCell _ _ _ _ (fun e => gp e.symm)).trans R8
      have B9 : Hid (Below w.heap.size w (u8.setCell ⟨g, 0, none⟩ (.slice ov' (k + 1) kv'))) := by
        have h1 : Below w.heap.size w (w7.alloc (.cells #[.int .u32 (hs : Nat), .int .u32 (nd : Nat), .bool false] 212)) := (hbel.out.trans (BR7.out.mono sw)).alloc (by omega) _
        have h2 : Below w.heap.size w u8 := h1.grown hgr (by simp; omega) (fun i hi => (ow i hi).1)
        exact h2.setCell (p := ⟨g, 0, none⟩) hgw _
      clear hgr hgr0 hbk hown R8 ap8 hb8 zc8 zf8 y0 z0 x0 x1 x2 HOWN HSRC HONE
      generalize (u8.setCell ⟨g, 0, none⟩ (.slice ov' (k + 1) kv')) = w9 at L9 R9 B9 ⊢
      obtain ⟨y1, z1⟩ := cell_row L9.out.box 1 _ rfl
      obtain ⟨x0, _⟩ := cell_row R9.out 0 _ rfl
      have FIN : Hid (Lv w.heap.size (w9.setCell ⟨g, 1, none⟩ (.int .u32 ((fr : Int) - (hs : Int)))) g (.slice ov' (k + 1) kv') (lvL T (Bs.take (k + 1)) []) (freM T (Bs.take (k + 1)) [])) := by
        refine ⟨Row.block L9.out.row fun q hq => Below.heap_setCell _ _ _ _ (fun e => L9.out.apart (by rw [hq]; exact congrArg some e)), ?_, hgw⟩
        have := set_row L9.out.box 1 (.int .u32 ((fr : Int) - (hs : Int)))
        rw [this, ← EFN.out, show ((fr : Int) - (hs : Int)) = (fn : Int) by have := HSUM.out; omega]; rfl
      have BFIN : Hid (Below w.heap.size w (w9.setCell ⟨g, 1, none⟩ (.int .u32 ((fr : Int) - (hs : Int))))) := B9.out.setCell (p := ⟨g, 1, none⟩) hgw _
      go_wp2_with fail
      go_roundw
      case rel => exact ⟨k + 1, by omega, by go_num, ⟨_, FIN.out⟩, BFIN⟩
      case measure => simp [intOf]; omega
end Go.Proofs.YtigkkelaadbhcabGreat
