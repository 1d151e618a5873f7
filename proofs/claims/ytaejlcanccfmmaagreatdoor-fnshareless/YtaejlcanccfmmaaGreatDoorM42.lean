/-
  Several texts in one.
-/
import Derived.Test.YtaejlcanccfmmaaGreatDoorM38
import Derived.Test.YtaejlcanccfmmaaGreatDoorM16
import Derived.Test.YtaejlcanccfmmaaGreatDoorM40
import Derived.Test.YtaejlcanccfmmaaGreatDoorZrs
import Derived.Test.YtaejlcanccfmmaaGreatDoorZpa
import Derived.Laws.EntriesVeiled
namespace Go.Proofs.YtaejlcanccfmmaaGreatDoor
open Go.RowKit Go.Sort
theorem hdB_at {L : List HB} {q : Nat} (hq : q < L.length) : hdB L = hdB (L.take q) ++ (hdX L[q] ++ hdB (L.drop (q + 1))) := by
  have e : L = L.take q ++ ([L[q]] ++ L.drop (q + 1)) := by
    rw [List.singleton_append, List.getElem_cons_drop, List.take_append_drop]
  conv => lhs; rw [e]
  rw [hdB_app, hdB_app, hdB_one]
theorem hdB_set {L : List HB} {q : Nat} (hq : q < L.length) (y : HB) : hdB (L.set q y) = hdB (L.take q) ++ (hdX y ++ hdB (L.drop (q + 1))) := by
  rw [List.set_eq_take_append_cons_drop, if_pos hq, hdB_app]
  congr 1
theorem hdT_set {v0 : Value} {L : List HB} {q m : Nat} (hq : q < L.length) {y : HB} (h : (hdT v0 L).Nodup) (hl : ∀ b ∈ hdT v0 L, b < m) (hy : (hdX y).Nodup) (hn : ∀ b ∈ hdX y, b ∈ hdX L[q] ∨ m ≤ b) : (hdT v0 (L.set q y)).Nodup := by
  unfold hdT at h hl ⊢
  rw [hdB_at hq] at h hl
  rw [hdB_set hq]
  simp only [List.nodup_append, List.mem_append] at h hl ⊢
  obtain ⟨h1, ⟨h2, ⟨h3, h4, h5⟩, h6⟩, h7⟩ := h
  refine ⟨h1, ⟨h2, ⟨hy, h4, fun a ha b hb e => ?_⟩, fun a ha b hb e => ?_⟩, fun a ha b hb e => ?_⟩
  · rcases hn a ha with h | h
    · exact h5 a h b hb e
    · have := hl b (.inr (.inr (.inr hb))); omega
  · rcases hb with hb | hb
    · rcases hn b hb with h | h
      · exact h6 a ha b (.inl h) e
      · have := hl a (.inr (.inl ha)); omega
    · exact h6 a ha b (.inr hb) e
  · rcases hb with hb | hb | hb
    · exact h7 a ha b (.inl hb) e
    · rcases hn b hb with h | h
      · exact h7 a ha b (.inr (.inl h)) e
      · have := hl a (.inl ha); omega
    · exact h7 a ha b (.inr (.inr hb)) e
theorem PkO.lt {B : Nat} {w : World} {v0 v1 : Value} {T : List ByteArray} {L : List HB} (h : PkO B w v0 v1 T L) {b : Nat} (hb : b ∈ hdT v0 L) : B ≤ b ∧ b < w.heap.size := by
  unfold hdT at hb
  rcases List.mem_append.1 hb with hb | hb
  · exact World.ownsRow.lt h.th b (by rw [Option.mem_toList] at hb; exact hb)
  · exact h.bs.lt hb
theorem PkO.setE {B q : Nat} {w w2 : World} {v0 v1 : Value} {T : List ByteArray} {L : List HB} {y : HB} (h : PkO B w v0 v1 T L) (hq : q < L.length) (hr : Row w2 B 43 3 eH v1 (L.set q y)) (hy : HbO B w2 y) (hk : ∀ (b : Nat) (c : Array Value), w.heap[b]? = some (.cells c 9 (0, 0)) → b ∉ hdX L[q] → w2.heap[b]? = w.heap[b]?) (hd : (hdX y).Nodup) (hn : ∀ b ∈ hdX y, b ∈ hdX L[q] ∨ w.heap.size ≤ b) : PkO B w2 v0 v1 T (L.set q y) := by
  have hnd := h.nd
  unfold hdT at hnd
  rw [List.nodup_append] at hnd
  have ks : ∀ {v : Value} {l : List ByteArray}, Row w B 9 1 eS v l → (∀ b, v.ownBlock = some b → b ∉ hdX L[q]) → Row w2 B 9 1 eS v l := fun hr ha => Row.block hr fun b hb => by
    obtain ⟨c, hc⟩ := Row.typed hr b hb
    exact hk b c hc (ha b hb)
  refine ⟨ks h.th fun b hb h2 => hnd.2.2 b (by rw [Option.mem_toList]; exact hb) b (hdB_mem.2 ⟨_, List.getElem_mem hq, h2⟩) rfl, h.zt, ⟨hr, fun x hx => ?_⟩, hdT_set hq h.nd (fun b hb => (h.lt hb).2) hd hn⟩
  obtain ⟨i, hi, rfl⟩ := List.getElem_of_mem hx
  rw [List.length_set] at hi
  by_cases e : q = i
  · subst e
    rw [List.getElem_set_self]
    exact hy
  · rw [List.getElem_set_ne e]
    have he := h.bs.el _ (List.getElem_mem hi)
    refine ⟨ks he.h fun b hb h2 => e (hdB_dis hnd.2.1 hq hi h2 (hdX_mem.2 (.inl hb))), ks he.n fun b hb h2 => e (hdB_dis hnd.2.1 hq hi h2 (hdX_mem.2 (.inr hb))), he.z, he.zh, he.zn⟩
noncomputable def ndC (Bs : List DShareBatch) (x : ByteArray) (nd : List ByteArray) : Int := if atZI Bs x < 0 then 3 else if subB (btN Bs (atZI Bs x).toNat).2.2 nd = true then 0 else 2
theorem ndC_3 {Bs : List DShareBatch} {x : ByteArray} {nd : List ByteArray} (h : atZI Bs x < 0) : ndC Bs x nd = 3 := by unfold ndC; rw [if_pos h]
theorem ndC_0 {Bs : List DShareBatch} {x : ByteArray} {nd : List ByteArray} (h : ¬ atZI Bs x < 0) (h2 : subB (btN Bs (atZI Bs x).toNat).2.2 nd = true) : ndC Bs x nd = 0 := by unfold ndC; rw [if_neg h, if_pos h2]
theorem ndC_2 {Bs : List DShareBatch} {x : ByteArray} {nd : List ByteArray} (h : ¬ atZI Bs x < 0) (h2 : subB (btN Bs (atZI Bs x).toNat).2.2 nd = false) : ndC Bs x nd = 2 := by unfold ndC; rw [if_neg h, if_neg (by rw [h2]; decide)]
set_option maxRecDepth 100000 in
set_option maxHeartbeats 8000000 in
theorem refN_any (S SN : Nat → Prop) (Bs : List DShareBatch) (o0 oa : Option Addr) (n0 k0 nb kb : Nat) (x : ByteArray) (nd : List ByteArray) (on : Option Addr) (nn kn : Nat) (w : World) (h1 : AtL S w Bs (.slice oa nb kb)) (hS : ∀ b, S b → b < w.heap.size) (hN : AtL SN w nd (.slice on nn kn)) (hSN : ∀ b, SN b → b < w.heap.size) :
    Calls Tryz.prog 138 #[.agg #[.slice o0 n0 k0, .slice oa nb kb], .string x, .slice on nn kn] w fun e w' => e = .returned (errW x (ndC Bs x nd)) ∧ Below w.heap.size w w' := by
  have H1 : Hid _ := h1.ups hS
  have HS : Hid _ := lt_up hS
  have HN : Hid _ := hN.ups hSN
  have HSN : Hid _ := lt_up hSN
  have enb : Bs.length = nb := by obtain ⟨_, _, e, _⟩ := h1; cases e; rfl
  have ENB : Hid (Bs.length ≤ nb ∧ nb ≤ Bs.length) := ⟨by omega, by omega⟩
  obtain ⟨W, hW⟩ : ∃ W, W = w.alloc (.cells #[.slice o0 n0 k0, .slice oa nb kb] 26) := ⟨_, rfl⟩
  have EW : Hid (W = w.alloc (.cells #[.slice o0 n0 k0, .slice oa nb kb] 26)) := hW
  have BW : Hid (Below w.heap.size w W) := by rw [hW]; exact (Below.refl _ _).alloc (Nat.le_refl _) _
  have R1 : Hid (W.heap[w.heap.size]? = some (.cells #[.slice o0 n0 k0, .slice oa nb kb] 26 (0, 0))) := by rw [hW]; exact heap_alloc_new w _
  have sW : w.heap.size + 1 ≤ W.heap.size := by rw [hW]; simp
  obtain ⟨RV, eRV⟩ : ∃ v, errW x (ndC Bs x nd) = v := ⟨_, rfl⟩
  rw [eRV]
  have ERV : Hid (errW x (ndC Bs x nd) = RV) := eRV
  clear h1 hN hW eRV enb
  have y0 := (cell_row R1.out 0 (.slice o0 n0 k0) rfl).1
  have y1 := (cell_row R1.out 1 (.slice oa nb kb) rfl).1
  go_enter Tryz.func138, Tryz.ntmps138
  go_upto_region 1 with fail
  rw [← EW.out]
  go_wp2_with fail
  refine (batchAtI_any S _ _ Bs x W (H1.out W BW.out) (HS.out W BW.out)).mono ?_
  rintro e w1 ⟨rfl, hb1⟩
  have B1 : Hid (Below w.heap.size w w1) := BW.out.trans (hb1.mono BW.out.size)
  have X1 : Hid (w1.heap[w.heap.size]? = some (.cells #[.slice o0 n0 k0, .slice oa nb kb] 26 (0, 0))) := (hb1.block _ (by omega)).trans R1.out
  clear hb1 y0 y1
  obtain ⟨i, ei⟩ : ∃ i, idxI Bs (fun p : DShareBatch => eqB p.1 x) = i := ⟨_, rfl⟩
  have EI : Hid (atZI Bs x = i) := ei
  rw [ei]
  clear ei
  by_cases hi : i < 0
  · have E3 : Hid (RV = refV x 3) := by
      show _ = _
      rw [← ERV.out, ndC_3 (by rw [EI.out]; exact hi), errW_yes x (by decide)]; rfl
    go_wp2_with (first
      | (go_at_call 139; refine (refused_any _ _ _).mono ?_; rintro e w2 ⟨rfl, rfl⟩))
    go_ret
    exact ⟨by rw [E3.out]; rfl, B1.out⟩
  have hnn : ¬ atZI Bs x < 0 := by rw [EI.out]; exact hi
  obtain ⟨q, eq, hq⟩ := at_lt hnn
  have EQ : Hid (i = (q : Int)) := EI.out.symm.trans eq
  have HNN : Hid (¬ atZI Bs x < 0) := hnn
  have HAT : Hid ((atZI Bs x).toNat = q) := by show _ = _; rw [eq, Int.toNat_natCast]
  rw [EQ.out]
  rw [EQ.out] at hi
  obtain ⟨bb, off, p1, m1, j1, p2, m2, j2, rfl, hbS, e0, e1, e2, a1, a2, zz0⟩ := bat_at (H1.out w1 B1.out) q hq
  have y1 := (cell_row X1.out 1 (.slice (some ⟨bb, off, none⟩) nb kb) rfl).1
  have hqb : q < nb := by have := ENB.out; omega
  have CO : Hid (Calls Tryz.prog 70 #[.slice on nn kn, .slice p2 m2 j2] w1 fun e w' => e = .returned (.bool (subB Bs[q].2.2 nd)) ∧ Below w1.heap.size w1 w') := isOf_any SN S (.slice on nn kn) (.slice p2 m2 j2) nd Bs[q].2.2 w1 (HN.out w1 B1.out) a2 (HSN.out w1 B1.out) (HS.out w1 B1.out)
  obtain ⟨sb, esb⟩ : ∃ b, subB Bs[q].2.2 nd = b := ⟨_, rfl⟩
  rw [esb] at CO
  have ESB : Hid (subB (btN Bs (atZI Bs x).toNat).2.2 nd = sb) := by show _ = _; rw [HAT.out, btN_at hq]; exact esb
  clear a1 a2 e0 e1 esb eq hnn zz0
  go_wp2_with fail
  refine Calls.mono CO.out ?_
  rintro e w2 ⟨rfl, hb2⟩
  have B2 : Hid (Below w.heap.size w w2) := B1.out.trans (hb2.mono B1.out.size)
  clear hb2 CO y1 e2
  cases sb
  · have E3 : Hid (RV = refV x 2) := by
      show _ = _
      rw [← ERV.out, ndC_2 (by have := HNN.out; omega) ESB.out, errW_yes x (by decide)]; rfl
    go_wp2_with (first
      | (go_at_call 139; refine (refused_any _ _ _).mono ?_; rintro e w3 ⟨rfl, rfl⟩))
    go_ret
    exact ⟨by rw [E3.out]; rfl, B2.out⟩
  · have E3 : Hid (RV = .nilIface) := by
      show _ = _
      rw [← ERV.out, ndC_0 (by have := HNN.out; omega) ESB.out, errW_no]
    go_wp2_with fail
    go_ret
    exact ⟨by rw [E3.out]; rfl, B2.out⟩
end Go.Proofs.YtaejlcanccfmmaaGreatDoor

namespace Go.Proofs.YtaejlcanccfmmaaGreatDoor
open Go.RowKit
set_option maxRecDepth 100000 in
set_option maxHeartbeats 4000000 in
theorem lessIs_any (S : Nat → Prop) (vb : Value) (b : List ByteArray) (x : ByteArray) (nb : Nat) (w : World) (h : AtL S w b vb) (hx : w.cell? ⟨nb, 1, none⟩ = some vb) :
    Calls Tryz.prog 79 #[.string x, .pointer (some ⟨nb, 0, none⟩)] w fun e w' => e = .returned (.bool (!hasB b x)) ∧ w' = w := by
  have H : Hid _ := hasN_any S vb b x w h
  clear h
  go_enter Tryz.func79, Tryz.ntmps79
  go_wp2_with fail
  refine Calls.mono H.out ?_
  rintro e w1 ⟨rfl, rfl⟩
  go_wp2_with fail
  go_ret
  exact ⟨rfl, rfl⟩
set_option maxRecDepth 100000 in
set_option maxHeartbeats 4000000 in
theorem lessIdx_any (S SB : Nat → Prop) (va vb : Value) (a b : List ByteArray) (nb : Nat) (w : World) (ha : AtL S w a va) (hb : AtL SB w b vb) (hx : w.cell? ⟨nb, 1, none⟩ = some vb) :
    Calls Tryz.prog 99 #[va, .func (.func 79) #[] #[.pointer (some ⟨nb, 0, none⟩)]] w fun e w' => e = .returned (.int .i64 (idxI a (fun x => !hasB b x))) ∧ w' = w := by
  obtain ⟨oa, cap, rfl, hn, hc⟩ := ha
  obtain ⟨n, en⟩ : ∃ n, a.length = n := ⟨_, rfl⟩
  rw [en] at hn
  rw [en]
  unfold maxLen at hn
  have HC : Hid _ := hc
  have HI : Hid (∀ x, Calls Tryz.prog 79 #[.string x, .pointer (some ⟨nb, 0, none⟩)] w fun e w' => e = .returned (.bool (!hasB b x)) ∧ w' = w) := fun x => lessIs_any SB vb b x nb w hb hx
  clear hc hb hx
  go_enter Tryz.func99, Tryz.ntmps99
  go_wp2
  go_loop [8] (fun i => ∃ k : Nat, k ≤ n ∧ i = .int .i64 k ∧ Hid (∀ j (hj : j < a.length), j < k → (!hasB b a[j]) = false)) (fun i => n - (intOf i).toNat)
  case atStart => exact ⟨0, Nat.zero_le _, rfl, fun _ _ h => by omega⟩
  case round =>
    obtain ⟨k, hk, rfl, hno⟩ := hrel
    by_cases hlt : k < n
    · obtain ⟨q, off, rfl, _, cc, hcell, hat⟩ := HC.out k (by omega)
      rw [width_str] at hcell
      have hcell := hcell 0 (by omega)
      rw [Nat.mul_one, Nat.add_zero] at hcell
      rw [at_str] at hat
      rw [hat.1] at hcell
      clear hat
      obtain ⟨f, ef⟩ : ∃ f, a[k]'(by omega) = f := ⟨_, rfl⟩
      rw [ef] at hcell
      cases hy : (!hasB b f)
      all_goals
        go_wp2_with (go_at_call 79; refine Calls.mono (HI.out f) ?_; rintro e w1 ⟨rfl, rfl⟩; rw [hy])
      · go_round
        case rel => exact ⟨k + 1, by omega, by go_num, fun j hj hjk => by
          by_cases e : j = k
          · subst e; rw [ef]; exact hy
          · exact hno.out j hj (by omega)⟩
        case measure => simp [intOf]; omega
      · rw [idx_yes (k := k) (by omega) (by rw [ef]; exact hy) hno.out]
        go_ret
        exact ⟨rfl, rfl⟩
    · go_wp2
      go_ret
      rw [idx_no (fun j hj => hno.out j hj (by omega))]
      exact ⟨rfl, rfl⟩
theorem filt_succ {p : ByteArray → Bool} {l : List ByteArray} {j : Nat} (hj : j < l.length) : (l.take (j + 1)).filter p = (l.take j).filter p ++ (if p l[j] = true then [l[j]] else []) := by
  rw [List.take_succ_eq_append_getElem hj, List.filter_append]
  congr 1
  by_cases h : p l[j] = true
  · rw [if_pos h, List.filter_cons, if_pos h, List.filter_nil]
  · rw [if_neg h, List.filter_cons, if_neg h, List.filter_nil]
theorem filt_all {p : ByteArray → Bool} {l : List ByteArray} {k : Nat} (h : ∀ j (hj : j < l.length), j < k → p l[j] = true) : (l.take k).filter p = l.take k := by
  rw [List.filter_eq_self]
  intro a ha
  obtain ⟨i, hi, rfl⟩ := List.getElem_of_mem ha
  rw [List.length_take] at hi
  rw [List.getElem_take]
  exact h i (by omega) (by omega)
structure DelI (w wr : World) (g cap n i j : Nat) (l : List ByteArray) (p : ByteArray → Bool) : Prop where
  ex : ∃ c : Array Value, wr.heap[g]? = some (.cells c 9 (0, 0)) ∧ c.size = cap ∧ (∀ t (ht : t < ((l.take j).filter p).length), c[t]? = some (.string ((l.take j).filter p)[t])) ∧ (∀ t (ht : t < l.length), j ≤ t → c[t]? = some (.string l[t]))
  len : ((l.take j).filter p).length = i
  but : But (fun b => b = g) w wr
theorem DelI.skip {w wr : World} {g cap n i j : Nat} {l : List ByteArray} {p : ByteArray → Bool} (h : DelI w wr g cap n i j l p) (hj : j < l.length) (hp : p l[j] = false) : DelI w wr g cap n i (j + 1) l p := by
  have e : (l.take (j + 1)).filter p = (l.take j).filter p := by rw [filt_succ hj, if_neg (by rw [hp]; decide), List.append_nil]
  obtain ⟨c, h1, h2, h3, h4⟩ := h.ex
  refine ⟨⟨c, h1, h2, fun t ht => ?_, fun t ht hjt => h4 t ht (by omega)⟩, by rw [e]; exact h.len, h.but⟩
  have ht' : t < ((l.take j).filter p).length := by rw [e] at ht; exact ht
  rw [h3 t ht']
  congr 2
  simp only [e]
theorem DelI.keep {w wr : World} {g cap n i j : Nat} {l : List ByteArray} {p : ByteArray → Bool} (h : DelI w wr g cap n i j l p) (hj : j < l.length) (hn : l.length ≤ cap) (hp : p l[j] = true) (hij : i ≤ j) : DelI w (wr.setCell ⟨g, i, none⟩ (.string l[j])) g cap n (i + 1) (j + 1) l p := by
  have e : (l.take (j + 1)).filter p = (l.take j).filter p ++ [l[j]] := by rw [filt_succ hj, if_pos hp]
  obtain ⟨c, h1, h2, h3, h4⟩ := h.ex
  refine ⟨⟨c.setIfInBounds i (.string l[j]), set_row h1 i _, by simpa using h2, fun t ht => ?_, fun t ht hjt => ?_⟩, by rw [e, List.length_append, h.len]; rfl, h.but.set rfl i _⟩
  · have hl := h.len
    simp only [e] at ht ⊢
    rw [List.length_append, List.length_singleton] at ht
    by_cases ei : t = i
    · subst ei
      rw [Array.getElem?_setIfInBounds_self_of_lt (by omega), List.getElem_append_right (by omega)]
      simp [hl]
    · rw [Array.getElem?_setIfInBounds_ne (by omega), List.getElem_append_left (by omega)]
      exact h3 t (by omega)
  · rw [Array.getElem?_setIfInBounds_ne (by omega)]
    exact h4 t ht (by omega)
theorem zero_lenZ (z : Array Value) (n : Nat) : (Builtin.zeroCells z n).size = n * z.size := by simp [Builtin.zeroCells]
theorem zero_oneZ (n : Nat) : ∀ u ∈ (Builtin.zeroCells (Value.string ByteArray.empty).cells n).toList, u.oneCell' = true := by
  intro u hu
  have e : (Value.string ByteArray.empty).cells = #[.string ByteArray.empty] := rfl
  rw [e] at hu
  simp [Builtin.zeroCells] at hu
  obtain ⟨a, ha, rfl⟩ := hu
  simp [Nat.mod_one]
  rfl
set_option maxRecDepth 100000 in
set_option maxHeartbeats 8000000 in
theorem delF_any (B nb : Nat) (SB : Nat → Prop) (v vb : Value) (l nd : List ByteArray) (w : World) (hr : Row w B 9 1 eS v l) (hz : ∀ s ∈ l, s.size ≤ maxLen) (hl : l.length ≤ 1048576) (hb : AtL SB w nd vb) (hx : w.cell? ⟨nb, 1, none⟩ = some vb) (hap : ∀ b, v.ownBlock = some b → ¬ SB b ∧ b ≠ nb) (hSB : ∀ b, SB b → b < w.heap.size) (hnb : nb < w.heap.size) :
    Calls Tryz.prog 78 #[v, .func (.func 79) #[] #[.pointer (some ⟨nb, 0, none⟩)]] w fun e w' => ∃ v', e = .returned v' ∧ Row w' B 9 1 eS v' (l.filter fun y => hasB nd y) ∧ w.grownBy w' v.ownBlock ∧ (v'.ownBlock = none ∨ v'.ownBlock = v.ownBlock) := by
  have CI := lessIdx_any (fun b => v.ownBlock = some b) SB v vb l nd nb w (flatS.row_at hr (fun _ h => h) hz) hb hx
  rcases hr.2 with ⟨rfl, h0⟩ | ⟨g, cap, cur, rfl, hbg, hg, hnc, hm, hcs, hxs⟩
  · have el : l = [] := List.eq_nil_of_length_eq_zero h0
    subst el
    have e0 : idxI ([] : List ByteArray) (fun x => !hasB nd x) = -1 := rfl
    rw [e0] at CI
    have HCI : Hid _ := CI
    clear CI
    go_enter Tryz.func78, Tryz.ntmps78
    go_wp2_with fail
    refine Calls.mono HCI.out ?_
    rintro e w1 ⟨rfl, rfl⟩
    go_wp2_with fail
    go_ret
    exact ⟨_, rfl, Row.nil _ _ _ _ _, ⟨rfl, rfl, rfl, Nat.le_refl _, fun _ _ _ => rfl⟩, .inl rfl⟩
  rw [Nat.mul_one] at hcs
  rw [Nat.mul_one] at hxs
  obtain ⟨n, en⟩ : ∃ n, l.length = n := ⟨_, rfl⟩
  have HEN : Hid (l.length = n) := en
  have hcell : ∀ t (ht : t < l.length), cur[t]? = some (.string l[t]) := fun t ht => by
    have e1 := enc_at 1 eS l t ht 0 (by decide)
    rw [Nat.mul_one, Nat.add_zero, ← hxs, List.getElem?_take_of_lt ht] at e1
    rw [← Array.getElem?_toList]; exact e1
  have HCELL : Hid (∀ t (ht : t < l.length), cur[t]? = some (.string l[t])) := hcell
  have HG : Hid (w.heap[g]? = some (.cells cur 9 (0, 0))) := hg
  have HCS : Hid (cur.size = cap) := hcs
  have HM : Hid (cap ≤ maxLen) := hm
  have HAP : Hid (¬ SB g ∧ g ≠ nb) := hap g rfl
  have HIS : Hid (∀ wr, But (fun b => b = g) w wr → ∀ x, Calls Tryz.prog 79 #[.string x, .pointer (some ⟨nb, 0, none⟩)] wr fun e w' => e = .returned (.bool (!hasB nd x)) ∧ w' = wr) := fun wr hbw x => lessIs_any SB vb nd x nb wr (hb.same (fun b hb' => hbw.block b (hSB b hb') (fun e => HAP.out.1 (e ▸ hb')))) ((World.cell?_of_block (a := ⟨nb, 1, none⟩) (hbw.block nb hnb (fun e => HAP.out.2 e.symm))).trans hx)
  have hgl := (Array.getElem?_eq_some_iff.1 hg).1
  have HROW : Hid (Row w B 9 1 eS (.slice (some ⟨g, 0, none⟩) n cap) l) := by rw [en] at hr; exact hr
  rw [en] at CI hl hnc
  rw [en]
  obtain ⟨ix, eix⟩ : ∃ i, idxI l (fun x => !hasB nd x) = i := ⟨_, rfl⟩
  rw [eix] at CI
  have EIX : Hid (idxI l (fun x => !hasB nd x) = ix) := eix
  have HCI : Hid _ := CI
  have hzv : ∀ w, (zeroValue 9).run Tryz.prog w = .ok (.string ByteArray.empty) w := fun w => by kernel_rfl
  have HBG : Hid (B ≤ g) := hbg
  clear CI hr hz hb hx hap hcell hg hcs hm hxs en eix hbg
  by_cases hno : ix = -1
  · have hall : ∀ y ∈ l, hasB nd y = true := fun y hy => by
      cases hq : hasB nd y
      · exfalso
        obtain ⟨i, hi, rfl⟩ := List.getElem_of_mem hy
        have hi0 := EIX.out
        unfold idxI at hi0
        cases hf : l.findIdx? (fun x => !hasB nd x) with
        | none =>
          rw [List.findIdx?_eq_none_iff] at hf
          have := hf _ (List.getElem_mem hi)
          rw [hq] at this
          exact absurd this (by decide)
        | some k => rw [hf, hno] at hi0; simp at hi0
      · rfl
    have HF : Hid (l.filter (fun y => hasB nd y) = l) := List.filter_eq_self.2 hall
    subst hno
    go_enter Tryz.func78, Tryz.ntmps78
    go_wp2_with fail
    refine Calls.mono HCI.out ?_
    rintro e w1 ⟨rfl, rfl⟩
    go_wp2_with fail
    go_ret
    exact ⟨_, rfl, by rw [HF.out]; exact HROW.out, ⟨rfl, rfl, rfl, Nat.le_refl _, fun _ _ _ => rfl⟩, .inr rfl⟩
  obtain ⟨k, ek, hk, hkd, hkb⟩ : ∃ k : Nat, ix = (k : Int) ∧ ∃ hk : k < l.length, hasB nd l[k] = false ∧ ∀ j (hj : j < l.length), j < k → hasB nd l[j] = true := by
    have hi0 := EIX.out
    unfold idxI at hi0
    cases hf : l.findIdx? (fun x => !hasB nd x) with
    | none => rw [hf] at hi0; exact absurd hi0.symm hno
    | some k =>
      rw [hf] at hi0
      obtain ⟨h1, h2, h3⟩ := List.findIdx?_eq_some_iff_getElem.1 hf
      exact ⟨k, hi0.symm, h1, by simpa using h2, fun j hj hjk => by have := h3 j hjk; simpa using this⟩
  subst ek
  have hkn : k < n := by have := HEN.out; omega
  have HST : Hid (DelI w w g cap n k (k + 1) l (fun y => hasB nd y)) := by
    have e : (l.take k).filter (fun y => hasB nd y) = l.take k := filt_all hkb
    refine DelI.skip (j := k) ⟨⟨cur, HG.out, HCS.out, fun t ht => ?_, fun t ht _ => HCELL.out t ht⟩, by rw [e, List.length_take]; omega, But.refl _ _⟩ hk hkd
    simp only [e] at ht ⊢
    rw [List.length_take] at ht
    rw [List.getElem_take]
    exact HCELL.out t (by omega)
  clear hkd hkb hk hno
  have hkm : ((k : Int) == -1) = false := by rw [beq_eq_false_iff_ne]; omega
  go_enter Tryz.func78, Tryz.ntmps78
  go_wp2_with fail
  refine Calls.mono HCI.out ?_
  rintro e w1 ⟨rfl, hw1⟩
  have hw2 := hw1.symm
  subst hw2
  clear hw1
  go_wp2_with fail
  go_loopw [5, 6] (fun vi vj wr => ∃ i j : Nat, i < j ∧ j ≤ n ∧ vi = .int .i64 i ∧ vj = .int .i64 j ∧ Hid (DelI w wr g cap n i j l (fun y => hasB nd y))) (fun _ vj _ => n - (intOf vj).toNat)
  case atStart => exact ⟨k, k + 1, by omega, by omega, rfl, by go_num, HST.out⟩
  case round =>
    obtain ⟨i, j, hij, hj, rfl, rfl, hst⟩ := hrel
    by_cases hlt : j < n
    · have hjl : j < l.length := by have := HEN.out; omega
      obtain ⟨c, c1, c2, c3, c4⟩ := hst.out.ex
      obtain ⟨y, ey⟩ : ∃ y, l[j]'hjl = y := ⟨_, rfl⟩
      have e0 := (cell_row c1 j _ (c4 j hjl (Nat.le_refl _))).1
      rw [ey] at e0
      have hic : i < c.size := by omega
      obtain ⟨e1, f1⟩ := cell_row c1 i _ (Array.getElem?_eq_getElem hic)
      have HCA : Hid _ := HIS.out wr hst.out.but y
      clear c1 c2 c3 c4
      cases hy : hasB nd y
      · go_wp2_with (first
          | (go_at_call 79; refine Calls.mono HCA.out ?_; rintro e w2 ⟨rfl, rfl⟩; rw [hy]))
        go_roundw
        case rel => exact ⟨i, j + 1, by omega, by omega, rfl, by go_num, hst.out.skip hjl (by rw [ey]; exact hy)⟩
        case measure => simp [intOf]; omega
      · have HK : Hid (DelI w (wr.setCell ⟨g, i, none⟩ (.string y)) g cap n (i + 1) (j + 1) l (fun y => hasB nd y)) := by
          have := hst.out.keep hjl (by have := HEN.out; omega) (by rw [ey]; exact hy) (by omega)
          rw [ey] at this
          exact this
        go_wp2_with (first
          | (go_at_call 79; refine Calls.mono HCA.out ?_; rintro e w2 ⟨rfl, hw2⟩; have hw3 := hw2.symm; subst hw3; clear hw2; rw [hy]))
        go_roundw
        case rel => exact ⟨i + 1, j + 1, by omega, by omega, by go_num, by go_num, HK.out⟩
        case measure => simp [intOf]; omega
    · obtain rfl : n = j := by omega
      obtain ⟨c, c1, c2, c3, _⟩ := hst.out.ex
      have hta : l.take n = l := List.take_of_length_le (by have := HEN.out; omega)
      rw [hta] at c3
      have hlen := hst.out.len
      rw [hta] at hlen
      obtain ⟨R, eR⟩ : ∃ R : Array Value, R = (c.toList.take i ++ (Builtin.zeroCells (Value.string ByteArray.empty).cells (n - i)).toList ++ c.toList.drop (i + (Builtin.zeroCells (Value.string ByteArray.empty).cells (n - i)).toList.length)).toArray := ⟨_, rfl⟩
      have hzl : (Builtin.zeroCells (Value.string ByteArray.empty).cells (n - i)).toList.length = n - i := by rw [Array.length_toList, zero_lenZ]; show (n - i) * 1 = _; omega
      have hcl : ∀ ty, (Builtin.clear_ #[23] ty #[.slice (some ⟨g, i, none⟩) (n - i) (cap - i)]).run Tryz.prog wr = .ok (.tuple #[]) (wr.setRow g R) := fun ty => by
        rw [eR]
        exact run_clear_k wr 23 9 ty _ elS.ht hzv g i (n - i) (cap - i) (by omega) c _ c1 _ rfl (by rw [hzl]; omega) (zero_oneZ _)
      have HR : Hid (R.size = cap ∧ R.toList.take i = (l.filter fun y => hasB nd y).map Value.string) := by
        constructor
        · rw [eR, List.size_toArray, List.length_append, List.length_append, List.length_take, List.length_drop, hzl, Array.length_toList]; omega
        · rw [eR, List.append_assoc, List.take_append_of_le_length (by rw [List.length_take, Array.length_toList]; omega), List.take_take, Nat.min_self]
          refine List.ext_getElem ?_ fun t h1 h2 => ?_
          · rw [List.length_take, Array.length_toList, List.length_map, hlen]; omega
          · rw [List.length_map] at h2
            have := c3 t h2
            rw [List.getElem_take, List.getElem_map, Array.getElem_toList]
            rw [Array.getElem?_eq_getElem (by omega)] at this
            injection this
      have HC1 : Hid (wr.heap[g]? = some (.cells c 9 (0, 0))) := c1
      have hci : ¬ (cap = i) := by omega
      have hin : i ≤ n := by omega
      have hic2 : i ≤ cap := by omega
      have HLEN : Hid ((l.filter fun y => hasB nd y).length = i) := hlen
      clear c1 c2 c3 eR hzl hta hlen
      go_wp2
      go_ret
      refine ⟨.slice (some ⟨g, 0, none⟩) i cap, rfl, ⟨by rw [enc_len], .inr ⟨g, cap, R, by rw [HLEN.out], HBG.out, setRow_heap wr g c R _ _ HC1.out, by rw [HLEN.out]; omega, HM.out, by rw [HR.out.1, Nat.mul_one], ?_⟩⟩, ?_, .inr rfl⟩
      · rw [HLEN.out, Nat.mul_one, HR.out.2]
        simp [enc, eS, List.flatMap]
        induction (l.filter fun y => hasB nd y) with
        | nil => rfl
        | cons a l ih => simp [ih]
      · have hb := hst.out.but
        exact ⟨hb.os, hb.tape, hb.output, by rw [setRow_size]; exact hb.size, fun q hq hne => (setRow_other wr g q R (fun e => hne (by rw [e]; rfl))).trans (hb.block q hq (fun e => hne (by rw [e]; rfl)))⟩
end Go.Proofs.YtaejlcanccfmmaaGreatDoor
