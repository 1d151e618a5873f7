/-
  Several texts in one.
-/
import Derived.Test.YtidojjecjjochacGreatDoorM30
import Derived.Test.YtidojjecjjochacGreatDoorZpt
import Derived.Test.YtidojjecjjochacGreatDoorHj
/-
  Plain: one batch of a book of the call's own set anew; and the program's look at what somebody may need: refusedNeeds.
-/
namespace Go.Proofs.YtidojjecjjochacGreatDoor
open Go.RowKit Go.Sort

theorem hdB_at {L : List HB} {q : Nat} (hq : q < L.length) : hdB L = hdB (L.take q) ++ (hdX L[q] ++ hdB (L.drop (q + 1))) := by
  have e : L = L.take q ++ ([L[q]] ++ L.drop (q + 1)) := by
    rw [List.singleton_append, List.getElem_cons_drop, List.take_append_drop]
  conv => lhs; rw [e]
  rw [hdB_app, hdB_app, hdB_one]
theorem hdB_set {L : List HB} {q : Nat} (hq : q < L.length) (y : HB) : hdB (L.set q y) = hdB (L.take q) ++ (hdX y ++ hdB (L.drop (q + 1))) := by
  rw [List.set_eq_take_append_cons_drop, if_pos hq, hdB_app]
  congr 1
/-- New blocks in an old one's place. -/
theorem hdT_set {v0 : Value} {L : List HB} {q m : Nat} (hq : q < L.length) {y : HB} (h : (hdT v0 L).Nodup) (hl : ∀ b ∈ hdT v0 L, b < m) (hy : (hdX y).Nodup) (hn : ∀ b ∈ hdX y, b ∈ hdX L[q] ∨ m ≤ b) : (hdT v0 (L.set q y)).Nodup := by
  unfold hdT at h hl ⊢
  rw [hdB_at hq] at h hl
  rw [hdB_set hq]
  simp only [List.nodup_append, List.mem_append] at h hl ⊢
  obtain ⟨h1, ⟨h2, ⟨h3, h4, h5⟩, h6⟩, h7⟩ := h
  refine ⟨h1, ⟨h2, ⟨hy, h4, fun a ha b hb e => ?_⟩, fun a ha b hb e => ?_⟩, fun a ha b hb e => ?_⟩
  · rcases hn a ha with h | h
    · exact h5 a h b hb e
    · have := hl b (.inr (.inr (.inr hb))); omega
  · rcases hb with hb | hb
    · rcases hn b hb with h | h
      · exact h6 a ha b (.inl h) e
      · have := hl a (.inr (.inl ha)); omega
    · exact h6 a ha b (.inr hb) e
  · rcases hb with hb | hb | hb
    · exact h7 a ha b (.inl hb) e
    · rcases hn b hb with h | h
      · exact h7 a ha b (.inr (.inl h)) e
      · have := hl a (.inl ha); omega
    · exact h7 a ha b (.inr (.inr hb)) e
theorem PkO.lt {B : Nat} {w : World} {v0 v1 : Value} {T : List ByteArray} {L : List HB} (h : PkO B w v0 v1 T L) {b : Nat} (hb : b ∈ hdT v0 L) : B ≤ b ∧ b < w.heap.size := by
  unfold hdT at hb
  rcases List.mem_append.1 hb with hb | hb
  · exact World.ownsRow.lt h.th b (by rw [Option.mem_toList] at hb; exact hb)
  · exact h.bs.lt hb
/-- One batch set anew: its lists alone have turned, and what is new. -/
theorem PkO.setE {B q : Nat} {w w2 : World} {v0 v1 : Value} {T : List ByteArray} {L : List HB} {y : HB} (h : PkO B w v0 v1 T L) (hq : q < L.length) (hr : Row w2 B 45 3 eH v1 (L.set q y)) (hy : HbO B w2 y) (hk : ∀ (b : Nat) (c : Array Value), w.heap[b]? = some (.cells c 9 (0, 0)) → b ∉ hdX L[q] → w2.heap[b]? = w.heap[b]?) (hd : (hdX y).Nodup) (hn : ∀ b ∈ hdX y, b ∈ hdX L[q] ∨ w.heap.size ≤ b) : PkO B w2 v0 v1 T (L.set q y) := by
  have hnd := h.nd
  unfold hdT at hnd
  rw [List.nodup_append] at hnd
  have ks : ∀ {v : Value} {l : List ByteArray}, Row w B 9 1 eS v l → (∀ b, v.ownBlock = some b → b ∉ hdX L[q]) → Row w2 B 9 1 eS v l := fun hr ha => Row.block hr fun b hb => by
    obtain ⟨c, hc⟩ := Row.typed hr b hb
    exact hk b c hc (ha b hb)
  refine ⟨ks h.th fun b hb h2 => hnd.2.2 b (by rw [Option.mem_toList]; exact hb) b (hdB_mem.2 ⟨_, List.getElem_mem hq, h2⟩) rfl, h.zt, ⟨hr, fun x hx => ?_⟩, hdT_set hq h.nd (fun b hb => (h.lt hb).2) hd hn⟩
  obtain ⟨i, hi, rfl⟩ := List.getElem_of_mem hx
  rw [List.length_set] at hi
  by_cases e : q = i
  · subst e
    rw [List.getElem_set_self]
    exact hy
  · rw [List.getElem_set_ne e]
    have he := h.bs.el _ (List.getElem_mem hi)
    refine ⟨ks he.h fun b hb h2 => e (hdB_dis hnd.2.1 hq hi h2 (hdX_mem.2 (.inl hb))), ks he.n fun b hb h2 => e (hdB_dis hnd.2.1 hq hi h2 (hdX_mem.2 (.inr hb))), he.z, he.zh, he.zn⟩

noncomputable def ndC (Bs : List DShareBatch) (x : ByteArray) (nd : List ByteArray) : Int := if atI Bs x < 0 then 3 else if subB (btN Bs (atI Bs x).toNat).2.2 nd = true then 0 else 2
theorem ndC_3 {Bs : List DShareBatch} {x : ByteArray} {nd : List ByteArray} (h : atI Bs x < 0) : ndC Bs x nd = 3 := by unfold ndC; rw [if_pos h]
theorem ndC_0 {Bs : List DShareBatch} {x : ByteArray} {nd : List ByteArray} (h : ¬ atI Bs x < 0) (h2 : subB (btN Bs (atI Bs x).toNat).2.2 nd = true) : ndC Bs x nd = 0 := by unfold ndC; rw [if_neg h, if_pos h2]
theorem ndC_2 {Bs : List DShareBatch} {x : ByteArray} {nd : List ByteArray} (h : ¬ atI Bs x < 0) (h2 : subB (btN Bs (atI Bs x).toNat).2.2 nd = false) : ndC Bs x nd = 2 := by unfold ndC; rw [if_neg h, if_neg (by rw [h2]; decide)]

set_option maxRecDepth 100000 in
set_option maxHeartbeats 8000000 in
theorem refN_any (S SN : Nat → Prop) (Bs : List DShareBatch) (o0 oa : Option Addr) (n0 k0 nb kb : Nat) (x : ByteArray) (nd : List ByteArray) (on : Option Addr) (nn kn : Nat) (w : World) (h1 : AtL S w Bs (.slice oa nb kb)) (hS : ∀ b, S b → b < w.heap.size) (hN : AtL SN w nd (.slice on nn kn)) (hSN : ∀ b, SN b → b < w.heap.size) :
    Calls Tryz.prog 117 #[.agg #[.slice o0 n0 k0, .slice oa nb kb], .string x, .slice on nn kn] w fun e w' => e = .returned (errW x (ndC Bs x nd)) ∧ Below w.heap.size w w' := by
  have H1 : Hid (∀ u, Below w.heap.size w u → AtL S u Bs (.slice oa nb kb)) := fun u hu => h1.same (Same.of_below hu hS)
  have HS : Hid (∀ u, Below w.heap.size w u → ∀ b, S b → b < u.heap.size) := fun u hu b hb => Nat.lt_of_lt_of_le (hS b hb) hu.size
  have HN : Hid (∀ u, Below w.heap.size w u → AtL SN u nd (.slice on nn kn)) := fun u hu => hN.same (Same.of_below hu hSN)
  have HSN : Hid (∀ u, Below w.heap.size w u → ∀ b, SN b → b < u.heap.size) := fun u hu b hb => Nat.lt_of_lt_of_le (hSN b hb) hu.size
  have enb : Bs.length = nb := by obtain ⟨_, _, e, _⟩ := h1; cases e; rfl
  have ENB : Hid (Bs.length ≤ nb ∧ nb ≤ Bs.length) := ⟨by omega, by omega⟩
  obtain ⟨W, hW⟩ : ∃ W, W = w.alloc (.cells #[.slice o0 n0 k0, .slice oa nb kb] 30) := ⟨_, rfl⟩
  have EW : Hid (W = w.alloc (.cells #[.slice o0 n0 k0, .slice oa nb kb] 30)) := hW
  have BW : Hid (Below w.heap.size w W) := by rw [hW]; exact (Below.refl _ _).alloc (Nat.le_refl _) _
  have R1 : Hid (W.heap[w.heap.size]? = some (.cells #[.slice o0 n0 k0, .slice oa nb kb] 30 (0, 0))) := by rw [hW]; exact heap_alloc_new w _
  have sW : w.heap.size + 1 ≤ W.heap.size := by rw [hW]; simp
  obtain ⟨RV, eRV⟩ : ∃ v, errW x (ndC Bs x nd) = v := ⟨_, rfl⟩
  rw [eRV]
  have ERV : Hid (errW x (ndC Bs x nd) = RV) := eRV
  clear h1 hN hW eRV enb
  have y0 := (cell_row R1.out 0 (.slice o0 n0 k0) rfl).1
  have y1 := (cell_row R1.out 1 (.slice oa nb kb) rfl).1
  go_enter Tryz.func117, Tryz.ntmps117
  go_upto_region 1 with fail
  rw [← EW.out]
  go_wp2_with fail
  refine (batchAtI_any S _ _ Bs x W (H1.out W BW.out) (HS.out W BW.out)).mono ?_
  rintro e w1 ⟨rfl, hb1⟩
  have B1 : Hid (Below w.heap.size w w1) := BW.out.trans (hb1.mono BW.out.size)
  have X1 : Hid (w1.heap[w.heap.size]? = some (.cells #[.slice o0 n0 k0, .slice oa nb kb] 30 (0, 0))) := (hb1.block _ (by omega)).trans R1.out
  clear hb1 y0 y1
  obtain ⟨i, ei⟩ : ∃ i, idxI Bs (fun p : DShareBatch => eqB p.1 x) = i := ⟨_, rfl⟩
  have EI : Hid (atI Bs x = i) := ei
  rw [ei]
  clear ei
  by_cases hi : i < 0
  · have E3 : Hid (RV = refV x 3) := by
      show _ = _
      rw [← ERV.out, ndC_3 (by rw [EI.out]; exact hi), errW_yes x (by decide)]; rfl
    go_wp2_with (first
      | (go_at_call 114; refine (refused_any _ _ _).mono ?_; rintro e w2 ⟨rfl, rfl⟩))
    go_ret
    exact ⟨by rw [E3.out]; rfl, B1.out⟩
  have hnn : ¬ atI Bs x < 0 := by rw [EI.out]; exact hi
  obtain ⟨q, eq, hq⟩ := at_lt hnn
  have EQ : Hid (i = (q : Int)) := EI.out.symm.trans eq
  have HNN : Hid (¬ atI Bs x < 0) := hnn
  have HAT : Hid ((atI Bs x).toNat = q) := by show _ = _; rw [eq, Int.toNat_natCast]
  rw [EQ.out]
  rw [EQ.out] at hi
  obtain ⟨bb, off, p1, m1, j1, p2, m2, j2, rfl, hbS, e0, e1, e2, a1, a2, zz0⟩ := bat_at (H1.out w1 B1.out) q hq
  have y1 := (cell_row X1.out 1 (.slice (some ⟨bb, off, none⟩) nb kb) rfl).1
  have hqb : q < nb := by have := ENB.out; omega
  have CO : Hid (Calls Tryz.prog 55 #[.slice on nn kn, .slice p2 m2 j2] w1 fun e w' => e = .returned (.bool (subB Bs[q].2.2 nd)) ∧ Below w1.heap.size w1 w') := isOf_any SN S (.slice on nn kn) (.slice p2 m2 j2) nd Bs[q].2.2 w1 (HN.out w1 B1.out) a2 (HSN.out w1 B1.out) (HS.out w1 B1.out)
  obtain ⟨sb, esb⟩ : ∃ b, subB Bs[q].2.2 nd = b := ⟨_, rfl⟩
  rw [esb] at CO
  have ESB : Hid (subB (btN Bs (atI Bs x).toNat).2.2 nd = sb) := by show _ = _; rw [HAT.out, btN_at hq]; exact esb
  clear a1 a2 e0 e1 esb eq hnn zz0
  go_wp2_with fail
  refine Calls.mono CO.out ?_
  rintro e w2 ⟨rfl, hb2⟩
  have B2 : Hid (Below w.heap.size w w2) := B1.out.trans (hb2.mono B1.out.size)
  clear hb2 CO y1 e2
  cases sb
  · have E3 : Hid (RV = refV x 2) := by
      show _ = _
      rw [← ERV.out, ndC_2 (by have := HNN.out; omega) ESB.out, errW_yes x (by decide)]; rfl
    go_wp2_with (first
      | (go_at_call 114; refine (refused_any _ _ _).mono ?_; rintro e w3 ⟨rfl, rfl⟩))
    go_ret
    exact ⟨by rw [E3.out]; rfl, B2.out⟩
  · have E3 : Hid (RV = .nilIface) := by
      show _ = _
      rw [← ERV.out, ndC_0 (by have := HNN.out; omega) ESB.out, errW_no]
    go_wp2_with fail
    go_ret
    exact ⟨by rw [E3.out]; rfl, B2.out⟩

end Go.Proofs.YtidojjecjjochacGreatDoor

/-
  Laws on a region that draws its order, step by step, with the place that is written told: what is put stays small. No program is named here.
-/
namespace Go.Proofs.YtidojjecjjochacGreatDoor
open Go.Sort

section
variable {P : Program}
theorem takeHd {Q : Exit → Act → World → Prop} {l : List Oper} {n f : Nat} {listed : Array Bool} {i d : Nat} {oi : Oper} {a : Act} {w : World} (v : Value) (hi : l.toArray[i]? = some oi ∧ oi.dst = some d) (hB : takeB l n listed i = true) (hw : Region.wanted oi (yielded l.toArray a.tmps) = true) (hrun : ∀ w, (execOp a.eval oi).run P w = .ok (.value v) w)
    (h : anyH P .any l.toArray (fun _ => True) n (tailC P Q l n) f (listed.setIfInBounds i true) (a.put (some d) v) w) : anyH P .any l.toArray (fun _ => True) n (tailC P Q l n) (f + 1) listed a w := by
  obtain ⟨h1, h2⟩ := hi
  refine takeH v h1 hB hw hrun ?_
  rw [h2]; exact h
variable {ops : Array Oper} {C : World → Prop} {n : Nat} {L : Array Bool → Act → World → Prop}
theorem oneHd {f : Nat} {listed : Array Bool} {i d : Nat} {oc : Oper} {a : Act} {w : World} (u : Value) (w' : World)
    (hc : ops[i]? = some oc ∧ oc.dst = some d) (hin : i < n) (r0 : Region.ready .any ops listed = [i]) (hw : Region.wanted oc (yielded ops a.tmps) = true)
    (run : (execOp a.eval oc).run P w = .ok (.value u) w') (hC : C w') (h : anyH P .any ops C n L f (listed.setIfInBounds i true) (a.put (some d) u) w') : anyH P .any ops C n L (f + 1) listed a w := by
  refine oneH u w' ⟨hc.1, hin⟩ r0 hw run hC ?_
  rw [hc.2]; exact h
theorem stepHd {i d : Nat} {K : Act → World → Prop} {oc : Oper} {a : Act} {w : World} (u : Value) (w' : World) (hc : ops[i]? = some oc ∧ oc.dst = some d) (hw : Region.wanted oc (yielded ops a.tmps) = true) (run : (execOp a.eval oc).run P w = .ok (.value u) w') (hk : K (a.put (some d) u) w') : stepH P ops i K a w := by
  refine stepH_value u w' hc.1 hw run ?_
  rw [hc.2]; exact hk
theorem stepHc {i d : Nat} {K : Act → World → Prop} {oc : Oper} {a : Act} {w : World} {fn : FuncId} {args : Array Value} (hc : ops[i]? = some oc ∧ oc.dst = some d) (hw : Region.wanted oc (yielded ops a.tmps) = true) (run : (execOp a.eval oc).run P w = .ok (.enter fn args) w) (con : Calls P fn args w fun e w' => ∃ v, e = .returned v ∧ K (a.put (some d) v) w') : stepH P ops i K a w :=
  stepH_call hc.1 hw run (con.mono fun e w' ⟨v, he, hk⟩ => ⟨v, he, by rw [hc.2]; exact hk⟩)
theorem callHd {f : Nat} {listed : Array Bool} {i d : Nat} {oc : Oper} {a : Act} {w : World} {fn : FuncId} {args : Array Value} (hc : ops[i]? = some oc ∧ oc.dst = some d) (hin : i < n) (r0 : Region.ready .any ops listed = [i]) (hw : Region.wanted oc (yielded ops a.tmps) = true)
    (run : (execOp a.eval oc).run P w = .ok (.enter fn args) w) (con : Calls P fn args w fun e w' => ∃ v, e = .returned v ∧ C w' ∧ anyH P .any ops C n L f (listed.setIfInBounds i true) (a.put (some d) v) w') : anyH P .any ops C n L (f + 1) listed a w :=
  callH ⟨hc.1, hin⟩ r0 hw run (con.mono fun e w' ⟨v, he, h1, h2⟩ => ⟨v, he, h1, by rw [hc.2]; exact h2⟩)
theorem storeHd {f : Nat} {listed : Array Bool} {i : Nat} {oc : Oper} {a : Act} {w : World} (w' : World)
    (hc : ops[i]? = some oc ∧ oc.dst = none) (hin : i < n) (r0 : Region.ready .any ops listed = [i]) (hw : Region.wanted oc (yielded ops a.tmps) = true)
    (run : (execOp a.eval oc).run P w = .ok .skip w') (hC : C w') (h : anyH P .any ops C n L f (listed.setIfInBounds i true) a w') : anyH P .any ops C n L (f + 1) listed a w := by
  refine storeH w' ⟨hc.1, hin⟩ r0 hw run hC ?_
  rw [hc.2]; exact h
end
end Go.Proofs.YtidojjecjjochacGreatDoor
