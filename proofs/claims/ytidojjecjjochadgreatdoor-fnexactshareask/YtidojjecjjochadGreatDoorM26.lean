/-
  Several texts in one.
-/
import Derived.Test.YtidojjecjjochadGreatDoorM21
import Derived.Test.YtidojjecjjochadGreatDoorM25
import Derived.Test.YtidojjecjjochadGreatDoorM11
/-
  Plain: one batch of a book of the call's own set anew; and the program's look at what somebody may need: refusedNeeds.
-/
namespace Go.Proofs.YtidojjecjjochadGreatDoor
open Go.RowKit Go.Sort

theorem hdB_at {L : List HB} {q : Nat} (hq : q < L.length) : hdB L = hdB (L.take q) ++ (hdX L[q] ++ hdB (L.drop (q + 1))) := by
  have e : L = L.take q ++ ([L[q]] ++ L.drop (q + 1)) := by
    rw [List.singleton_append, List.getElem_cons_drop, List.take_append_drop]
  conv => lhs; rw [e]
  rw [hdB_app, hdB_app, hdB_one]
theorem hdB_set {L : List HB} {q : Nat} (hq : q < L.length) (y : HB) : hdB (L.set q y) = hdB (L.take q) ++ (hdX y ++ hdB (L.drop (q + 1))) := by
  rw [List.set_eq_take_append_cons_drop, if_pos hq, hdB_app]
  congr 1
/-- New blocks in an old one's place. -/
theorem hdT_set {v0 : Value} {L : List HB} {q m : Nat} (hq : q < L.length) {y : HB} (h : (hdT v0 L).Nodup) (hl : ∀ b ∈ hdT v0 L, b < m) (hy : (hdX y).Nodup) (hn : ∀ b ∈ hdX y, b ∈ hdX L[q] ∨ m ≤ b) : (hdT v0 (L.set q y)).Nodup := by
  unfold hdT at h hl ⊢
  rw [hdB_at hq] at h hl
  rw [hdB_set hq]
  simp only [List.nodup_append, List.mem_append] at h hl ⊢
  obtain ⟨h1, ⟨h2, ⟨h3, h4, h5⟩, h6⟩, h7⟩ := h
  refine ⟨h1, ⟨h2, ⟨hy, h4, fun a ha b hb e => ?_⟩, fun a ha b hb e => ?_⟩, fun a ha b hb e => ?_⟩
  · rcases hn a ha with h | h
    · exact h5 a h b hb e
    · have := hl b (.inr (.inr (.inr hb))); omega
  · rcases hb with hb | hb
    · rcases hn b hb with h | h
      · exact h6 a ha b (.inl h) e
      · have := hl a (.inr (.inl ha)); omega
    · exact h6 a ha b (.inr hb) e
  · rcases hb with hb | hb | hb
    · exact h7 a ha b (.inl hb) e
    · rcases hn b hb with h | h
      · exact h7 a ha b (.inr (.inl h)) e
      · have := hl a (.inl ha); omega
    · exact h7 a ha b (.inr (.inr hb)) e
theorem PkO.lt {B : Nat} {w : World} {v0 v1 : Value} {T : List ByteArray} {L : List HB} (h : PkO B w v0 v1 T L) {b : Nat} (hb : b ∈ hdT v0 L) : B ≤ b ∧ b < w.heap.size := by
  unfold hdT at hb
  rcases List.mem_append.1 hb with hb | hb
  · exact World.ownsRow.lt h.th b (by rw [Option.mem_toList] at hb; exact hb)
  · exact h.bs.lt hb
/-- One batch set anew: its lists alone have turned, and what is new. -/
theorem PkO.setE {B q : Nat} {w w2 : World} {v0 v1 : Value} {T : List ByteArray} {L : List HB} {y : HB} (h : PkO B w v0 v1 T L) (hq : q < L.length) (hr : Row w2 B 44 3 eH v1 (L.set q y)) (hy : HbO B w2 y) (hk : ∀ (b : Nat) (c : Array Value), w.heap[b]? = some (.cells c 9 (0, 0)) → b ∉ hdX L[q] → w2.heap[b]? = w.heap[b]?) (hd : (hdX y).Nodup) (hn : ∀ b ∈ hdX y, b ∈ hdX L[q] ∨ w.heap.size ≤ b) : PkO B w2 v0 v1 T (L.set q y) := by
  have hnd := h.nd
  unfold hdT at hnd
  rw [List.nodup_append] at hnd
  have ks : ∀ {v : Value} {l : List ByteArray}, Row w B 9 1 eS v l → (∀ b, v.ownBlock = some b → b ∉ hdX L[q]) → Row w2 B 9 1 eS v l := fun hr ha => Row.block hr fun b hb => by
    obtain ⟨c, hc⟩ := Row.typed hr b hb
    exact hk b c hc (ha b hb)
  refine ⟨ks h.th fun b hb h2 => hnd.2.2 b (by rw [Option.mem_toList]; exact hb) b (hdB_mem.2 ⟨_, List.getElem_mem hq, h2⟩) rfl, h.zt, ⟨hr, fun x hx => ?_⟩, hdT_set hq h.nd (fun b hb => (h.lt hb).2) hd hn⟩
  obtain ⟨i, hi, rfl⟩ := List.getElem_of_mem hx
  rw [List.length_set] at hi
  by_cases e : q = i
  · subst e
    rw [List.getElem_set_self]
    exact hy
  · rw [List.getElem_set_ne e]
    have he := h.bs.el _ (List.getElem_mem hi)
    refine ⟨ks he.h fun b hb h2 => e (hdB_dis hnd.2.1 hq hi h2 (hdX_mem.2 (.inl hb))), ks he.n fun b hb h2 => e (hdB_dis hnd.2.1 hq hi h2 (hdX_mem.2 (.inr hb))), he.z, he.zh, he.zn⟩

noncomputable def ndC (Bs : List DShareBatch) (x : ByteArray) (nd : List ByteArray) : Int := if atI Bs x < 0 then 3 else if subB (btN Bs (atI Bs x).toNat).2.2 nd = true then 0 else 2
theorem ndC_3 {Bs : List DShareBatch} {x : ByteArray} {nd : List ByteArray} (h : atI Bs x < 0) : ndC Bs x nd = 3 := by unfold ndC; rw [if_pos h]
theorem ndC_0 {Bs : List DShareBatch} {x : ByteArray} {nd : List ByteArray} (h : ¬ atI Bs x < 0) (h2 : subB (btN Bs (atI Bs x).toNat).2.2 nd = true) : ndC Bs x nd = 0 := by unfold ndC; rw [if_neg h, if_pos h2]
theorem ndC_2 {Bs : List DShareBatch} {x : ByteArray} {nd : List ByteArray} (h : ¬ atI Bs x < 0) (h2 : subB (btN Bs (atI Bs x).toNat).2.2 nd = false) : ndC Bs x nd = 2 := by unfold ndC; rw [if_neg h, if_neg (by rw [h2]; decide)]

set_option maxRecDepth 100000 in
set_option maxHeartbeats 8000000 in
theorem refN_any (S SN : Nat → Prop) (Bs : List DShareBatch) (o0 oa : Option Addr) (n0 k0 nb kb : Nat) (x : ByteArray) (nd : List ByteArray) (on : Option Addr) (nn kn : Nat) (w : World) (h1 : AtL S w Bs (.slice oa nb kb)) (hS : ∀ b, S b → b < w.heap.size) (hN : AtL SN w nd (.slice on nn kn)) (hSN : ∀ b, SN b → b < w.heap.size) :
    Calls Tryz.prog 120 #[.agg #[.slice o0 n0 k0, .slice oa nb kb], .string x, .slice on nn kn] w fun e w' => e = .returned (errW x (ndC Bs x nd)) ∧ Below w.heap.size w w' := by
  have H1 : Hid (∀ u, Below w.heap.size w u → AtL S u Bs (.slice oa nb kb)) := fun u hu => h1.same (Same.of_below hu hS)
  have HS : Hid (∀ u, Below w.heap.size w u → ∀ b, S b → b < u.heap.size) := fun u hu b hb => Nat.lt_of_lt_of_le (hS b hb) hu.size
  have HN : Hid (∀ u, Below w.heap.size w u → AtL SN u nd (.slice on nn kn)) := fun u hu => hN.same (Same.of_below hu hSN)
  have HSN : Hid (∀ u, Below w.heap.size w u → ∀ b, SN b → b < u.heap.size) := fun u hu b hb => Nat.lt_of_lt_of_le (hSN b hb) hu.size
  have enb : Bs.length = nb := by obtain ⟨_, _, e, _⟩ := h1; cases e; rfl
  have ENB : Hid (Bs.length ≤ nb ∧ nb ≤ Bs.length) := ⟨by omega, by omega⟩
  obtain ⟨W, hW⟩ : ∃ W, W = w.alloc (.cells #[.slice o0 n0 k0, .slice oa nb kb] 30) := ⟨_, rfl⟩
  have EW : Hid (W = w.alloc (.cells #[.slice o0 n0 k0, .slice oa nb kb] 30)) := hW
  have BW : Hid (Below w.heap.size w W) := by rw [hW]; exact (Below.refl _ _).alloc (Nat.le_refl _) _
  have R1 : Hid (W.heap[w.heap.size]? = some (.cells #[.slice o0 n0 k0, .slice oa nb kb] 30 (0, 0))) := by rw [hW]; exact heap_alloc_new w _
  have sW : w.heap.size + 1 ≤ W.heap.size := by rw [hW]; simp
  obtain ⟨RV, eRV⟩ : ∃ v, errW x (ndC Bs x nd) = v := ⟨_, rfl⟩
  rw [eRV]
  have ERV : Hid (errW x (ndC Bs x nd) = RV) := eRV
  clear h1 hN hW eRV enb
  have y0 := (cell_row R1.out 0 (.slice o0 n0 k0) rfl).1
  have y1 := (cell_row R1.out 1 (.slice oa nb kb) rfl).1
  go_enter Tryz.func120, Tryz.ntmps120
  go_upto_region 1 with fail
  rw [← EW.out]
  go_wp2_with fail
  refine (batchAtI_any S _ _ Bs x W (H1.out W BW.out) (HS.out W BW.out)).mono ?_
  rintro e w1 ⟨rfl, hb1⟩
  have B1 : Hid (Below w.heap.size w w1) := BW.out.trans (hb1.mono BW.out.size)
  have X1 : Hid (w1.heap[w.heap.size]? = some (.cells #[.slice o0 n0 k0, .slice oa nb kb] 30 (0, 0))) := (hb1.block _ (by omega)).trans R1.out
  clear hb1 y0 y1
  obtain ⟨i, ei⟩ : ∃ i, idxI Bs (fun p : DShareBatch => eqB p.1 x) = i := ⟨_, rfl⟩
  have EI : Hid (atI Bs x = i) := ei
  rw [ei]
  clear ei
  by_cases hi : i < 0
  · have E3 : Hid (RV = refV x 3) := by
      show _ = _
      rw [← ERV.out, ndC_3 (by rw [EI.out]; exact hi), errW_yes x (by decide)]; rfl
    go_wp2_with (first
      | (go_at_call 122; refine (refused_any _ _ _).mono ?_; rintro e w2 ⟨rfl, rfl⟩))
    go_ret
    exact ⟨by rw [E3.out]; rfl, B1.out⟩
  have hnn : ¬ atI Bs x < 0 := by rw [EI.out]; exact hi
  obtain ⟨q, eq, hq⟩ := at_lt hnn
  have EQ : Hid (i = (q : Int)) := EI.out.symm.trans eq
  have HNN : Hid (¬ atI Bs x < 0) := hnn
  have HAT : Hid ((atI Bs x).toNat = q) := by show _ = _; rw [eq, Int.toNat_natCast]
  rw [EQ.out]
  rw [EQ.out] at hi
  obtain ⟨bb, off, p1, m1, j1, p2, m2, j2, rfl, hbS, e0, e1, e2, a1, a2, zz0⟩ := bat_at (H1.out w1 B1.out) q hq
  have y1 := (cell_row X1.out 1 (.slice (some ⟨bb, off, none⟩) nb kb) rfl).1
  have hqb : q < nb := by have := ENB.out; omega
  have CO : Hid (Calls Tryz.prog 61 #[.slice on nn kn, .slice p2 m2 j2] w1 fun e w' => e = .returned (.bool (subB Bs[q].2.2 nd)) ∧ Below w1.heap.size w1 w') := isOf_any SN S (.slice on nn kn) (.slice p2 m2 j2) nd Bs[q].2.2 w1 (HN.out w1 B1.out) a2 (HSN.out w1 B1.out) (HS.out w1 B1.out)
  obtain ⟨sb, esb⟩ : ∃ b, subB Bs[q].2.2 nd = b := ⟨_, rfl⟩
  rw [esb] at CO
  have ESB : Hid (subB (btN Bs (atI Bs x).toNat).2.2 nd = sb) := by show _ = _; rw [HAT.out, btN_at hq]; exact esb
  clear a1 a2 e0 e1 esb eq hnn zz0
  go_wp2_with fail
  refine Calls.mono CO.out ?_
  rintro e w2 ⟨rfl, hb2⟩
  have B2 : Hid (Below w.heap.size w w2) := B1.out.trans (hb2.mono B1.out.size)
  clear hb2 CO y1 e2
  cases sb
  · have E3 : Hid (RV = refV x 2) := by
      show _ = _
      rw [← ERV.out, ndC_2 (by have := HNN.out; omega) ESB.out, errW_yes x (by decide)]; rfl
    go_wp2_with (first
      | (go_at_call 122; refine (refused_any _ _ _).mono ?_; rintro e w3 ⟨rfl, rfl⟩))
    go_ret
    exact ⟨by rw [E3.out]; rfl, B2.out⟩
  · have E3 : Hid (RV = .nilIface) := by
      show _ = _
      rw [← ERV.out, ndC_0 (by have := HNN.out; omega) ESB.out, errW_no]
    go_wp2_with fail
    go_ret
    exact ⟨by rw [E3.out]; rfl, B2.out⟩

end Go.Proofs.YtidojjecjjochadGreatDoor

/-
  Whether somebody else has one of some things, by the model.
-/
namespace Go.Proofs.YtidojjecjjochadGreatDoor
open Go.RowKit

theorem wrap_i64M (n : Int) (h0 : 0 ≤ n) (h1 : n < 9223372036854775808) : IntKind.i64.wrap n = n := by
  simp [IntKind.wrap, IntKind.bits, IntKind.signed]; omega

theorem app_newM {P : Program} {t e : TypeId} {size bytes m g B : Nat} {w : World} {sv : Value} {news : List Value} (T : ElT P t e size bytes) (hown : w.ownsRow B e size (.slice (some ⟨g, 0, none⟩) 0 0) 0 []) (hB : B ≤ w.heap.size) (hsrc : Src w sv m size news) (h63 : m ≤ maxLen) (hbytes : m * bytes ≤ 140737488355328) (ty : TypeId) :
    ∃ v' w', (Builtin.append_ #[t, t] ty #[.slice (some ⟨g, 0, none⟩) 0 0, sv]).run P w = .ok v' w' ∧ w'.ownsRow B e size v' m news ∧ Below w.heap.size w w' := by
  obtain ⟨i, z, hi, hz, h2, h3, h4⟩ := T.info
  rcases hsrc with ⟨hl, ⟨rfl, rfl⟩ | ⟨ad, c, rfl, hc⟩⟩
  · have hn : news = [] := List.eq_nil_of_length_eq_zero (by simpa using hl)
    subst hn
    exact ⟨_, w, run_append_owned_none (P := P) (w := w) B t ty e i size T.ht hi _ 0 [] hown, hown, Below.refl _ _⟩
  · by_cases h0 : m = 0
    · subst h0
      have hn : news = [] := List.eq_nil_of_length_eq_zero (by simpa using hl)
      subst hn
      refine ⟨.slice (some ⟨g, 0, none⟩) 0 0, w, ?_, hown, Below.refl _ _⟩
      simp [Builtin.append_, run_underlying T.ht, sizeOf, typeInfo, hi, storeCells, loadCells, Builtin.lenOf, Builtin.firstCells, loadCellsFrom]
    · obtain ⟨v', w', hr, q1, q2⟩ := run_append_arg_grows (P := P) (w := w) t ty e i z size bytes T.ht hi hz h2 h3 h4 T.pos ⟨g, 0, none⟩ 0 0 [] (by simp) (fun j u h => by simp at h) ad m c news hl hc (by omega) (by omega) (by simpa using hbytes)
      refine ⟨v', w', hr, ?_, ?_⟩
      · rw [Nat.zero_add, List.nil_append] at q1; exact Go.Joins.ownsRow_le q1 hB
      · exact ⟨q2.os, q2.tape, q2.output, q2.size, fun b hb => q2.block b hb (fun e => by cases e)⟩

theorem exec_app_newM {P : Program} {t e : TypeId} {size bytes m g B : Nat} {w : World} {sv : Value} {news : List Value} {o : Oper} {a : Act} (T : ElT P t e size bytes) (s x : Operand) (ho : o.op = .call { callee := .builtin .append, args := #[s, x], argTypes := #[t, t] }) (hs : a.eval s = .slice (some ⟨g, 0, none⟩) 0 0) (hx : a.eval x = sv) (hown : w.ownsRow B e size (.slice (some ⟨g, 0, none⟩) 0 0) 0 []) (hB : B ≤ w.heap.size) (hsrc : Src w sv m size news) (h63 : m ≤ maxLen) (hbytes : m * bytes ≤ 140737488355328) :
    ∃ v' w', (execOp a.eval o).run P w = .ok (.value v') w' ∧ w'.ownsRow B e size v' m news ∧ Below w.heap.size w w' := by
  obtain ⟨v', w', hr, q1, q2⟩ := app_newM (P := P) T hown hB hsrc h63 hbytes o.type
  refine ⟨v', w', ?_, q1, q2⟩
  unfold execOp
  simp only [ho, resolve, invoke, builtin, Sem.run_bind, Sem.run_pure, Result.andThen_ok, List.map_toArray, List.map_cons, List.map_nil, hs, hx, hr]

theorem atl_noneM {α : Type} [Lay α] (S : Nat → Prop) (w : World) : AtL S w ([] : List α) (.slice none 0 0) := ⟨none, 0, rfl, ⟨Nat.zero_le _, Nat.le_refl _, fun _ => rfl⟩, fun _ hi => absurd hi (Nat.not_lt_zero _)⟩
theorem step1M {P : Program} {md : Region.Mode} {ops : Array Oper} {C : World → Prop} {n f : Nat} {L : Array Bool → Act → World → Prop} {listed : Array Bool} {i d : Nat} {o : Oper} {a : Act} {w : World} (u : Value) (w' : World) (hc : ops[i]? = some o ∧ o.guard = none ∧ o.dst = some d ∧ i < n) (r0 : Region.ready md ops listed = [i]) (run : (execOp a.eval o).run P w = .ok (.value u) w') (hC : C w') (hk : anyC P md ops C n L f (listed.setIfInBounds i true) (a.put (some d) u) w') : anyC P md ops C n L (f + 1) listed a w := by
  obtain ⟨h1, h2, h3, h4⟩ := hc
  refine anyC_step [i] r0 (by simp) (one_list ⟨h4, o, h1, h2, u, w', run, hC, ?_⟩)
  rw [h3]; exact hk
theorem exec_runM {P : Program} {t : TypeId} {w w' : World} {v sv v' : Value} {o : Oper} {a : Act} {s x : Operand} (ho : o.op = .call { callee := .builtin .append, args := #[s, x], argTypes := #[t, t] }) (hs : a.eval s = v) (hx : a.eval x = sv) (hr : (Builtin.append_ #[t, t] o.type #[v, sv]).run P w = .ok v' w') : (execOp a.eval o).run P w = .ok (.value v') w' := by
  unfold execOp
  simp only [ho, resolve, invoke, builtin, Sem.run_bind, Sem.run_pure, Result.andThen_ok, List.map_toArray, List.map_cons, List.map_nil, hs, hx, hr]
theorem exec_appM {P : Program} {t e : TypeId} {size bytes base n m : Nat} {w : World} {v sv : Value} {xs news : List Value} {o : Oper} {a : Act} (T : ElT P t e size bytes) (s x : Operand) (ho : o.op = .call { callee := .builtin .append, args := #[s, x], argTypes := #[t, t] }) (hs : a.eval s = v) (hx : a.eval x = sv) (hown : w.ownsRow base e size v n xs) (hsrc : Src w sv m size news) (h1 : ∀ u ∈ news, u.oneCell' = true) (h63 : n + m ≤ maxLen) (hbytes : (n + m) * bytes ≤ 140737488355328) (hbase : base ≤ w.heap.size) :
    ∃ v' w', (execOp a.eval o).run P w = .ok (.value v') w' ∧ w'.ownsRow base e size v' (n + m) (xs ++ news) ∧ w.grownBy w' v.ownBlock ∧ (v'.ownBlock = v.ownBlock ∨ v'.ownBlock = some w.heap.size) := by
  obtain ⟨v', w', hr, q1, q2, q3⟩ := run_app (P := P) T hown hsrc h1 h63 hbytes hbase o.type
  refine ⟨v', w', ?_, q1, q2, q3⟩
  unfold execOp
  simp only [ho, resolve, invoke, builtin, Sem.run_bind, Sem.run_pure, Result.andThen_ok, List.map_toArray, List.map_cons, List.map_nil, hs, hx, hr]

end Go.Proofs.YtidojjecjjochadGreatDoor

/-
  Whether somebody else has one of some things, by the model.
-/
namespace Go.Proofs.YtidojjecjjochadGreatDoor
open Go.RowKit Go.Sort

/-- Whether somebody else has one of some things. -/
def takB (Bs : List DShareBatch) (a : Nat) (th : List ByteArray) : Bool := (List.range Bs.length).any fun j => !(j == a) && shareB (btN Bs j).2.1 th

set_option maxRecDepth 100000 in
set_option maxHeartbeats 16000000 in
theorem takZ_any (S : Nat → Prop) (Bs : List DShareBatch) (o0 oa : Option Addr) (n0 k0 nb kb : Nat) (SN : Nat → Prop) (th : List ByteArray) (on : Option Addr) (nn kn a : Nat) (w : World) (h1 : AtL S w Bs (.slice oa nb kb)) (hS : ∀ b, S b → b < w.heap.size) (hN : AtL SN w th (.slice on nn kn)) (hSN : ∀ b, SN b → b < w.heap.size) (ha : a < Bs.length) :
    Calls Tryz.prog 20 #[.agg #[.slice o0 n0 k0, .slice oa nb kb], .int .i64 a, .slice on nn kn] w fun e w' => e = .returned (.bool (takB Bs a th)) ∧ Below w.heap.size w w' := by
  have HN : Hid (∀ u, Below w.heap.size w u → AtL SN u th (.slice on nn kn)) := fun u hu => hN.same (Same.of_below hu hSN)
  have HSN : Hid (∀ u, Below w.heap.size w u → ∀ b, SN b → b < u.heap.size) := fun u hu b hb => Nat.lt_of_lt_of_le (hSN b hb) hu.size
  have enb : Bs.length = nb := by obtain ⟨_, _, e, _⟩ := h1; cases e; rfl
  have hmx : nb ≤ 9223372036854775807 := by obtain ⟨_, _, e, hf, _⟩ := id h1; cases e; have := hf.1; unfold maxLen at this; omega
  have ENB : Hid (Bs.length ≤ nb ∧ nb ≤ Bs.length) := ⟨by omega, by omega⟩
  have H1 : Hid (∀ u, Below w.heap.size w u → AtL S u Bs (.slice oa nb kb)) := fun u hu => h1.same (Same.of_below hu hS)
  have HS : Hid (∀ u, Below w.heap.size w u → ∀ b, S b → b < u.heap.size) := fun u hu b hb => Nat.lt_of_lt_of_le (hS b hb) hu.size
  obtain ⟨W, hW⟩ : ∃ W, W = w.alloc (.cells #[.slice o0 n0 k0, .slice oa nb kb] 30) := ⟨_, rfl⟩
  have EW : Hid (W = w.alloc (.cells #[.slice o0 n0 k0, .slice oa nb kb] 30)) := hW
  have BW : Hid (Below w.heap.size w W) := by rw [hW]; exact (Below.refl _ _).alloc (Nat.le_refl _) _
  have RW : Hid (W.heap[w.heap.size]? = some (.cells #[.slice o0 n0 k0, .slice oa nb kb] 30 (0, 0))) := by rw [hW]; exact heap_alloc_new w _
  have sW : w.heap.size + 1 ≤ W.heap.size := by rw [hW]; simp
  have han : a < nb := by omega
  clear hW enb h1 hN ha
  have BOX : Hid (∀ u, Below W.heap.size W u → u.heap[w.heap.size]? = some (.cells #[.slice o0 n0 k0, .slice oa nb kb] 30 (0, 0)) ∧ Below w.heap.size w u) := fun u hu => ⟨(hu.block _ (by omega)).trans RW.out, BW.out.trans (hu.mono (by omega))⟩
  go_enter Tryz.func20, Tryz.ntmps20
  go_wp2_with fail
  rw [← EW.out]
  go_loopw [7] (fun i wr => ∃ q : Nat, q ≤ nb ∧ i = .int .i64 q ∧ Hid (∀ j, j < q → (!(j == a) && shareB (btN Bs j).2.1 th) = false) ∧ Hid (Below W.heap.size W wr)) (fun i _ => nb - (intOf i).toNat)
  case atStart => exact ⟨0, Nat.zero_le _, rfl, fun _ h => by omega, Below.refl _ _⟩
  case round =>
    obtain ⟨q, hq, rfl, hall, hbel⟩ := hrel
    have HB := hbel.out
    have bwr := (BOX.out wr HB).2
    have hsz := HB.size
    have y0 := (cell_row (BOX.out wr HB).1 0 (.slice o0 n0 k0) rfl).1
    have y1 := (cell_row (BOX.out wr HB).1 1 (.slice oa nb kb) rfl).1
    by_cases hlt : q < nb
    case neg =>
      have hno : takB Bs a th = false := by
        unfold takB
        rw [List.any_eq_false]
        intro j hj
        have h1 := hall.out j (by have := ENB.out; have := List.mem_range.1 hj; omega)
        rw [h1]
        simp
      go_wp2_with fail
      go_ret
      rw [hno]
      exact ⟨rfl, bwr⟩
    have hqb : q < Bs.length := by have := ENB.out; omega
    obtain ⟨bb, off, o1, n1, k1, o2, n2, k2, rfl, hbS, e0, e1, e2, a1, a2, z0⟩ := bat_at (H1.out wr bwr) q hqb
    rw [← btN_at hqb] at a1
    have CS : Hid (Calls Tryz.prog 33 #[.slice o1 n1 k1, .slice on nn kn] wr fun e w' => e = .returned (.bool (shareB (btN Bs q).2.1 th)) ∧ Below wr.heap.size wr w') := shareZ_any (fun b => S b ∨ SN b) _ _ _ _ wr (AtL.up a1 (fun b hb => Or.inl hb)) (AtL.up (HN.out wr bwr) (fun b hb => Or.inr hb)) (fun b hb => hb.elim (HS.out wr bwr b) (HSN.out wr bwr b))
    clear e0 e2 a1 a2 z0 hbS
    by_cases hqa : q = a
    · have hqn : ((q : Int) != (a : Int)) = false := by simp [hqa]
      have hw0 : Hid ((!(q == a) && shareB (btN Bs q).2.1 th) = false) := by show _ = _; simp [hqa]
      clear hqa CS
      go_wp2_with fail
      go_roundw
      case rel => exact ⟨q + 1, by omega, by go_num, fun j hj => by
        by_cases e : j = q
        · subst e; exact hw0.out
        · exact hall.out j (by omega), hbel⟩
      case measure => simp [intOf]; omega
    have hqn : ((q : Int) != (a : Int)) = true := by simp; omega
    have hqa' : (q == a) = false := by simpa using hqa
    have HQ : Hid ((q == a) = false) := hqa'
    clear hqa hqa'
    go_wp2_with fail
    refine CS.out.mono ?_; rintro e u ⟨rfl, hbu⟩
    have BU : Hid (Below W.heap.size W u) := HB.trans (hbu.mono hsz)
    clear hbu CS y0 y1 e1
    cases c1 : shareB (btN Bs q).2.1 th
    case false =>
      go_wp2_with fail
      go_roundw
      case rel => exact ⟨q + 1, by omega, by go_num, fun j hj => by
        by_cases e : j = q
        · subst e; rw [c1]; simp
        · exact hall.out j (by omega), BU⟩
      case measure => simp [intOf]; omega
    have hyes : takB Bs a th = true := by
      unfold takB
      rw [List.any_eq_true]
      exact ⟨q, List.mem_range.2 hqb, by rw [HQ.out, c1]; rfl⟩
    have BUW : Hid (Below w.heap.size w u) := (BOX.out u BU.out).2
    go_wp2_with fail
    go_ret
    rw [hyes]
    exact ⟨rfl, BUW.out⟩

end Go.Proofs.YtidojjecjjochadGreatDoor
