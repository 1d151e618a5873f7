/-
  Several texts in one.
-/
import Derived.Test.YtidojjecjjochabGreatDoorZqhS
import Derived.Test.YtidojjecjjochabGreatDoorZqmS
import Derived.Test.YtidojjecjjochabGreatDoorM15
/-
  The program's ShareLess, whole: it answers as the model does, with a book that owns its memory.
-/
namespace Go.Proofs.YtidojjecjjochabGreatDoor
open Go.RowKit Go.Sort

noncomputable def lsR (D : DShareBook) (x : ByteArray) (nd : List ByteArray) : DShareBook := if ndC D.2 x nd = 0 then (D.1, D.2.set (atI D.2 x).toNat (lesB (btN D.2 (atI D.2 x).toNat) nd)) else D
theorem les_is (D : DShareBook) (x : ByteArray) (nd : List ByteArray) : (if bokB D = true then lsR D x nd else ([], [])) = (lesS D x nd).1 ∧ (if bokB D = true then ndC D.2 x nd else 1) = (lesS D x nd).2 := by
  by_cases h : bokB D = true
  · rw [if_pos h, if_pos h]
    by_cases h1 : atI D.2 x < 0
    · have e := ndC_3 (nd := nd) h1
      unfold lsR lesS
      rw [e, if_neg (by decide), if_pos h, if_pos h1]
      exact ⟨rfl, rfl⟩
    · cases h2 : subB (btN D.2 (atI D.2 x).toNat).2.2 nd
      · have e := ndC_2 h1 h2
        unfold lsR lesS
        rw [e, if_neg (by decide), if_pos h, if_neg h1, if_neg (by rw [h2]; decide)]
        exact ⟨rfl, rfl⟩
      · have e := ndC_0 h1 h2
        unfold lsR lesS
        rw [e, if_pos rfl, if_pos h, if_neg h1, if_pos h2]
        exact ⟨rfl, rfl⟩
  · unfold lesS
    rw [if_neg h, if_neg h, if_neg h]
    exact ⟨rfl, rfl⟩
theorem nd_small {D : DShareBook} {x : ByteArray} {nd : List ByteArray} (h : BokP D) (h1 : ¬ atI D.2 x < 0) (h2 : subB (btN D.2 (atI D.2 x).toNat).2.2 nd = true) : SmL nd := by
  obtain ⟨q, eq, hq⟩ := at_lt h1
  rw [eq, Int.toNat_natCast, btN_at hq] at h2
  have hs := (bok_small h).1.2.2 _ (List.getElem_mem hq)
  have hl := sub_lenM h2
  exact hs.2.2.of_sub h2 (by have := hs.2.2.1; omega)
theorem les_tot (D : DShareBook) (x : ByteArray) (nd : List ByteArray) : Lay.tot (lesS D x nd).1 ≤ 1048576 := by
  by_cases h : bokB D = true
  · have hs := (bok_small (bok_iff.1 h)).1
    by_cases h1 : atI D.2 x < 0
    · have e : (lesS D x nd).1 = D := by unfold lesS; rw [if_pos h, if_pos h1]
      rw [e]; exact hs.tot
    · cases h2 : subB (btN D.2 (atI D.2 x).toNat).2.2 nd
      · have e : (lesS D x nd).1 = D := by unfold lesS; rw [if_pos h, if_neg h1, if_neg (by rw [h2]; decide)]
        rw [e]; exact hs.tot
      · exact (les_small hs (nd_small (bok_iff.1 h) h1 h2)).tot
  · have e : (lesS D x nd).1 = ([], []) := by unfold lesS; rw [if_neg h]
    rw [e]
    exact sm_nil.tot

set_option maxRecDepth 100000 in
set_option maxHeartbeats 4000000 in
theorem refLs_any (S SN : Nat → Prop) (Bs : List DShareBatch) (o0 oa : Option Addr) (n0 k0 nb kb : Nat) (x : ByteArray) (nd : List ByteArray) (on : Option Addr) (nn kn : Nat) (w : World) (h1 : AtL S w Bs (.slice oa nb kb)) (hS : ∀ b, S b → b < w.heap.size) (hN : AtL SN w nd (.slice on nn kn)) (hSN : ∀ b, SN b → b < w.heap.size) :
    Calls Tryz.prog 113 #[.agg #[.string x, .slice on nn kn], .agg #[.slice o0 n0 k0, .slice oa nb kb]] w fun e w' => e = .returned (errW x (ndC Bs x nd)) ∧ Below w.heap.size w w' := by
  have HC : Hid (∀ o1 o2, Calls Tryz.prog 114 #[.agg #[.slice o0 n0 k0, .slice oa nb kb], .string x, .slice on nn kn] ((w.alloc o1).alloc o2) fun e w' => e = .returned (errW x (ndC Bs x nd)) ∧ Below w.heap.size w w') := fun o1 o2 => by
    have hb : Below w.heap.size w ((w.alloc o1).alloc o2) := ((Below.refl _ _).alloc (Nat.le_refl _) _).alloc (by simp) _
    refine (refN_any S SN Bs o0 oa n0 k0 nb kb x nd on nn kn _ (h1.same (Same.of_below hb hS)) (fun b hb' => Nat.lt_of_lt_of_le (hS b hb') hb.size) (hN.same (Same.of_below hb hSN)) (fun b hb' => Nat.lt_of_lt_of_le (hSN b hb') hb.size)).mono ?_
    rintro e w' ⟨he, hb2⟩
    exact ⟨he, hb.trans (hb2.mono hb.size)⟩
  obtain ⟨RV, eRV⟩ : ∃ v, errW x (ndC Bs x nd) = v := ⟨_, rfl⟩
  rw [eRV] at HC
  rw [eRV]
  clear h1 hS hN hSN eRV
  go_enter Tryz.func113, Tryz.ntmps113
  go_wp2_with fail
  refine Calls.mono (HC.out _ _) ?_
  rintro e w1 ⟨rfl, hb1⟩
  have B1 : Hid (Below w.heap.size w w1) := hb1
  clear hb1
  go_wp2_with fail
  go_ret
  exact ⟨rfl, B1.out⟩

theorem lesP_any (S : Nat → Prop) (T : List ByteArray) (Bs : List DShareBatch) (nd : List ByteArray) (o0 oa : Option Addr) (n0 k0 nb kb : Nat) (os : Option Addr) (ns ks : Nat) (x : ByteArray) (w : World) (h0 : AtL S w T (.slice o0 n0 k0)) (h1 : AtL S w Bs (.slice oa nb kb)) (h2 : AtL S w nd (.slice os ns ks)) (hS : ∀ b, S b → b < w.heap.size) (_ : Lay.tot (α := DShareBook) (T, Bs) ≤ 1048576) (_ : totL nd ≤ 1048576) (_ : x.size ≤ 1048576) (hl : Laid0 w) :
    Calls Tryz.prog 9 #[.agg #[.slice o0 n0 k0, .slice oa nb kb], .string x, .slice os ns ks] w (AnsW w (lesS (T, Bs) x nd).1 (lesS (T, Bs) x nd).2) := by
  rw [← (les_is (T, Bs) x nd).1, ← (les_is (T, Bs) x nd).2]
  refine topW_S x os ns ks _ _ o0 oa n0 k0 nb kb w fun u hu => ?_
  have h0u := h0.same (Same.of_below hu hS)
  have h1u := h1.same (Same.of_below hu hS)
  have h2u := h2.same (Same.of_below hu hS)
  have hSu : ∀ b, S b → b < u.heap.size := fun b hb => Nat.lt_of_lt_of_le (hS b hb) hu.size
  refine ansW_S x os ns ks (ndC Bs x nd) (lsR (T, Bs) x nd) S T Bs o0 oa n0 k0 nb kb u h0u h1u hSu (hl.below hu) (fun _ v hv => ?_) (fun hok hc v hv => ?_) (fun hc => ?_)
  · exact refLs_any S S Bs o0 oa n0 k0 nb kb x nd os ns ks v (h1u.same (Same.of_below hv hSu)) (fun b hb => Nat.lt_of_lt_of_le (hSu b hb) hv.size) (h2u.same (Same.of_below hv hSu)) (fun b hb => Nat.lt_of_lt_of_le (hSu b hb) hv.size)
  · have hsm := bok_small (bok_iff.1 hok)
    have hn : ¬ atI Bs x < 0 := fun h => by rw [ndC_3 h] at hc; exact absurd hc (by decide)
    have hs : subB (btN Bs (atI Bs x).toNat).2.2 nd = true := by
      cases hq : subB (btN Bs (atI Bs x).toNat).2.2 nd
      · rw [ndC_2 hn hq] at hc; exact absurd hc (by decide)
      · rfl
    have hnd := nd_small (D := (T, Bs)) (bok_iff.1 hok) hn hs
    obtain ⟨q, eq, hq⟩ := at_lt hn
    have hSv : ∀ b, S b → b < v.heap.size := fun b hb => Nat.lt_of_lt_of_le (hSu b hb) hv.size
    have h2v := h2u.same (Same.of_below hv hSu)
    refine behW_S x os ns ks (lsR (T, Bs) x nd) S T Bs o0 oa n0 k0 nb kb v (h0u.same (Same.of_below hv hSu)) (h1u.same (Same.of_below hv hSu)) hSv hsm.1 (fun B gb v0 v1 L z hz hB hgb hbx hp hm => ?_)
    have hlen : L.length = Bs.length := by rw [← hm, List.length_map]
    refine (letNl_any B gb q v0 v1 T L x S nd os ns ks z hbx hp hgb (by rw [hm]; exact eq) (by omega) (by have := hsm.2.2; simp only at this; omega) (by rw [hm]; exact hsm.1) (h2v.same (Same.of_below hz hSv)) (fun b hb => Nat.lt_of_lt_of_le (hSv b hb) hB) hnd.1 hnd.2).mono ?_
    rintro e w' ⟨he, L', hb', hp', hm', hbe⟩
    refine ⟨he, v0, v1, L', hb', ?_, ?_, hbe⟩
    · unfold lsR
      rw [if_pos hc]
      exact hp'
    · unfold lsR
      rw [if_pos hc, eq, Int.toNat_natCast, hm', hm, btN_at hq]
      simp only
      congr 2
      have : (L.map dH)[q]'(by rw [List.length_map]; omega) = Bs[q] := by simp only [hm]
      rw [← this, List.getElem_map]
  · unfold lsR
    rw [if_neg hc]

end Go.Proofs.YtidojjecjjochabGreatDoor

/-
  Whether somebody else has one of some things, by the model.
-/
namespace Go.Proofs.YtidojjecjjochabGreatDoor
open Go.RowKit

theorem wrap_i64M (n : Int) (h0 : 0 ≤ n) (h1 : n < 9223372036854775808) : IntKind.i64.wrap n = n := by
  simp [IntKind.wrap, IntKind.bits, IntKind.signed]; omega

theorem app_newM {P : Program} {t e : TypeId} {size bytes m g B : Nat} {w : World} {sv : Value} {news : List Value} (T : ElT P t e size bytes) (hown : w.ownsRow B e size (.slice (some ⟨g, 0, none⟩) 0 0) 0 []) (hB : B ≤ w.heap.size) (hsrc : Src w sv m size news) (h63 : m ≤ maxLen) (hbytes : m * bytes ≤ 140737488355328) (ty : TypeId) :
    ∃ v' w', (Builtin.append_ #[t, t] ty #[.slice (some ⟨g, 0, none⟩) 0 0, sv]).run P w = .ok v' w' ∧ w'.ownsRow B e size v' m news ∧ Below w.heap.size w w' := by
  obtain ⟨i, z, hi, hz, h2, h3, h4⟩ := T.info
  rcases hsrc with ⟨hl, ⟨rfl, rfl⟩ | ⟨ad, c, rfl, hc⟩⟩
  · have hn : news = [] := List.eq_nil_of_length_eq_zero (by simpa using hl)
    subst hn
    exact ⟨_, w, run_append_owned_none (P := P) (w := w) B t ty e i size T.ht hi _ 0 [] hown, hown, Below.refl _ _⟩
  · by_cases h0 : m = 0
    · subst h0
      have hn : news = [] := List.eq_nil_of_length_eq_zero (by simpa using hl)
      subst hn
      refine ⟨.slice (some ⟨g, 0, none⟩) 0 0, w, ?_, hown, Below.refl _ _⟩
      simp [Builtin.append_, run_underlying T.ht, sizeOf, typeInfo, hi, storeCells, loadCells, Builtin.lenOf, Builtin.firstCells, loadCellsFrom]
    · obtain ⟨v', w', hr, q1, q2⟩ := run_append_arg_grows (P := P) (w := w) t ty e i z size bytes T.ht hi hz h2 h3 h4 T.pos ⟨g, 0, none⟩ 0 0 [] (by simp) (fun j u h => by simp at h) ad m c news hl hc (by omega) (by omega) (by simpa using hbytes)
      refine ⟨v', w', hr, ?_, ?_⟩
      · rw [Nat.zero_add, List.nil_append] at q1; exact Go.Joins.ownsRow_le q1 hB
      · exact ⟨q2.os, q2.tape, q2.output, q2.size, fun b hb => q2.block b hb (fun e => by cases e)⟩

theorem exec_app_newM {P : Program} {t e : TypeId} {size bytes m g B : Nat} {w : World} {sv : Value} {news : List Value} {o : Oper} {a : Act} (T : ElT P t e size bytes) (s x : Operand) (ho : o.op = .call { callee := .builtin .append, args := #[s, x], argTypes := #[t, t] }) (hs : a.eval s = .slice (some ⟨g, 0, none⟩) 0 0) (hx : a.eval x = sv) (hown : w.ownsRow B e size (.slice (some ⟨g, 0, none⟩) 0 0) 0 []) (hB : B ≤ w.heap.size) (hsrc : Src w sv m size news) (h63 : m ≤ maxLen) (hbytes : m * bytes ≤ 140737488355328) :
    ∃ v' w', (execOp a.eval o).run P w = .ok (.value v') w' ∧ w'.ownsRow B e size v' m news ∧ Below w.heap.size w w' := by
  obtain ⟨v', w', hr, q1, q2⟩ := app_newM (P := P) T hown hB hsrc h63 hbytes o.type
  refine ⟨v', w', ?_, q1, q2⟩
  unfold execOp
  simp only [ho, resolve, invoke, builtin, Sem.run_bind, Sem.run_pure, Result.andThen_ok, List.map_toArray, List.map_cons, List.map_nil, hs, hx, hr]

theorem atl_noneM {α : Type} [Lay α] (S : Nat → Prop) (w : World) : AtL S w ([] : List α) (.slice none 0 0) := ⟨none, 0, rfl, ⟨Nat.zero_le _, Nat.le_refl _, fun _ => rfl⟩, fun _ hi => absurd hi (Nat.not_lt_zero _)⟩
theorem step1M {P : Program} {md : Region.Mode} {ops : Array Oper} {C : World → Prop} {n f : Nat} {L : Array Bool → Act → World → Prop} {listed : Array Bool} {i d : Nat} {o : Oper} {a : Act} {w : World} (u : Value) (w' : World) (hc : ops[i]? = some o ∧ o.guard = none ∧ o.dst = some d ∧ i < n) (r0 : Region.ready md ops listed = [i]) (run : (execOp a.eval o).run P w = .ok (.value u) w') (hC : C w') (hk : anyC P md ops C n L f (listed.setIfInBounds i true) (a.put (some d) u) w') : anyC P md ops C n L (f + 1) listed a w := by
  obtain ⟨h1, h2, h3, h4⟩ := hc
  refine anyC_step [i] r0 (by simp) (one_list ⟨h4, o, h1, h2, u, w', run, hC, ?_⟩)
  rw [h3]; exact hk
theorem exec_runM {P : Program} {t : TypeId} {w w' : World} {v sv v' : Value} {o : Oper} {a : Act} {s x : Operand} (ho : o.op = .call { callee := .builtin .append, args := #[s, x], argTypes := #[t, t] }) (hs : a.eval s = v) (hx : a.eval x = sv) (hr : (Builtin.append_ #[t, t] o.type #[v, sv]).run P w = .ok v' w') : (execOp a.eval o).run P w = .ok (.value v') w' := by
  unfold execOp
  simp only [ho, resolve, invoke, builtin, Sem.run_bind, Sem.run_pure, Result.andThen_ok, List.map_toArray, List.map_cons, List.map_nil, hs, hx, hr]
theorem exec_appM {P : Program} {t e : TypeId} {size bytes base n m : Nat} {w : World} {v sv : Value} {xs news : List Value} {o : Oper} {a : Act} (T : ElT P t e size bytes) (s x : Operand) (ho : o.op = .call { callee := .builtin .append, args := #[s, x], argTypes := #[t, t] }) (hs : a.eval s = v) (hx : a.eval x = sv) (hown : w.ownsRow base e size v n xs) (hsrc : Src w sv m size news) (h1 : ∀ u ∈ news, u.oneCell' = true) (h63 : n + m ≤ maxLen) (hbytes : (n + m) * bytes ≤ 140737488355328) (hbase : base ≤ w.heap.size) :
    ∃ v' w', (execOp a.eval o).run P w = .ok (.value v') w' ∧ w'.ownsRow base e size v' (n + m) (xs ++ news) ∧ w.grownBy w' v.ownBlock ∧ (v'.ownBlock = v.ownBlock ∨ v'.ownBlock = some w.heap.size) := by
  obtain ⟨v', w', hr, q1, q2, q3⟩ := run_app (P := P) T hown hsrc h1 h63 hbytes hbase o.type
  refine ⟨v', w', ?_, q1, q2, q3⟩
  unfold execOp
  simp only [ho, resolve, invoke, builtin, Sem.run_bind, Sem.run_pure, Result.andThen_ok, List.map_toArray, List.map_cons, List.map_nil, hs, hx, hr]

end Go.Proofs.YtidojjecjjochabGreatDoor
