/-
  The law FnShareWho, with what l55Spoil does as a hypothesis.
-/
import Derived.Test.YthgnhjkkfhfgmaaZdo
import Derived.Test.YthgnhjkkfhfgmaaM43
import Derived.Test.YthgnhjkkfhfgmaaM42
namespace Go.Proofs.Ythgnhjkkfhfgmaa
open Go.RowKit Go.Sort

set_option maxRecDepth 100000 in
set_option maxHeartbeats 8000000 in
theorem hasW_any (S : Nat → Prop) (v : Value) (l : List ByteArray) (x : ByteArray) (w : World) (h : AtL S w l v) :
    Calls Try.prog 8 #[v, .string x] w fun e w' => e = .returned (.bool (hasB l x)) ∧ Below w.heap.size w w' := by
  obtain ⟨oa, cap, rfl, hn, hc⟩ := h
  obtain ⟨n, en⟩ : ∃ n, l.length = n := ⟨_, rfl⟩
  rw [en] at hn
  rw [en]
  unfold maxLen at hn
  have HC : Hid _ := hc
  clear hc
  go_enter Try.func8, Try.ntmps8
  go_wp2
  go_loop [5] (fun i => ∃ k : Nat, k ≤ n ∧ i = .int .i64 k ∧ Hid (∀ j (hj : j < l.length), j < k → (fun f => eqB f x) l[j] = false)) (fun i => n - (intOf i).toNat)
  case atStart => exact ⟨0, Nat.zero_le _, rfl, fun _ _ h => by omega⟩
  case round =>
    obtain ⟨k, hk, rfl, hno⟩ := hrel
    by_cases hlt : k < n
    · obtain ⟨b, off, rfl, hbS, cc, hcell, hat⟩ := HC.out k (by omega)
      rw [width_str] at hcell
      have e0 : w.cell? ⟨b, off + k, none⟩ = some (cc 0) := by simpa using hcell 0 (by omega)
      clear hcell
      rw [at_str] at hat
      rw [hat.1] at e0
      clear hat
      obtain ⟨f, ef⟩ : ∃ f, l[k]'(by omega) = f := ⟨_, rfl⟩
      rw [ef] at e0
      cases c0 : (f.toList == x.toList)
      · have hp : (fun f => eqB f x) (l[k]'(by omega)) = false := by rw [ef]; simp [eqB, c0]
        go_wp2
        go_round
        case rel => exact ⟨k + 1, by omega, by go_num, fun j hj hjk => by
          by_cases e : j = k
          · subst e; exact hp
          · exact hno.out j hj (by omega)⟩
        case measure => simp [intOf]; omega
      · have hp : (fun f => eqB f x) (l[k]'(by omega)) = true := by rw [ef]; simp [eqB, c0]
        go_wp2
        have hr : hasB l x = true := any_yes (p := fun f => eqB f x) (by omega) hp
        rw [hr]
        go_ret
        exact ⟨rfl, (Below.refl _ _)⟩
    · have hkn : k = n := by omega
      subst hkn
      go_wp2
      go_ret
      have hr : hasB l x = false := any_no (p := fun f => eqB f x) (fun j hj => hno.out j hj (by omega))
      rw [hr]
      exact ⟨rfl, (Below.refl _ _)⟩

theorem has_needsW {D : DShareBook} (h : BokP D) {i : Nat} (hi : i < D.2.length) {s : ByteArray} (hs : hasB D.2[i].2.1 s = true) : hasB D.2[i].2.2 s = true := by
  have hb := (h.row i hi).bat
  rw [batB] at hb
  simp only [Bool.and_eq_true] at hb
  have h2 := hb.2
  rw [subB, ok_iff] at h2
  obtain ⟨j, hj, e⟩ := List.getElem_of_mem (hasB_memM _ _ hs)
  have h3 := h2.2 j hj
  rw [tst, Bool.and_eq_true, e] at h3
  exact h3.1
theorem has_oneW {D : DShareBook} (h : BokP D) {i k : Nat} (hi : i < D.2.length) (hk : k < i) {s : ByteArray} (hs : hasB D.2[i].2.1 s = true) : hasB (D.2[k]'(by omega)).2.1 s = false := by
  have hb := (h.row i hi).sha k hk
  rw [shareB, List.any_eq_false] at hb
  simpa using hb s (hasB_memM _ _ hs)

set_option maxRecDepth 100000 in
set_option maxHeartbeats 16000000 in
theorem lawW_any (SP : SpoilC) (ob : Option Addr) (n cb : Nat) (f : Nat → Int) (w : World) (hn : n ≤ maxLen) (hnc : n ≤ cb) (fb : ∀ i, 0 ≤ f i ∧ f i ≤ 255)
    (ce : ∀ i, i < n → ∃ b off, ob = some ⟨b, off, none⟩ ∧ b < w.heap.size ∧ w.cell? ⟨b, off + i, none⟩ = some (.int .u8 (f i))) :
    Calls Try.prog 3 #[.slice ob n cb] w fun e w' => e = .returned (.bool true) ∧ Below w.heap.size w w' := by
  have hn' := hn
  unfold maxLen at hn'
  by_cases hbig : (1048576 : Int) < (n : Int)
  · go_enter Try.func3, Try.ntmps3
    go_wp2_with fail
    go_ret
    exact ⟨rfl, Below.refl _ _⟩
  have CD : Hid (Calls Try.prog 4 #[.slice ob n cb] w fun e w' => DwE w e w') := drawW_any SP ob n cb f w hn hnc fb ce
  clear fb ce hn hnc SP
  go_enter Try.func3, Try.ntmps3
  go_wp2_with fail
  refine Calls.mono CD.out ?_
  rintro e w1 ⟨o0, n0, k0, oa, nb, kb, D, s, rfl, hsz, hs, hat, hb1⟩
  clear CD
  obtain ⟨U, hU⟩ : ∃ U, U = w1.alloc (.cells #[.slice o0 n0 k0, .slice oa nb kb] 26) := ⟨_, rfl⟩
  have EU : Hid (U = w1.alloc (.cells #[.slice o0 n0 k0, .slice oa nb kb] 26)) := hU
  obtain ⟨gb, hgb⟩ : ∃ g, g = w1.heap.size := ⟨_, rfl⟩
  have EGB : Hid (gb = w1.heap.size) := hgb
  have bU : Below w1.heap.size w1 U := by rw [hU]; exact (Below.refl _ _).alloc (Nat.le_refl _) _
  have BKU : Hid (U.heap[gb]? = some (.cells #[.slice o0 n0 k0, .slice oa nb kb] 26 (0, 0))) := by rw [hgb, hU]; exact heap_alloc_new w1 _
  have H0 : Hid (∀ u, Below U.heap.size U u → AtL (fun b => b < U.heap.size) u D.1 (.slice o0 n0 k0)) := fun u hu => ((hat.out.1.same (fun b hb => bU.block b hb.2)).up (fun b hb => Nat.lt_of_lt_of_le hb.2 bU.size)).same (fun b hb => hu.block b hb)
  have H1 : Hid (∀ u, Below U.heap.size U u → AtL (fun b => b < U.heap.size) u D.2 (.slice oa nb kb)) := fun u hu => ((hat.out.2.same (fun b hb => bU.block b hb.2)).up (fun b hb => Nat.lt_of_lt_of_le hb.2 bU.size)).same (fun b hb => hu.block b hb)
  have BLU : Hid (Below w.heap.size w U) := hb1.out.trans (bU.mono hb1.out.size)
  have BOX : Hid (∀ u, Below U.heap.size U u → u.heap[gb]? = some (.cells #[.slice o0 n0 k0, .slice oa nb kb] 26 (0, 0))) := fun u hu => (hu.block gb (Array.getElem?_eq_some_iff.1 BKU.out).1).trans BKU.out
  have ENB : Hid (D.2.length = nb) := by obtain ⟨_, _, e, _⟩ := hat.out.2; cases e; rfl
  have hnb : nb ≤ 17 := by have := ENB.out; have := hsz.2.1; omega
  have CP : Hid (∀ u, Below U.heap.size U u → Calls Try.prog 5 #[.agg #[.slice o0 n0 k0, .slice oa nb kb], .string s] u fun e w' => e = .returned (.string (whoS D s)) ∧ Below u.heap.size u w') := fun u hu => whoP_any (fun b => b < U.heap.size) D.1 D.2 o0 oa n0 k0 nb kb s u (H0.out u hu) (H1.out u hu) (fun b hb => Nat.lt_of_lt_of_le hb hu.size) (by omega)
  have CZ : Hid (∀ u, Below U.heap.size U u → Calls Try.prog 6 #[.agg #[.slice o0 n0 k0, .slice oa nb kb], .string s] u fun e w' => e = .returned (.string (whoS D s)) ∧ Below u.heap.size u w') := fun u hu => whoZ_any (fun b => b < U.heap.size) D.1 D.2 o0 oa n0 k0 nb kb s u (H0.out u hu) (H1.out u hu) (fun b hb => Nat.lt_of_lt_of_le hb hu.size)
  have CB : Hid (∀ u, Below U.heap.size U u → Calls Try.prog 7 #[.agg #[.slice o0 n0 k0, .slice oa nb kb]] u fun e w' => e = .returned (.bool (bokB D)) ∧ Below u.heap.size u w') := fun u hu => bookZ_any (fun b => b < U.heap.size) D (.slice o0 n0 k0) (.slice oa nb kb) u (H0.out u hu) (H1.out u hu) (fun b hb => Nat.lt_of_lt_of_le hb hu.size)
  obtain ⟨wh, ewh⟩ : ∃ x, whoS D s = x := ⟨_, rfl⟩
  have EWH : Hid (whoS D s = wh) := ewh
  rw [ewh] at CP CZ
  clear hU hgb bU hat hb1 BKU hsz ewh H0
  go_upto_region 4 with fail
  rw [← EU.out, ← EGB.out]
  clear EU EGB
  have x0 := (cell_row (BOX.out U (Below.refl _ _)) 0 (.slice o0 n0 k0) rfl).1
  have x1 := (cell_row (BOX.out U (Below.refl _ _)) 1 (.slice oa nb kb) rfl).1
  go_wp2_with fail
  refine (CP.out U (Below.refl _ _)).mono ?_
  rintro e u1 ⟨rfl, hb1⟩
  have B1 : Hid (Below U.heap.size U u1) := hb1
  clear hb1 x0 x1
  have x0 := (cell_row (BOX.out u1 B1.out) 0 (.slice o0 n0 k0) rfl).1
  have x1 := (cell_row (BOX.out u1 B1.out) 1 (.slice oa nb kb) rfl).1
  go_wp2_with fail
  refine (CZ.out u1 B1.out).mono ?_
  rintro e u2 ⟨rfl, hb2⟩
  have B2 : Hid (Below U.heap.size U u2) := B1.out.trans (hb2.mono B1.out.size)
  clear hb2 x0 x1 B1
  have x0 := (cell_row (BOX.out u2 B2.out) 0 (.slice o0 n0 k0) rfl).1
  have x1 := (cell_row (BOX.out u2 B2.out) 1 (.slice oa nb kb) rfl).1
  go_wp2_with fail
  refine (CB.out u2 B2.out).mono ?_
  rintro e u3 ⟨rfl, hb3⟩
  have B3 : Hid (Below U.heap.size U u3) := B2.out.trans (hb3.mono B2.out.size)
  clear hb3 x0 x1 B2
  have x0 := (cell_row (BOX.out u3 B3.out) 0 (.slice o0 n0 k0) rfl).1
  have x1 := (cell_row (BOX.out u3 B3.out) 1 (.slice oa nb kb) rfl).1
  by_cases hok : bokB D = true
  case neg =>
    have hf : bokB D = false := by simpa using hok
    have hw0 : wh = ⟨#[]⟩ := by rw [← EWH.out, whoS, if_neg hok]
    rw [hf]
    clear hok hf EWH
    subst hw0
    go_wp2_with fail
    refine (CZ.out u3 B3.out).mono ?_
    rintro e u4 ⟨rfl, hb4⟩
    go_wp2_with fail
    go_ret
    exact ⟨rfl, BLU.out.trans ((B3.out.trans (hb4.mono B3.out.size)).mono BLU.out.size)⟩
  have HP : Hid (BokP D) := bok_iff.1 hok
  have HWF : Hid (whoF D.2 s = wh) := by have h9 := EWH.out; rw [whoS, if_pos hok] at h9; exact h9
  rw [hok]
  clear hok EWH CP CZ CB x0 x1
  go_wp2_with fail
  go_loopw [6, 7] (fun nv i wr => ∃ (k m : Nat), k ≤ nb ∧ i = .int .i64 k ∧ nv = .int .i64 m ∧ m ≤ 1 ∧ Hid ((m = 0 ∧ ∀ j (hj : j < D.2.length), j < k → hasB D.2[j].2.1 s = false) ∨ (m = 1 ∧ ∃ q, ∃ hq : q < D.2.length, q < k ∧ hasB D.2[q].2.1 s = true)) ∧ Hid (Below U.heap.size U wr)) (fun _ i _ => nb - (intOf i).toNat)
  case atStart => exact ⟨0, 0, by omega, rfl, rfl, by omega, .inl ⟨rfl, fun j _ h => by omega⟩, B3⟩
  case round =>
    clear B3
    obtain ⟨k, m, hk, rfl, rfl, hm, hst, hbel⟩ := hrel
    have y1 := (cell_row (BOX.out wr hbel.out) 1 (.slice oa nb kb) rfl).1
    have FINB : Hid (Below w.heap.size w wr) := BLU.out.trans (hbel.out.mono BLU.out.size)
    by_cases hlt : k < nb
    case neg =>
      have hke : k = nb := by omega
      rcases hst.out with ⟨rfl, hno⟩ | ⟨rfl, _⟩
      · have hw0 : wh = ⟨#[]⟩ := by rw [← HWF.out]; exact who_no (fun j hj => hno j hj (by have := ENB.out; omega))
        clear hno hst HWF
        subst hw0
        go_wp2_with fail
        go_ret
        exact ⟨rfl, FINB.out⟩
      · clear hst
        go_wp2_with fail
        go_ret
        exact ⟨rfl, FINB.out⟩
    have hkl : k < D.2.length := by have := ENB.out; omega
    obtain ⟨bb, off, o1, n1, k1, o2, n2, k2, rfl, hbb, c0, c1, c2, A1, A2, zz⟩ := bat_at (H1.out wr hbel.out) k hkl
    have CH : Hid (Calls Try.prog 8 #[.slice o1 n1 k1, .string s] wr fun e w' => e = .returned (.bool (hasB D.2[k].2.1 s)) ∧ Below wr.heap.size wr w') := hasW_any _ _ _ s wr A1
    clear A1 c0 zz
    go_wp2_with fail
    refine Calls.mono CH.out ?_
    rintro e u5 ⟨rfl, hb5⟩
    have B5 : Hid (Below U.heap.size U u5) := hbel.out.trans (hb5.mono hbel.out.size)
    clear hb5 CH y1 c1 c2 A2
    by_cases hh : hasB D.2[k].2.1 s = true
    case neg =>
      have hf : hasB D.2[k].2.1 s = false := by simpa using hh
      have HF : Hid (hasB D.2[k].2.1 s = false) := hf
      rw [hf]
      clear hf hh
      go_wp2_with fail
      go_roundw
      case rel => exact ⟨k + 1, m, by omega, by go_num, rfl, hm, (by
        rcases hst.out with ⟨h1, h2⟩ | ⟨h1, q, hq, h2, h3⟩
        · exact .inl ⟨h1, fun j hj hjk => by
            by_cases e : j = k
            · subst e; exact HF.out
            · exact h2 j hj (by omega)⟩
        · exact .inr ⟨h1, q, hq, by omega, h3⟩), B5⟩
      case measure => simp [intOf]; omega
    have hm0 : m = 0 ∧ ∀ j (hj : j < D.2.length), j < k → hasB D.2[j].2.1 s = false := by
      rcases hst.out with h1 | ⟨_, q, hq, h2, h3⟩
      · exact h1
      · have := has_oneW HP.out hkl h2 hh
        rw [h3] at this
        cases this
    have hwn : D.2[k].1 = wh := by rw [← HWF.out]; exact (who_yes hkl hh hm0.2).symm
    have hnd : hasB D.2[k].2.2 s = true := has_needsW HP.out hkl hh
    have HH : Hid (hasB D.2[k].2.1 s = true) := hh
    obtain ⟨rfl, _⟩ := hm0
    rw [hh]
    clear hh hst
    have y1 := (cell_row (BOX.out u5 B5.out) 1 (.slice (some ⟨bb, off, none⟩) nb kb) rfl).1
    obtain ⟨bb', off', o1', n1', k1', o2', n2', k2', e9, hbb', c0, c1, c2, A1, A2, zz⟩ := bat_at (H1.out u5 B5.out) k hkl
    cases e9
    rw [hwn] at c0
    have CN : Hid (Calls Try.prog 8 #[.slice o2' n2' k2', .string s] u5 fun e w' => e = .returned (.bool true) ∧ Below u5.heap.size u5 w') := by
      have h9 := hasW_any _ _ _ s u5 A2
      rw [hnd] at h9
      exact h9
    clear A1 A2 zz hwn hnd c1
    go_wp2_with fail
    refine Calls.mono CN.out ?_
    rintro e u6 ⟨rfl, hb6⟩
    have B6 : Hid (Below U.heap.size U u6) := B5.out.trans (hb6.mono B5.out.size)
    clear hb6 CN y1 c0 c2
    go_wp2_with fail
    go_roundw
    case rel => exact ⟨k + 1, 1, by omega, by go_num, rfl, by omega, .inr ⟨rfl, k, hkl, by omega, HH.out⟩, B6⟩
    case measure => simp [intOf]; omega

end Go.Proofs.Ythgnhjkkfhfgmaa
