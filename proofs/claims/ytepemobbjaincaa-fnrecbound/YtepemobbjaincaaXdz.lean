/-
  The law FnRecBound, walked: whatever the code, the call returns true, and nothing that was there before has turned.
-/
import Derived.Test.YtepemobbjaincaaM21
import Derived.Test.YtepemobbjaincaaM25
import Derived.Test.YtepemobbjaincaaM26
import Derived.Test.YtepemobbjaincaaM38
import Derived.Test.YtepemobbjaincaaM44
import Derived.Test.YtepemobbjaincaaXs
import Derived.Test.YtepemobbjaincaaM16
import Derived.Test.YtepemobbjaincaaM19
namespace Go.Proofs.Ytepemobbjaincaa
open Go.RowKit Go.Sort

set_option maxRecDepth 100000 in
set_option maxHeartbeats 4000000 in
theorem drawB_any (ob : Option Addr) (n cb : Nat) (f : Nat → Int) (w : World) (hn : n ≤ maxLen) (hnc : n ≤ cb) (fb : ∀ i, 0 ≤ f i ∧ f i ≤ 255)
    (ce : ∀ i, i < n → ∃ b off, ob = some ⟨b, off, none⟩ ∧ b < w.heap.size ∧ w.cell? ⟨b, off + i, none⟩ = some (.int .u8 (f i))) :
    Calls Try.prog 4 #[.slice ob n cb] w fun e w' => DsE w e w' := by
  have CD : Hid _ := drawS_any ob n cb f w hn hnc fb ce
  clear fb ce
  go_enter Try.func4, Try.ntmps4
  go_wp2_with fail
  refine Calls.mono CD.out ?_
  rintro e w1 ⟨v, M, s, rfl, h⟩
  go_wp2_with fail
  go_ret2
  exact ⟨v, M, s, rfl, h⟩

set_option maxRecDepth 100000 in
set_option maxHeartbeats 40000000 in
theorem lawB_any (ob : Option Addr) (n cb : Nat) (f : Nat → Int) (w : World) (hn : n ≤ maxLen) (hnc : n ≤ cb) (fb : ∀ i, 0 ≤ f i ∧ f i ≤ 255)
    (ce : ∀ i, i < n → ∃ b off, ob = some ⟨b, off, none⟩ ∧ b < w.heap.size ∧ w.cell? ⟨b, off + i, none⟩ = some (.int .u8 (f i))) :
    Calls Try.prog 3 #[.slice ob n cb] w fun e w' => e = .returned (.bool true) ∧ Below w.heap.size w w' := by
  have hn' := hn
  unfold maxLen at hn'
  by_cases hbig : (1048576 : Int) < (n : Int)
  · go_enter Try.func3, Try.ntmps3
    go_wp2_with fail
    go_ret
    exact ⟨rfl, Below.refl _ _⟩
  have CD : Hid _ := drawB_any ob n cb f w hn hnc fb ce
  clear fb ce hn hnc
  go_enter Try.func3, Try.ntmps3
  go_wp2_with fail
  refine Calls.mono CD.out ?_
  rintro e w1 ⟨v, M, s, rfl, hm, hz, hs, RW, B1⟩
  obtain ⟨oo, ko, hf⟩ := Row.form RW.out
  subst hf
  have HT : Hid (totL M ≤ 1048576) := tot_PzL hm hz
  have HZ : Hid (∀ x ∈ M, PzL 2000 x) := hz
  have AT : Hid (∀ u, Below w1.heap.size w1 u → AtL (fun b => w.heap.size ≤ b ∧ b < w1.heap.size) u M (.slice oo M.length ko)) := fun u hu => (flatR.row_at RW.out (fun q hq => World.ownsRow.lt RW.out q hq) (fun x hx => (hz x hx).ok (by omega))).same (Same.of_below hu (fun b hb => hb.2))
  have HS : Hid (∀ u, Below w1.heap.size w1 u → ∀ b, (w.heap.size ≤ b ∧ b < w1.heap.size) → b < u.heap.size) := fun u hu b hb => Nat.lt_of_lt_of_le hb.2 hu.size
  have BQ : Hid (∀ u, Below w1.heap.size w1 u → Below w.heap.size w u) := fun u hu => B1.out.trans (hu.mono B1.out.size)
  have B0 : Hid (Below w1.heap.size w1 w1) := Below.refl _ _
  obtain ⟨nl, hnl⟩ : ∃ nl, M.length = nl := ⟨_, rfl⟩
  have HLK : Hid (M.length = nl) := hnl
  rw [hnl] at AT hm
  rw [hnl]
  clear hnl hz RW CD B1
  obtain ⟨bd, hbd⟩ : ∃ c, (if recB M = true then bndF 12 M s else 0) = c := ⟨_, rfl⟩
  have HBD : Hid ((if recB M = true then bndF 12 M s else 0) = bd) := hbd
  have C : Hid _ := boundI_any _ M _ s w1 (AT.out _ B0.out) (HS.out _ B0.out) HT.out
  rw [hbd] at C
  clear hbd
  go_wp2_with fail
  refine Calls.mono C.out ?_; rintro e w2 ⟨rfl, hb⟩
  have B2 : Hid (Below w1.heap.size w1 w2) := hb
  clear hb C
  have C : Hid _ := slotsI_any _ M _ s w2 (AT.out _ B2.out) (HS.out _ B2.out) HT.out (by omega)
  go_wp2_with fail
  refine Calls.mono C.out ?_; rintro e w3 ⟨qv, rfl, hon, hb⟩
  have B3 : Hid (Below w1.heap.size w1 w3) := B2.out.trans (hb.mono B2.out.size)
  have SL : Hid (∀ u, Below w3.heap.size w3 u → AtL (fun b => b < w3.heap.size) u (slL M s) qv) := fun u hu => (hon.at_.up (fun b hb => hb.2)).same (Same.of_below hu (fun b hb => hb))
  clear hb C hon B2
  have C : Hid _ := boundX_any _ M _ s w3 (AT.out _ B3.out) (HS.out _ B3.out)
  rw [HBD.out] at C
  go_wp2_with fail
  refine Calls.mono C.out ?_; rintro e w4 ⟨rfl, hb⟩
  have B4 : Hid (Below w3.heap.size w3 w4) := hb
  have BB : Hid (∀ u, Below w3.heap.size w3 u → Below w1.heap.size w1 u) := fun u hu => B3.out.trans (hu.mono B3.out.size)
  clear hb C
  have C : Hid _ := slotsX_any _ M _ s w4 (AT.out _ (BB.out _ B4.out)) (HS.out _ (BB.out _ B4.out))
  go_wp2_with fail
  refine Calls.mono C.out ?_; rintro e w5 ⟨q2, rfl, hrow, hb⟩
  have B5 : Hid (Below w3.heap.size w3 w5) := B4.out.trans (hb.mono B4.out.size)
  have S2 : Hid (AtL (fun b => w4.heap.size ≤ b ∧ b < w5.heap.size) w5 (slL M s) q2) := at_rowX hrow (fun y hy => sl_names M s y hy) (sl_len M s)
  clear hb C hrow B4
  have C : Hid _ := wrTexts_any _ _ (slL M s) qv q2 w5 (SL.out _ B5.out) S2.out (fun b hb => Nat.lt_of_lt_of_le hb B5.out.size) (fun b hb => hb.2)
  go_wp2_with fail
  refine Calls.mono C.out ?_; rintro e w6 ⟨rfl, hb⟩
  have B6 : Hid (Below w3.heap.size w3 w6) := B5.out.trans (hb.mono B5.out.size)
  clear hb C S2 B5
  have B6' : Hid (∀ u, Below w6.heap.size w6 u → Below w3.heap.size w3 u) := fun u hu => B6.out.trans (hu.mono B6.out.size)
  obtain ⟨U, hU⟩ : ∃ U, U = w6.alloc (.cells #[] 9) := ⟨_, rfl⟩
  have EU : Hid (U = w6.alloc (.cells #[] 9)) := hU
  have RU : Hid (Row U w6.heap.size 9 1 eS (.slice (some ⟨w6.heap.size, 0, none⟩) 0 0) (useL M s 0)) := by
    rw [use_zero, hU]
    have := own_built (base := w6.heap.size) (e := 9) (size := 1) (k := 0) (w := w6) (c := #[]) (Nat.le_refl _) (by decide) rfl
    exact this
  have BU : Hid (Below w6.heap.size w6 U) := by rw [hU]; exact (Below.refl _ _).alloc (Nat.le_refl _) _
  have BUU : Hid (∀ u, Below U.heap.size U u → Below w6.heap.size w6 u) := fun u hu => BU.out.trans (hu.mono BU.out.size)
  have BUW : Hid (∀ u, Below w6.heap.size w6 u → Below w1.heap.size w1 u) := fun u hu => BB.out _ (B6'.out _ hu)
  clear hU
  cases hr : recB M
  · obtain rfl : (0 : Int) = bd := by rw [← HBD.out, hr]; rfl
    have SLN : Hid (slL M s = []) := by show slL M s = _; unfold slL; rw [hr]; simp
    go_wp2_with fail
    rw [← EU.out]
    go_loopw [7, 9, 10] (fun sm at_ i wr => i = .int .i64 ((0 : Nat) : Int) ∧ sm = .int .i64 0 ∧ at_ = .string s ∧ Hid (Below U.heap.size U wr)) (fun _ _ _ _ => 0)
    case atStart => exact ⟨rfl, rfl, rfl, Below.refl _ _⟩
    case round =>
      obtain ⟨rfl, rfl, rfl, BW⟩ := hrel
      rw [show ((0 : Nat) : Int) = 0 from rfl]
      by_cases h0 : nl = 0
      · subst h0
        go_wp2_with fail
        go_loopw [8, 12] (fun us i wr => us = .slice (some ⟨w6.heap.size, 0, none⟩) 0 0 ∧ i = .int .i64 0 ∧ Hid (Below U.heap.size U wr)) (fun _ _ _ => 0)
        case atStart => exact ⟨rfl, rfl, BW⟩
        case round =>
          obtain ⟨rfl, rfl, BX⟩ := hrel
          have RX : Hid (Row wr w6.heap.size 9 1 eS (.slice (some ⟨w6.heap.size, 0, none⟩) 0 0) (useL M s 0)) := own_belowR RU.out BX.out
          have UAT : Hid (AtL (fun _ => True) wr (useL M s 0) (.slice (some ⟨w6.heap.size, 0, none⟩) 0 0)) := flatS.row_at RX.out (fun _ _ => trivial) (fun y hy => use_ok s 0 HZ.out y hy)
          have SAT : Hid (AtL _ wr (slL M s) qv) := SL.out wr (B6'.out _ (BUU.out _ BX.out))
          rw [use_zero] at UAT
          rw [SLN.out] at SAT
          clear RX
          go_wp2_with fail
          refine (all_anyT _ _ _ _ _ _ wr UAT.out SAT.out).mono ?_; rintro e' u ⟨rfl, rfl⟩
          rw [show allT [] [] = true from rfl]
          go_wp2_with fail
          refine (all_anyT _ _ _ _ _ _ u SAT.out UAT.out).mono ?_; rintro e' u2 ⟨rfl, rfl⟩
          rw [show allT [] [] = true from rfl]
          go_wp2_with fail
          go_ret
          exact ⟨rfl, BQ.out _ (BUW.out _ (BUU.out _ BX.out))⟩
      · have h0' : (0 : Int) < (nl : Int) := by omega
        have C : Hid _ := okX_any _ M _ wr (AT.out _ (BUW.out _ (BUU.out _ BW.out))) (HS.out _ (BUW.out _ (BUU.out _ BW.out)))
        rw [hr] at C
        go_wp2_with fail
        refine Calls.mono C.out ?_; rintro e wa ⟨rfl, hb⟩
        have BA : Hid (Below U.heap.size U wa) := BW.out.trans (hb.mono BW.out.size)
        clear hb C BW
        go_wp2_with fail
        go_loopw [8, 12] (fun us i wr => us = .slice (some ⟨w6.heap.size, 0, none⟩) 0 0 ∧ i = .int .i64 0 ∧ Hid (Below U.heap.size U wr)) (fun _ _ _ => 0)
        case atStart => exact ⟨rfl, rfl, BA⟩
        case round =>
          obtain ⟨rfl, rfl, BY⟩ := hrel
          have C : Hid _ := okX_any _ M _ wr (AT.out _ (BUW.out _ (BUU.out _ BY.out))) (HS.out _ (BUW.out _ (BUU.out _ BY.out)))
          rw [hr] at C
          go_wp2_with fail
          refine Calls.mono C.out ?_; rintro e wb ⟨rfl, hb⟩
          have BX : Hid (Below U.heap.size U wb) := BY.out.trans (hb.mono BY.out.size)
          clear hb C BY
          have RX : Hid (Row wb w6.heap.size 9 1 eS (.slice (some ⟨w6.heap.size, 0, none⟩) 0 0) (useL M s 0)) := own_belowR RU.out BX.out
          have UAT : Hid (AtL (fun _ => True) wb (useL M s 0) (.slice (some ⟨w6.heap.size, 0, none⟩) 0 0)) := flatS.row_at RX.out (fun _ _ => trivial) (fun y hy => use_ok s 0 HZ.out y hy)
          have SAT : Hid (AtL _ wb (slL M s) qv) := SL.out wb (B6'.out _ (BUU.out _ BX.out))
          rw [use_zero] at UAT
          rw [SLN.out] at SAT
          clear RX
          go_wp2_with fail
          refine (all_anyT _ _ _ _ _ _ wb UAT.out SAT.out).mono ?_; rintro e' u ⟨rfl, rfl⟩
          rw [show allT [] [] = true from rfl]
          go_wp2_with fail
          refine (all_anyT _ _ _ _ _ _ u SAT.out UAT.out).mono ?_; rintro e' u2 ⟨rfl, rfl⟩
          rw [show allT [] [] = true from rfl]
          go_wp2_with fail
          go_ret
          exact ⟨rfl, BQ.out _ (BUW.out _ (BUU.out _ BX.out))⟩
  · have HR : Hid (RecP M) := rec_iff.1 hr
    have hl := HR.out.1
    have hln := HLK.out
    obtain ⟨b, off, rfl⟩ : ∃ b off, oo = some ⟨b, off, none⟩ := by
      obtain ⟨oa, cap, ev, hx⟩ := AT.out w1 B0.out
      obtain ⟨b, off, hoo, _⟩ := hx.2 0 (by omega)
      obtain ⟨ho1, _, _⟩ : oo = oa ∧ nl = M.length ∧ ko = cap := by simpa using ev
      exact ⟨b, off, ho1.trans hoo⟩
    have PC : Hid (∀ u, Below w1.heap.size w1 u → ∀ k (hk : k < M.length), _) := fun u hu => row_pc (AT.out u hu)
    have hbd : 0 ≤ bd ∧ bd ≤ 12000 ∧ bndF 12 M s = bd := by
      have := bnd_le HR.out 12 s
      have h2 := HBD.out
      rw [hr] at h2
      simp only [if_true] at h2
      omega
    have BDS : Hid (bndF 12 M s = bd) := hbd.2.2
    have BND : Hid (∀ y, (if recB M = true then bndF 12 M y else 0) = bndF 12 M y) := fun y => by rw [hr]; simp
    have SLT : Hid (slL M s = sltF 12 M s) := by show slL M s = _; unfold slL; rw [hr]; simp
    have ALL1 : Hid (allT (useL M s nl) (slL M s) = true) := by show allT _ _ = true; rw [SLT.out, ← HLK.out]; exact (use_all HR.out s).1
    have ALL2 : Hid (allT (slL M s) (useL M s nl) = true) := by show allT _ _ = true; rw [SLT.out, ← HLK.out]; exact (use_all HR.out s).2
    replace hbd : 0 ≤ bd ∧ bd ≤ 12000 := ⟨hbd.1, hbd.2.1⟩
    have hnl : 1 ≤ nl ∧ nl ≤ 12 := by omega
    clear hl hln HBD
    go_wp2_with fail
    rw [← EU.out]
    go_loopw [7, 9, 10] (fun sm at_ i wr => ∃ (j : Nat) (σ : Int) (y : ByteArray), j ≤ nl ∧ i = .int .i64 j ∧ sm = .int .i64 σ ∧ at_ = .string y ∧ (0 ≤ σ ∧ σ ≤ 12000) ∧ Hid (σ + bndF 12 M y = bd) ∧ Hid (atI M y = -1 ∨ (j : Int) ≤ atI M y) ∧ Hid (Below U.heap.size U wr)) (fun _ _ i _ => nl - (intOf i).toNat)
    case atStart => exact ⟨0, 0, s, by omega, rfl, rfl, rfl, by omega, (by show _ = _; rw [BDS.out]; omega), (by show _ ∨ _; rcases at_cases M s with h | ⟨k, _, h, _⟩ <;> omega), Below.refl _ _⟩
    case round =>
      obtain ⟨j, σ, y, hj, rfl, rfl, rfl, hσ, SUM, ATP, BW⟩ := hrel
      by_cases hlt : j < nl
      · have C : Hid _ := okX_any _ M _ wr (AT.out _ (BUW.out _ (BUU.out _ BW.out))) (HS.out _ (BUW.out _ (BUU.out _ BW.out)))
        rw [hr] at C
        go_wp2_with fail
        refine Calls.mono C.out ?_; rintro e wa ⟨rfl, hb⟩
        have BA : Hid (Below U.heap.size U wa) := BW.out.trans (hb.mono BW.out.size)
        clear hb C BW
        go_wp2_with fail
        go_loopw [7, 9, 11] (fun sm at_ i wr => ∃ l : Nat, l ≤ nl ∧ i = .int .i64 l ∧ sm = .int .i64 σ ∧ at_ = .string y ∧ Hid (∀ m (hm : m < M.length), m < l → (fun p : DRecPhase => eqB p.1 y) M[m] = false) ∧ wr = wa) (fun _ _ i _ => nl - (intOf i).toNat)
        case atStart => exact ⟨0, by omega, rfl, rfl, rfl, fun _ _ h => by omega, rfl⟩
        case round =>
          obtain ⟨l, hl, rfl, rfl, rfl, hno, rfl⟩ := hrel
          by_cases hll : l < nl
          · have hlM : l < M.length := by have := HLK.out; omega
            obtain ⟨e0, _, _, _, e5, e6, e7⟩ := PC.out wr (BUW.out _ (BUU.out _ BA.out)) l hlM
            have PX : Hid _ := fun u (hu : Below wr.heap.size wr u) => PC.out u (BUW.out _ (BUU.out _ (BA.out.trans (hu.mono BA.out.size)))) l hlM
            have WS : Hid (∀ (e : atI M y = (l : Int)), bndF 12 M y = M[l].2.2.2.2.2.1 + bndF 12 M (wayT M M[l])) := fun e => way_step HR.out hlM e
            have WN : Hid (atI M (wayT M M[l]) = -1 ∨ (l : Int) + 1 ≤ atI M (wayT M M[l])) := way_next HR.out hlM
            have WD : Hid (wayT M M[l] = if bndF 12 M M[l].2.2.2.2.2.2.2 < bndF 12 M M[l].2.2.2.2.2.2.1 then M[l].2.2.2.2.2.2.1 else M[l].2.2.2.2.2.2.2) := rfl
            have hwi : 1 ≤ M[l].2.2.2.2.2.1 ∧ M[l].2.2.2.2.2.1 ≤ 1000 := (ph_name (step_of HR.out hlM).1).2.2.1
            have HP : Hid (∀ c, ((M[l].1).toList == y.toList) = c → (fun p : DRecPhase => eqB p.1 y) M[l] = c) := fun c h => by simp [eqB, h]
            obtain ⟨nm, enm⟩ : ∃ z, M[l].1 = z := ⟨_, rfl⟩
            obtain ⟨wi, ewi⟩ : ∃ z, M[l].2.2.2.2.2.1 = z := ⟨_, rfl⟩
            obtain ⟨th, eth⟩ : ∃ z, M[l].2.2.2.2.2.2.1 = z := ⟨_, rfl⟩
            obtain ⟨el, eel⟩ : ∃ z, M[l].2.2.2.2.2.2.2 = z := ⟨_, rfl⟩
            obtain ⟨wt, ewt⟩ : ∃ z, wayT M M[l] = z := ⟨_, rfl⟩
            rw [enm] at e0 HP
            rw [ewi] at e5 hwi
            rw [eth] at e6
            rw [eel] at e7
            have PX6 : Hid (∀ u, Below wr.heap.size wr u → u.cell? ⟨b, off + l * 8 + 6, none⟩ = some (.string th)) := fun u hu => by have := (PX.out u hu).2.2.2.2.2.1; rw [eth] at this; exact this
            have PX7 : Hid (∀ u, Below wr.heap.size wr u → u.cell? ⟨b, off + l * 8 + 7, none⟩ = some (.string el)) := fun u hu => by have := (PX.out u hu).2.2.2.2.2.2; rw [eel] at this; exact this
            have WS' : Hid (atI M y = (l : Int) → bndF 12 M y = wi + bndF 12 M wt) := fun e => by have := WS.out e; rw [ewi, ewt] at this; exact this
            have WN' : Hid (atI M wt = -1 ∨ (l : Int) + 1 ≤ atI M wt) := by have := WN.out; rw [ewt] at this; exact this
            have WD' : Hid (wt = if bndF 12 M el < bndF 12 M th then th else el) := by have := WD.out; rw [eth, eel, ewt] at this; exact this
            clear PX WS WN WD enm ewi eth eel ewt
            cases c0 : (nm.toList == y.toList)
            · have hp : (fun p : DRecPhase => eqB p.1 y) M[l] = false := HP.out _ c0
              go_wp2_with fail
              go_roundw
              case rel => exact ⟨l + 1, by omega, by go_num, rfl, rfl, (fun m hm hml => by
                by_cases e : m = l
                · subst e; exact hp
                · exact hno.out m hm (by omega)), (by first | exact rfl | exact trivial)⟩
              case measure => simp [intOf]; omega
            · have hp : (fun p : DRecPhase => eqB p.1 y) M[l] = true := HP.out _ c0
              have hat : atI M y = (l : Int) := idx_yes (p := fun p : DRecPhase => eqB p.1 y) hlM hp hno.out
              have hbs : bndF 12 M y = wi + bndF 12 M wt := WS'.out hat
              have hw0 : 0 ≤ bndF 12 M wt := (bnd_le HR.out 12 wt).1
              have hsum := SUM.out
              have hjl : j ≤ l := by rcases ATP.out with h | h <;> omega
              have hs2 : σ + wi ≤ 12000 := by omega
              have SUM2 : Hid (σ + wi + bndF 12 M wt = bd) := by show _ = _; omega
              have ATP2 : Hid (atI M wt = -1 ∨ ((j + 1 : Nat) : Int) ≤ atI M wt) := by show _ ∨ _; rcases WN'.out with h | h <;> omega
              have CI : Hid (∀ z u, Below wr.heap.size wr u → Calls Try.prog 5 #[.slice (some ⟨b, off, none⟩) nl ko, .string z] u fun e w' => e = .returned (.int .i64 (bndF 12 M z)) ∧ Below u.heap.size u w') := fun z u hu => by
                have h := boundI_any _ M _ z u (AT.out u (BUW.out _ (BUU.out _ (BA.out.trans (hu.mono BA.out.size))))) (HS.out u (BUW.out _ (BUU.out _ (BA.out.trans (hu.mono BA.out.size))))) HT.out
                rw [BND.out z] at h
                exact h
              obtain ⟨zt, ezt⟩ : ∃ z, bndF 12 M th = z := ⟨_, rfl⟩
              obtain ⟨ze, eze⟩ : ∃ z, bndF 12 M el = z := ⟨_, rfl⟩
              have CT : Hid (∀ u, Below wr.heap.size wr u → Calls Try.prog 5 #[.slice (some ⟨b, off, none⟩) nl ko, .string th] u fun e w' => e = .returned (.int .i64 zt) ∧ Below u.heap.size u w') := fun u hu => by rw [← ezt]; exact CI.out th u hu
              have CE : Hid (∀ u, Below wr.heap.size wr u → Calls Try.prog 5 #[.slice (some ⟨b, off, none⟩) nl ko, .string el] u fun e w' => e = .returned (.int .i64 ze) ∧ Below u.heap.size u w') := fun u hu => by rw [← eze]; exact CI.out el u hu
              rw [ezt, eze] at WD'
              clear CI hat hbs hw0 hsum hp HP hno WS' WN' SUM ATP ezt eze
              go_upto_region 20 with fail
              have hdr : Hid (Below wr.heap.size wr wr.drew) := (Below.refl _ _).drew
              refine wp_region_movesC (fun v => Below wr.heap.size wr v) 14 [] (by kernel_rfl) (by kernel_rfl) hdr.out ?_
              simp only [List.filterMap_nil, movD]
              refine takeHQ (f := 13) (i := 0) (.slice (some ⟨b, off, none⟩) nl ko) ⟨rfl, rfl⟩ (by kernel_rfl) rfl hdr.out ?r0 ?_
              case r0 => intro v hv; go_simp
              simp only [Act.put, List.setIfInBounds_toArray, List.set_cons_zero, List.set_cons_succ]
              refine takeHQ (f := 12) (i := 1) (.slice (some ⟨b, off, none⟩) nl ko) ⟨rfl, rfl⟩ (by kernel_rfl) rfl hdr.out ?r1 ?_
              case r1 => intro v hv; go_simp
              simp only [Act.put, List.setIfInBounds_toArray, List.set_cons_zero, List.set_cons_succ]
              refine takeHQ (f := 11) (i := 2) (.int .i64 l) ⟨rfl, rfl⟩ (by kernel_rfl) rfl hdr.out ?r2 ?_
              case r2 => intro v hv; go_simp
              simp only [Act.put, List.setIfInBounds_toArray, List.set_cons_zero, List.set_cons_succ]
              refine takeHQ (f := 10) (i := 3) (.pointer (some ⟨b, off + l * 8, none⟩)) ⟨rfl, rfl⟩ (by kernel_rfl) rfl hdr.out ?r3 ?_
              case r3 => intro v hv; go_simp
              simp only [Act.put, List.setIfInBounds_toArray, List.set_cons_zero, List.set_cons_succ]
              refine takeHQ (f := 9) (i := 4) (.pointer (some ⟨b, off + l * 8 + 6, none⟩)) ⟨rfl, rfl⟩ (by kernel_rfl) rfl hdr.out ?r4 ?_
              case r4 => intro v hv; go_simp
              simp only [Act.put, List.setIfInBounds_toArray, List.set_cons_zero, List.set_cons_succ]
              refine takeHQ (f := 8) (i := 5) (.string th) ⟨rfl, rfl⟩ (by kernel_rfl) rfl hdr.out ?r5 ?_
              case r5 => intro v hv; have k0 := PX6.out v hv; go_simp
              simp only [Act.put, List.setIfInBounds_toArray, List.set_cons_zero, List.set_cons_succ]
              refine takeHQ (f := 7) (i := 7) (.slice (some ⟨b, off, none⟩) nl ko) ⟨rfl, rfl⟩ (by kernel_rfl) rfl hdr.out ?r7 ?_
              case r7 => intro v hv; go_simp
              simp only [Act.put, List.setIfInBounds_toArray, List.set_cons_zero, List.set_cons_succ]
              refine takeHQ (f := 6) (i := 8) (.slice (some ⟨b, off, none⟩) nl ko) ⟨rfl, rfl⟩ (by kernel_rfl) rfl hdr.out ?r8 ?_
              case r8 => intro v hv; go_simp
              simp only [Act.put, List.setIfInBounds_toArray, List.set_cons_zero, List.set_cons_succ]
              refine takeHQ (f := 5) (i := 9) (.int .i64 l) ⟨rfl, rfl⟩ (by kernel_rfl) rfl hdr.out ?r9 ?_
              case r9 => intro v hv; go_simp
              simp only [Act.put, List.setIfInBounds_toArray, List.set_cons_zero, List.set_cons_succ]
              refine takeHQ (f := 4) (i := 10) (.pointer (some ⟨b, off + l * 8, none⟩)) ⟨rfl, rfl⟩ (by kernel_rfl) rfl hdr.out ?r10 ?_
              case r10 => intro v hv; go_simp
              simp only [Act.put, List.setIfInBounds_toArray, List.set_cons_zero, List.set_cons_succ]
              refine takeHQ (f := 3) (i := 11) (.pointer (some ⟨b, off + l * 8 + 7, none⟩)) ⟨rfl, rfl⟩ (by kernel_rfl) rfl hdr.out ?r11 ?_
              case r11 => intro v hv; go_simp
              simp only [Act.put, List.setIfInBounds_toArray, List.set_cons_zero, List.set_cons_succ]
              refine takeHQ (f := 2) (i := 12) (.string el) ⟨rfl, rfl⟩ (by kernel_rfl) rfl hdr.out ?r12 ?_
              case r12 => intro v hv; have k0 := PX7.out v hv; go_simp
              simp only [Act.put, List.setIfInBounds_toArray, List.set_cons_zero, List.set_cons_succ]
              refine callHd (f := 1) (i := 6) (d := 83) (fn := 5) (args := #[.slice (some ⟨b, off, none⟩) nl ko, .string th]) ⟨rfl, rfl⟩ (by decide) (by kernel_rfl) rfl ?rc ((CT.out wr.drew hdr.out).mono ?_)
              case rc => go_simp
              rintro e wc ⟨rfl, hb⟩
              have HBC : Hid (Below wr.heap.size wr wc) := hdr.out.trans hb
              clear hb
              refine ⟨_, rfl, HBC.out, ?_⟩
              simp only [Act.put, List.setIfInBounds_toArray, List.set_cons_zero, List.set_cons_succ]
              refine callHd (f := 0) (i := 13) (d := 90) (fn := 5) (args := #[.slice (some ⟨b, off, none⟩) nl ko, .string el]) ⟨rfl, rfl⟩ (by decide) (by kernel_rfl) rfl ?rc ((CE.out wc HBC.out).mono ?_)
              case rc => go_simp
              rintro e wd ⟨rfl, hb⟩
              have HBD2 : Hid (Below wr.heap.size wr wd) := HBC.out.trans (hb.mono HBC.out.size)
              clear hb
              refine ⟨_, rfl, HBD2.out, ?_⟩
              simp only [Act.put, List.setIfInBounds_toArray, List.set_cons_zero, List.set_cons_succ]
              refine ⟨by kernel_rfl, ?_⟩
              simp only [List.drop_succ_cons, List.drop_zero]
              have d6 := PX6.out wd HBD2.out
              have BD2 : Hid (Below U.heap.size U wd) := BA.out.trans (HBD2.out.mono BA.out.size)
              by_cases hgt : ze < zt
              · rw [if_pos hgt] at WD'
                obtain rfl : wt = th := WD'.out
                go_wp2_with fail
                go_roundw
                case rel => exact ⟨j + 1, σ + wi, wt, by omega, by go_num, by go_num, rfl, by omega, SUM2, ATP2, BD2⟩
                case measure => simp [intOf]; omega
              · rw [if_neg hgt] at WD'
                obtain rfl : wt = el := WD'.out
                go_wp2_with fail
                go_roundw
                case rel => exact ⟨j + 1, σ + wi, wt, by omega, by go_num, by go_num, rfl, by omega, SUM2, ATP2, BD2⟩
                case measure => simp [intOf]; omega
          · obtain rfl : nl = l := by omega
            have hat : atI M y = -1 := idx_no (p := fun p : DRecPhase => eqB p.1 y) (fun m hm => hno.out m hm (by have := HLK.out; omega))
            go_wp2_with fail
            go_roundw
            case rel => exact ⟨j + 1, σ, y, by omega, by go_num, rfl, rfl, by omega, SUM, .inl hat, BA⟩
            case measure => simp [intOf]; omega
      · obtain rfl : nl = j := by omega
        have hy0 : bndF 12 M y = 0 := way_end (by have := HLK.out; rcases ATP.out with h | h <;> omega)
        obtain rfl : bd = σ := by have := SUM.out; omega
        have RB : Hid (Row wr w6.heap.size 9 1 eS (.slice (some ⟨w6.heap.size, 0, none⟩) 0 0) (useL M s 0)) := own_belowR RU.out BW.out
        have BR : Hid (Below w6.heap.size w6 wr) := BUU.out _ BW.out
        have h6 : w6.heap.size ≤ wr.heap.size := BR.out.size
        clear hy0 SUM ATP BW RU BU EU BUU hlt
        go_wp2_with fail
        go_loopw [8, 12] (fun uv i wr => ∃ (j : Nat) (us : Value), us = uv ∧ j ≤ nl ∧ i = .int .i64 j ∧ Hid (Row wr w6.heap.size 9 1 eS us (useL M s j)) ∧ Hid (Below w6.heap.size w6 wr)) (fun _ i _ => nl - (intOf i).toNat)
        case atStart => exact ⟨0, _, rfl, by omega, rfl, RB, BR⟩
        case round =>
          clear RB BR h6
          obtain ⟨l, us, rfl, hl, rfl, RX, BX⟩ := hrel
          by_cases hll : l < nl
          · have hlM : l < M.length := by have := HLK.out; omega
            have C : Hid _ := okX_any _ M _ wr (AT.out _ (BUW.out _ BX.out)) (HS.out _ (BUW.out _ BX.out))
            rw [hr] at C
            have USL : Hid (useL M s (l + 1) = useL M s l ++ uOf M s M[l]) := use_succ hlM
            have hul : (useL M s l).length ≤ 2 * l := use_len M s l (by omega)
            have PX : Hid _ := fun u (hu : Below w6.heap.size w6 u) => PC.out u (BUW.out _ hu) l hlM
            have REA : Hid (∀ u, Below w6.heap.size w6 u → Calls Try.prog 11 #[.slice (some ⟨b, off, none⟩) nl ko, .string s, .string M[l].1] u fun e w' => e = .returned (.bool (rchF 12 M s M[l].1)) ∧ w' = u) := fun u hu => reach_any _ M HR.out _ 12 _ s u (AT.out _ (BUW.out _ hu)) (fun k _ => by have := HR.out.1; omega)
            have ZZ := HZ.out _ (List.getElem_mem hlM)
            have UO : Hid (uOf M s M[l] = if rchF 12 M s M[l].1 = true then (if M[l].2.1 = 2 then [M[l].2.2.1, M[l].2.2.2.1] else [M[l].2.2.1]) else []) := rfl
            obtain ⟨nm, enm⟩ : ∃ z, M[l].1 = z := ⟨_, rfl⟩
            obtain ⟨kd, ekd⟩ : ∃ z, M[l].2.1 = z := ⟨_, rfl⟩
            obtain ⟨a, ea⟩ : ∃ z, M[l].2.2.1 = z := ⟨_, rfl⟩
            obtain ⟨b', eb⟩ : ∃ z, M[l].2.2.2.1 = z := ⟨_, rfl⟩
            have hza : a.size ≤ 16 ∧ b'.size ≤ 16 := by rw [← ea, ← eb]; exact ⟨ZZ.2.1, ZZ.2.2.1⟩
            have PX0 : Hid (∀ u, Below w6.heap.size w6 u → u.cell? ⟨b, off + l * 8, none⟩ = some (.string nm)) := fun u hu => by have := (PX.out u hu).1; rw [enm] at this; exact this
            have PX1 : Hid (∀ u, Below w6.heap.size w6 u → u.cell? ⟨b, off + l * 8 + 1, none⟩ = some (.int .i64 kd)) := fun u hu => by have := (PX.out u hu).2.1; rw [ekd] at this; exact this
            have PX2 : Hid (∀ u, Below w6.heap.size w6 u → u.cell? ⟨b, off + l * 8 + 2, none⟩ = some (.string a)) := fun u hu => by have := (PX.out u hu).2.2.1; rw [ea] at this; exact this
            have PX3 : Hid (∀ u, Below w6.heap.size w6 u → u.cell? ⟨b, off + l * 8 + 3, none⟩ = some (.string b')) := fun u hu => by have := (PX.out u hu).2.2.2.1; rw [eb] at this; exact this
            rw [enm, ekd, ea, eb] at UO
            rw [enm] at REA
            obtain ⟨rc, erc⟩ : ∃ z, rchF 12 M s nm = z := ⟨_, rfl⟩
            rw [erc] at REA UO
            clear PX ZZ enm ekd ea eb erc
            go_wp2_with fail
            refine Calls.mono C.out ?_; rintro e wa ⟨rfl, hb⟩
            have BA : Hid (Below w6.heap.size w6 wa) := BX.out.trans (hb.mono BX.out.size)
            have RA : Hid (Row wa w6.heap.size 9 1 eS us (useL M s l)) := own_belowR RX.out hb
            clear hb C BX RX
            have k0 := PX0.out wa BA.out
            go_wp2_with fail
            refine (REA.out _ BA.out).mono ?_; rintro e' u ⟨rfl, rfl⟩
            cases rc
            · have E : Hid (useL M s (l + 1) = useL M s l) := by show _ = _; rw [USL.out, UO.out]; simp
              go_wp2_with fail
              go_roundw
              case rel => exact ⟨l + 1, _, rfl, by omega, by go_num, (by rw [E.out]; exact RA), BA⟩
              case measure => simp [intOf]; omega
            · have k2 := PX2.out u BA.out
              have hma : a.size ≤ maxLen := by unfold maxLen; omega
              have hmb : b'.size ≤ maxLen := by unfold maxLen; omega
              by_cases hk2 : kd = 2
              · have E : Hid (useL M s (l + 1) = (useL M s l ++ [a]) ++ [b']) := by show _ = _; rw [USL.out, UO.out, if_pos rfl, if_pos hk2]; simp
                subst hk2
                have AW : Hid (Below u.heap.size u (u.alloc (.cells #[.string a] 9))) := (Below.refl _ _).alloc (Nat.le_refl _) _
                have HOWN : Hid ((u.alloc (.cells #[.string a] 9)).ownsRow w6.heap.size 9 1 us (useL M s l).length (enc 1 eS (useL M s l))) := own_belowR RA.out AW.out
                have SR : Hid (Src (u.alloc (.cells #[.string a] 9)) (.slice (some ⟨u.heap.size, 0, none⟩) 1 1) 1 1 (enc 1 eS [a])) := flatS.src (lit_at 9 u [a] (by show 1 ≤ maxLen; decide) (fun z hz => by simp only [List.mem_singleton] at hz; rw [hz]; exact hma))
                have hww : w6.heap.size ≤ u.heap.size := BA.out.size
                go_upto_region 28 with (at_builtin; refine wpList_app elS rfl _ _ rfl rfl rfl HOWN.out SR.out (flatS.enc_one _) (by unfold maxLen; omega) (by omega) (by simp; omega) ?_; intro vE wE hown hgE hbk; have RE : Hid (Row wE w6.heap.size 9 1 eS vE (useL M s l ++ [a])) := (by show World.ownsRow _ _ _ _ _ _ _; rw [List.length_append, enc_append]; exact hown); have BE : Hid (Below w6.heap.size w6 wE) := (BA.out.trans (AW.out.mono BA.out.size)).grown hgE (by simp; omega) (fun q hq => (World.ownsRow.lt HOWN.out q hq).1); clear hown hgE hbk SR HOWN AW; have k1 := PX1.out wE BE.out; have k3 := PX3.out wE BE.out)
                have hul2 : (useL M s l ++ [a]).length ≤ 2 * l + 1 := by rw [List.length_append, List.length_singleton]; omega
                have AW : Hid (Below wE.heap.size wE (wE.alloc (.cells #[.string b'] 9))) := (Below.refl _ _).alloc (Nat.le_refl _) _
                have HOWN : Hid ((wE.alloc (.cells #[.string b'] 9)).ownsRow w6.heap.size 9 1 vE (useL M s l ++ [a]).length (enc 1 eS (useL M s l ++ [a]))) := own_belowR RE.out AW.out
                have SR : Hid (Src (wE.alloc (.cells #[.string b'] 9)) (.slice (some ⟨wE.heap.size, 0, none⟩) 1 1) 1 1 (enc 1 eS [b'])) := flatS.src (lit_at 9 wE [b'] (by show 1 ≤ maxLen; decide) (fun z hz => by simp only [List.mem_singleton] at hz; rw [hz]; exact hmb))
                have hww : w6.heap.size ≤ wE.heap.size := BE.out.size
                go_wp2_with (at_builtin; refine wpList_app elS rfl _ _ rfl rfl rfl HOWN.out SR.out (flatS.enc_one _) (by unfold maxLen; omega) (by omega) (by simp; omega) ?_; intro vF wF hown hgE hbk; have RF : Hid (Row wF w6.heap.size 9 1 eS vF (useL M s l ++ [a] ++ [b'])) := (by show World.ownsRow _ _ _ _ _ _ _; rw [List.length_append, enc_append]; exact hown); have BF : Hid (Below w6.heap.size w6 wF) := (BE.out.trans (AW.out.mono BE.out.size)).grown hgE (by simp; omega) (fun q hq => (World.ownsRow.lt HOWN.out q hq).1); clear hown hgE hbk SR HOWN AW)
                go_wp2_with fail
                go_roundw
                case rel => exact ⟨l + 1, _, rfl, by omega, by go_num, (by rw [E.out]; exact RF), BF⟩
                case measure => simp [intOf]; omega
              · have E : Hid (useL M s (l + 1) = useL M s l ++ [a]) := by show _ = _; rw [USL.out, UO.out, if_pos rfl, if_neg hk2]
                have hk2' : (kd == 2) = false := by simpa using hk2
                have AW : Hid (Below u.heap.size u (u.alloc (.cells #[.string a] 9))) := (Below.refl _ _).alloc (Nat.le_refl _) _
                have HOWN : Hid ((u.alloc (.cells #[.string a] 9)).ownsRow w6.heap.size 9 1 us (useL M s l).length (enc 1 eS (useL M s l))) := own_belowR RA.out AW.out
                have SR : Hid (Src (u.alloc (.cells #[.string a] 9)) (.slice (some ⟨u.heap.size, 0, none⟩) 1 1) 1 1 (enc 1 eS [a])) := flatS.src (lit_at 9 u [a] (by show 1 ≤ maxLen; decide) (fun z hz => by simp only [List.mem_singleton] at hz; rw [hz]; exact hma))
                have hww : w6.heap.size ≤ u.heap.size := BA.out.size
                go_wp2_with (at_builtin; refine wpList_app elS rfl _ _ rfl rfl rfl HOWN.out SR.out (flatS.enc_one _) (by unfold maxLen; omega) (by omega) (by simp; omega) ?_; intro vE wE hown hgE hbk; have RE : Hid (Row wE w6.heap.size 9 1 eS vE (useL M s l ++ [a])) := (by show World.ownsRow _ _ _ _ _ _ _; rw [List.length_append, enc_append]; exact hown); have BE : Hid (Below w6.heap.size w6 wE) := (BA.out.trans (AW.out.mono BA.out.size)).grown hgE (by simp; omega) (fun q hq => (World.ownsRow.lt HOWN.out q hq).1); clear hown hgE hbk SR HOWN AW; have k1 := PX1.out wE BE.out)
                go_wp2_with fail
                go_roundw
                case rel => exact ⟨l + 1, _, rfl, by omega, by go_num, (by rw [E.out]; exact RE), BE⟩
                case measure => simp [intOf]; omega
          · obtain rfl : nl = l := by omega
            have UAT : Hid (AtL (fun _ => True) wr (useL M s nl) us) := flatS.row_at RX.out (fun _ _ => trivial) (fun y hy => use_ok s nl HZ.out y hy)
            have SAT : Hid (AtL _ wr (slL M s) qv) := SL.out wr (B6'.out _ BX.out)
            clear RX
            go_wp2_with fail
            refine (all_anyT _ _ _ _ _ _ wr UAT.out SAT.out).mono ?_; rintro e' u ⟨rfl, rfl⟩
            rw [ALL1.out]
            go_wp2_with fail
            refine (all_anyT _ _ _ _ _ _ u SAT.out UAT.out).mono ?_; rintro e' u2 ⟨rfl, rfl⟩
            rw [ALL2.out]
            go_wp2_with fail
            go_ret
            exact ⟨rfl, BQ.out _ (BUW.out _ BX.out)⟩

end Go.Proofs.Ytepemobbjaincaa
