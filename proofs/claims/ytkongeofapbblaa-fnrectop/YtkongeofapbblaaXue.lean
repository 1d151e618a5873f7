/-
  The law FnRecTop, walked, if RecBegin, RecGo and RecRun answer as the model does: whatever the code, the call returns true, and nothing that was there before has turned.
-/
import Derived.Test.YtkongeofapbblaaM11
import Derived.Test.YtkongeofapbblaaM23
import Derived.Test.YtkongeofapbblaaM24
import Derived.Test.YtkongeofapbblaaXps
import Derived.Test.YtkongeofapbblaaXpb
import Derived.Test.YtkongeofapbblaaXpc
import Derived.Test.YtkongeofapbblaaM29
import Derived.Test.YtkongeofapbblaaM7
import Derived.Test.YtkongeofapbblaaM17
import Derived.Deep.Cut
namespace Go.Proofs.Ytkongeofapbblaa
open Go.RowKit Go.Sort

theorem txt_cell {S : Nat → Prop} {w : World} {l : List ByteArray} {b off n cap : Nat} (h : AtL S w l (.slice (some ⟨b, off, none⟩) n cap)) (i : Nat) (hi : i < l.length) : w.cell? ⟨b, off + i, none⟩ = some (.string l[i]) := by
  obtain ⟨oa, cap', ev, _, hc⟩ := h
  obtain ⟨b', off', hoo, _, cc, hcell, ha⟩ := hc i hi
  obtain ⟨ho1, _, _⟩ : some (⟨b, off, none⟩ : Addr) = oa ∧ n = l.length ∧ cap = cap' := by simpa using ev
  rw [← ho1] at hoo
  cases hoo
  have := hcell 0 (by show 0 < 1; omega)
  rw [ha.1, show Lay.width ByteArray = 1 from rfl] at this
  simpa using this
theorem say_cell {S : Nat → Prop} {w : World} {l : List DRecSay} {b off n cap : Nat} (h : AtL S w l (.slice (some ⟨b, off, none⟩) n cap)) (i : Nat) (hi : i < l.length) : w.cell? ⟨b, off + i * 2, none⟩ = some (.int .i64 l[i].1) ∧ w.cell? ⟨b, off + i * 2 + 1, none⟩ = some (.bool l[i].2) := by
  obtain ⟨oa, cap', ev, _, hc⟩ := h
  obtain ⟨b', off', hoo, _, cc, hcell, ha⟩ := hc i hi
  obtain ⟨ho1, _, _⟩ : some (⟨b, off, none⟩ : Addr) = oa ∧ n = l.length ∧ cap = cap' := by simpa using ev
  rw [← ho1] at hoo
  cases hoo
  rw [width_DRecSay] at hcell
  rw [at_DRecSay] at ha
  have h0 := hcell 0 (by omega)
  have h1 := hcell 1 (by omega)
  rw [ha.1.1] at h0
  rw [ha.2] at h1
  exact ⟨h0, h1⟩
theorem run_names {r : List DRecPhase} (L : List DRecSay) : (∀ y ∈ (runS r L).2, y.size ≤ 8) ∧ (runS r L).2.length ≤ 12 := by
  cases hr : recB r
  · unfold runS; rw [hr]; simp
  · have hR := rec_iff.1 hr
    obtain ⟨m, hm⟩ := run_all hR L
    rw [hm.run]
    refine ⟨fun y hy => ?_, by rw [pa_len]; exact hm.le⟩
    simp only [paF, List.mem_map, List.mem_range] at hy
    obtain ⟨i, hi, rfl⟩ := hy
    obtain ⟨k, hk, e⟩ := hm.at_ i hi
    rw [← nameAtU hk e]
    exact name_le (ph_name (step_of hR hk).1).1
theorem end_in {x : ByteArray} (h : ¬ endI x = 0) : inB (endI x) 1 3 = true := by
  unfold endI at h ⊢
  repeat' split
  all_goals first | rfl | (exfalso; simp_all)

set_option maxRecDepth 100000 in
set_option maxHeartbeats 80000000 in
theorem lawT_any (PB : ∀ (S : Nat → Prop) (r : List DRecPhase) (v : Value) (w : World), AtL S w r v → (∀ b, S b → b < w.heap.size) → totL r ≤ 1048576 → Calls Try.prog 12 #[v] w fun e w' => e = .returned (.agg #[.string (begS r).1, .int .i64 (begS r).2.1, .int .i64 (begS r).2.2]) ∧ Below w.heap.size w w') (PG : ∀ (S : Nat → Prop) (r : List DRecPhase) (v : Value) (x : ByteArray) (now lf t : Int) (well : Bool) (w : World), AtL S w r v → (∀ b, S b → b < w.heap.size) → totL r ≤ 1048576 → x.size ≤ 1048576 → OkN t → OkN now → OkN lf → Calls Try.prog 13 #[v, .agg #[.string x, .int .i64 now, .int .i64 lf], .agg #[.int .i64 t, .bool well]] w fun e w' => e = .returned (.tuple #[.agg #[.string (goS r x now lf t well).1.1, .int .i64 (goS r x now lf t well).1.2.1, .int .i64 (goS r x now lf t well).1.2.2], .bool (goS r x now lf t well).2]) ∧ Below w.heap.size w w') (PR : ∀ (S S2 : Nat → Prop) (r : List DRecPhase) (L : List DRecSay) (v vs : Value) (w : World), AtL S w r v → AtL S2 w L vs → (∀ b, S b → b < w.heap.size) → (∀ b, S2 b → b < w.heap.size) → totL r ≤ 1048576 → L.length ≤ 1048576 → Calls Try.prog 5 #[v, vs] w fun e w' => ∃ q, e = .returned (.tuple #[.agg #[.string (runS r L).1.1, .int .i64 (runS r L).1.2.1, .int .i64 (runS r L).1.2.2], q]) ∧ OnL (fun b => w.heap.size ≤ b ∧ b < w'.heap.size) w' (runS r L).2 q ∧ Below w.heap.size w w') (ob : Option Addr) (n cb : Nat) (f : Nat → Int) (w : World) (hn : n ≤ maxLen) (hnc : n ≤ cb) (fb : ∀ i, 0 ≤ f i ∧ f i ≤ 255)
    (ce : ∀ i, i < n → ∃ b off, ob = some ⟨b, off, none⟩ ∧ b < w.heap.size ∧ w.cell? ⟨b, off + i, none⟩ = some (.int .u8 (f i))) :
    Calls Try.prog 3 #[.slice ob n cb] w fun e w' => e = .returned (.bool true) ∧ Below w.heap.size w w' := by
  have hn' := hn
  unfold maxLen at hn'
  by_cases hbig : (1048576 : Int) < (n : Int)
  · go_enter Try.func3, Try.ntmps3
    go_wp2_with fail
    go_ret
    exact ⟨rfl, Below.refl _ _⟩
  have CD : Hid _ := drawR_any ob n cb f w hn hnc fb ce
  clear fb ce hn hnc
  go_enter Try.func3, Try.ntmps3
  go_wp2_with fail
  refine Calls.mono CD.out ?_
  rintro e w1 ⟨v, M, q, L, rfl, hm, hz, hL, hok, RW, RQ, B1⟩
  obtain ⟨oo, ko, hf⟩ := Row.form RW.out
  subst hf
  obtain ⟨ol, kl, hf⟩ := Row.form RQ.out
  subst hf
  have HT : Hid (totL M ≤ 1048576) := tot_PzL hm hz
  have AT : Hid (∀ u, Below w1.heap.size w1 u → AtL (fun b => w.heap.size ≤ b ∧ b < w1.heap.size) u M (.slice oo M.length ko)) := fun u hu => (flatR.row_at RW.out (fun q hq => World.ownsRow.lt RW.out q hq) (fun x hx => (hz x hx).ok (by omega))).same (Same.of_below hu (fun b hb => hb.2))
  have AL : Hid (∀ u, Below w1.heap.size w1 u → AtL (fun b => w.heap.size ≤ b ∧ b < w1.heap.size) u L (.slice ol L.length kl)) := fun u hu => (flatY.row_at RQ.out (fun q hq => World.ownsRow.lt RQ.out q hq) hok).same (Same.of_below hu (fun b hb => hb.2))
  have HS : Hid (∀ u, Below w1.heap.size w1 u → ∀ b, (w.heap.size ≤ b ∧ b < w1.heap.size) → b < u.heap.size) := fun u hu b hb => Nat.lt_of_lt_of_le hb.2 hu.size
  have BQ : Hid (∀ u, Below w1.heap.size w1 u → Below w.heap.size w u) := fun u hu => B1.out.trans (hu.mono B1.out.size)
  have B0 : Hid (Below w1.heap.size w1 w1) := Below.refl _ _
  have HOK : Hid (∀ x ∈ L, OkY x) := hok
  obtain ⟨nl, hnl⟩ : ∃ nl, M.length = nl := ⟨_, rfl⟩
  have HLK : Hid (M.length = nl) := hnl
  obtain ⟨ml, hml⟩ : ∃ ml, L.length = ml := ⟨_, rfl⟩
  have HML : Hid (L.length = ml) := hml
  rw [hnl] at AT hm
  rw [hml] at AL hL
  rw [hnl, hml]
  clear hnl hml hz hok RW RQ CD B1
  have HN : Hid (∀ y ∈ (runS M L).2, y.size ≤ maxLen) := fun y hy => by have := (run_names (r := M) L).1 y hy; unfold maxLen; omega
  have hN2 : (runS M L).2.length ≤ 12 := (run_names (r := M) L).2
  have C : Hid _ := PR _ _ M L _ _ w1 (AT.out _ B0.out) (AL.out _ B0.out) (HS.out _ B0.out) (HS.out _ B0.out) HT.out (by have := HML.out; omega)
  have CX : Hid (∀ u, Below w1.heap.size w1 u → _) := fun u hu => runX_any _ _ M L _ _ u (AT.out _ hu) (AL.out _ hu) (HS.out _ hu) (HS.out _ hu)
  obtain ⟨RR, hRR⟩ : ∃ z, runS M L = z := ⟨_, rfl⟩
  have ER : Hid (runS M L = RR) := hRR
  rw [hRR] at C CX HN hN2
  clear hRR
  obtain ⟨⟨sa, sn, sl⟩, P⟩ := RR
  simp only at C CX HN hN2
  go_wp2_with fail
  refine Calls.mono C.out ?_; rintro e w2 ⟨pv, rfl, hon, hb⟩
  have B2 : Hid (Below w1.heap.size w1 w2) := hb
  have z2 := hb.size
  obtain ⟨W3, hW3⟩ : ∃ W3, W3 = w2.alloc (.cells #[.string sa, .int .i64 sn, .int .i64 sl] 28) := ⟨_, rfl⟩
  have E3 : Hid (W3 = w2.alloc (.cells #[.string sa, .int .i64 sn, .int .i64 sl] 28)) := hW3
  have B3 : Hid (Below w2.heap.size w2 W3) := by rw [hW3]; exact (Below.refl _ _).alloc (Nat.le_refl _) _
  have z3 : W3.heap.size = w2.heap.size + 1 := by rw [hW3]; simp
  have K5 : Hid (W3.heap[w2.heap.size]? = some (.cells #[.string sa, .int .i64 sn, .int .i64 sl] 28 (0, 0))) := by rw [hW3]; exact heap_alloc_new w2 _
  have PA0 : Hid (AtL (fun b => w1.heap.size ≤ b ∧ b < w2.heap.size) w2 P pv) := hon.at_
  clear hW3 C hb hon
  obtain ⟨op, kp, evp, -⟩ := id PA0.out
  subst evp
  obtain ⟨np, hnp⟩ : ∃ np, P.length = np := ⟨_, rfl⟩
  have HNP : Hid (P.length = np) := hnp
  rw [hnp] at PA0 hN2
  rw [hnp]
  clear hnp
  have BB3 : Hid (∀ u, Below W3.heap.size W3 u → Below w2.heap.size w2 u) := fun u hu => B3.out.trans (hu.mono B3.out.size)
  have BB1 : Hid (∀ u, Below w2.heap.size w2 u → Below w1.heap.size w1 u) := fun u hu => B2.out.trans (hu.mono B2.out.size)
  have PA : Hid (∀ u, Below w2.heap.size w2 u → AtL (fun b => w1.heap.size ≤ b ∧ b < w2.heap.size) u P (.slice op np kp)) := fun u hu => PA0.out.same (Same.of_below hu (fun b hb => hb.2))
  have KK5 : Hid (∀ u, Below W3.heap.size W3 u → u.heap[w2.heap.size]? = some (.cells #[.string sa, .int .i64 sn, .int .i64 sl] 28 (0, 0))) := fun u hu => (hu.block _ (by omega)).trans K5.out
  clear PA0 K5
  have C : Hid _ := CX.out W3 (BB1.out _ (BB3.out _ (Below.refl _ _)))
  go_upto_region 5 with fail
  rw [← E3.out]
  clear E3 CX
  go_wp2_with fail
  refine Calls.mono C.out ?_; rintro e w4 ⟨tv, rfl, hrow, hb⟩
  have B4 : Hid (Below W3.heap.size W3 w4) := hb
  have TA0 : Hid (AtL (fun b => W3.heap.size ≤ b ∧ b < w4.heap.size) w4 P tv) := at_rowX hrow HN.out (by have := HNP.out; omega)
  have z4 := hb.size
  obtain ⟨W5, hW5⟩ : ∃ W5, W5 = w4.alloc (.cells #[.string sa, .int .i64 sn, .int .i64 sl] 28) := ⟨_, rfl⟩
  have E5 : Hid (W5 = w4.alloc (.cells #[.string sa, .int .i64 sn, .int .i64 sl] 28)) := hW5
  have B5 : Hid (Below w4.heap.size w4 W5) := by rw [hW5]; exact (Below.refl _ _).alloc (Nat.le_refl _) _
  have K7 : Hid (W5.heap[w4.heap.size]? = some (.cells #[.string sa, .int .i64 sn, .int .i64 sl] 28 (0, 0))) := by rw [hW5]; exact heap_alloc_new w4 _
  have B35 : Hid (Below W3.heap.size W3 W5) := B4.out.trans (B5.out.mono B4.out.size)
  have TA : Hid (AtL (fun b => W3.heap.size ≤ b ∧ b < w4.heap.size) W5 P tv) := TA0.out.same (Same.of_below B5.out (fun b hb => hb.2))
  have z5 := B5.out.size
  clear hW5 C hb hrow TA0
  have C : Hid _ := wrTexts_any _ _ P _ tv W5 (PA.out _ (BB3.out _ B35.out)) TA.out (fun b hb => by have := B35.out.size; omega) (fun b hb => by omega)
  have k50 := (cell_row (KK5.out W5 B35.out) 0 (.string sa) rfl).1
  have k51 := (cell_row (KK5.out W5 B35.out) 1 (.int .i64 sn) rfl).1
  have k52 := (cell_row (KK5.out W5 B35.out) 2 (.int .i64 sl) rfl).1
  have k70 := (cell_row K7.out 0 (.string sa) rfl).1
  have k71 := (cell_row K7.out 1 (.int .i64 sn) rfl).1
  have k72 := (cell_row K7.out 2 (.int .i64 sl) rfl).1
  go_upto_region 6 with fail
  rw [← E5.out]
  clear E5
  go_wp2_with fail
  refine Calls.mono C.out ?_; rintro e w6 ⟨rfl, hb⟩
  have B6 : Hid (Below W3.heap.size W3 w6) := B35.out.trans (hb.mono B35.out.size)
  clear hb C k50 k51 k52 k70 k71 k72 TA K7 B5 B4 B35 z5
  have C : Hid _ := okX_any _ M _ w6 (AT.out _ (BB1.out _ (BB3.out _ B6.out))) (HS.out _ (BB1.out _ (BB3.out _ B6.out)))
  go_wp2_with fail
  refine Calls.mono C.out ?_; rintro e w7 ⟨rfl, hb⟩
  have B7 : Hid (Below W3.heap.size W3 w7) := B6.out.trans (hb.mono B6.out.size)
  clear hb C B6
  have k50 := (cell_row (KK5.out w7 B7.out) 0 (.string sa) rfl).1
  have k51 := (cell_row (KK5.out w7 B7.out) 1 (.int .i64 sn) rfl).1
  have k52 := (cell_row (KK5.out w7 B7.out) 2 (.int .i64 sl) rfl).1
  cases hr : recB M
  · have e := ER.out
    rw [show runS M L = ((⟨#[]⟩, 0, 0), []) by unfold runS begS; rw [hr]; rfl] at e
    simp only [Prod.mk.injEq] at e
    obtain ⟨⟨rfl, rfl, rfl⟩, rfl⟩ := e
    obtain rfl : 0 = np := HNP.out
    go_wp2_with fail
    go_ret
    exact ⟨rfl, BQ.out _ (BB1.out _ (BB3.out _ B7.out))⟩
  · have HR : Hid (RecP M) := rec_iff.1 hr
    obtain ⟨m, hm⟩ := run_all HR.out L
    have RP : Hid (RunP M L m) := hm
    have hst : stF M L m = (sa, sn, sl) ∧ paF M L m = P := by
      have e := ER.out
      rw [hm.run] at e
      simpa using e
    have EST : Hid (stF M L m = (sa, sn, sl)) := hst.1
    have EPA : Hid (paF M L m = P) := hst.2
    obtain rfl : m = np := by have := HNP.out; rw [← hst.2, pa_len] at this; exact this
    clear hst hm
    have hm1 := RP.out.pos
    have hm2 := RP.out.le
    obtain ⟨b, off, rfl⟩ : ∃ b off, oo = some ⟨b, off, none⟩ := by
      obtain ⟨oa, cap, ev, hx⟩ := AT.out w1 B0.out
      obtain ⟨b, off, hoo, _⟩ := hx.2 0 (by have := HR.out.1; omega)
      obtain ⟨ho1, _, _⟩ : oo = oa ∧ nl = M.length ∧ ko = cap := by simpa using ev
      exact ⟨b, off, ho1.trans hoo⟩
    obtain ⟨pb, poff, rfl⟩ : ∃ b off, op = some ⟨b, off, none⟩ := by
      obtain ⟨oa, cap, ev, hx⟩ := PA.out w2 (Below.refl _ _)
      obtain ⟨b, off, hoo, _⟩ := hx.2 0 (by have := HNP.out; omega)
      obtain ⟨ho1, _, _⟩ : op = oa ∧ m = P.length ∧ kp = cap := by simpa using ev
      exact ⟨b, off, ho1.trans hoo⟩
    have hnl1 : 1 ≤ nl ∧ nl ≤ 12 := by have := HR.out.1; have := HLK.out; omega
    have ENO : Hid (¬ endI sa = 0) := by have := RP.out.end_ HR.out; rw [EST.out] at this; exact this
    have CAN : Hid (canF 12 M (begS M).1 (endI sa) = true) := by have := RP.out.can_ HR.out; rw [EST.out] at this; exact this
    have TIM : Hid (sn ≤ bndF 12 M (begS M).1) := by have := RP.out.in_time; rw [EST.out] at this; exact this
    have LF0 : Hid (sl = 0) := by have := RP.out.left0; rw [EST.out] at this; exact this
    obtain rfl : 0 = sl := LF0.out.symm
    obtain ⟨x0, hx0⟩ : ∃ x0, (begS M).1 = x0 := ⟨_, rfl⟩
    have X0 : Hid (begS M = (x0, (0 : Int), bndF 12 M x0)) := by show _ = _; rw [← hx0, beg_at HR.out]
    rw [hx0] at CAN TIM
    have N0 : Hid (∀ u, Below w1.heap.size w1 u → u.cell? ⟨b, off, none⟩ = some (.string x0)) := fun u hu => by
      have := (row_pc (AT.out u hu) 0 (by have := HLK.out; omega)).1
      rw [Nat.zero_mul, Nat.add_zero] at this
      rw [this, ← hx0, beg_at HR.out]
    have PN : Hid (∀ u, Below w2.heap.size w2 u → ∀ i, i < m → u.cell? ⟨pb, poff + i, none⟩ = some (.string (stF M L i).1)) := fun u hu i hi => by
      have h1 := txt_cell (PA.out u hu) i (by have := HNP.out; omega)
      have h2 : P[i]'(by have := HNP.out; omega) = (stF M L i).1 := by
        have h3 := pa_at M L hi
        rw [EPA.out, List.getElem?_eq_getElem (by have := HNP.out; omega)] at h3
        exact Option.some.inj h3
      rw [h1, h2]
    have P0 : Hid (∀ u, Below w2.heap.size w2 u → u.cell? ⟨pb, poff, none⟩ = some (.string x0)) := fun u hu => by
      have := PN.out u hu 0 (by omega)
      rw [Nat.add_zero] at this
      rw [this]
      show some (Value.string (begS M).1) = _
      rw [hx0]
    clear hx0
    go_wp2_with fail
    refine (endP_any sa _).mono ?_; rintro e' u7 ⟨rfl, rfl⟩
    obtain ⟨en, hen⟩ : ∃ en, endI sa = en := ⟨_, rfl⟩
    have HEI : Hid (inB en 1 3 = true) := by show inB en 1 3 = true; rw [← hen]; exact end_in ENO.out
    rw [hen] at ENO CAN
    rw [hen]
    clear hen
    obtain ⟨bd, hbd⟩ : ∃ z, bndF 12 M x0 = z := ⟨_, rfl⟩
    rw [hbd] at TIM X0
    have MC : Hid (∀ u, Below u7.heap.size u7 u → Calls Try.prog 10 #[.slice (some ⟨b, off, none⟩) nl ko, .string x0, .int .i64 en] u fun e w' => e = .returned (.bool true) ∧ Below u.heap.size u w') := fun u hu => by
      have hb := BB1.out _ (BB3.out _ (B7.out.trans (hu.mono B7.out.size)))
      have h := mayI_any _ M _ x0 en u (AT.out _ hb) (HS.out _ hb) HT.out
      rw [hr, HEI.out, CAN.out] at h
      exact h
    have BC : Hid (∀ u, Below u7.heap.size u7 u → Calls Try.prog 11 #[.slice (some ⟨b, off, none⟩) nl ko, .string x0] u fun e w' => e = .returned (.int .i64 bd) ∧ Below u.heap.size u w') := fun u hu => by
      have hb := BB1.out _ (BB3.out _ (B7.out.trans (hu.mono B7.out.size)))
      have h := boundI_any _ M _ x0 u (AT.out _ hb) (HS.out _ hb) HT.out
      rw [hr, if_pos rfl, hbd] at h
      exact h
    have N7 : Hid (∀ u, Below u7.heap.size u7 u → u.cell? ⟨b, off, none⟩ = some (.string x0)) := fun u hu => N0.out u (BB1.out _ (BB3.out _ (B7.out.trans (hu.mono B7.out.size))))
    have P7 : Hid (∀ u, Below u7.heap.size u7 u → u.cell? ⟨pb, poff, none⟩ = some (.string x0)) := fun u hu => P0.out u (BB3.out _ (B7.out.trans (hu.mono B7.out.size)))
    have S1 : Hid (∀ u, Below u7.heap.size u7 u → u.cell? ⟨w2.heap.size, 1, none⟩ = some (.int .i64 sn)) := fun u hu => (cell_row (KK5.out u (B7.out.trans (hu.mono B7.out.size))) 1 (.int .i64 sn) rfl).1
    have S2 : Hid (∀ u, Below u7.heap.size u7 u → u.cell? ⟨w2.heap.size, 2, none⟩ = some (.int .i64 0)) := fun u hu => (cell_row (KK5.out u (B7.out.trans (hu.mono B7.out.size))) 2 (.int .i64 0) rfl).1
    have en0 : (en == 0) = false := by have := ENO.out; simpa using this
    have tim : decide (bd < sn) = false := by have := TIM.out; simp; omega
    have mm0 : ((m : Int) == 0) = false := by simp; omega
    clear k50 k51 k52
    go_upto_region 11 with fail
    have hdr : Hid (Below u7.heap.size u7 u7.drew) := (Below.refl _ _).drew
    refine wp_region_movesC (fun v => Below u7.heap.size u7 v) 42 [] (by kernel_rfl) (by kernel_rfl) hdr.out ?_
    simp only [List.filterMap_nil, movD]
    refine takeHQ (f := 41) (i := 0) (.int .i64 en) ⟨rfl, rfl⟩ (by kernel_rfl) rfl hdr.out ?r0 ?_
    case r0 => intro v hv; go_simp
    simp only [Act.put, List.setIfInBounds_toArray, List.set_cons_zero, List.set_cons_succ]
    refine takeHQ (f := 40) (i := 1) (.bool false) ⟨rfl, rfl⟩ (by kernel_rfl) rfl hdr.out ?r1 ?_
    case r1 => intro v hv; go_simp
    simp only [Act.put, List.setIfInBounds_toArray, List.set_cons_zero, List.set_cons_succ]
    refine takeHQ (f := 39) (i := 2) (.bool false) ⟨rfl, rfl⟩ (by kernel_rfl) rfl hdr.out ?r2 ?_
    case r2 => intro v hv; go_simp
    simp only [Act.put, List.setIfInBounds_toArray, List.set_cons_zero, List.set_cons_succ]
    refine takeHQ (f := 38) (i := 3) (.slice (some ⟨b, off, none⟩) nl ko) ⟨rfl, rfl⟩ (by kernel_rfl) rfl hdr.out ?r3 ?_
    case r3 => intro v hv; go_simp
    simp only [Act.put, List.setIfInBounds_toArray, List.set_cons_zero, List.set_cons_succ]
    refine takeHQ (f := 37) (i := 4) (.slice (some ⟨b, off, none⟩) nl ko) ⟨rfl, rfl⟩ (by kernel_rfl) rfl hdr.out ?r4 ?_
    case r4 => intro v hv; go_simp
    simp only [Act.put, List.setIfInBounds_toArray, List.set_cons_zero, List.set_cons_succ]
    refine takeHQ (f := 36) (i := 5) (.pointer (some ⟨b, off, none⟩)) ⟨rfl, rfl⟩ (by kernel_rfl) rfl hdr.out ?r5 ?_
    case r5 => intro v hv; go_simp; intro h; exfalso; omega
    simp only [Act.put, List.setIfInBounds_toArray, List.set_cons_zero, List.set_cons_succ]
    refine takeHQ (f := 35) (i := 6) (.pointer (some ⟨b, off, none⟩)) ⟨rfl, rfl⟩ (by kernel_rfl) rfl hdr.out ?r6 ?_
    case r6 => intro v hv; go_simp
    simp only [Act.put, List.setIfInBounds_toArray, List.set_cons_zero, List.set_cons_succ]
    refine takeHQ (f := 34) (i := 7) (.string x0) ⟨rfl, rfl⟩ (by kernel_rfl) rfl hdr.out ?r7 ?_
    case r7 => intro v hv; have k0 := N7.out v hv; go_simp
    simp only [Act.put, List.setIfInBounds_toArray, List.set_cons_zero, List.set_cons_succ]
    refine takeHQ (f := 33) (i := 8) (.int .i64 en) ⟨rfl, rfl⟩ (by kernel_rfl) rfl hdr.out ?r8 ?_
    case r8 => intro v hv; go_simp
    simp only [Act.put, List.setIfInBounds_toArray, List.set_cons_zero, List.set_cons_succ]
    refine callHd (f := 32) (i := 9) (d := 67) (fn := 10) (args := #[.slice (some ⟨b, off, none⟩) nl ko, .string x0, .int .i64 en]) ⟨rfl, rfl⟩ (by decide) (by kernel_rfl) rfl ?rc ((MC.out u7.drew hdr.out).mono ?_)
    case rc => go_simp
    rintro e wc ⟨rfl, hb⟩
    have HBC : Hid (Below u7.heap.size u7 wc) := hdr.out.trans hb
    clear hb
    refine ⟨_, rfl, HBC.out, ?_⟩
    simp only [Act.put, List.setIfInBounds_toArray, List.set_cons_zero, List.set_cons_succ]
    refine takeHQ (f := 31) (i := 10) (.bool false) ⟨rfl, rfl⟩ (by kernel_rfl) rfl HBC.out ?r10 ?_
    case r10 => intro v hv; go_simp
    simp only [Act.put, List.setIfInBounds_toArray, List.set_cons_zero, List.set_cons_succ]
    refine takeHQ (f := 30) (i := 11) (.bool false) ⟨rfl, rfl⟩ (by kernel_rfl) rfl HBC.out ?r11 ?_
    case r11 => intro v hv; go_simp
    simp only [Act.put, List.setIfInBounds_toArray, List.set_cons_zero, List.set_cons_succ]
    refine takeHQ (f := 29) (i := 12) (.bool false) ⟨rfl, rfl⟩ (by kernel_rfl) rfl HBC.out ?r12 ?_
    case r12 => intro v hv; go_simp
    simp only [Act.put, List.setIfInBounds_toArray, List.set_cons_zero, List.set_cons_succ]
    refine takeHQ (f := 28) (i := 13) (.pointer (some ⟨w2.heap.size, 1, none⟩)) ⟨rfl, rfl⟩ (by kernel_rfl) rfl HBC.out ?r13 ?_
    case r13 => intro v hv; go_simp
    simp only [Act.put, List.setIfInBounds_toArray, List.set_cons_zero, List.set_cons_succ]
    refine takeHQ (f := 27) (i := 14) (.int .i64 sn) ⟨rfl, rfl⟩ (by kernel_rfl) rfl HBC.out ?r14 ?_
    case r14 => intro v hv; have k0 := S1.out v hv; go_simp
    simp only [Act.put, List.setIfInBounds_toArray, List.set_cons_zero, List.set_cons_succ]
    refine takeHQ (f := 26) (i := 15) (.slice (some ⟨b, off, none⟩) nl ko) ⟨rfl, rfl⟩ (by kernel_rfl) rfl HBC.out ?r15 ?_
    case r15 => intro v hv; go_simp
    simp only [Act.put, List.setIfInBounds_toArray, List.set_cons_zero, List.set_cons_succ]
    refine takeHQ (f := 25) (i := 16) (.slice (some ⟨b, off, none⟩) nl ko) ⟨rfl, rfl⟩ (by kernel_rfl) rfl HBC.out ?r16 ?_
    case r16 => intro v hv; go_simp
    simp only [Act.put, List.setIfInBounds_toArray, List.set_cons_zero, List.set_cons_succ]
    refine takeHQ (f := 24) (i := 17) (.pointer (some ⟨b, off, none⟩)) ⟨rfl, rfl⟩ (by kernel_rfl) rfl HBC.out ?r17 ?_
    case r17 => intro v hv; go_simp; intro h; exfalso; omega
    simp only [Act.put, List.setIfInBounds_toArray, List.set_cons_zero, List.set_cons_succ]
    refine takeHQ (f := 23) (i := 18) (.pointer (some ⟨b, off, none⟩)) ⟨rfl, rfl⟩ (by kernel_rfl) rfl HBC.out ?r18 ?_
    case r18 => intro v hv; go_simp
    simp only [Act.put, List.setIfInBounds_toArray, List.set_cons_zero, List.set_cons_succ]
    refine takeHQ (f := 22) (i := 19) (.string x0) ⟨rfl, rfl⟩ (by kernel_rfl) rfl HBC.out ?r19 ?_
    case r19 => intro v hv; have k0 := N7.out v hv; go_simp
    simp only [Act.put, List.setIfInBounds_toArray, List.set_cons_zero, List.set_cons_succ]
    refine callHd (f := 21) (i := 20) (d := 78) (fn := 11) (args := #[.slice (some ⟨b, off, none⟩) nl ko, .string x0]) ⟨rfl, rfl⟩ (by decide) (by kernel_rfl) rfl ?rc ((BC.out wc HBC.out).mono ?_)
    case rc => go_simp
    rintro e w8 ⟨rfl, hb⟩
    have HB8 : Hid (Below u7.heap.size u7 w8) := HBC.out.trans (hb.mono HBC.out.size)
    clear hb
    refine ⟨_, rfl, HB8.out, ?_⟩
    simp only [Act.put, List.setIfInBounds_toArray, List.set_cons_zero, List.set_cons_succ]
    refine takeHQ (f := 20) (i := 21) (.bool false) ⟨rfl, rfl⟩ (by kernel_rfl) rfl HB8.out ?r21 ?_
    case r21 => intro v hv; go_simp
    simp only [Act.put, List.setIfInBounds_toArray, List.set_cons_zero, List.set_cons_succ]
    refine takeHQ (f := 19) (i := 22) (.bool false) ⟨rfl, rfl⟩ (by kernel_rfl) rfl HB8.out ?r22 ?_
    case r22 => intro v hv; go_simp
    simp only [Act.put, List.setIfInBounds_toArray, List.set_cons_zero, List.set_cons_succ]
    refine takeHQ (f := 18) (i := 23) (.bool false) ⟨rfl, rfl⟩ (by kernel_rfl) rfl HB8.out ?r23 ?_
    case r23 => intro v hv; go_simp
    simp only [Act.put, List.setIfInBounds_toArray, List.set_cons_zero, List.set_cons_succ]
    refine takeHQ (f := 17) (i := 24) (.pointer (some ⟨w2.heap.size, 2, none⟩)) ⟨rfl, rfl⟩ (by kernel_rfl) rfl HB8.out ?r24 ?_
    case r24 => intro v hv; go_simp
    simp only [Act.put, List.setIfInBounds_toArray, List.set_cons_zero, List.set_cons_succ]
    refine takeHQ (f := 16) (i := 25) (.int .i64 0) ⟨rfl, rfl⟩ (by kernel_rfl) rfl HB8.out ?r25 ?_
    case r25 => intro v hv; have k0 := S2.out v hv; go_simp
    simp only [Act.put, List.setIfInBounds_toArray, List.set_cons_zero, List.set_cons_succ]
    refine takeHQ (f := 15) (i := 26) (.bool false) ⟨rfl, rfl⟩ (by kernel_rfl) rfl HB8.out ?r26 ?_
    case r26 => intro v hv; go_simp
    simp only [Act.put, List.setIfInBounds_toArray, List.set_cons_zero, List.set_cons_succ]
    refine takeHQ (f := 14) (i := 27) (.bool false) ⟨rfl, rfl⟩ (by kernel_rfl) rfl HB8.out ?r27 ?_
    case r27 => intro v hv; go_simp
    simp only [Act.put, List.setIfInBounds_toArray, List.set_cons_zero, List.set_cons_succ]
    refine takeHQ (f := 13) (i := 28) (.bool false) ⟨rfl, rfl⟩ (by kernel_rfl) rfl HB8.out ?r28 ?_
    case r28 => intro v hv; go_simp
    simp only [Act.put, List.setIfInBounds_toArray, List.set_cons_zero, List.set_cons_succ]
    refine takeHQ (f := 12) (i := 29) (.slice (some ⟨pb, poff, none⟩) m kp) ⟨rfl, rfl⟩ (by kernel_rfl) rfl HB8.out ?r29 ?_
    case r29 => intro v hv; go_simp
    simp only [Act.put, List.setIfInBounds_toArray, List.set_cons_zero, List.set_cons_succ]
    refine takeHQ (f := 11) (i := 30) (.int .i64 m) ⟨rfl, rfl⟩ (by kernel_rfl) rfl HB8.out ?r30 ?_
    case r30 => intro v hv; go_simp
    simp only [Act.put, List.setIfInBounds_toArray, List.set_cons_zero, List.set_cons_succ]
    refine takeHQ (f := 10) (i := 31) (.bool false) ⟨rfl, rfl⟩ (by kernel_rfl) rfl HB8.out ?r31 ?_
    case r31 => intro v hv; go_simp
    simp only [Act.put, List.setIfInBounds_toArray, List.set_cons_zero, List.set_cons_succ]
    refine takeHQ (f := 9) (i := 32) (.bool false) ⟨rfl, rfl⟩ (by kernel_rfl) rfl HB8.out ?r32 ?_
    case r32 => intro v hv; go_simp
    simp only [Act.put, List.setIfInBounds_toArray, List.set_cons_zero, List.set_cons_succ]
    refine takeHQ (f := 8) (i := 33) (.bool false) ⟨rfl, rfl⟩ (by kernel_rfl) rfl HB8.out ?r33 ?_
    case r33 => intro v hv; go_simp
    simp only [Act.put, List.setIfInBounds_toArray, List.set_cons_zero, List.set_cons_succ]
    refine takeHQ (f := 7) (i := 34) (.slice (some ⟨pb, poff, none⟩) m kp) ⟨rfl, rfl⟩ (by kernel_rfl) rfl HB8.out ?r34 ?_
    case r34 => intro v hv; go_simp
    simp only [Act.put, List.setIfInBounds_toArray, List.set_cons_zero, List.set_cons_succ]
    refine takeHQ (f := 6) (i := 35) (.pointer (some ⟨pb, poff, none⟩)) ⟨rfl, rfl⟩ (by kernel_rfl) rfl HB8.out ?r35 ?_
    case r35 => intro v hv; go_simp; intro h; exfalso; omega
    simp only [Act.put, List.setIfInBounds_toArray, List.set_cons_zero, List.set_cons_succ]
    refine takeHQ (f := 5) (i := 36) (.string x0) ⟨rfl, rfl⟩ (by kernel_rfl) rfl HB8.out ?r36 ?_
    case r36 => intro v hv; have k0 := P7.out v hv; go_simp
    simp only [Act.put, List.setIfInBounds_toArray, List.set_cons_zero, List.set_cons_succ]
    refine takeHQ (f := 4) (i := 37) (.slice (some ⟨b, off, none⟩) nl ko) ⟨rfl, rfl⟩ (by kernel_rfl) rfl HB8.out ?r37 ?_
    case r37 => intro v hv; go_simp
    simp only [Act.put, List.setIfInBounds_toArray, List.set_cons_zero, List.set_cons_succ]
    refine takeHQ (f := 3) (i := 38) (.pointer (some ⟨b, off, none⟩)) ⟨rfl, rfl⟩ (by kernel_rfl) rfl HB8.out ?r38 ?_
    case r38 => intro v hv; go_simp; intro h; exfalso; omega
    simp only [Act.put, List.setIfInBounds_toArray, List.set_cons_zero, List.set_cons_succ]
    refine takeHQ (f := 2) (i := 39) (.pointer (some ⟨b, off, none⟩)) ⟨rfl, rfl⟩ (by kernel_rfl) rfl HB8.out ?r39 ?_
    case r39 => intro v hv; go_simp
    simp only [Act.put, List.setIfInBounds_toArray, List.set_cons_zero, List.set_cons_succ]
    refine takeHQ (f := 1) (i := 40) (.string x0) ⟨rfl, rfl⟩ (by kernel_rfl) rfl HB8.out ?r40 ?_
    case r40 => intro v hv; have k0 := N7.out v hv; go_simp
    simp only [Act.put, List.setIfInBounds_toArray, List.set_cons_zero, List.set_cons_succ]
    refine takeHQ (f := 0) (i := 41) (.bool false) ⟨rfl, rfl⟩ (by kernel_rfl) rfl HB8.out ?r41 ?_
    case r41 => intro v hv; go_simp
    simp only [Act.put, List.setIfInBounds_toArray, List.set_cons_zero, List.set_cons_succ]
    refine ⟨by kernel_rfl, ?_⟩
    simp only [List.drop_succ_cons, List.drop_zero]
    have B8 : Hid (Below W3.heap.size W3 w8) := B7.out.trans (HB8.out.mono B7.out.size)
    have C : Hid _ := PB _ M _ w8 (AT.out _ (BB1.out _ (BB3.out _ B8.out))) (HS.out _ (BB1.out _ (BB3.out _ B8.out))) HT.out
    rw [X0.out] at C
    simp only at C
    clear MC BC N7 P7 S1 S2 HB8 hdr
    go_wp2_with fail
    refine Calls.mono C.out ?_; rintro e w9 ⟨rfl, hb⟩
    have B9 : Hid (Below W3.heap.size W3 w9) := B8.out.trans (hb.mono B8.out.size)
    clear hb C B8
    obtain ⟨Y, hY⟩ : ∃ Y, Y = w9.alloc (.cells #[.string x0, .int .i64 0, .int .i64 bd] 28) := ⟨_, rfl⟩
    have EY : Hid (Y = w9.alloc (.cells #[.string x0, .int .i64 0, .int .i64 bd] 28)) := hY
    have BY : Hid (Below w9.heap.size w9 Y) := by rw [hY]; exact (Below.refl _ _).alloc (Nat.le_refl _) _
    have KY : Hid (Y.heap[w9.heap.size]? = some (.cells #[.string (stF M L 0).1, .int .i64 (stF M L 0).2.1, .int .i64 (stF M L 0).2.2] 28 (0, 0))) := by
      show _ = _
      rw [show stF M L 0 = begS M from rfl, X0.out, hY]; exact heap_alloc_new w9 _
    have zY : Y.heap.size = w9.heap.size + 1 := by rw [hY]; simp
    clear hY
    have BB9 : Hid (∀ u, Below w9.heap.size w9 u → Below W3.heap.size W3 u) := fun u hu => B9.out.trans (hu.mono B9.out.size)
    go_upto_region 14 with fail
    rw [← EY.out]
    clear EY
    go_wp2_with fail
    go_loopw [11] (fun i wr => ∃ j : Nat, j ≤ m ∧ i = .int .i64 j ∧ Hid (wr.heap[w9.heap.size]? = some (.cells #[.string (stF M L j).1, .int .i64 (stF M L j).2.1, .int .i64 (stF M L j).2.2] 28 (0, 0))) ∧ Hid (Below w9.heap.size w9 wr) ∧ w9.heap.size < wr.heap.size) (fun i _ => m - (intOf i).toNat)
    case atStart => exact ⟨0, by omega, rfl, KY, BY, by omega⟩
    case round =>
      clear KY BY zY
      obtain ⟨j, hj, rfl, KJ, BJ, zj⟩ := hrel
      by_cases hlt : j < m
      · obtain ⟨kk, SP⟩ := RP.out.step HR.out hlt
        have hnb := RP.out.now_le (i := j) (by omega)
        have hnb1 := RP.out.now_le (i := j + 1) (by omega)
        have hq := (RP.out.st j (by omega)).left
        have hbl := bnd_le HR.out 12 (stF M L j).1
        have hbl1 := bnd_le HR.out 12 (stF M L (j + 1)).1
        have hq1 := (RP.out.st (j + 1) (by omega)).left
        have ESJ : Hid (stF M L (j + 1) = (goS M (stF M L j).1 (stF M L j).2.1 (stF M L j).2.2 (sayT L j).1 (sayT L j).2).1) := rfl
        have PJ : Hid (∀ u, Below w2.heap.size w2 u → u.cell? ⟨pb, poff + j, none⟩ = some (.string (stF M L j).1)) := fun u hu => PN.out u hu j hlt
        have SBS : Hid (∀ y ∈ sltF 12 M (stF M L (j + 1)).1, y ∈ sltF 12 M (stF M L j).1) := by have := SP.slots; rw [← ESJ.out] at this; exact this
        have hlo : (stF M L j).2.1 ≤ (stF M L (j + 1)).2.1 := by have := SP.lo; rw [← ESJ.out] at this; exact this
        have hless : (stF M L (j + 1)).2.1 + (stF M L (j + 1)).2.2 ≤ (stF M L j).2.1 + (stF M L j).2.2 := by have := SP.less; rw [← ESJ.out, ← hq] at this; exact this
        have GOK : Hid (goS M (stF M L j).1 (stF M L j).2.1 (stF M L j).2.2 (sayT L j).1 (sayT L j).2 = (stF M L (j + 1), true)) := Prod.ext ESJ.out.symm SP.ok
        have hxz1 : (stF M L (j + 1)).1.size ≤ 8 := by have := SP.size; rw [← ESJ.out] at this; exact this
        have hxz0 : (stF M L j).1.size ≤ 8 := SP.here
        clear SP ESJ
        obtain ⟨s1, hs1⟩ : ∃ s, stF M L (j + 1) = s := ⟨_, rfl⟩
        obtain ⟨s0, hs0⟩ : ∃ s, stF M L j = s := ⟨_, rfl⟩
        have HS1 : Hid (stF M L (j + 1) = s1) := hs1
        rw [hs1] at hnb1 hbl1 hq1 SBS hlo hless GOK hxz1
        rw [hs0] at hnb hq hbl PJ SBS hlo hless GOK KJ hxz0
        clear hs1 hs0
        obtain ⟨x, now, lf⟩ := s0
        obtain ⟨x', now', lf'⟩ := s1
        simp only at hnb hnb1 hq hq1 hbl hbl1 PJ SBS hlo hless GOK KJ hxz0 hxz1
        have OKT : Hid (OkN (sayT L j).1) := by
          show _ ∧ _
          unfold sayT
          by_cases h : j < L.length
          · rw [List.getElem?_eq_getElem h]; exact HOK.out _ (List.getElem_mem h)
          · rw [List.getElem?_eq_none (by omega)]; decide
        have SAY : Hid (∀ h : j < L.length, sayT L j = L[j]) := fun h => by unfold sayT; rw [List.getElem?_eq_getElem h]; rfl
        have SAY2 : Hid (¬ j < L.length → sayT L j = (1001, false)) := fun h => by unfold sayT; rw [List.getElem?_eq_none (by omega)]; rfl
        obtain ⟨sy, hsy⟩ : ∃ s, sayT L j = s := ⟨_, rfl⟩
        rw [hsy] at GOK OKT SAY SAY2
        clear hsy
        obtain ⟨t, wl⟩ := sy
        simp only at GOK OKT
        have GO : Hid (∀ u, Below w9.heap.size w9 u → Calls Try.prog 13 #[.slice (some ⟨b, off, none⟩) nl ko, .agg #[.string x, .int .i64 now, .int .i64 lf], .agg #[.int .i64 t, .bool wl]] u fun e w' => e = .returned (.tuple #[.agg #[.string x', .int .i64 now', .int .i64 lf'], .bool true]) ∧ Below u.heap.size u w') := fun u hu => by
          have hb := BB1.out _ (BB3.out _ (BB9.out _ hu))
          have h := PG _ M _ x now lf t wl u (AT.out _ hb) (HS.out _ hb) HT.out (by omega) OKT.out (by show _ ∧ _; omega) (by show _ ∧ _; omega)
          rw [GOK.out] at h
          exact h
        have SLI : Hid (∀ y u, y.size ≤ 8 → Below w9.heap.size w9 u → Calls Try.prog 15 #[.slice (some ⟨b, off, none⟩) nl ko, .string y] u fun e w' => ∃ q, e = .returned q ∧ OnL (fun b => u.heap.size ≤ b ∧ b < w'.heap.size) w' (sltF 12 M y) q ∧ Below u.heap.size u w') := fun y u hy hu => by
          have hb := BB1.out _ (BB3.out _ (BB9.out _ hu))
          have h := slotsI_any _ M _ y u (AT.out _ hb) (HS.out _ hb) HT.out (by omega)
          rw [show slL M y = sltF 12 M y by unfold slL; rw [hr]; rfl] at h
          exact h
        have ALL : Hid (allT (sltF 12 M x') (sltF 12 M x) = true) := all_sub SBS.out
        have l1 : decide (now' < now) = false := by simp; omega
        have l2 : decide (now + lf < now' + lf') = false := by simp; omega
        have wr1 : IntKind.i64.wrap (now' + lf') = now' + lf' := wrap_s _ (by omega) (by omega)
        have wr2 : IntKind.i64.wrap (now + lf) = now + lf := wrap_s _ (by omega) (by omega)
        have zz := B9.out.size
        clear hnb hnb1 hq hq1 hbl hbl1 GOK OKT SBS hless hlo
        obtain ⟨X1, hX1⟩ : ∃ X1, X1 = wr.alloc (.cells #[.int .i64 1001, .bool false] 41) := ⟨_, rfl⟩
        have EX1 : Hid (X1 = wr.alloc (.cells #[.int .i64 1001, .bool false] 41)) := hX1
        have K12 : Hid (X1.heap[wr.heap.size]? = some (.cells #[.int .i64 1001, .bool false] 41 (0, 0))) := by rw [hX1]; exact heap_alloc_new wr _
        have BX1 : Hid (Below wr.heap.size wr X1) := by rw [hX1]; exact (Below.refl _ _).alloc (Nat.le_refl _) _
        clear hX1
        go_upto_region 18 with fail
        rw [← EX1.out]
        clear EX1
        by_cases hjl : j < ml
        · have hjL : j < L.length := by have := HML.out; omega
          obtain ⟨lb, loff, rfl⟩ : ∃ b off, ol = some ⟨b, off, none⟩ := by
            obtain ⟨oa, cap, ev, hx⟩ := AL.out w1 B0.out
            obtain ⟨b, off, hoo, _⟩ := hx.2 0 (by omega)
            obtain ⟨ho1, _, _⟩ : ol = oa ∧ ml = L.length ∧ kl = cap := by simpa using ev
            exact ⟨b, off, ho1.trans hoo⟩
          obtain ⟨c0, c1⟩ := say_cell (AL.out X1 (BB1.out _ (BB3.out _ (BB9.out _ (BJ.out.trans (BX1.out.mono BJ.out.size)))))) j hjL
          have es := SAY.out hjL
          rw [← es] at c0 c1
          simp only at c0 c1
          clear es
          obtain ⟨d0, e0⟩ := cell_row K12.out 0 (.int .i64 1001) rfl
          obtain ⟨d1, e1⟩ := cell_row K12.out 1 (.bool false) rfl
          have HF : Hid _ := ret2c K12.out (.int .i64 t) (.bool wl)
          obtain ⟨X2, hX2⟩ : ∃ X2, X2 = (X1.setCell ⟨wr.heap.size, 0, none⟩ (.int .i64 t)).setCell ⟨wr.heap.size, 1, none⟩ (.bool wl) := ⟨_, rfl⟩
          have EX2 : Hid (X2 = (X1.setCell ⟨wr.heap.size, 0, none⟩ (.int .i64 t)).setCell ⟨wr.heap.size, 1, none⟩ (.bool wl)) := hX2
          rw [← hX2] at HF
          clear hX2
          have K2 : Hid (X2.heap[wr.heap.size]? = some (.cells #[.int .i64 t, .bool wl] 41 (0, 0))) := HF.out.1
          have BX2 : Hid (Below wr.heap.size wr X2) := BX1.out.trans HF.out.2.2
          clear HF
          go_upto_region 20 with fail
          rw [← EX2.out]
          clear EX2 c0 c1 d0 d1 e0 e1 K12 BX1
          have z2' : wr.heap.size < X2.heap.size := (Array.getElem?_eq_some_iff.1 K2.out).1
          have BX : Hid (Below w9.heap.size w9 X2) := BJ.out.trans (BX2.out.mono BJ.out.size)
          have KJ2 : Hid (X2.heap[w9.heap.size]? = some (.cells #[.string x, .int .i64 now, .int .i64 lf] 28 (0, 0))) := (BX2.out.block _ zj).trans KJ.out
          have a0 := (cell_row KJ2.out 0 (.string x) rfl).1
          have a1 := (cell_row KJ2.out 1 (.int .i64 now) rfl).1
          have a2 := (cell_row KJ2.out 2 (.int .i64 lf) rfl).1
          have b0 := (cell_row K2.out 0 (.int .i64 t) rfl).1
          have b1 := (cell_row K2.out 1 (.bool wl) rfl).1
          have C : Hid _ := GO.out X2 BX.out
          go_wp2_with fail
          refine Calls.mono C.out ?_; rintro e w10 ⟨rfl, hb⟩
          have B10 : Hid (Below w9.heap.size w9 w10) := BX.out.trans (hb.mono BX.out.size)
          have KJ3 : Hid (w10.heap[w9.heap.size]? = some (.cells #[.string x, .int .i64 now, .int .i64 lf] 28 (0, 0))) := (hb.block _ (by omega)).trans KJ2.out
          have z10 := hb.size
          clear hb C a0 a1 a2 b0 b1 KJ2 KJ K2
          obtain ⟨Z, hZ⟩ : ∃ Z, Z = w10.alloc (.cells #[.string x', .int .i64 now', .int .i64 lf'] 28) := ⟨_, rfl⟩
          have EZ : Hid (Z = w10.alloc (.cells #[.string x', .int .i64 now', .int .i64 lf'] 28)) := hZ
          have BZ : Hid (Below w10.heap.size w10 Z) := by rw [hZ]; exact (Below.refl _ _).alloc (Nat.le_refl _) _
          have KZ : Hid (Z.heap[w10.heap.size]? = some (.cells #[.string x', .int .i64 now', .int .i64 lf'] 28 (0, 0))) := by rw [hZ]; exact heap_alloc_new w10 _
          have zZ : Z.heap.size = w10.heap.size + 1 := by rw [hZ]; simp
          clear hZ
          have BZ9 : Hid (Below w9.heap.size w9 Z) := B10.out.trans (BZ.out.mono B10.out.size)
          have BV : Hid (∀ v, Below Z.heap.size Z v → Below w9.heap.size w9 v) := fun v hv => BZ9.out.trans (hv.mono BZ9.out.size)
          have V10 : Hid (∀ v, Below Z.heap.size Z v → v.heap[w9.heap.size]? = some (.cells #[.string x, .int .i64 now, .int .i64 lf] 28 (0, 0))) := fun v hv => (hv.block _ (by omega)).trans ((BZ.out.block _ (by omega)).trans KJ3.out)
          have V13 : Hid (∀ v, Below Z.heap.size Z v → v.heap[w10.heap.size]? = some (.cells #[.string x', .int .i64 now', .int .i64 lf'] 28 (0, 0))) := fun v hv => (hv.block _ (by omega)).trans KZ.out
          have V0 : Hid (∀ v, Below Z.heap.size Z v → v.cell? ⟨w9.heap.size, 0, none⟩ = some (.string x)) := fun v hv => (cell_row (V10.out v hv) 0 (.string x) rfl).1
          have V1 : Hid (∀ v, Below Z.heap.size Z v → v.cell? ⟨w9.heap.size, 1, none⟩ = some (.int .i64 now)) := fun v hv => (cell_row (V10.out v hv) 1 (.int .i64 now) rfl).1
          have V2 : Hid (∀ v, Below Z.heap.size Z v → v.cell? ⟨w9.heap.size, 2, none⟩ = some (.int .i64 lf)) := fun v hv => (cell_row (V10.out v hv) 2 (.int .i64 lf) rfl).1
          have Y0 : Hid (∀ v, Below Z.heap.size Z v → v.cell? ⟨w10.heap.size, 0, none⟩ = some (.string x')) := fun v hv => (cell_row (V13.out v hv) 0 (.string x') rfl).1
          have Y1 : Hid (∀ v, Below Z.heap.size Z v → v.cell? ⟨w10.heap.size, 1, none⟩ = some (.int .i64 now')) := fun v hv => (cell_row (V13.out v hv) 1 (.int .i64 now') rfl).1
          have Y2 : Hid (∀ v, Below Z.heap.size Z v → v.cell? ⟨w10.heap.size, 2, none⟩ = some (.int .i64 lf')) := fun v hv => (cell_row (V13.out v hv) 2 (.int .i64 lf') rfl).1
          have PV : Hid (∀ v, Below Z.heap.size Z v → v.cell? ⟨pb, poff + j, none⟩ = some (.string x)) := fun v hv => PJ.out v (BB3.out _ (BB9.out _ (BV.out v hv)))
          clear KJ3 KZ BX BX2
          go_upto_region 21 with fail
          rw [← EZ.out]
          clear EZ
          have hdr : Hid (Below Z.heap.size Z Z.drew) := (Below.refl _ _).drew
          refine wp_region_movesC (fun v => Below Z.heap.size Z v) 42 [] (by kernel_rfl) (by kernel_rfl) hdr.out ?_
          simp only [List.filterMap_nil, movD]
          refine takeHQ (f := 41) (i := 0) (.bool true) ⟨rfl, rfl⟩ (by kernel_rfl) rfl hdr.out ?r0 ?_
          case r0 => intro v hv; go_simp
          simp only [Act.put, List.setIfInBounds_toArray, List.set_cons_zero, List.set_cons_succ]
          refine takeHQ (f := 40) (i := 1) (.bool false) ⟨rfl, rfl⟩ (by kernel_rfl) rfl hdr.out ?r1 ?_
          case r1 => intro v hv; go_simp
          simp only [Act.put, List.setIfInBounds_toArray, List.set_cons_zero, List.set_cons_succ]
          refine takeHQ (f := 39) (i := 2) (.bool false) ⟨rfl, rfl⟩ (by kernel_rfl) rfl hdr.out ?r2 ?_
          case r2 => intro v hv; go_simp
          simp only [Act.put, List.setIfInBounds_toArray, List.set_cons_zero, List.set_cons_succ]
          refine takeHQ (f := 38) (i := 3) (.pointer (some ⟨w9.heap.size, 0, none⟩)) ⟨rfl, rfl⟩ (by kernel_rfl) rfl hdr.out ?r3 ?_
          case r3 => intro v hv; go_simp
          simp only [Act.put, List.setIfInBounds_toArray, List.set_cons_zero, List.set_cons_succ]
          refine takeHQ (f := 37) (i := 4) (.string x) ⟨rfl, rfl⟩ (by kernel_rfl) rfl hdr.out ?r4 ?_
          case r4 => intro v hv; have k0 := V0.out v hv; go_simp
          simp only [Act.put, List.setIfInBounds_toArray, List.set_cons_zero, List.set_cons_succ]
          refine takeHQ (f := 36) (i := 5) (.slice (some ⟨pb, poff, none⟩) m kp) ⟨rfl, rfl⟩ (by kernel_rfl) rfl hdr.out ?r5 ?_
          case r5 => intro v hv; go_simp
          simp only [Act.put, List.setIfInBounds_toArray, List.set_cons_zero, List.set_cons_succ]
          refine takeHQ (f := 35) (i := 6) (.int .i64 j) ⟨rfl, rfl⟩ (by kernel_rfl) rfl hdr.out ?r6 ?_
          case r6 => intro v hv; go_simp
          simp only [Act.put, List.setIfInBounds_toArray, List.set_cons_zero, List.set_cons_succ]
          refine takeHQ (f := 34) (i := 7) (.pointer (some ⟨pb, poff + j, none⟩)) ⟨rfl, rfl⟩ (by kernel_rfl) rfl hdr.out ?r7 ?_
          case r7 => intro v hv; go_simp
          simp only [Act.put, List.setIfInBounds_toArray, List.set_cons_zero, List.set_cons_succ]
          refine takeHQ (f := 33) (i := 8) (.string x) ⟨rfl, rfl⟩ (by kernel_rfl) rfl hdr.out ?r8 ?_
          case r8 => intro v hv; have k0 := PV.out v hv; go_simp
          simp only [Act.put, List.setIfInBounds_toArray, List.set_cons_zero, List.set_cons_succ]
          refine takeHQ (f := 32) (i := 9) (.bool false) ⟨rfl, rfl⟩ (by kernel_rfl) rfl hdr.out ?r9 ?_
          case r9 => intro v hv; go_simp
          simp only [Act.put, List.setIfInBounds_toArray, List.set_cons_zero, List.set_cons_succ]
          refine takeHQ (f := 31) (i := 10) (.bool false) ⟨rfl, rfl⟩ (by kernel_rfl) rfl hdr.out ?r10 ?_
          case r10 => intro v hv; go_simp
          simp only [Act.put, List.setIfInBounds_toArray, List.set_cons_zero, List.set_cons_succ]
          refine takeHQ (f := 30) (i := 11) (.bool false) ⟨rfl, rfl⟩ (by kernel_rfl) rfl hdr.out ?r11 ?_
          case r11 => intro v hv; go_simp
          simp only [Act.put, List.setIfInBounds_toArray, List.set_cons_zero, List.set_cons_succ]
          refine takeHQ (f := 29) (i := 12) (.pointer (some ⟨w10.heap.size, 1, none⟩)) ⟨rfl, rfl⟩ (by kernel_rfl) rfl hdr.out ?r12 ?_
          case r12 => intro v hv; go_simp
          simp only [Act.put, List.setIfInBounds_toArray, List.set_cons_zero, List.set_cons_succ]
          refine takeHQ (f := 28) (i := 13) (.int .i64 now') ⟨rfl, rfl⟩ (by kernel_rfl) rfl hdr.out ?r13 ?_
          case r13 => intro v hv; have k0 := Y1.out v hv; go_simp
          simp only [Act.put, List.setIfInBounds_toArray, List.set_cons_zero, List.set_cons_succ]
          refine takeHQ (f := 27) (i := 14) (.pointer (some ⟨w9.heap.size, 1, none⟩)) ⟨rfl, rfl⟩ (by kernel_rfl) rfl hdr.out ?r14 ?_
          case r14 => intro v hv; go_simp
          simp only [Act.put, List.setIfInBounds_toArray, List.set_cons_zero, List.set_cons_succ]
          refine takeHQ (f := 26) (i := 15) (.int .i64 now) ⟨rfl, rfl⟩ (by kernel_rfl) rfl hdr.out ?r15 ?_
          case r15 => intro v hv; have k0 := V1.out v hv; go_simp
          simp only [Act.put, List.setIfInBounds_toArray, List.set_cons_zero, List.set_cons_succ]
          refine takeHQ (f := 25) (i := 16) (.bool false) ⟨rfl, rfl⟩ (by kernel_rfl) rfl hdr.out ?r16 ?_
          case r16 => intro v hv; go_simp
          simp only [Act.put, List.setIfInBounds_toArray, List.set_cons_zero, List.set_cons_succ]
          refine takeHQ (f := 24) (i := 17) (.bool false) ⟨rfl, rfl⟩ (by kernel_rfl) rfl hdr.out ?r17 ?_
          case r17 => intro v hv; go_simp
          simp only [Act.put, List.setIfInBounds_toArray, List.set_cons_zero, List.set_cons_succ]
          refine takeHQ (f := 23) (i := 18) (.bool false) ⟨rfl, rfl⟩ (by kernel_rfl) rfl hdr.out ?r18 ?_
          case r18 => intro v hv; go_simp
          simp only [Act.put, List.setIfInBounds_toArray, List.set_cons_zero, List.set_cons_succ]
          refine takeHQ (f := 22) (i := 19) (.pointer (some ⟨w10.heap.size, 1, none⟩)) ⟨rfl, rfl⟩ (by kernel_rfl) rfl hdr.out ?r19 ?_
          case r19 => intro v hv; go_simp
          simp only [Act.put, List.setIfInBounds_toArray, List.set_cons_zero, List.set_cons_succ]
          refine takeHQ (f := 21) (i := 20) (.int .i64 now') ⟨rfl, rfl⟩ (by kernel_rfl) rfl hdr.out ?r20 ?_
          case r20 => intro v hv; have k0 := Y1.out v hv; go_simp
          simp only [Act.put, List.setIfInBounds_toArray, List.set_cons_zero, List.set_cons_succ]
          refine takeHQ (f := 20) (i := 21) (.pointer (some ⟨w10.heap.size, 2, none⟩)) ⟨rfl, rfl⟩ (by kernel_rfl) rfl hdr.out ?r21 ?_
          case r21 => intro v hv; go_simp
          simp only [Act.put, List.setIfInBounds_toArray, List.set_cons_zero, List.set_cons_succ]
          refine takeHQ (f := 19) (i := 22) (.int .i64 lf') ⟨rfl, rfl⟩ (by kernel_rfl) rfl hdr.out ?r22 ?_
          case r22 => intro v hv; have k0 := Y2.out v hv; go_simp
          simp only [Act.put, List.setIfInBounds_toArray, List.set_cons_zero, List.set_cons_succ]
          refine takeHQ (f := 18) (i := 23) (.int .i64 (now' + lf')) ⟨rfl, rfl⟩ (by kernel_rfl) rfl hdr.out ?r23 ?_
          case r23 => intro v hv; go_simp
          simp only [Act.put, List.setIfInBounds_toArray, List.set_cons_zero, List.set_cons_succ]
          refine takeHQ (f := 17) (i := 24) (.pointer (some ⟨w9.heap.size, 1, none⟩)) ⟨rfl, rfl⟩ (by kernel_rfl) rfl hdr.out ?r24 ?_
          case r24 => intro v hv; go_simp
          simp only [Act.put, List.setIfInBounds_toArray, List.set_cons_zero, List.set_cons_succ]
          refine takeHQ (f := 16) (i := 25) (.int .i64 now) ⟨rfl, rfl⟩ (by kernel_rfl) rfl hdr.out ?r25 ?_
          case r25 => intro v hv; have k0 := V1.out v hv; go_simp
          simp only [Act.put, List.setIfInBounds_toArray, List.set_cons_zero, List.set_cons_succ]
          refine takeHQ (f := 15) (i := 26) (.pointer (some ⟨w9.heap.size, 2, none⟩)) ⟨rfl, rfl⟩ (by kernel_rfl) rfl hdr.out ?r26 ?_
          case r26 => intro v hv; go_simp
          simp only [Act.put, List.setIfInBounds_toArray, List.set_cons_zero, List.set_cons_succ]
          refine takeHQ (f := 14) (i := 27) (.int .i64 lf) ⟨rfl, rfl⟩ (by kernel_rfl) rfl hdr.out ?r27 ?_
          case r27 => intro v hv; have k0 := V2.out v hv; go_simp
          simp only [Act.put, List.setIfInBounds_toArray, List.set_cons_zero, List.set_cons_succ]
          refine takeHQ (f := 13) (i := 28) (.int .i64 (now + lf)) ⟨rfl, rfl⟩ (by kernel_rfl) rfl hdr.out ?r28 ?_
          case r28 => intro v hv; go_simp
          simp only [Act.put, List.setIfInBounds_toArray, List.set_cons_zero, List.set_cons_succ]
          refine takeHQ (f := 12) (i := 29) (.bool false) ⟨rfl, rfl⟩ (by kernel_rfl) rfl hdr.out ?r29 ?_
          case r29 => intro v hv; go_simp
          simp only [Act.put, List.setIfInBounds_toArray, List.set_cons_zero, List.set_cons_succ]
          refine takeHQ (f := 11) (i := 30) (.bool false) ⟨rfl, rfl⟩ (by kernel_rfl) rfl hdr.out ?r30 ?_
          case r30 => intro v hv; go_simp
          simp only [Act.put, List.setIfInBounds_toArray, List.set_cons_zero, List.set_cons_succ]
          refine takeHQ (f := 10) (i := 31) (.bool false) ⟨rfl, rfl⟩ (by kernel_rfl) rfl hdr.out ?r31 ?_
          case r31 => intro v hv; go_simp
          simp only [Act.put, List.setIfInBounds_toArray, List.set_cons_zero, List.set_cons_succ]
          refine takeHQ (f := 9) (i := 32) (.slice (some ⟨b, off, none⟩) nl ko) ⟨rfl, rfl⟩ (by kernel_rfl) rfl hdr.out ?r32 ?_
          case r32 => intro v hv; go_simp
          simp only [Act.put, List.setIfInBounds_toArray, List.set_cons_zero, List.set_cons_succ]
          refine takeHQ (f := 8) (i := 33) (.pointer (some ⟨w10.heap.size, 0, none⟩)) ⟨rfl, rfl⟩ (by kernel_rfl) rfl hdr.out ?r33 ?_
          case r33 => intro v hv; go_simp
          simp only [Act.put, List.setIfInBounds_toArray, List.set_cons_zero, List.set_cons_succ]
          refine takeHQ (f := 7) (i := 34) (.string x') ⟨rfl, rfl⟩ (by kernel_rfl) rfl hdr.out ?r34 ?_
          case r34 => intro v hv; have k0 := Y0.out v hv; go_simp
          simp only [Act.put, List.setIfInBounds_toArray, List.set_cons_zero, List.set_cons_succ]
          refine takeHQ (f := 6) (i := 36) (.slice (some ⟨b, off, none⟩) nl ko) ⟨rfl, rfl⟩ (by kernel_rfl) rfl hdr.out ?r36 ?_
          case r36 => intro v hv; go_simp
          simp only [Act.put, List.setIfInBounds_toArray, List.set_cons_zero, List.set_cons_succ]
          refine takeHQ (f := 5) (i := 37) (.pointer (some ⟨w9.heap.size, 0, none⟩)) ⟨rfl, rfl⟩ (by kernel_rfl) rfl hdr.out ?r37 ?_
          case r37 => intro v hv; go_simp
          simp only [Act.put, List.setIfInBounds_toArray, List.set_cons_zero, List.set_cons_succ]
          refine takeHQ (f := 4) (i := 38) (.string x) ⟨rfl, rfl⟩ (by kernel_rfl) rfl hdr.out ?r38 ?_
          case r38 => intro v hv; have k0 := V0.out v hv; go_simp
          simp only [Act.put, List.setIfInBounds_toArray, List.set_cons_zero, List.set_cons_succ]
          refine callHd (f := 3) (i := 35) (d := 160) (fn := 15) (args := #[.slice (some ⟨b, off, none⟩) nl ko, .string x']) ⟨rfl, rfl⟩ (by decide) (by kernel_rfl) rfl ?rc ((SLI.out x' Z.drew hxz1 (BV.out _ hdr.out)).mono ?_)
          case rc => go_simp
          rintro e wx ⟨qa, rfl, hon, hb⟩
          have HZ1 : Hid (Below Z.heap.size Z wx) := hdr.out.trans hb
          have QA : Hid (AtL (fun b => b < wx.heap.size) wx (sltF 12 M x') qa) := hon.at_.up (fun b hb => hb.2)
          clear hb hon
          refine ⟨_, rfl, HZ1.out, ?_⟩
          simp only [Act.put, List.setIfInBounds_toArray, List.set_cons_zero, List.set_cons_succ]
          refine callHd (f := 2) (i := 39) (d := 164) (fn := 15) (args := #[.slice (some ⟨b, off, none⟩) nl ko, .string x]) ⟨rfl, rfl⟩ (by decide) (by kernel_rfl) rfl ?rc ((SLI.out x wx hxz0 (BV.out _ HZ1.out)).mono ?_)
          case rc => go_simp
          rintro e wy ⟨qb, rfl, hon, hb⟩
          have HZ2 : Hid (Below Z.heap.size Z wy) := HZ1.out.trans (hb.mono HZ1.out.size)
          have QA2 : Hid (AtL (fun b => b < wx.heap.size) wy (sltF 12 M x') qa) := QA.out.same (Same.of_below hb (fun b hb => hb))
          have QB : Hid (AtL (fun b => b < wy.heap.size) wy (sltF 12 M x) qb) := hon.at_.up (fun b hb => hb.2)
          clear hb hon QA
          refine ⟨_, rfl, HZ2.out, ?_⟩
          simp only [Act.put, List.setIfInBounds_toArray, List.set_cons_zero, List.set_cons_succ]
          refine callHd (f := 1) (i := 40) (d := 165) (fn := 14) (args := #[qa, qb]) ⟨rfl, rfl⟩ (by decide) (by kernel_rfl) rfl ?rc ((all_anyT _ _ _ _ qa qb wy QA2.out QB.out).mono ?_)
          case rc => go_simp
          rintro e wz ⟨rfl, hwz⟩
          have HZ3 : Hid (Below Z.heap.size Z wz) := by rw [hwz]; exact HZ2.out
          clear hwz
          rw [ALL.out]
          refine ⟨_, rfl, HZ3.out, ?_⟩
          simp only [Act.put, List.setIfInBounds_toArray, List.set_cons_zero, List.set_cons_succ]
          refine takeHQ (f := 0) (i := 41) (.bool false) ⟨rfl, rfl⟩ (by kernel_rfl) rfl HZ3.out ?r41 ?_
          case r41 => intro v hv; go_simp
          simp only [Act.put, List.setIfInBounds_toArray, List.set_cons_zero, List.set_cons_succ]
          refine ⟨by kernel_rfl, ?_⟩
          simp only [List.drop_succ_cons, List.drop_zero]
          have BW9 : Hid (Below w9.heap.size w9 wz) := BV.out wz HZ3.out
          have g0 := Y0.out wz HZ3.out
          have g1 := Y1.out wz HZ3.out
          have g2 := Y2.out wz HZ3.out
          obtain ⟨h0, m0⟩ := cell_row (V10.out wz HZ3.out) 0 (.string x) rfl
          obtain ⟨h1, m1⟩ := cell_row (V10.out wz HZ3.out) 1 (.int .i64 now) rfl
          obtain ⟨h2, m2⟩ := cell_row (V10.out wz HZ3.out) 2 (.int .i64 lf) rfl
          have HF : Hid _ := ret3 (V10.out wz HZ3.out) (.string x') (.int .i64 now') (.int .i64 lf')
          go_wp2_with fail
          go_roundw
          case rel => exact ⟨j + 1, by omega, by go_num, (by show _ = _; rw [HS1.out]; exact HF.out.1), ((BW9.out.setCell (p := ⟨w9.heap.size, 0, none⟩) (Nat.le_refl _) _).setCell (p := ⟨w9.heap.size, 1, none⟩) (Nat.le_refl _) _).setCell (p := ⟨w9.heap.size, 2, none⟩) (Nat.le_refl _) _, (by have := HZ3.out.size; simp; omega)⟩
          case measure => simp [intOf]; omega
        · have hjL : ¬ j < L.length := by have := HML.out; omega
          have es := SAY2.out hjL
          obtain ⟨rfl, rfl⟩ : t = 1001 ∧ wl = false := by simpa using es
          clear es
          obtain ⟨X2, hX2⟩ : ∃ X2, X2 = X1 := ⟨_, rfl⟩
          have K2 : Hid (X2.heap[wr.heap.size]? = some (.cells #[.int .i64 1001, .bool false] 41 (0, 0))) := by rw [hX2]; exact K12.out
          have BX2 : Hid (Below wr.heap.size wr X2) := by rw [hX2]; exact BX1.out
          go_upto_region 20 with fail
          rw [← hX2]
          clear hX2 K12 BX1
          have z2' : wr.heap.size < X2.heap.size := (Array.getElem?_eq_some_iff.1 K2.out).1
          have BX : Hid (Below w9.heap.size w9 X2) := BJ.out.trans (BX2.out.mono BJ.out.size)
          have KJ2 : Hid (X2.heap[w9.heap.size]? = some (.cells #[.string x, .int .i64 now, .int .i64 lf] 28 (0, 0))) := (BX2.out.block _ zj).trans KJ.out
          have a0 := (cell_row KJ2.out 0 (.string x) rfl).1
          have a1 := (cell_row KJ2.out 1 (.int .i64 now) rfl).1
          have a2 := (cell_row KJ2.out 2 (.int .i64 lf) rfl).1
          have b0 := (cell_row K2.out 0 (.int .i64 1001) rfl).1
          have b1 := (cell_row K2.out 1 (.bool false) rfl).1
          have C : Hid _ := GO.out X2 BX.out
          go_wp2_with fail
          refine Calls.mono C.out ?_; rintro e w10 ⟨rfl, hb⟩
          have B10 : Hid (Below w9.heap.size w9 w10) := BX.out.trans (hb.mono BX.out.size)
          have KJ3 : Hid (w10.heap[w9.heap.size]? = some (.cells #[.string x, .int .i64 now, .int .i64 lf] 28 (0, 0))) := (hb.block _ (by omega)).trans KJ2.out
          have z10 := hb.size
          clear hb C a0 a1 a2 b0 b1 KJ2 KJ K2
          obtain ⟨Z, hZ⟩ : ∃ Z, Z = w10.alloc (.cells #[.string x', .int .i64 now', .int .i64 lf'] 28) := ⟨_, rfl⟩
          have EZ : Hid (Z = w10.alloc (.cells #[.string x', .int .i64 now', .int .i64 lf'] 28)) := hZ
          have BZ : Hid (Below w10.heap.size w10 Z) := by rw [hZ]; exact (Below.refl _ _).alloc (Nat.le_refl _) _
          have KZ : Hid (Z.heap[w10.heap.size]? = some (.cells #[.string x', .int .i64 now', .int .i64 lf'] 28 (0, 0))) := by rw [hZ]; exact heap_alloc_new w10 _
          have zZ : Z.heap.size = w10.heap.size + 1 := by rw [hZ]; simp
          clear hZ
          have BZ9 : Hid (Below w9.heap.size w9 Z) := B10.out.trans (BZ.out.mono B10.out.size)
          have BV : Hid (∀ v, Below Z.heap.size Z v → Below w9.heap.size w9 v) := fun v hv => BZ9.out.trans (hv.mono BZ9.out.size)
          have V10 : Hid (∀ v, Below Z.heap.size Z v → v.heap[w9.heap.size]? = some (.cells #[.string x, .int .i64 now, .int .i64 lf] 28 (0, 0))) := fun v hv => (hv.block _ (by omega)).trans ((BZ.out.block _ (by omega)).trans KJ3.out)
          have V13 : Hid (∀ v, Below Z.heap.size Z v → v.heap[w10.heap.size]? = some (.cells #[.string x', .int .i64 now', .int .i64 lf'] 28 (0, 0))) := fun v hv => (hv.block _ (by omega)).trans KZ.out
          have V0 : Hid (∀ v, Below Z.heap.size Z v → v.cell? ⟨w9.heap.size, 0, none⟩ = some (.string x)) := fun v hv => (cell_row (V10.out v hv) 0 (.string x) rfl).1
          have V1 : Hid (∀ v, Below Z.heap.size Z v → v.cell? ⟨w9.heap.size, 1, none⟩ = some (.int .i64 now)) := fun v hv => (cell_row (V10.out v hv) 1 (.int .i64 now) rfl).1
          have V2 : Hid (∀ v, Below Z.heap.size Z v → v.cell? ⟨w9.heap.size, 2, none⟩ = some (.int .i64 lf)) := fun v hv => (cell_row (V10.out v hv) 2 (.int .i64 lf) rfl).1
          have Y0 : Hid (∀ v, Below Z.heap.size Z v → v.cell? ⟨w10.heap.size, 0, none⟩ = some (.string x')) := fun v hv => (cell_row (V13.out v hv) 0 (.string x') rfl).1
          have Y1 : Hid (∀ v, Below Z.heap.size Z v → v.cell? ⟨w10.heap.size, 1, none⟩ = some (.int .i64 now')) := fun v hv => (cell_row (V13.out v hv) 1 (.int .i64 now') rfl).1
          have Y2 : Hid (∀ v, Below Z.heap.size Z v → v.cell? ⟨w10.heap.size, 2, none⟩ = some (.int .i64 lf')) := fun v hv => (cell_row (V13.out v hv) 2 (.int .i64 lf') rfl).1
          have PV : Hid (∀ v, Below Z.heap.size Z v → v.cell? ⟨pb, poff + j, none⟩ = some (.string x)) := fun v hv => PJ.out v (BB3.out _ (BB9.out _ (BV.out v hv)))
          clear KJ3 KZ BX BX2
          go_upto_region 21 with fail
          rw [← EZ.out]
          clear EZ
          have hdr : Hid (Below Z.heap.size Z Z.drew) := (Below.refl _ _).drew
          refine wp_region_movesC (fun v => Below Z.heap.size Z v) 42 [] (by kernel_rfl) (by kernel_rfl) hdr.out ?_
          simp only [List.filterMap_nil, movD]
          refine takeHQ (f := 41) (i := 0) (.bool true) ⟨rfl, rfl⟩ (by kernel_rfl) rfl hdr.out ?r0 ?_
          case r0 => intro v hv; go_simp
          simp only [Act.put, List.setIfInBounds_toArray, List.set_cons_zero, List.set_cons_succ]
          refine takeHQ (f := 40) (i := 1) (.bool false) ⟨rfl, rfl⟩ (by kernel_rfl) rfl hdr.out ?r1 ?_
          case r1 => intro v hv; go_simp
          simp only [Act.put, List.setIfInBounds_toArray, List.set_cons_zero, List.set_cons_succ]
          refine takeHQ (f := 39) (i := 2) (.bool false) ⟨rfl, rfl⟩ (by kernel_rfl) rfl hdr.out ?r2 ?_
          case r2 => intro v hv; go_simp
          simp only [Act.put, List.setIfInBounds_toArray, List.set_cons_zero, List.set_cons_succ]
          refine takeHQ (f := 38) (i := 3) (.pointer (some ⟨w9.heap.size, 0, none⟩)) ⟨rfl, rfl⟩ (by kernel_rfl) rfl hdr.out ?r3 ?_
          case r3 => intro v hv; go_simp
          simp only [Act.put, List.setIfInBounds_toArray, List.set_cons_zero, List.set_cons_succ]
          refine takeHQ (f := 37) (i := 4) (.string x) ⟨rfl, rfl⟩ (by kernel_rfl) rfl hdr.out ?r4 ?_
          case r4 => intro v hv; have k0 := V0.out v hv; go_simp
          simp only [Act.put, List.setIfInBounds_toArray, List.set_cons_zero, List.set_cons_succ]
          refine takeHQ (f := 36) (i := 5) (.slice (some ⟨pb, poff, none⟩) m kp) ⟨rfl, rfl⟩ (by kernel_rfl) rfl hdr.out ?r5 ?_
          case r5 => intro v hv; go_simp
          simp only [Act.put, List.setIfInBounds_toArray, List.set_cons_zero, List.set_cons_succ]
          refine takeHQ (f := 35) (i := 6) (.int .i64 j) ⟨rfl, rfl⟩ (by kernel_rfl) rfl hdr.out ?r6 ?_
          case r6 => intro v hv; go_simp
          simp only [Act.put, List.setIfInBounds_toArray, List.set_cons_zero, List.set_cons_succ]
          refine takeHQ (f := 34) (i := 7) (.pointer (some ⟨pb, poff + j, none⟩)) ⟨rfl, rfl⟩ (by kernel_rfl) rfl hdr.out ?r7 ?_
          case r7 => intro v hv; go_simp
          simp only [Act.put, List.setIfInBounds_toArray, List.set_cons_zero, List.set_cons_succ]
          refine takeHQ (f := 33) (i := 8) (.string x) ⟨rfl, rfl⟩ (by kernel_rfl) rfl hdr.out ?r8 ?_
          case r8 => intro v hv; have k0 := PV.out v hv; go_simp
          simp only [Act.put, List.setIfInBounds_toArray, List.set_cons_zero, List.set_cons_succ]
          refine takeHQ (f := 32) (i := 9) (.bool false) ⟨rfl, rfl⟩ (by kernel_rfl) rfl hdr.out ?r9 ?_
          case r9 => intro v hv; go_simp
          simp only [Act.put, List.setIfInBounds_toArray, List.set_cons_zero, List.set_cons_succ]
          refine takeHQ (f := 31) (i := 10) (.bool false) ⟨rfl, rfl⟩ (by kernel_rfl) rfl hdr.out ?r10 ?_
          case r10 => intro v hv; go_simp
          simp only [Act.put, List.setIfInBounds_toArray, List.set_cons_zero, List.set_cons_succ]
          refine takeHQ (f := 30) (i := 11) (.bool false) ⟨rfl, rfl⟩ (by kernel_rfl) rfl hdr.out ?r11 ?_
          case r11 => intro v hv; go_simp
          simp only [Act.put, List.setIfInBounds_toArray, List.set_cons_zero, List.set_cons_succ]
          refine takeHQ (f := 29) (i := 12) (.pointer (some ⟨w10.heap.size, 1, none⟩)) ⟨rfl, rfl⟩ (by kernel_rfl) rfl hdr.out ?r12 ?_
          case r12 => intro v hv; go_simp
          simp only [Act.put, List.setIfInBounds_toArray, List.set_cons_zero, List.set_cons_succ]
          refine takeHQ (f := 28) (i := 13) (.int .i64 now') ⟨rfl, rfl⟩ (by kernel_rfl) rfl hdr.out ?r13 ?_
          case r13 => intro v hv; have k0 := Y1.out v hv; go_simp
          simp only [Act.put, List.setIfInBounds_toArray, List.set_cons_zero, List.set_cons_succ]
          refine takeHQ (f := 27) (i := 14) (.pointer (some ⟨w9.heap.size, 1, none⟩)) ⟨rfl, rfl⟩ (by kernel_rfl) rfl hdr.out ?r14 ?_
          case r14 => intro v hv; go_simp
          simp only [Act.put, List.setIfInBounds_toArray, List.set_cons_zero, List.set_cons_succ]
          refine takeHQ (f := 26) (i := 15) (.int .i64 now) ⟨rfl, rfl⟩ (by kernel_rfl) rfl hdr.out ?r15 ?_
          case r15 => intro v hv; have k0 := V1.out v hv; go_simp
          simp only [Act.put, List.setIfInBounds_toArray, List.set_cons_zero, List.set_cons_succ]
          refine takeHQ (f := 25) (i := 16) (.bool false) ⟨rfl, rfl⟩ (by kernel_rfl) rfl hdr.out ?r16 ?_
          case r16 => intro v hv; go_simp
          simp only [Act.put, List.setIfInBounds_toArray, List.set_cons_zero, List.set_cons_succ]
          refine takeHQ (f := 24) (i := 17) (.bool false) ⟨rfl, rfl⟩ (by kernel_rfl) rfl hdr.out ?r17 ?_
          case r17 => intro v hv; go_simp
          simp only [Act.put, List.setIfInBounds_toArray, List.set_cons_zero, List.set_cons_succ]
          refine takeHQ (f := 23) (i := 18) (.bool false) ⟨rfl, rfl⟩ (by kernel_rfl) rfl hdr.out ?r18 ?_
          case r18 => intro v hv; go_simp
          simp only [Act.put, List.setIfInBounds_toArray, List.set_cons_zero, List.set_cons_succ]
          refine takeHQ (f := 22) (i := 19) (.pointer (some ⟨w10.heap.size, 1, none⟩)) ⟨rfl, rfl⟩ (by kernel_rfl) rfl hdr.out ?r19 ?_
          case r19 => intro v hv; go_simp
          simp only [Act.put, List.setIfInBounds_toArray, List.set_cons_zero, List.set_cons_succ]
          refine takeHQ (f := 21) (i := 20) (.int .i64 now') ⟨rfl, rfl⟩ (by kernel_rfl) rfl hdr.out ?r20 ?_
          case r20 => intro v hv; have k0 := Y1.out v hv; go_simp
          simp only [Act.put, List.setIfInBounds_toArray, List.set_cons_zero, List.set_cons_succ]
          refine takeHQ (f := 20) (i := 21) (.pointer (some ⟨w10.heap.size, 2, none⟩)) ⟨rfl, rfl⟩ (by kernel_rfl) rfl hdr.out ?r21 ?_
          case r21 => intro v hv; go_simp
          simp only [Act.put, List.setIfInBounds_toArray, List.set_cons_zero, List.set_cons_succ]
          refine takeHQ (f := 19) (i := 22) (.int .i64 lf') ⟨rfl, rfl⟩ (by kernel_rfl) rfl hdr.out ?r22 ?_
          case r22 => intro v hv; have k0 := Y2.out v hv; go_simp
          simp only [Act.put, List.setIfInBounds_toArray, List.set_cons_zero, List.set_cons_succ]
          refine takeHQ (f := 18) (i := 23) (.int .i64 (now' + lf')) ⟨rfl, rfl⟩ (by kernel_rfl) rfl hdr.out ?r23 ?_
          case r23 => intro v hv; go_simp
          simp only [Act.put, List.setIfInBounds_toArray, List.set_cons_zero, List.set_cons_succ]
          refine takeHQ (f := 17) (i := 24) (.pointer (some ⟨w9.heap.size, 1, none⟩)) ⟨rfl, rfl⟩ (by kernel_rfl) rfl hdr.out ?r24 ?_
          case r24 => intro v hv; go_simp
          simp only [Act.put, List.setIfInBounds_toArray, List.set_cons_zero, List.set_cons_succ]
          refine takeHQ (f := 16) (i := 25) (.int .i64 now) ⟨rfl, rfl⟩ (by kernel_rfl) rfl hdr.out ?r25 ?_
          case r25 => intro v hv; have k0 := V1.out v hv; go_simp
          simp only [Act.put, List.setIfInBounds_toArray, List.set_cons_zero, List.set_cons_succ]
          refine takeHQ (f := 15) (i := 26) (.pointer (some ⟨w9.heap.size, 2, none⟩)) ⟨rfl, rfl⟩ (by kernel_rfl) rfl hdr.out ?r26 ?_
          case r26 => intro v hv; go_simp
          simp only [Act.put, List.setIfInBounds_toArray, List.set_cons_zero, List.set_cons_succ]
          refine takeHQ (f := 14) (i := 27) (.int .i64 lf) ⟨rfl, rfl⟩ (by kernel_rfl) rfl hdr.out ?r27 ?_
          case r27 => intro v hv; have k0 := V2.out v hv; go_simp
          simp only [Act.put, List.setIfInBounds_toArray, List.set_cons_zero, List.set_cons_succ]
          refine takeHQ (f := 13) (i := 28) (.int .i64 (now + lf)) ⟨rfl, rfl⟩ (by kernel_rfl) rfl hdr.out ?r28 ?_
          case r28 => intro v hv; go_simp
          simp only [Act.put, List.setIfInBounds_toArray, List.set_cons_zero, List.set_cons_succ]
          refine takeHQ (f := 12) (i := 29) (.bool false) ⟨rfl, rfl⟩ (by kernel_rfl) rfl hdr.out ?r29 ?_
          case r29 => intro v hv; go_simp
          simp only [Act.put, List.setIfInBounds_toArray, List.set_cons_zero, List.set_cons_succ]
          refine takeHQ (f := 11) (i := 30) (.bool false) ⟨rfl, rfl⟩ (by kernel_rfl) rfl hdr.out ?r30 ?_
          case r30 => intro v hv; go_simp
          simp only [Act.put, List.setIfInBounds_toArray, List.set_cons_zero, List.set_cons_succ]
          refine takeHQ (f := 10) (i := 31) (.bool false) ⟨rfl, rfl⟩ (by kernel_rfl) rfl hdr.out ?r31 ?_
          case r31 => intro v hv; go_simp
          simp only [Act.put, List.setIfInBounds_toArray, List.set_cons_zero, List.set_cons_succ]
          refine takeHQ (f := 9) (i := 32) (.slice (some ⟨b, off, none⟩) nl ko) ⟨rfl, rfl⟩ (by kernel_rfl) rfl hdr.out ?r32 ?_
          case r32 => intro v hv; go_simp
          simp only [Act.put, List.setIfInBounds_toArray, List.set_cons_zero, List.set_cons_succ]
          refine takeHQ (f := 8) (i := 33) (.pointer (some ⟨w10.heap.size, 0, none⟩)) ⟨rfl, rfl⟩ (by kernel_rfl) rfl hdr.out ?r33 ?_
          case r33 => intro v hv; go_simp
          simp only [Act.put, List.setIfInBounds_toArray, List.set_cons_zero, List.set_cons_succ]
          refine takeHQ (f := 7) (i := 34) (.string x') ⟨rfl, rfl⟩ (by kernel_rfl) rfl hdr.out ?r34 ?_
          case r34 => intro v hv; have k0 := Y0.out v hv; go_simp
          simp only [Act.put, List.setIfInBounds_toArray, List.set_cons_zero, List.set_cons_succ]
          refine takeHQ (f := 6) (i := 36) (.slice (some ⟨b, off, none⟩) nl ko) ⟨rfl, rfl⟩ (by kernel_rfl) rfl hdr.out ?r36 ?_
          case r36 => intro v hv; go_simp
          simp only [Act.put, List.setIfInBounds_toArray, List.set_cons_zero, List.set_cons_succ]
          refine takeHQ (f := 5) (i := 37) (.pointer (some ⟨w9.heap.size, 0, none⟩)) ⟨rfl, rfl⟩ (by kernel_rfl) rfl hdr.out ?r37 ?_
          case r37 => intro v hv; go_simp
          simp only [Act.put, List.setIfInBounds_toArray, List.set_cons_zero, List.set_cons_succ]
          refine takeHQ (f := 4) (i := 38) (.string x) ⟨rfl, rfl⟩ (by kernel_rfl) rfl hdr.out ?r38 ?_
          case r38 => intro v hv; have k0 := V0.out v hv; go_simp
          simp only [Act.put, List.setIfInBounds_toArray, List.set_cons_zero, List.set_cons_succ]
          refine callHd (f := 3) (i := 35) (d := 160) (fn := 15) (args := #[.slice (some ⟨b, off, none⟩) nl ko, .string x']) ⟨rfl, rfl⟩ (by decide) (by kernel_rfl) rfl ?rc ((SLI.out x' Z.drew hxz1 (BV.out _ hdr.out)).mono ?_)
          case rc => go_simp
          rintro e wx ⟨qa, rfl, hon, hb⟩
          have HZ1 : Hid (Below Z.heap.size Z wx) := hdr.out.trans hb
          have QA : Hid (AtL (fun b => b < wx.heap.size) wx (sltF 12 M x') qa) := hon.at_.up (fun b hb => hb.2)
          clear hb hon
          refine ⟨_, rfl, HZ1.out, ?_⟩
          simp only [Act.put, List.setIfInBounds_toArray, List.set_cons_zero, List.set_cons_succ]
          refine callHd (f := 2) (i := 39) (d := 164) (fn := 15) (args := #[.slice (some ⟨b, off, none⟩) nl ko, .string x]) ⟨rfl, rfl⟩ (by decide) (by kernel_rfl) rfl ?rc ((SLI.out x wx hxz0 (BV.out _ HZ1.out)).mono ?_)
          case rc => go_simp
          rintro e wy ⟨qb, rfl, hon, hb⟩
          have HZ2 : Hid (Below Z.heap.size Z wy) := HZ1.out.trans (hb.mono HZ1.out.size)
          have QA2 : Hid (AtL (fun b => b < wx.heap.size) wy (sltF 12 M x') qa) := QA.out.same (Same.of_below hb (fun b hb => hb))
          have QB : Hid (AtL (fun b => b < wy.heap.size) wy (sltF 12 M x) qb) := hon.at_.up (fun b hb => hb.2)
          clear hb hon QA
          refine ⟨_, rfl, HZ2.out, ?_⟩
          simp only [Act.put, List.setIfInBounds_toArray, List.set_cons_zero, List.set_cons_succ]
          refine callHd (f := 1) (i := 40) (d := 165) (fn := 14) (args := #[qa, qb]) ⟨rfl, rfl⟩ (by decide) (by kernel_rfl) rfl ?rc ((all_anyT _ _ _ _ qa qb wy QA2.out QB.out).mono ?_)
          case rc => go_simp
          rintro e wz ⟨rfl, hwz⟩
          have HZ3 : Hid (Below Z.heap.size Z wz) := by rw [hwz]; exact HZ2.out
          clear hwz
          rw [ALL.out]
          refine ⟨_, rfl, HZ3.out, ?_⟩
          simp only [Act.put, List.setIfInBounds_toArray, List.set_cons_zero, List.set_cons_succ]
          refine takeHQ (f := 0) (i := 41) (.bool false) ⟨rfl, rfl⟩ (by kernel_rfl) rfl HZ3.out ?r41 ?_
          case r41 => intro v hv; go_simp
          simp only [Act.put, List.setIfInBounds_toArray, List.set_cons_zero, List.set_cons_succ]
          refine ⟨by kernel_rfl, ?_⟩
          simp only [List.drop_succ_cons, List.drop_zero]
          have BW9 : Hid (Below w9.heap.size w9 wz) := BV.out wz HZ3.out
          have g0 := Y0.out wz HZ3.out
          have g1 := Y1.out wz HZ3.out
          have g2 := Y2.out wz HZ3.out
          obtain ⟨h0, m0⟩ := cell_row (V10.out wz HZ3.out) 0 (.string x) rfl
          obtain ⟨h1, m1⟩ := cell_row (V10.out wz HZ3.out) 1 (.int .i64 now) rfl
          obtain ⟨h2, m2⟩ := cell_row (V10.out wz HZ3.out) 2 (.int .i64 lf) rfl
          have HF : Hid _ := ret3 (V10.out wz HZ3.out) (.string x') (.int .i64 now') (.int .i64 lf')
          go_wp2_with fail
          go_roundw
          case rel => exact ⟨j + 1, by omega, by go_num, (by show _ = _; rw [HS1.out]; exact HF.out.1), ((BW9.out.setCell (p := ⟨w9.heap.size, 0, none⟩) (Nat.le_refl _) _).setCell (p := ⟨w9.heap.size, 1, none⟩) (Nat.le_refl _) _).setCell (p := ⟨w9.heap.size, 2, none⟩) (Nat.le_refl _) _, (by have := HZ3.out.size; simp; omega)⟩
          case measure => simp [intOf]; omega
      · obtain rfl : m = j := by omega
        have k10 := (cell_row KJ.out 0 (.string (stF M L m).1) rfl).1
        have k11 := (cell_row KJ.out 1 (.int .i64 (stF M L m).2.1) rfl).1
        have k12 := (cell_row KJ.out 2 (.int .i64 (stF M L m).2.2) rfl).1
        rw [EST.out] at k10 k11 k12
        simp only at k10 k11 k12
        have k50 := (cell_row (KK5.out wr (BB9.out _ BJ.out)) 0 (.string sa) rfl).1
        have k51 := (cell_row (KK5.out wr (BB9.out _ BJ.out)) 1 (.int .i64 sn) rfl).1
        have k52 := (cell_row (KK5.out wr (BB9.out _ BJ.out)) 2 (.int .i64 0) rfl).1
        go_wp2_with fail
        go_ret
        exact ⟨by simp, BQ.out _ (BB1.out _ (BB3.out _ (BB9.out _ BJ.out)))⟩

end Go.Proofs.Ytkongeofapbblaa
