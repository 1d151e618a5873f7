/-
  The model's runs of a recipe: how a phase goes.
-/
import Derived.Test.YtkongeofapbblaaM2
namespace Go.Proofs.Ytkongeofapbblaa
open Go.RowKit


/-- How many ticks a phase takes, and whether it went well. -/
def goT (p : DRecPhase) (t : Int) (well : Bool) : Int × Bool :=
  let t1 := if p.2.1 = 3 ∧ well = true ∧ t < p.2.2.2.2.1 then p.2.2.2.2.1 else t
  if p.2.2.2.2.2.1 < t1 then ((if p.2.2.2.2.2.1 < 0 then 0 else p.2.2.2.2.2.1), false) else ((if t1 < 0 then 0 else t1), well)
/-- Where it goes on to. -/
def nxT (p : DRecPhase) (ok : Bool) : ByteArray := if ok = true then p.2.2.2.2.2.2.1 else p.2.2.2.2.2.2.2
theorem goT_le (p : DRecPhase) (t : Int) (well : Bool) (h : 1 ≤ p.2.2.2.2.2.1 ∧ p.2.2.2.2.2.1 ≤ 1000) : 0 ≤ (goT p t well).1 ∧ (goT p t well).1 ≤ 1000 := by
  unfold goT
  simp only
  repeat' split
  all_goals omega

set_option maxRecDepth 100000 in
set_option maxHeartbeats 40000000 in
theorem goX_any (S : Nat → Prop) (r : List DRecPhase) (hR : RecP r) (v : Value) (x : ByteArray) (now lf t : Int) (well : Bool) (k : Nat) (hk : k < r.length) (w : World) (h : AtL S w r v) (hS : ∀ b, S b → b < w.heap.size) (hnow : 0 ≤ now ∧ now ≤ 12000) (ht : OkN t) :
    Calls Try.prog 55 #[v, .agg #[.string x, .int .i64 now, .int .i64 lf], .int .i64 k, .agg #[.int .i64 t, .bool well]] w fun e w' => e = .returned (.agg #[.string (nxT r[k] (goT r[k] t well).2), .int .i64 (now + (goT r[k] t well).1), .int .i64 (bndF 12 r (nxT r[k] (goT r[k] t well).2))]) ∧ Below w.heap.size w w' := by
  obtain ⟨ht0, ht1⟩ := ht
  have H : Hid (∀ w', Below w.heap.size w w' → AtL S w' r v ∧ ∀ b, S b → b < w'.heap.size) := fun w' hb => ⟨h.same (Same.of_below hb hS), fun b hb' => Nat.lt_of_lt_of_le (hS b hb') hb.size⟩
  have ST : Hid (∀ (y : ByteArray) (m : Int) (u : World), Below w.heap.size w u → Calls Try.prog 54 #[v, .string y, .int .i64 m] u fun e w' => e = .returned (.agg #[.string y, .int .i64 m, .int .i64 (bndF 12 r y)]) ∧ Below u.heap.size u w') := fun y m u hu => stX_any S r hR v y m u (H.out u hu).1 (H.out u hu).2
  have hst := step_of hR hk
  have hin := (ph_name hst.1).2.2.1
  obtain ⟨oa, cap, ev, hx⟩ := id h
  subst ev
  obtain ⟨b, off, rfl, hbS, cc, hcell, hat⟩ := hx.2 k hk
  clear hx h
  have hb := hS b hbS
  rw [width_DRecPhase] at hcell
  rw [at_DRecPhase] at hat
  obtain ⟨nl, en⟩ : ∃ n, r.length = n := ⟨_, rfl⟩
  obtain ⟨f, ef⟩ : ∃ f, r[k] = f := ⟨_, rfl⟩
  rw [ef] at hin hat
  rw [ef]
  have htk := goT_le f t well hin
  obtain ⟨nm, kd, a, b', n', wi, th, el⟩ := f
  simp only at hin
  obtain ⟨⟨q0, _⟩, ⟨q1, _, _⟩, ⟨q2, _⟩, ⟨q3, _⟩, ⟨q4, i4, j4⟩, ⟨q5, _, _⟩, ⟨q6, _⟩, ⟨q7, _⟩⟩ := hat
  simp only at i4 j4
  have E : Hid (∀ u, Below w.heap.size w u → u.cell? ⟨b, off + k * 8, none⟩ = some (.string nm) ∧ u.cell? ⟨b, off + k * 8 + 1, none⟩ = some (.int .i64 kd) ∧ u.cell? ⟨b, off + k * 8 + 2, none⟩ = some (.string a) ∧ u.cell? ⟨b, off + k * 8 + 3, none⟩ = some (.string b') ∧ u.cell? ⟨b, off + k * 8 + 4, none⟩ = some (.int .i64 n') ∧ u.cell? ⟨b, off + k * 8 + 5, none⟩ = some (.int .i64 wi) ∧ u.cell? ⟨b, off + k * 8 + 6, none⟩ = some (.string th) ∧ u.cell? ⟨b, off + k * 8 + 7, none⟩ = some (.string el)) := fun u hu => ⟨((hu.cell hb).trans (hcell 0 (by omega))).trans (by rw [q0]), ((hu.cell hb).trans (hcell 1 (by omega))).trans (by rw [q1]), ((hu.cell hb).trans (hcell 2 (by omega))).trans (by rw [q2]), ((hu.cell hb).trans (hcell 3 (by omega))).trans (by rw [q3]), ((hu.cell hb).trans (hcell 4 (by omega))).trans (by rw [q4]), ((hu.cell hb).trans (hcell 5 (by omega))).trans (by rw [q5]), ((hu.cell hb).trans (hcell 6 (by omega))).trans (by rw [q6]), ((hu.cell hb).trans (hcell 7 (by omega))).trans (by rw [q7])⟩
  clear hcell q0 q1 q2 q3 q4 q5 q6 q7 hst
  have hkn : k < nl := by omega
  have hnl : nl ≤ 12 := by have := hR.1; omega
  rw [en]
  rw [en] at H ST
  clear en ef hk hR hS
  have b3 : Hid (Below w.heap.size w (((w.alloc (.cells #[.string x, .int .i64 now, .int .i64 lf] 28)).alloc (.cells #[.int .i64 t, .bool well] 41)).alloc (.cells #[.string ⟨#[]⟩, .int .i64 0, .int .i64 0] 28))) := (((Below.refl _ _).alloc (Nat.le_refl _) _).alloc (by simp) _).alloc (by simp; omega) _
  obtain ⟨W, hW⟩ : ∃ W, W = ((((w.alloc (.cells #[.string x, .int .i64 now, .int .i64 lf] 28)).alloc (.cells #[.int .i64 t, .bool well] 41)).alloc (.cells #[.string ⟨#[]⟩, .int .i64 0, .int .i64 0] 28)).alloc (.cells #[.string nm, .int .i64 kd, .string a, .string b', .int .i64 n', .int .i64 wi, .string th, .string el] 37)) := ⟨_, rfl⟩
  have b4 : Hid (Below w.heap.size w W) := by rw [hW]; exact b3.out.alloc (by simp; omega) _
  have r4 : Hid (W.heap[w.heap.size + 1 + 1]? = some (.cells #[.string ⟨#[]⟩, .int .i64 0, .int .i64 0] 28 (0, 0))) := by
    rw [hW]
    refine (Below.heap_alloc _ _ _ (by simp)).trans ?_
    have := heap_alloc_new ((w.alloc (.cells #[.string x, .int .i64 now, .int .i64 lf] 28)).alloc (.cells #[.int .i64 t, .bool well] 41)) (.cells #[.string ⟨#[]⟩, .int .i64 0, .int .i64 0] 28)
    simpa using this
  have s4 : w.heap.size + 1 + 1 + 1 + 1 ≤ W.heap.size := by rw [hW]; simp
  have eW : Hid (W = ((((w.alloc (.cells #[.string x, .int .i64 now, .int .i64 lf] 28)).alloc (.cells #[.int .i64 t, .bool well] 41)).alloc (.cells #[.string ⟨#[]⟩, .int .i64 0, .int .i64 0] 28)).alloc (.cells #[.string nm, .int .i64 kd, .string a, .string b', .int .i64 n', .int .i64 wi, .string th, .string el] 37))) := hW
  clear hW
  obtain ⟨x0, x1, x2, x3, x4, x5, x6, x7⟩ := E.out _ b3.out
  by_cases c : kd = 3
  · subst c
    cases well
    · have _u := trivial
      by_cases c1 : wi < t
      · have c0 : ¬ wi < 0 := by omega
        have hg : goT (nm, 3, a, b', n', wi, th, el) t false = (wi, false) := by simp [goT, c1, c0]
        rw [hg] at htk
        simp only at htk
        rw [hg]
        have hn : Hid (nxT (nm, 3, a, b', n', wi, th, el) false = el) := rfl
        rw [hn.out]
        clear hn hg
        go_enter Try.func55, Try.ntmps55
        go_wp2_with fail
        rw [← eW.out]
        refine (ST.out el (now + wi) W b4.out).mono ?_; rintro e w1 ⟨rfl, hb1⟩
        have row : w1.heap[w.heap.size + 1 + 1]? = some (.cells #[.string ⟨#[]⟩, .int .i64 0, .int .i64 0] 28 (0, 0)) := (hb1.block _ (by omega)).trans r4.out
        obtain ⟨p0, g0⟩ := cell_row row 0 _ rfl
        obtain ⟨p1, g1⟩ := cell_row row 1 _ rfl
        obtain ⟨p2, g2⟩ := cell_row row 2 _ rfl
        have fin := set_row (set_row (set_row row 0 (.string el)) 1 (.int .i64 (now + wi))) 2 (.int .i64 (bndF 12 r el))
        have f0 := (cell_row fin 0 (.string el) rfl).1
        have f1 := (cell_row fin 1 (.int .i64 (now + wi)) rfl).1
        have f2 := (cell_row fin 2 (.int .i64 (bndF 12 r el)) rfl).1
        have bF := (((b4.out.trans (hb1.mono b4.out.size)).setCell (p := ⟨w.heap.size + 1 + 1, 0, none⟩) (by show w.heap.size ≤ w.heap.size + 1 + 1; omega) (.string el)).setCell (p := ⟨w.heap.size + 1 + 1, 1, none⟩) (by show w.heap.size ≤ w.heap.size + 1 + 1; omega) (.int .i64 (now + wi))).setCell (p := ⟨w.heap.size + 1 + 1, 2, none⟩) (by show w.heap.size ≤ w.heap.size + 1 + 1; omega) (.int .i64 (bndF 12 r el))
        go_wp2_with fail
        exact bodyPost_ret (v := .agg #[.string el, .int .i64 (now + wi), .int .i64 (bndF 12 r el)]) (by simp [results, Try.results55, go_sem, f0, f1, f2]) rfl ⟨rfl, bF⟩
      · by_cases c2 : t < 0
        · have _u := trivial
          have hg : goT (nm, 3, a, b', n', wi, th, el) t false = (0, false) := by simp [goT, c1, c2]
          rw [hg] at htk
          simp only at htk
          rw [hg]
          simp only [Int.add_zero]
          have hn : Hid (nxT (nm, 3, a, b', n', wi, th, el) false = el) := rfl
          rw [hn.out]
          clear hn hg
          go_enter Try.func55, Try.ntmps55
          go_wp2_with fail
          rw [← eW.out]
          refine (ST.out el (now) W b4.out).mono ?_; rintro e w1 ⟨rfl, hb1⟩
          have row : w1.heap[w.heap.size + 1 + 1]? = some (.cells #[.string ⟨#[]⟩, .int .i64 0, .int .i64 0] 28 (0, 0)) := (hb1.block _ (by omega)).trans r4.out
          obtain ⟨p0, g0⟩ := cell_row row 0 _ rfl
          obtain ⟨p1, g1⟩ := cell_row row 1 _ rfl
          obtain ⟨p2, g2⟩ := cell_row row 2 _ rfl
          have fin := set_row (set_row (set_row row 0 (.string el)) 1 (.int .i64 (now))) 2 (.int .i64 (bndF 12 r el))
          have f0 := (cell_row fin 0 (.string el) rfl).1
          have f1 := (cell_row fin 1 (.int .i64 (now)) rfl).1
          have f2 := (cell_row fin 2 (.int .i64 (bndF 12 r el)) rfl).1
          have bF := (((b4.out.trans (hb1.mono b4.out.size)).setCell (p := ⟨w.heap.size + 1 + 1, 0, none⟩) (by show w.heap.size ≤ w.heap.size + 1 + 1; omega) (.string el)).setCell (p := ⟨w.heap.size + 1 + 1, 1, none⟩) (by show w.heap.size ≤ w.heap.size + 1 + 1; omega) (.int .i64 (now))).setCell (p := ⟨w.heap.size + 1 + 1, 2, none⟩) (by show w.heap.size ≤ w.heap.size + 1 + 1; omega) (.int .i64 (bndF 12 r el))
          go_wp2_with fail
          exact bodyPost_ret (v := .agg #[.string el, .int .i64 (now), .int .i64 (bndF 12 r el)]) (by simp [results, Try.results55, go_sem, f0, f1, f2]) rfl ⟨rfl, bF⟩
        · have _u := trivial
          have hg : goT (nm, 3, a, b', n', wi, th, el) t false = (t, false) := by simp [goT, c1, c2]
          rw [hg] at htk
          simp only at htk
          rw [hg]
          have hn : Hid (nxT (nm, 3, a, b', n', wi, th, el) false = el) := rfl
          rw [hn.out]
          clear hn hg
          go_enter Try.func55, Try.ntmps55
          go_wp2_with fail
          rw [← eW.out]
          refine (ST.out el (now + t) W b4.out).mono ?_; rintro e w1 ⟨rfl, hb1⟩
          have row : w1.heap[w.heap.size + 1 + 1]? = some (.cells #[.string ⟨#[]⟩, .int .i64 0, .int .i64 0] 28 (0, 0)) := (hb1.block _ (by omega)).trans r4.out
          obtain ⟨p0, g0⟩ := cell_row row 0 _ rfl
          obtain ⟨p1, g1⟩ := cell_row row 1 _ rfl
          obtain ⟨p2, g2⟩ := cell_row row 2 _ rfl
          have fin := set_row (set_row (set_row row 0 (.string el)) 1 (.int .i64 (now + t))) 2 (.int .i64 (bndF 12 r el))
          have f0 := (cell_row fin 0 (.string el) rfl).1
          have f1 := (cell_row fin 1 (.int .i64 (now + t)) rfl).1
          have f2 := (cell_row fin 2 (.int .i64 (bndF 12 r el)) rfl).1
          have bF := (((b4.out.trans (hb1.mono b4.out.size)).setCell (p := ⟨w.heap.size + 1 + 1, 0, none⟩) (by show w.heap.size ≤ w.heap.size + 1 + 1; omega) (.string el)).setCell (p := ⟨w.heap.size + 1 + 1, 1, none⟩) (by show w.heap.size ≤ w.heap.size + 1 + 1; omega) (.int .i64 (now + t))).setCell (p := ⟨w.heap.size + 1 + 1, 2, none⟩) (by show w.heap.size ≤ w.heap.size + 1 + 1; omega) (.int .i64 (bndF 12 r el))
          go_wp2_with fail
          exact bodyPost_ret (v := .agg #[.string el, .int .i64 (now + t), .int .i64 (bndF 12 r el)]) (by simp [results, Try.results55, go_sem, f0, f1, f2]) rfl ⟨rfl, bF⟩
    · by_cases cn : t < n'
      · have _u := trivial
        by_cases c1 : wi < n'
        · have c0 : ¬ wi < 0 := by omega
          have hg : goT (nm, 3, a, b', n', wi, th, el) t true = (wi, false) := by simp [goT, cn, c1, c0]
          rw [hg] at htk
          simp only at htk
          rw [hg]
          have hn : Hid (nxT (nm, 3, a, b', n', wi, th, el) false = el) := rfl
          rw [hn.out]
          clear hn hg
          go_enter Try.func55, Try.ntmps55
          go_wp2_with fail
          rw [← eW.out]
          refine (ST.out el (now + wi) W b4.out).mono ?_; rintro e w1 ⟨rfl, hb1⟩
          have row : w1.heap[w.heap.size + 1 + 1]? = some (.cells #[.string ⟨#[]⟩, .int .i64 0, .int .i64 0] 28 (0, 0)) := (hb1.block _ (by omega)).trans r4.out
          obtain ⟨p0, g0⟩ := cell_row row 0 _ rfl
          obtain ⟨p1, g1⟩ := cell_row row 1 _ rfl
          obtain ⟨p2, g2⟩ := cell_row row 2 _ rfl
          have fin := set_row (set_row (set_row row 0 (.string el)) 1 (.int .i64 (now + wi))) 2 (.int .i64 (bndF 12 r el))
          have f0 := (cell_row fin 0 (.string el) rfl).1
          have f1 := (cell_row fin 1 (.int .i64 (now + wi)) rfl).1
          have f2 := (cell_row fin 2 (.int .i64 (bndF 12 r el)) rfl).1
          have bF := (((b4.out.trans (hb1.mono b4.out.size)).setCell (p := ⟨w.heap.size + 1 + 1, 0, none⟩) (by show w.heap.size ≤ w.heap.size + 1 + 1; omega) (.string el)).setCell (p := ⟨w.heap.size + 1 + 1, 1, none⟩) (by show w.heap.size ≤ w.heap.size + 1 + 1; omega) (.int .i64 (now + wi))).setCell (p := ⟨w.heap.size + 1 + 1, 2, none⟩) (by show w.heap.size ≤ w.heap.size + 1 + 1; omega) (.int .i64 (bndF 12 r el))
          go_wp2_with fail
          exact bodyPost_ret (v := .agg #[.string el, .int .i64 (now + wi), .int .i64 (bndF 12 r el)]) (by simp [results, Try.results55, go_sem, f0, f1, f2]) rfl ⟨rfl, bF⟩
        · by_cases c2 : n' < 0
          · have _u := trivial
            have hg : goT (nm, 3, a, b', n', wi, th, el) t true = (0, true) := by simp [goT, cn, c1, c2]
            rw [hg] at htk
            simp only at htk
            rw [hg]
            simp only [Int.add_zero]
            have hn : Hid (nxT (nm, 3, a, b', n', wi, th, el) true = th) := rfl
            rw [hn.out]
            clear hn hg
            go_enter Try.func55, Try.ntmps55
            go_wp2_with fail
            rw [← eW.out]
            refine (ST.out th (now) W b4.out).mono ?_; rintro e w1 ⟨rfl, hb1⟩
            have row : w1.heap[w.heap.size + 1 + 1]? = some (.cells #[.string ⟨#[]⟩, .int .i64 0, .int .i64 0] 28 (0, 0)) := (hb1.block _ (by omega)).trans r4.out
            obtain ⟨p0, g0⟩ := cell_row row 0 _ rfl
            obtain ⟨p1, g1⟩ := cell_row row 1 _ rfl
            obtain ⟨p2, g2⟩ := cell_row row 2 _ rfl
            have fin := set_row (set_row (set_row row 0 (.string th)) 1 (.int .i64 (now))) 2 (.int .i64 (bndF 12 r th))
            have f0 := (cell_row fin 0 (.string th) rfl).1
            have f1 := (cell_row fin 1 (.int .i64 (now)) rfl).1
            have f2 := (cell_row fin 2 (.int .i64 (bndF 12 r th)) rfl).1
            have bF := (((b4.out.trans (hb1.mono b4.out.size)).setCell (p := ⟨w.heap.size + 1 + 1, 0, none⟩) (by show w.heap.size ≤ w.heap.size + 1 + 1; omega) (.string th)).setCell (p := ⟨w.heap.size + 1 + 1, 1, none⟩) (by show w.heap.size ≤ w.heap.size + 1 + 1; omega) (.int .i64 (now))).setCell (p := ⟨w.heap.size + 1 + 1, 2, none⟩) (by show w.heap.size ≤ w.heap.size + 1 + 1; omega) (.int .i64 (bndF 12 r th))
            go_wp2_with fail
            exact bodyPost_ret (v := .agg #[.string th, .int .i64 (now), .int .i64 (bndF 12 r th)]) (by simp [results, Try.results55, go_sem, f0, f1, f2]) rfl ⟨rfl, bF⟩
          · have _u := trivial
            have hg : goT (nm, 3, a, b', n', wi, th, el) t true = (n', true) := by simp [goT, cn, c1, c2]
            rw [hg] at htk
            simp only at htk
            rw [hg]
            have hn : Hid (nxT (nm, 3, a, b', n', wi, th, el) true = th) := rfl
            rw [hn.out]
            clear hn hg
            go_enter Try.func55, Try.ntmps55
            go_wp2_with fail
            rw [← eW.out]
            refine (ST.out th (now + n') W b4.out).mono ?_; rintro e w1 ⟨rfl, hb1⟩
            have row : w1.heap[w.heap.size + 1 + 1]? = some (.cells #[.string ⟨#[]⟩, .int .i64 0, .int .i64 0] 28 (0, 0)) := (hb1.block _ (by omega)).trans r4.out
            obtain ⟨p0, g0⟩ := cell_row row 0 _ rfl
            obtain ⟨p1, g1⟩ := cell_row row 1 _ rfl
            obtain ⟨p2, g2⟩ := cell_row row 2 _ rfl
            have fin := set_row (set_row (set_row row 0 (.string th)) 1 (.int .i64 (now + n'))) 2 (.int .i64 (bndF 12 r th))
            have f0 := (cell_row fin 0 (.string th) rfl).1
            have f1 := (cell_row fin 1 (.int .i64 (now + n')) rfl).1
            have f2 := (cell_row fin 2 (.int .i64 (bndF 12 r th)) rfl).1
            have bF := (((b4.out.trans (hb1.mono b4.out.size)).setCell (p := ⟨w.heap.size + 1 + 1, 0, none⟩) (by show w.heap.size ≤ w.heap.size + 1 + 1; omega) (.string th)).setCell (p := ⟨w.heap.size + 1 + 1, 1, none⟩) (by show w.heap.size ≤ w.heap.size + 1 + 1; omega) (.int .i64 (now + n'))).setCell (p := ⟨w.heap.size + 1 + 1, 2, none⟩) (by show w.heap.size ≤ w.heap.size + 1 + 1; omega) (.int .i64 (bndF 12 r th))
            go_wp2_with fail
            exact bodyPost_ret (v := .agg #[.string th, .int .i64 (now + n'), .int .i64 (bndF 12 r th)]) (by simp [results, Try.results55, go_sem, f0, f1, f2]) rfl ⟨rfl, bF⟩
      · have _u := trivial
        by_cases c1 : wi < t
        · have c0 : ¬ wi < 0 := by omega
          have hg : goT (nm, 3, a, b', n', wi, th, el) t true = (wi, false) := by simp [goT, cn, c1, c0]
          rw [hg] at htk
          simp only at htk
          rw [hg]
          have hn : Hid (nxT (nm, 3, a, b', n', wi, th, el) false = el) := rfl
          rw [hn.out]
          clear hn hg
          go_enter Try.func55, Try.ntmps55
          go_wp2_with fail
          rw [← eW.out]
          refine (ST.out el (now + wi) W b4.out).mono ?_; rintro e w1 ⟨rfl, hb1⟩
          have row : w1.heap[w.heap.size + 1 + 1]? = some (.cells #[.string ⟨#[]⟩, .int .i64 0, .int .i64 0] 28 (0, 0)) := (hb1.block _ (by omega)).trans r4.out
          obtain ⟨p0, g0⟩ := cell_row row 0 _ rfl
          obtain ⟨p1, g1⟩ := cell_row row 1 _ rfl
          obtain ⟨p2, g2⟩ := cell_row row 2 _ rfl
          have fin := set_row (set_row (set_row row 0 (.string el)) 1 (.int .i64 (now + wi))) 2 (.int .i64 (bndF 12 r el))
          have f0 := (cell_row fin 0 (.string el) rfl).1
          have f1 := (cell_row fin 1 (.int .i64 (now + wi)) rfl).1
          have f2 := (cell_row fin 2 (.int .i64 (bndF 12 r el)) rfl).1
          have bF := (((b4.out.trans (hb1.mono b4.out.size)).setCell (p := ⟨w.heap.size + 1 + 1, 0, none⟩) (by show w.heap.size ≤ w.heap.size + 1 + 1; omega) (.string el)).setCell (p := ⟨w.heap.size + 1 + 1, 1, none⟩) (by show w.heap.size ≤ w.heap.size + 1 + 1; omega) (.int .i64 (now + wi))).setCell (p := ⟨w.heap.size + 1 + 1, 2, none⟩) (by show w.heap.size ≤ w.heap.size + 1 + 1; omega) (.int .i64 (bndF 12 r el))
          go_wp2_with fail
          exact bodyPost_ret (v := .agg #[.string el, .int .i64 (now + wi), .int .i64 (bndF 12 r el)]) (by simp [results, Try.results55, go_sem, f0, f1, f2]) rfl ⟨rfl, bF⟩
        · by_cases c2 : t < 0
          · have _u := trivial
            have hg : goT (nm, 3, a, b', n', wi, th, el) t true = (0, true) := by simp [goT, cn, c1, c2]
            rw [hg] at htk
            simp only at htk
            rw [hg]
            simp only [Int.add_zero]
            have hn : Hid (nxT (nm, 3, a, b', n', wi, th, el) true = th) := rfl
            rw [hn.out]
            clear hn hg
            go_enter Try.func55, Try.ntmps55
            go_wp2_with fail
            rw [← eW.out]
            refine (ST.out th (now) W b4.out).mono ?_; rintro e w1 ⟨rfl, hb1⟩
            have row : w1.heap[w.heap.size + 1 + 1]? = some (.cells #[.string ⟨#[]⟩, .int .i64 0, .int .i64 0] 28 (0, 0)) := (hb1.block _ (by omega)).trans r4.out
            obtain ⟨p0, g0⟩ := cell_row row 0 _ rfl
            obtain ⟨p1, g1⟩ := cell_row row 1 _ rfl
            obtain ⟨p2, g2⟩ := cell_row row 2 _ rfl
            have fin := set_row (set_row (set_row row 0 (.string th)) 1 (.int .i64 (now))) 2 (.int .i64 (bndF 12 r th))
            have f0 := (cell_row fin 0 (.string th) rfl).1
            have f1 := (cell_row fin 1 (.int .i64 (now)) rfl).1
            have f2 := (cell_row fin 2 (.int .i64 (bndF 12 r th)) rfl).1
            have bF := (((b4.out.trans (hb1.mono b4.out.size)).setCell (p := ⟨w.heap.size + 1 + 1, 0, none⟩) (by show w.heap.size ≤ w.heap.size + 1 + 1; omega) (.string th)).setCell (p := ⟨w.heap.size + 1 + 1, 1, none⟩) (by show w.heap.size ≤ w.heap.size + 1 + 1; omega) (.int .i64 (now))).setCell (p := ⟨w.heap.size + 1 + 1, 2, none⟩) (by show w.heap.size ≤ w.heap.size + 1 + 1; omega) (.int .i64 (bndF 12 r th))
            go_wp2_with fail
            exact bodyPost_ret (v := .agg #[.string th, .int .i64 (now), .int .i64 (bndF 12 r th)]) (by simp [results, Try.results55, go_sem, f0, f1, f2]) rfl ⟨rfl, bF⟩
          · have _u := trivial
            have hg : goT (nm, 3, a, b', n', wi, th, el) t true = (t, true) := by simp [goT, cn, c1, c2]
            rw [hg] at htk
            simp only at htk
            rw [hg]
            have hn : Hid (nxT (nm, 3, a, b', n', wi, th, el) true = th) := rfl
            rw [hn.out]
            clear hn hg
            go_enter Try.func55, Try.ntmps55
            go_wp2_with fail
            rw [← eW.out]
            refine (ST.out th (now + t) W b4.out).mono ?_; rintro e w1 ⟨rfl, hb1⟩
            have row : w1.heap[w.heap.size + 1 + 1]? = some (.cells #[.string ⟨#[]⟩, .int .i64 0, .int .i64 0] 28 (0, 0)) := (hb1.block _ (by omega)).trans r4.out
            obtain ⟨p0, g0⟩ := cell_row row 0 _ rfl
            obtain ⟨p1, g1⟩ := cell_row row 1 _ rfl
            obtain ⟨p2, g2⟩ := cell_row row 2 _ rfl
            have fin := set_row (set_row (set_row row 0 (.string th)) 1 (.int .i64 (now + t))) 2 (.int .i64 (bndF 12 r th))
            have f0 := (cell_row fin 0 (.string th) rfl).1
            have f1 := (cell_row fin 1 (.int .i64 (now + t)) rfl).1
            have f2 := (cell_row fin 2 (.int .i64 (bndF 12 r th)) rfl).1
            have bF := (((b4.out.trans (hb1.mono b4.out.size)).setCell (p := ⟨w.heap.size + 1 + 1, 0, none⟩) (by show w.heap.size ≤ w.heap.size + 1 + 1; omega) (.string th)).setCell (p := ⟨w.heap.size + 1 + 1, 1, none⟩) (by show w.heap.size ≤ w.heap.size + 1 + 1; omega) (.int .i64 (now + t))).setCell (p := ⟨w.heap.size + 1 + 1, 2, none⟩) (by show w.heap.size ≤ w.heap.size + 1 + 1; omega) (.int .i64 (bndF 12 r th))
            go_wp2_with fail
            exact bodyPost_ret (v := .agg #[.string th, .int .i64 (now + t), .int .i64 (bndF 12 r th)]) (by simp [results, Try.results55, go_sem, f0, f1, f2]) rfl ⟨rfl, bF⟩
  · cases well
    · have _u := trivial
      by_cases c1 : wi < t
      · have c0 : ¬ wi < 0 := by omega
        have hg : goT (nm, kd, a, b', n', wi, th, el) t false = (wi, false) := by simp [goT, c, c1, c0]
        rw [hg] at htk
        simp only at htk
        rw [hg]
        have hn : Hid (nxT (nm, kd, a, b', n', wi, th, el) false = el) := rfl
        rw [hn.out]
        clear hn hg
        go_enter Try.func55, Try.ntmps55
        go_wp2_with fail
        rw [← eW.out]
        refine (ST.out el (now + wi) W b4.out).mono ?_; rintro e w1 ⟨rfl, hb1⟩
        have row : w1.heap[w.heap.size + 1 + 1]? = some (.cells #[.string ⟨#[]⟩, .int .i64 0, .int .i64 0] 28 (0, 0)) := (hb1.block _ (by omega)).trans r4.out
        obtain ⟨p0, g0⟩ := cell_row row 0 _ rfl
        obtain ⟨p1, g1⟩ := cell_row row 1 _ rfl
        obtain ⟨p2, g2⟩ := cell_row row 2 _ rfl
        have fin := set_row (set_row (set_row row 0 (.string el)) 1 (.int .i64 (now + wi))) 2 (.int .i64 (bndF 12 r el))
        have f0 := (cell_row fin 0 (.string el) rfl).1
        have f1 := (cell_row fin 1 (.int .i64 (now + wi)) rfl).1
        have f2 := (cell_row fin 2 (.int .i64 (bndF 12 r el)) rfl).1
        have bF := (((b4.out.trans (hb1.mono b4.out.size)).setCell (p := ⟨w.heap.size + 1 + 1, 0, none⟩) (by show w.heap.size ≤ w.heap.size + 1 + 1; omega) (.string el)).setCell (p := ⟨w.heap.size + 1 + 1, 1, none⟩) (by show w.heap.size ≤ w.heap.size + 1 + 1; omega) (.int .i64 (now + wi))).setCell (p := ⟨w.heap.size + 1 + 1, 2, none⟩) (by show w.heap.size ≤ w.heap.size + 1 + 1; omega) (.int .i64 (bndF 12 r el))
        go_wp2_with fail
        exact bodyPost_ret (v := .agg #[.string el, .int .i64 (now + wi), .int .i64 (bndF 12 r el)]) (by simp [results, Try.results55, go_sem, f0, f1, f2]) rfl ⟨rfl, bF⟩
      · by_cases c2 : t < 0
        · have _u := trivial
          have hg : goT (nm, kd, a, b', n', wi, th, el) t false = (0, false) := by simp [goT, c, c1, c2]
          rw [hg] at htk
          simp only at htk
          rw [hg]
          simp only [Int.add_zero]
          have hn : Hid (nxT (nm, kd, a, b', n', wi, th, el) false = el) := rfl
          rw [hn.out]
          clear hn hg
          go_enter Try.func55, Try.ntmps55
          go_wp2_with fail
          rw [← eW.out]
          refine (ST.out el (now) W b4.out).mono ?_; rintro e w1 ⟨rfl, hb1⟩
          have row : w1.heap[w.heap.size + 1 + 1]? = some (.cells #[.string ⟨#[]⟩, .int .i64 0, .int .i64 0] 28 (0, 0)) := (hb1.block _ (by omega)).trans r4.out
          obtain ⟨p0, g0⟩ := cell_row row 0 _ rfl
          obtain ⟨p1, g1⟩ := cell_row row 1 _ rfl
          obtain ⟨p2, g2⟩ := cell_row row 2 _ rfl
          have fin := set_row (set_row (set_row row 0 (.string el)) 1 (.int .i64 (now))) 2 (.int .i64 (bndF 12 r el))
          have f0 := (cell_row fin 0 (.string el) rfl).1
          have f1 := (cell_row fin 1 (.int .i64 (now)) rfl).1
          have f2 := (cell_row fin 2 (.int .i64 (bndF 12 r el)) rfl).1
          have bF := (((b4.out.trans (hb1.mono b4.out.size)).setCell (p := ⟨w.heap.size + 1 + 1, 0, none⟩) (by show w.heap.size ≤ w.heap.size + 1 + 1; omega) (.string el)).setCell (p := ⟨w.heap.size + 1 + 1, 1, none⟩) (by show w.heap.size ≤ w.heap.size + 1 + 1; omega) (.int .i64 (now))).setCell (p := ⟨w.heap.size + 1 + 1, 2, none⟩) (by show w.heap.size ≤ w.heap.size + 1 + 1; omega) (.int .i64 (bndF 12 r el))
          go_wp2_with fail
          exact bodyPost_ret (v := .agg #[.string el, .int .i64 (now), .int .i64 (bndF 12 r el)]) (by simp [results, Try.results55, go_sem, f0, f1, f2]) rfl ⟨rfl, bF⟩
        · have _u := trivial
          have hg : goT (nm, kd, a, b', n', wi, th, el) t false = (t, false) := by simp [goT, c, c1, c2]
          rw [hg] at htk
          simp only at htk
          rw [hg]
          have hn : Hid (nxT (nm, kd, a, b', n', wi, th, el) false = el) := rfl
          rw [hn.out]
          clear hn hg
          go_enter Try.func55, Try.ntmps55
          go_wp2_with fail
          rw [← eW.out]
          refine (ST.out el (now + t) W b4.out).mono ?_; rintro e w1 ⟨rfl, hb1⟩
          have row : w1.heap[w.heap.size + 1 + 1]? = some (.cells #[.string ⟨#[]⟩, .int .i64 0, .int .i64 0] 28 (0, 0)) := (hb1.block _ (by omega)).trans r4.out
          obtain ⟨p0, g0⟩ := cell_row row 0 _ rfl
          obtain ⟨p1, g1⟩ := cell_row row 1 _ rfl
          obtain ⟨p2, g2⟩ := cell_row row 2 _ rfl
          have fin := set_row (set_row (set_row row 0 (.string el)) 1 (.int .i64 (now + t))) 2 (.int .i64 (bndF 12 r el))
          have f0 := (cell_row fin 0 (.string el) rfl).1
          have f1 := (cell_row fin 1 (.int .i64 (now + t)) rfl).1
          have f2 := (cell_row fin 2 (.int .i64 (bndF 12 r el)) rfl).1
          have bF := (((b4.out.trans (hb1.mono b4.out.size)).setCell (p := ⟨w.heap.size + 1 + 1, 0, none⟩) (by show w.heap.size ≤ w.heap.size + 1 + 1; omega) (.string el)).setCell (p := ⟨w.heap.size + 1 + 1, 1, none⟩) (by show w.heap.size ≤ w.heap.size + 1 + 1; omega) (.int .i64 (now + t))).setCell (p := ⟨w.heap.size + 1 + 1, 2, none⟩) (by show w.heap.size ≤ w.heap.size + 1 + 1; omega) (.int .i64 (bndF 12 r el))
          go_wp2_with fail
          exact bodyPost_ret (v := .agg #[.string el, .int .i64 (now + t), .int .i64 (bndF 12 r el)]) (by simp [results, Try.results55, go_sem, f0, f1, f2]) rfl ⟨rfl, bF⟩
    · have _u := trivial
      by_cases c1 : wi < t
      · have c0 : ¬ wi < 0 := by omega
        have hg : goT (nm, kd, a, b', n', wi, th, el) t true = (wi, false) := by simp [goT, c, c1, c0]
        rw [hg] at htk
        simp only at htk
        rw [hg]
        have hn : Hid (nxT (nm, kd, a, b', n', wi, th, el) false = el) := rfl
        rw [hn.out]
        clear hn hg
        go_enter Try.func55, Try.ntmps55
        go_wp2_with fail
        rw [← eW.out]
        refine (ST.out el (now + wi) W b4.out).mono ?_; rintro e w1 ⟨rfl, hb1⟩
        have row : w1.heap[w.heap.size + 1 + 1]? = some (.cells #[.string ⟨#[]⟩, .int .i64 0, .int .i64 0] 28 (0, 0)) := (hb1.block _ (by omega)).trans r4.out
        obtain ⟨p0, g0⟩ := cell_row row 0 _ rfl
        obtain ⟨p1, g1⟩ := cell_row row 1 _ rfl
        obtain ⟨p2, g2⟩ := cell_row row 2 _ rfl
        have fin := set_row (set_row (set_row row 0 (.string el)) 1 (.int .i64 (now + wi))) 2 (.int .i64 (bndF 12 r el))
        have f0 := (cell_row fin 0 (.string el) rfl).1
        have f1 := (cell_row fin 1 (.int .i64 (now + wi)) rfl).1
        have f2 := (cell_row fin 2 (.int .i64 (bndF 12 r el)) rfl).1
        have bF := (((b4.out.trans (hb1.mono b4.out.size)).setCell (p := ⟨w.heap.size + 1 + 1, 0, none⟩) (by show w.heap.size ≤ w.heap.size + 1 + 1; omega) (.string el)).setCell (p := ⟨w.heap.size + 1 + 1, 1, none⟩) (by show w.heap.size ≤ w.heap.size + 1 + 1; omega) (.int .i64 (now + wi))).setCell (p := ⟨w.heap.size + 1 + 1, 2, none⟩) (by show w.heap.size ≤ w.heap.size + 1 + 1; omega) (.int .i64 (bndF 12 r el))
        go_wp2_with fail
        exact bodyPost_ret (v := .agg #[.string el, .int .i64 (now + wi), .int .i64 (bndF 12 r el)]) (by simp [results, Try.results55, go_sem, f0, f1, f2]) rfl ⟨rfl, bF⟩
      · by_cases c2 : t < 0
        · have _u := trivial
          have hg : goT (nm, kd, a, b', n', wi, th, el) t true = (0, true) := by simp [goT, c, c1, c2]
          rw [hg] at htk
          simp only at htk
          rw [hg]
          simp only [Int.add_zero]
          have hn : Hid (nxT (nm, kd, a, b', n', wi, th, el) true = th) := rfl
          rw [hn.out]
          clear hn hg
          go_enter Try.func55, Try.ntmps55
          go_wp2_with fail
          rw [← eW.out]
          refine (ST.out th (now) W b4.out).mono ?_; rintro e w1 ⟨rfl, hb1⟩
          have row : w1.heap[w.heap.size + 1 + 1]? = some (.cells #[.string ⟨#[]⟩, .int .i64 0, .int .i64 0] 28 (0, 0)) := (hb1.block _ (by omega)).trans r4.out
          obtain ⟨p0, g0⟩ := cell_row row 0 _ rfl
          obtain ⟨p1, g1⟩ := cell_row row 1 _ rfl
          obtain ⟨p2, g2⟩ := cell_row row 2 _ rfl
          have fin := set_row (set_row (set_row row 0 (.string th)) 1 (.int .i64 (now))) 2 (.int .i64 (bndF 12 r th))
          have f0 := (cell_row fin 0 (.string th) rfl).1
          have f1 := (cell_row fin 1 (.int .i64 (now)) rfl).1
          have f2 := (cell_row fin 2 (.int .i64 (bndF 12 r th)) rfl).1
          have bF := (((b4.out.trans (hb1.mono b4.out.size)).setCell (p := ⟨w.heap.size + 1 + 1, 0, none⟩) (by show w.heap.size ≤ w.heap.size + 1 + 1; omega) (.string th)).setCell (p := ⟨w.heap.size + 1 + 1, 1, none⟩) (by show w.heap.size ≤ w.heap.size + 1 + 1; omega) (.int .i64 (now))).setCell (p := ⟨w.heap.size + 1 + 1, 2, none⟩) (by show w.heap.size ≤ w.heap.size + 1 + 1; omega) (.int .i64 (bndF 12 r th))
          go_wp2_with fail
          exact bodyPost_ret (v := .agg #[.string th, .int .i64 (now), .int .i64 (bndF 12 r th)]) (by simp [results, Try.results55, go_sem, f0, f1, f2]) rfl ⟨rfl, bF⟩
        · have _u := trivial
          have hg : goT (nm, kd, a, b', n', wi, th, el) t true = (t, true) := by simp [goT, c, c1, c2]
          rw [hg] at htk
          simp only at htk
          rw [hg]
          have hn : Hid (nxT (nm, kd, a, b', n', wi, th, el) true = th) := rfl
          rw [hn.out]
          clear hn hg
          go_enter Try.func55, Try.ntmps55
          go_wp2_with fail
          rw [← eW.out]
          refine (ST.out th (now + t) W b4.out).mono ?_; rintro e w1 ⟨rfl, hb1⟩
          have row : w1.heap[w.heap.size + 1 + 1]? = some (.cells #[.string ⟨#[]⟩, .int .i64 0, .int .i64 0] 28 (0, 0)) := (hb1.block _ (by omega)).trans r4.out
          obtain ⟨p0, g0⟩ := cell_row row 0 _ rfl
          obtain ⟨p1, g1⟩ := cell_row row 1 _ rfl
          obtain ⟨p2, g2⟩ := cell_row row 2 _ rfl
          have fin := set_row (set_row (set_row row 0 (.string th)) 1 (.int .i64 (now + t))) 2 (.int .i64 (bndF 12 r th))
          have f0 := (cell_row fin 0 (.string th) rfl).1
          have f1 := (cell_row fin 1 (.int .i64 (now + t)) rfl).1
          have f2 := (cell_row fin 2 (.int .i64 (bndF 12 r th)) rfl).1
          have bF := (((b4.out.trans (hb1.mono b4.out.size)).setCell (p := ⟨w.heap.size + 1 + 1, 0, none⟩) (by show w.heap.size ≤ w.heap.size + 1 + 1; omega) (.string th)).setCell (p := ⟨w.heap.size + 1 + 1, 1, none⟩) (by show w.heap.size ≤ w.heap.size + 1 + 1; omega) (.int .i64 (now + t))).setCell (p := ⟨w.heap.size + 1 + 1, 2, none⟩) (by show w.heap.size ≤ w.heap.size + 1 + 1; omega) (.int .i64 (bndF 12 r th))
          go_wp2_with fail
          exact bodyPost_ret (v := .agg #[.string th, .int .i64 (now + t), .int .i64 (bndF 12 r th)]) (by simp [results, Try.results55, go_sem, f0, f1, f2]) rfl ⟨rfl, bF⟩

/-- What RecGo gives: the state behind, and whether it went on. -/
noncomputable def goS (r : List DRecPhase) (x : ByteArray) (now lf t : Int) (well : Bool) : (ByteArray × Int × Int) × Bool :=
  if recB r = true ∧ 0 ≤ atI r x ∧ inB now 0 12000 = true then ((nxT (phX r x) (goT (phX r x) t well).2, now + (goT (phX r x) t well).1, bndF 12 r (nxT (phX r x) (goT (phX r x) t well).2)), true) else ((x, now, lf), false)

set_option maxRecDepth 100000 in
set_option maxHeartbeats 4000000 in
theorem recGoX_any (S : Nat → Prop) (r : List DRecPhase) (v : Value) (x : ByteArray) (now lf t : Int) (well : Bool) (w : World) (h : AtL S w r v) (hS : ∀ b, S b → b < w.heap.size) (ht : OkN t) :
    Calls Try.prog 24 #[v, .agg #[.string x, .int .i64 now, .int .i64 lf], .agg #[.int .i64 t, .bool well]] w fun e w' => e = .returned (.tuple #[.agg #[.string (goS r x now lf t well).1.1, .int .i64 (goS r x now lf t well).1.2.1, .int .i64 (goS r x now lf t well).1.2.2], .bool (goS r x now lf t well).2]) ∧ Below w.heap.size w w' := by
  have H : Hid (∀ w', Below w.heap.size w w' → AtL S w' r v ∧ ∀ b, S b → b < w'.heap.size) := fun w' hb => ⟨h.same (Same.of_below hb hS), fun b hb' => Nat.lt_of_lt_of_le (hS b hb') hb.size⟩
  obtain ⟨W, hW⟩ : ∃ W, W = (((w.alloc (.cells #[.string x, .int .i64 now, .int .i64 lf] 28)).alloc (.cells #[.int .i64 t, .bool well] 41)).alloc (.cells #[.string ⟨#[]⟩, .int .i64 0, .int .i64 0] 28)) := ⟨_, rfl⟩
  have bW : Hid (Below w.heap.size w W) := by rw [hW]; exact (((Below.refl _ _).alloc (Nat.le_refl _) _).alloc (by simp) _).alloc (by simp; omega) _
  have rW : Hid (W.heap[w.heap.size + 1 + 1]? = some (.cells #[.string ⟨#[]⟩, .int .i64 0, .int .i64 0] 28 (0, 0))) := by
    have := heap_alloc_new ((w.alloc (.cells #[.string x, .int .i64 now, .int .i64 lf] 28)).alloc (.cells #[.int .i64 t, .bool well] 41)) (.cells #[.string ⟨#[]⟩, .int .i64 0, .int .i64 0] 28)
    have t1 : (((w.alloc (.cells #[.string x, .int .i64 now, .int .i64 lf] 28)).alloc (.cells #[.int .i64 t, .bool well] 41)).alloc (.cells #[.string ⟨#[]⟩, .int .i64 0, .int .i64 0] 28)).heap[w.heap.size + 1 + 1]? = some (.cells #[.string ⟨#[]⟩, .int .i64 0, .int .i64 0] 28 (0, 0)) := by simpa using this
    rw [hW]; exact t1
  have rS : Hid (W.heap[w.heap.size]? = some (.cells #[.string x, .int .i64 now, .int .i64 lf] 28 (0, 0))) := by
    rw [hW]
    exact (Below.heap_alloc _ _ _ (by simp; omega)).trans ((Below.heap_alloc _ _ _ (by simp)).trans (heap_alloc_new w _))
  have rY : Hid (W.heap[w.heap.size + 1]? = some (.cells #[.int .i64 t, .bool well] 41 (0, 0))) := by
    rw [hW]
    refine (Below.heap_alloc _ _ _ (by simp)).trans ?_
    have := heap_alloc_new (w.alloc (.cells #[.string x, .int .i64 now, .int .i64 lf] 28)) (.cells #[.int .i64 t, .bool well] 41)
    simpa using this
  have sW : w.heap.size + 1 + 1 + 1 ≤ W.heap.size := by rw [hW]; simp
  have eW : Hid (W = (((w.alloc (.cells #[.string x, .int .i64 now, .int .i64 lf] 28)).alloc (.cells #[.int .i64 t, .bool well] 41)).alloc (.cells #[.string ⟨#[]⟩, .int .i64 0, .int .i64 0] 28))) := hW
  clear hW h hS
  have AT : Hid (Calls Try.prog 23 #[v, .string x] W fun e w' => e = .returned (.int .i64 (atI r x)) ∧ w' = W) := atX_any S r v x W (H.out W bW.out).1
  have OK : Hid (Calls Try.prog 8 #[v] W fun e w' => e = .returned (.bool (recB r)) ∧ Below W.heap.size W w') := okX_any S r v W (H.out W bW.out).1 (H.out W bW.out).2
  cases c : recB r
  · rw [c] at OK
    have hr : goS r x now lf t well = ((x, now, lf), false) := by simp [goS, c]
    rw [hr]
    clear hr
    go_enter Try.func24, Try.ntmps24
    go_wp2_with fail
    rw [← eW.out]
    refine AT.out.mono ?_; rintro e u0 ⟨rfl, rfl⟩
    go_wp2_with fail
    refine OK.out.mono ?_; rintro e u ⟨rfl, hb⟩
    have bU : Hid (Below w.heap.size w u) := bW.out.trans (hb.mono (by omega))
    have rowU : Hid (u.heap[w.heap.size + 1 + 1]? = some (.cells #[.string ⟨#[]⟩, .int .i64 0, .int .i64 0] 28 (0, 0))) := (hb.block _ (by omega)).trans rW.out
    have rowS : u.heap[w.heap.size]? = some (.cells #[.string x, .int .i64 now, .int .i64 lf] 28 (0, 0)) := (hb.block _ (by omega)).trans rS.out
    have rowY : u.heap[w.heap.size + 1]? = some (.cells #[.int .i64 t, .bool well] 41 (0, 0)) := (hb.block _ (by omega)).trans rY.out
    have y0 := (cell_row rowS 0 (.string x) rfl).1
    have y1 := (cell_row rowS 1 (.int .i64 now) rfl).1
    have y2 := (cell_row rowS 2 (.int .i64 lf) rfl).1
    have v0 := (cell_row rowY 0 (.int .i64 t) rfl).1
    have v1 := (cell_row rowY 1 (.bool well) rfl).1
    have sU : w.heap.size + 1 + 1 + 1 ≤ u.heap.size := by have := hb.size; omega
    clear hb rowS rowY
    have row : u.heap[w.heap.size + 1 + 1]? = some (.cells #[.string ⟨#[]⟩, .int .i64 0, .int .i64 0] 28 (0, 0)) := rowU.out
    obtain ⟨p0, g0⟩ := cell_row row 0 _ rfl
    obtain ⟨p1, g1⟩ := cell_row row 1 _ rfl
    obtain ⟨p2, g2⟩ := cell_row row 2 _ rfl
    have fin := set_row (set_row (set_row row 0 (.string x)) 1 (.int .i64 now)) 2 (.int .i64 lf)
    have f0 := (cell_row fin 0 (.string x) rfl).1
    have f1 := (cell_row fin 1 (.int .i64 now) rfl).1
    have f2 := (cell_row fin 2 (.int .i64 lf) rfl).1
    have bF := (((bU.out.setCell (p := ⟨w.heap.size + 1 + 1, 0, none⟩) (by show w.heap.size ≤ w.heap.size + 1 + 1; omega) (.string x)).setCell (p := ⟨w.heap.size + 1 + 1, 1, none⟩) (by show w.heap.size ≤ w.heap.size + 1 + 1; omega) (.int .i64 now)).setCell (p := ⟨w.heap.size + 1 + 1, 2, none⟩) (by show w.heap.size ≤ w.heap.size + 1 + 1; omega) (.int .i64 lf))
    clear row fin
    go_wp2_with fail
    exact bodyPost_ret (v := .tuple #[.agg #[.string x, .int .i64 now, .int .i64 lf], .bool false]) (by simp [results, Try.results24, go_sem, f0, f1, f2]) rfl ⟨rfl, bF⟩
  · have hR := rec_iff.1 c
    rw [c] at OK
    rcases at_cases r x with e | ⟨k, hk, e, _⟩
    · have hn : ¬ (0 ≤ atI r x) := by omega
      have hr : goS r x now lf t well = ((x, now, lf), false) := by simp [goS, hn]
      rw [hr]
      clear hr
      go_enter Try.func24, Try.ntmps24
      go_wp2_with fail
      rw [← eW.out]
      refine AT.out.mono ?_; rintro e u0 ⟨rfl, rfl⟩; rw [e]
      go_wp2_with fail
      refine OK.out.mono ?_; rintro e u ⟨rfl, hb⟩
      have bU : Hid (Below w.heap.size w u) := bW.out.trans (hb.mono (by omega))
      have rowU : Hid (u.heap[w.heap.size + 1 + 1]? = some (.cells #[.string ⟨#[]⟩, .int .i64 0, .int .i64 0] 28 (0, 0))) := (hb.block _ (by omega)).trans rW.out
      have rowS : u.heap[w.heap.size]? = some (.cells #[.string x, .int .i64 now, .int .i64 lf] 28 (0, 0)) := (hb.block _ (by omega)).trans rS.out
      have rowY : u.heap[w.heap.size + 1]? = some (.cells #[.int .i64 t, .bool well] 41 (0, 0)) := (hb.block _ (by omega)).trans rY.out
      have y0 := (cell_row rowS 0 (.string x) rfl).1
      have y1 := (cell_row rowS 1 (.int .i64 now) rfl).1
      have y2 := (cell_row rowS 2 (.int .i64 lf) rfl).1
      have v0 := (cell_row rowY 0 (.int .i64 t) rfl).1
      have v1 := (cell_row rowY 1 (.bool well) rfl).1
      have sU : w.heap.size + 1 + 1 + 1 ≤ u.heap.size := by have := hb.size; omega
      clear hb rowS rowY
      have row : u.heap[w.heap.size + 1 + 1]? = some (.cells #[.string ⟨#[]⟩, .int .i64 0, .int .i64 0] 28 (0, 0)) := rowU.out
      obtain ⟨p0, g0⟩ := cell_row row 0 _ rfl
      obtain ⟨p1, g1⟩ := cell_row row 1 _ rfl
      obtain ⟨p2, g2⟩ := cell_row row 2 _ rfl
      have fin := set_row (set_row (set_row row 0 (.string x)) 1 (.int .i64 now)) 2 (.int .i64 lf)
      have f0 := (cell_row fin 0 (.string x) rfl).1
      have f1 := (cell_row fin 1 (.int .i64 now) rfl).1
      have f2 := (cell_row fin 2 (.int .i64 lf) rfl).1
      have bF := (((bU.out.setCell (p := ⟨w.heap.size + 1 + 1, 0, none⟩) (by show w.heap.size ≤ w.heap.size + 1 + 1; omega) (.string x)).setCell (p := ⟨w.heap.size + 1 + 1, 1, none⟩) (by show w.heap.size ≤ w.heap.size + 1 + 1; omega) (.int .i64 now)).setCell (p := ⟨w.heap.size + 1 + 1, 2, none⟩) (by show w.heap.size ≤ w.heap.size + 1 + 1; omega) (.int .i64 lf))
      clear row fin
      go_wp2_with fail
      exact bodyPost_ret (v := .tuple #[.agg #[.string x, .int .i64 now, .int .i64 lf], .bool false]) (by simp [results, Try.results24, go_sem, f0, f1, f2]) rfl ⟨rfl, bF⟩
    · cases c2 : inB now 0 12000
      · have _u := trivial
        have hr : goS r x now lf t well = ((x, now, lf), false) := by simp [goS, c2]
        rw [hr]
        clear hr
        go_enter Try.func24, Try.ntmps24
        go_wp2_with fail
        rw [← eW.out]
        refine AT.out.mono ?_; rintro e u0 ⟨rfl, rfl⟩; rw [e]
        go_wp2_with fail
        refine OK.out.mono ?_; rintro e u ⟨rfl, hb⟩
        have bU : Hid (Below w.heap.size w u) := bW.out.trans (hb.mono (by omega))
        have rowU : Hid (u.heap[w.heap.size + 1 + 1]? = some (.cells #[.string ⟨#[]⟩, .int .i64 0, .int .i64 0] 28 (0, 0))) := (hb.block _ (by omega)).trans rW.out
        have rowS : u.heap[w.heap.size]? = some (.cells #[.string x, .int .i64 now, .int .i64 lf] 28 (0, 0)) := (hb.block _ (by omega)).trans rS.out
        have rowY : u.heap[w.heap.size + 1]? = some (.cells #[.int .i64 t, .bool well] 41 (0, 0)) := (hb.block _ (by omega)).trans rY.out
        have y0 := (cell_row rowS 0 (.string x) rfl).1
        have y1 := (cell_row rowS 1 (.int .i64 now) rfl).1
        have y2 := (cell_row rowS 2 (.int .i64 lf) rfl).1
        have v0 := (cell_row rowY 0 (.int .i64 t) rfl).1
        have v1 := (cell_row rowY 1 (.bool well) rfl).1
        have sU : w.heap.size + 1 + 1 + 1 ≤ u.heap.size := by have := hb.size; omega
        clear hb rowS rowY
        go_wp2_with fail
        refine (inX_any now 0 12000 _).mono ?_; rintro e' u1 ⟨rfl, rfl⟩; rw [c2]
        have row : u1.heap[w.heap.size + 1 + 1]? = some (.cells #[.string ⟨#[]⟩, .int .i64 0, .int .i64 0] 28 (0, 0)) := rowU.out
        obtain ⟨p0, g0⟩ := cell_row row 0 _ rfl
        obtain ⟨p1, g1⟩ := cell_row row 1 _ rfl
        obtain ⟨p2, g2⟩ := cell_row row 2 _ rfl
        have fin := set_row (set_row (set_row row 0 (.string x)) 1 (.int .i64 now)) 2 (.int .i64 lf)
        have f0 := (cell_row fin 0 (.string x) rfl).1
        have f1 := (cell_row fin 1 (.int .i64 now) rfl).1
        have f2 := (cell_row fin 2 (.int .i64 lf) rfl).1
        have bF := (((bU.out.setCell (p := ⟨w.heap.size + 1 + 1, 0, none⟩) (by show w.heap.size ≤ w.heap.size + 1 + 1; omega) (.string x)).setCell (p := ⟨w.heap.size + 1 + 1, 1, none⟩) (by show w.heap.size ≤ w.heap.size + 1 + 1; omega) (.int .i64 now)).setCell (p := ⟨w.heap.size + 1 + 1, 2, none⟩) (by show w.heap.size ≤ w.heap.size + 1 + 1; omega) (.int .i64 lf))
        clear row fin
        go_wp2_with fail
        exact bodyPost_ret (v := .tuple #[.agg #[.string x, .int .i64 now, .int .i64 lf], .bool false]) (by simp [results, Try.results24, go_sem, f0, f1, f2]) rfl ⟨rfl, bF⟩
      · have hnow : 0 ≤ now ∧ now ≤ 12000 := by simpa [inB] using c2
        have hn0 : 0 ≤ atI r x := by omega
        have hph := ph_at hk e
        obtain ⟨f, ef⟩ : ∃ f, r[k] = f := ⟨_, rfl⟩
        have hr : goS r x now lf t well = ((nxT f (goT f t well).2, now + (goT f t well).1, bndF 12 r (nxT f (goT f t well).2)), true) := by simp only [goS, c, hn0, c2, and_self, if_true, hph, ef]
        rw [hr]
        have GO : Hid (∀ u, Below w.heap.size w u → Calls Try.prog 55 #[v, .agg #[.string x, .int .i64 now, .int .i64 lf], .int .i64 k, .agg #[.int .i64 t, .bool well]] u fun e w' => e = .returned (.agg #[.string (nxT f (goT f t well).2), .int .i64 (now + (goT f t well).1), .int .i64 (bndF 12 r (nxT f (goT f t well).2))]) ∧ Below u.heap.size u w') := fun u hu => by rw [← ef]; exact goX_any S r hR v x now lf t well k hk u (H.out u hu).1 (H.out u hu).2 hnow ht
        obtain ⟨N, hN⟩ : ∃ N, N = nxT f (goT f t well).2 := ⟨_, rfl⟩
        obtain ⟨M, hM⟩ : ∃ M, M = now + (goT f t well).1 := ⟨_, rfl⟩
        rw [← hN, ← hM] at GO
        rw [← hN, ← hM]
        clear hN hM hr hph ef hnow ht H
        go_enter Try.func24, Try.ntmps24
        go_wp2_with fail
        rw [← eW.out]
        refine AT.out.mono ?_; rintro e u0 ⟨rfl, rfl⟩; rw [e]
        go_wp2_with fail
        refine OK.out.mono ?_; rintro e u ⟨rfl, hb⟩
        have bU : Hid (Below w.heap.size w u) := bW.out.trans (hb.mono (by omega))
        have rowU : Hid (u.heap[w.heap.size + 1 + 1]? = some (.cells #[.string ⟨#[]⟩, .int .i64 0, .int .i64 0] 28 (0, 0))) := (hb.block _ (by omega)).trans rW.out
        have rowS : u.heap[w.heap.size]? = some (.cells #[.string x, .int .i64 now, .int .i64 lf] 28 (0, 0)) := (hb.block _ (by omega)).trans rS.out
        have rowY : u.heap[w.heap.size + 1]? = some (.cells #[.int .i64 t, .bool well] 41 (0, 0)) := (hb.block _ (by omega)).trans rY.out
        have y0 := (cell_row rowS 0 (.string x) rfl).1
        have y1 := (cell_row rowS 1 (.int .i64 now) rfl).1
        have y2 := (cell_row rowS 2 (.int .i64 lf) rfl).1
        have v0 := (cell_row rowY 0 (.int .i64 t) rfl).1
        have v1 := (cell_row rowY 1 (.bool well) rfl).1
        have sU : w.heap.size + 1 + 1 + 1 ≤ u.heap.size := by have := hb.size; omega
        clear hb rowS rowY
        go_wp2_with fail
        refine (inX_any now 0 12000 _).mono ?_; rintro e' u1 ⟨rfl, rfl⟩; rw [c2]
        go_wp2_with fail
        refine (GO.out u1 bU.out).mono ?_; rintro e' u2 ⟨rfl, hb2⟩
        have bU2 : Below w.heap.size w u2 := bU.out.trans (hb2.mono bU.out.size)
        have row : u2.heap[w.heap.size + 1 + 1]? = some (.cells #[.string ⟨#[]⟩, .int .i64 0, .int .i64 0] 28 (0, 0)) := (hb2.block _ (by omega)).trans rowU.out
        obtain ⟨p0, g0⟩ := cell_row row 0 _ rfl
        obtain ⟨p1, g1⟩ := cell_row row 1 _ rfl
        obtain ⟨p2, g2⟩ := cell_row row 2 _ rfl
        have fin := set_row (set_row (set_row row 0 (.string N)) 1 (.int .i64 M)) 2 (.int .i64 (bndF 12 r N))
        have f0 := (cell_row fin 0 (.string N) rfl).1
        have f1 := (cell_row fin 1 (.int .i64 M) rfl).1
        have f2 := (cell_row fin 2 (.int .i64 (bndF 12 r N)) rfl).1
        have bF := (((bU2.setCell (p := ⟨w.heap.size + 1 + 1, 0, none⟩) (by show w.heap.size ≤ w.heap.size + 1 + 1; omega) (.string N)).setCell (p := ⟨w.heap.size + 1 + 1, 1, none⟩) (by show w.heap.size ≤ w.heap.size + 1 + 1; omega) (.int .i64 M)).setCell (p := ⟨w.heap.size + 1 + 1, 2, none⟩) (by show w.heap.size ≤ w.heap.size + 1 + 1; omega) (.int .i64 (bndF 12 r N)))
        clear row fin
        go_wp2_with fail
        exact bodyPost_ret (v := .tuple #[.agg #[.string N, .int .i64 M, .int .i64 (bndF 12 r N)], .bool true]) (by simp [results, Try.results24, go_sem, f0, f1, f2]) rfl ⟨rfl, bF⟩

end Go.Proofs.Ytkongeofapbblaa
