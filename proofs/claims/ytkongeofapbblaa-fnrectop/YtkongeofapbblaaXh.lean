/-
  The model's runs of a recipe, to their end.
-/
import Derived.Test.YtkongeofapbblaaM9
import Derived.Test.YtkongeofapbblaaXg
import Derived.Test.YtkongeofapbblaaM7
import Derived.Maps.AppendAt
namespace Go.Proofs.Ytkongeofapbblaa
open Go.RowKit

/-- What is said of phase j: what there is, or that it never ends. -/
def sayT (L : List DRecSay) (j : Nat) : DRecSay := (L[j]?).getD (1001, false)
/-- A run from here on, by at most so many phases. -/
noncomputable def runF : Nat → List DRecPhase → List DRecSay → Nat → ByteArray × Int × Int → List ByteArray → (ByteArray × Int × Int) × List ByteArray
  | 0, _, _, _, s, p => (s, p)
  | n + 1, r, L, j, s, p => if atI r s.1 < 0 then (s, p) else runF n r L (j + 1) (goS r s.1 s.2.1 s.2.2 (sayT L j).1 (sayT L j).2).1 (p ++ [s.1])
/-- What RecRun gives. -/
noncomputable def runS (r : List DRecPhase) (L : List DRecSay) : (ByteArray × Int × Int) × List ByteArray := if recB r = true then runF 12 r L 0 (begS r) [] else (begS r, [])
theorem run_end {n : Nat} {r : List DRecPhase} {L : List DRecSay} {j : Nat} {s : ByteArray × Int × Int} {p : List ByteArray} (h : atI r s.1 < 0) : runF n r L j s p = (s, p) := by
  cases n with
  | zero => rfl
  | succ n => simp only [runF, if_pos h]
theorem run_next {n : Nat} {r : List DRecPhase} {L : List DRecSay} {j : Nat} {s : ByteArray × Int × Int} {p : List ByteArray} (h : ¬ atI r s.1 < 0) : runF (n + 1) r L j s p = runF n r L (j + 1) (goS r s.1 s.2.1 s.2.2 (sayT L j).1 (sayT L j).2).1 (p ++ [s.1]) := by simp only [runF, if_neg h]
/-- One phase goes on: to an end or a later one, and takes at most 1000. -/
theorem go_step {r : List DRecPhase} (hR : RecP r) {x : ByteArray} {now lf t : Int} {well : Bool} {k : Nat} (hk : k < r.length) (e : atI r x = (k : Int)) (h0 : 0 ≤ now) (h1 : now ≤ 12000) :
    (∀ q : Nat, atI r (goS r x now lf t well).1.1 = (q : Int) → k < q) ∧ now ≤ (goS r x now lf t well).1.2.1 ∧ (goS r x now lf t well).1.2.1 ≤ now + 1000 := by
  have hst := step_of hR hk
  have hin := (ph_name hst.1).2.2.1
  have hph := ph_at hk e
  have hi : inB now 0 12000 = true := by simp [inB]; omega
  have hg := goT_le r[k] t well hin
  have hr : goS r x now lf t well = ((nxT r[k] (goT r[k] t well).2, now + (goT r[k] t well).1, bndF 12 r (nxT r[k] (goT r[k] t well).2)), true) := by
    have hn0 : 0 ≤ atI r x := by omega
    simp only [goS, rec_yes hR, hn0, hi, and_self, if_true, hph]
  rw [hr]
  refine ⟨fun q hq => ?_, by simp only; omega, by simp only; omega⟩
  simp only at hq
  unfold nxT at hq
  split at hq
  · exact go_next hR hst.2.1 q hq
  · exact go_next hR hst.2.2 q hq
theorem own_same {base : Nat} {w w' : World} {v : Value} {n : Nat} {xs : List Value} (h : w.ownsRow base 9 1 v n xs) (e : ∀ b, base ≤ b → w'.heap[b]? = w.heap[b]?) : w'.ownsRow base 9 1 v n xs := by
  refine ⟨h.1, ?_⟩
  rcases h.2 with hn | ⟨g, cap, cur, hv, hbg, hg, rest⟩
  · exact Or.inl hn
  · exact Or.inr ⟨g, cap, cur, hv, hbg, (e g hbg).trans hg, rest⟩

set_option maxRecDepth 100000 in
set_option maxHeartbeats 8000000 in
theorem runX_any (S S2 : Nat → Prop) (r : List DRecPhase) (L : List DRecSay) (v vs : Value) (w : World) (h : AtL S w r v) (hL : AtL S2 w L vs) (hS : ∀ b, S b → b < w.heap.size) (hS2 : ∀ b, S2 b → b < w.heap.size) :
    Calls Try.prog 6 #[v, vs] w fun e w' => ∃ q, e = .returned (.tuple #[.agg #[.string (runS r L).1.1, .int .i64 (runS r L).1.2.1, .int .i64 (runS r L).1.2.2], q]) ∧ w'.ownsRow w.heap.size 9 1 q (runS r L).2.length ((runS r L).2.map .string) ∧ Below w.heap.size w w' := by
  have H : Hid (∀ w', Below w.heap.size w w' → AtL S w' r v ∧ ∀ b, S b → b < w'.heap.size) := fun w' hb => ⟨h.same (Same.of_below hb hS), fun b hb' => Nat.lt_of_lt_of_le (hS b hb') hb.size⟩
  obtain ⟨ol, cl, el', hx⟩ := id hL
  obtain ⟨hfit, hcl⟩ := hx
  subst el'
  obtain ⟨nl, en⟩ : ∃ n, L.length = n := ⟨_, rfl⟩
  have EN : Hid (L.length = nl) := en
  have hln : nl ≤ maxLen := by rw [← en]; exact hfit.1
  unfold maxLen at hln
  rw [en]
  have HCL : Hid _ := hcl
  clear h hL hcl hfit en hS
  obtain ⟨i0, hi, hz0, hz1, hz2⟩ := info_parts infoS
  have b0 : Hid (Below w.heap.size w (w.alloc (.cells #[.string ⟨#[]⟩, .int .i64 0, .int .i64 0] 28))) := (Below.refl _ _).alloc (Nat.le_refl _) _
  have BEG : Hid (Calls Try.prog 22 #[v] (w.alloc (.cells #[.string ⟨#[]⟩, .int .i64 0, .int .i64 0] 28)) fun e w' => e = .returned (.agg #[.string (begS r).1, .int .i64 (begS r).2.1, .int .i64 (begS r).2.2]) ∧ Below (w.alloc (.cells #[.string ⟨#[]⟩, .int .i64 0, .int .i64 0] 28)).heap.size (w.alloc (.cells #[.string ⟨#[]⟩, .int .i64 0, .int .i64 0] 28)) w') := begX_any S r v _ (H.out _ b0.out).1 (H.out _ b0.out).2
  have OKc : Hid (∀ u, Below w.heap.size w u → Calls Try.prog 8 #[v] u fun e w' => e = .returned (.bool (recB r)) ∧ Below u.heap.size u w') := fun u hu => okX_any S r v u (H.out u hu).1 (H.out u hu).2
  have ATc : Hid (∀ (y : ByteArray) (u : World), Below w.heap.size w u → Calls Try.prog 23 #[v, .string y] u fun e w' => e = .returned (.int .i64 (atI r y)) ∧ w' = u) := fun y u hu => atX_any S r v y u (H.out u hu).1
  go_enter Try.func6, Try.ntmps6
  go_wp2_with fail
  refine BEG.out.mono ?_; rintro e u ⟨rfl, hb⟩
  have zu : w.heap.size + 1 ≤ u.heap.size := by have := hb.size; simpa using this
  have ZU : Hid (u.heap[w.heap.size]? = some (.cells #[.string ⟨#[]⟩, .int .i64 0, .int .i64 0] 28 (0, 0))) := (hb.block _ (by simp)).trans (heap_alloc_new w _)
  have BU : Hid (Below w.heap.size w u) := b0.out.trans (hb.mono b0.out.size)
  clear hb BEG b0
  obtain ⟨gS, hgS⟩ : ∃ g, g = u.heap.size := ⟨_, rfl⟩
  obtain ⟨W, hW⟩ : ∃ W, W = (u.alloc (.cells #[.string (begS r).1, .int .i64 (begS r).2.1, .int .i64 (begS r).2.2] 28)).alloc (.cells #[] 9) := ⟨_, rfl⟩
  have bW : Hid (Below u.heap.size u W) := by rw [hW]; exact ((Below.refl _ _).alloc (Nat.le_refl _) _).alloc (by simp) _
  have sW : Hid (W.heap[gS]? = some (.cells #[.string (begS r).1, .int .i64 (begS r).2.1, .int .i64 (begS r).2.2] 28 (0, 0))) := by rw [hW, hgS]; exact (Below.heap_alloc _ _ _ (by simp)).trans (heap_alloc_new u _)
  have pW : Hid (W.ownsRow (gS + 1) 9 1 (.slice (some ⟨gS + 1, 0, none⟩) 0 0) 0 []) := by
    have := World.ownsRow_made (base := u.heap.size + 1) (e := 9) (size := 1) (u.alloc (.cells #[.string (begS r).1, .int .i64 (begS r).2.1, .int .i64 (begS r).2.2] 28)) #[] 0 (by simp) (by decide) rfl
    have t1 : ((u.alloc (.cells #[.string (begS r).1, .int .i64 (begS r).2.1, .int .i64 (begS r).2.2] 28)).alloc (.cells #[] 9)).ownsRow (u.heap.size + 1) 9 1 (.slice (some ⟨u.heap.size + 1, 0, none⟩) 0 0) 0 [] := by simpa using this
    rw [hW, hgS]; exact t1
  have zW : gS + 1 + 1 ≤ W.heap.size := by rw [hW, hgS]; simp
  have zg : w.heap.size + 1 ≤ gS := by rw [hgS]; exact zu
  have oW : Hid (W.heap[w.heap.size]? = some (.cells #[.string ⟨#[]⟩, .int .i64 0, .int .i64 0] 28 (0, 0))) := (bW.out.block _ (by omega)).trans ZU.out
  have BW : Hid (Below w.heap.size w W) := BU.out.trans (bW.out.mono (by omega))
  have eW : Hid (W = (u.alloc (.cells #[.string (begS r).1, .int .i64 (begS r).2.1, .int .i64 (begS r).2.2] 28)).alloc (.cells #[] 9)) := hW
  have HG : Hid (gS = u.heap.size) := hgS
  clear hW bW
  have REST : Hid (∀ K : Nat, True) := fun _ => trivial
  go_upto_region 3 with fail
  rw [← eW.out, ← HG.out]
  clear hgS HG eW ZU BU zu REST
  obtain ⟨X0, hX0⟩ : ∃ s, s = begS r := ⟨_, rfl⟩
  rw [← hX0] at sW
  cases c : recB r
  · have EQ0 : runS r L = (X0, []) := by rw [hX0]; simp [runS, c]
    obtain ⟨x, now, lf⟩ := X0
    obtain ⟨p, hp⟩ : ∃ p : List ByteArray, p = [] := ⟨_, rfl⟩
    have EQ : Hid (runS r L = ((x, now, lf), p)) := by rw [hp]; exact EQ0
    have hpj : p.length = 0 := by rw [hp]; rfl
    obtain ⟨pv, hpv⟩ : ∃ q, q = Value.slice (some ⟨gS + 1, 0, none⟩) 0 0 := ⟨_, rfl⟩
    have pW2 : Hid (W.ownsRow (gS + 1) 9 1 pv 0 (p.map .string)) := by rw [hp, hpv]; exact pW.out
    rw [← hpv]
    clear hp hpv EQ0 hX0 pW
    go_wp2_with fail
    go_loopw [7, 8] (fun av i wr => pv = av ∧ i = .int .i64 0 ∧ wr = W) (fun _ _ _ => 0)
    case atStart => exact ⟨rfl, rfl, rfl⟩
    case round =>
      obtain ⟨rfl, rfl, hwr⟩ := hrel
      rw [hwr]
      go_wp2_with fail
      refine (OKc.out W BW.out).mono ?_; rintro e u1 ⟨rfl, hb1⟩; rw [c]
      have S1 : Hid (u1.heap[gS]? = some (.cells #[.string x, .int .i64 now, .int .i64 lf] 28 (0, 0))) := (hb1.block _ (by omega)).trans sW.out
      have Z1 : Hid (u1.heap[w.heap.size]? = some (.cells #[.string ⟨#[]⟩, .int .i64 0, .int .i64 0] 28 (0, 0))) := (hb1.block _ (by omega)).trans oW.out
      have P1 : Hid (u1.ownsRow (gS + 1) 9 1 pv 0 (p.map .string)) := own_belowR pW2.out hb1
      have B1 : Hid (Below w.heap.size w u1) := BW.out.trans (hb1.mono (by omega))
      clear hb1
      have y0 := (cell_row S1.out 0 (.string x) rfl).1
      have y1 := (cell_row S1.out 1 (.int .i64 now) rfl).1
      have y2 := (cell_row S1.out 2 (.int .i64 lf) rfl).1
      obtain ⟨p0, g0⟩ := cell_row Z1.out 0 _ rfl
      obtain ⟨p1, g1⟩ := cell_row Z1.out 1 _ rfl
      obtain ⟨p2, g2⟩ := cell_row Z1.out 2 _ rfl
      have fin := set_row (set_row (set_row Z1.out 0 (.string x)) 1 (.int .i64 now)) 2 (.int .i64 lf)
      have f0 := (cell_row fin 0 (.string x) rfl).1
      have f1 := (cell_row fin 1 (.int .i64 now) rfl).1
      have f2 := (cell_row fin 2 (.int .i64 lf) rfl).1
      have bF := ((B1.out.setCell (p := ⟨w.heap.size, 0, none⟩) (Nat.le_refl _) (.string x)).setCell (p := ⟨w.heap.size, 1, none⟩) (Nat.le_refl _) (.int .i64 now)).setCell (p := ⟨w.heap.size, 2, none⟩) (Nat.le_refl _) (.int .i64 lf)
      have QP : (((u1.setCell ⟨w.heap.size, 0, none⟩ (.string x)).setCell ⟨w.heap.size, 1, none⟩ (.int .i64 now)).setCell ⟨w.heap.size, 2, none⟩ (.int .i64 lf)).ownsRow (gS + 1) 9 1 pv p.length (p.map .string) := own_same (by rw [hpj]; exact P1.out) (fun b hb => (Below.heap_setCell _ _ _ _ (by show b ≠ w.heap.size; omega)).trans ((Below.heap_setCell _ _ _ _ (by show b ≠ w.heap.size; omega)).trans (Below.heap_setCell _ _ _ _ (by show b ≠ w.heap.size; omega))))
      clear fin
      go_wp2_with fail
      exact bodyPost_ret (v := .tuple #[.agg #[.string x, .int .i64 now, .int .i64 lf], pv]) (by simp [results, Try.results6, go_sem, f0, f1, f2]) rfl ⟨pv, by rw [EQ.out], by rw [EQ.out]; exact own_leR QP (by omega), bF⟩
  · have hR := rec_iff.1 c
    have hb0 : X0.2.1 = 0 := by rw [hX0]; simp [begS, c]
    have EQ0 : runS r L = runF 12 r L 0 X0 [] := by rw [hX0]; simp [runS, c]
    obtain ⟨x0, n0, l0⟩ := X0
    simp only at hb0
    clear hX0
    go_wp2_with fail
    go_loopw [7, 8] (fun av i wr => ∃ (j n : Nat) (x : ByteArray) (now lf : Int) (p : List ByteArray) (pv : Value), j ≤ 12 ∧ i = .int .i64 j ∧ pv = av ∧ p.length = j ∧ gS < wr.heap.size ∧ 0 ≤ now ∧ now ≤ 1000 * j ∧ Hid (runS r L = runF n r L j (x, now, lf) p) ∧ Hid (∀ k : Nat, atI r x = (k : Int) → r.length ≤ k + n ∧ j ≤ k) ∧ Hid (wr.heap[gS]? = some (.cells #[.string x, .int .i64 now, .int .i64 lf] 28 (0, 0))) ∧ Hid (wr.heap[w.heap.size]? = some (.cells #[.string ⟨#[]⟩, .int .i64 0, .int .i64 0] 28 (0, 0))) ∧ Hid (wr.ownsRow (gS + 1) 9 1 pv j (p.map .string)) ∧ Hid (Below w.heap.size w wr)) (fun _ i _ => 13 - (intOf i).toNat)
    case atStart => exact ⟨0, 12, x0, n0, l0, [], _, by omega, rfl, rfl, rfl, by omega, by omega, by omega, EQ0, fun k _ => by have := hR.1; omega, sW.out, oW.out, pW.out, BW.out⟩
    case round =>
      obtain ⟨j, n, x, now, lf, p, pv, hj, rfl, rfl, hpj, hgw, h0, h1, HEQ, HIX, hS1, hZ1, hP1, hB1⟩ := hrel
      go_wp2_with fail
      refine (OKc.out wr hB1.out).mono ?_; rintro e u1 ⟨rfl, hb1⟩; rw [c]
      have z1 := hb1.size
      have S1 : Hid (u1.heap[gS]? = some (.cells #[.string x, .int .i64 now, .int .i64 lf] 28 (0, 0))) := (hb1.block _ hgw).trans hS1.out
      have Z1 : Hid (u1.heap[w.heap.size]? = some (.cells #[.string ⟨#[]⟩, .int .i64 0, .int .i64 0] 28 (0, 0))) := (hb1.block _ (by omega)).trans hZ1.out
      have P1 : Hid (u1.ownsRow (gS + 1) 9 1 pv j (p.map .string)) := own_belowR hP1.out hb1
      have B1 : Hid (Below w.heap.size w u1) := hB1.out.trans (hb1.mono (by omega))
      clear hb1 hS1 hZ1 hP1 hB1
      have y0 := (cell_row S1.out 0 (.string x) rfl).1
      go_wp2_with fail
      refine (ATc.out x u1 B1.out).mono ?_; rintro e' q ⟨rfl, hq⟩
      rw [hq]
      clear hq y0
      rcases at_cases r x with e | ⟨k, hk, e, _⟩
      · have EQ : Hid (runS r L = ((x, now, lf), p)) := HEQ.out.trans (run_end (by show atI r x < 0; omega))
        rw [e]
        have y0 := (cell_row S1.out 0 (.string x) rfl).1
        have y1 := (cell_row S1.out 1 (.int .i64 now) rfl).1
        have y2 := (cell_row S1.out 2 (.int .i64 lf) rfl).1
        obtain ⟨p0, g0⟩ := cell_row Z1.out 0 _ rfl
        obtain ⟨p1, g1⟩ := cell_row Z1.out 1 _ rfl
        obtain ⟨p2, g2⟩ := cell_row Z1.out 2 _ rfl
        have fin := set_row (set_row (set_row Z1.out 0 (.string x)) 1 (.int .i64 now)) 2 (.int .i64 lf)
        have f0 := (cell_row fin 0 (.string x) rfl).1
        have f1 := (cell_row fin 1 (.int .i64 now) rfl).1
        have f2 := (cell_row fin 2 (.int .i64 lf) rfl).1
        have bF := ((B1.out.setCell (p := ⟨w.heap.size, 0, none⟩) (Nat.le_refl _) (.string x)).setCell (p := ⟨w.heap.size, 1, none⟩) (Nat.le_refl _) (.int .i64 now)).setCell (p := ⟨w.heap.size, 2, none⟩) (Nat.le_refl _) (.int .i64 lf)
        have QP : (((u1.setCell ⟨w.heap.size, 0, none⟩ (.string x)).setCell ⟨w.heap.size, 1, none⟩ (.int .i64 now)).setCell ⟨w.heap.size, 2, none⟩ (.int .i64 lf)).ownsRow (gS + 1) 9 1 pv p.length (p.map .string) := own_same (by rw [hpj]; exact P1.out) (fun b hb => (Below.heap_setCell _ _ _ _ (by show b ≠ w.heap.size; omega)).trans ((Below.heap_setCell _ _ _ _ (by show b ≠ w.heap.size; omega)).trans (Below.heap_setCell _ _ _ _ (by show b ≠ w.heap.size; omega))))
        clear fin
        go_wp2_with fail
        exact bodyPost_ret (v := .tuple #[.agg #[.string x, .int .i64 now, .int .i64 lf], pv]) (by simp [results, Try.results6, go_sem, f0, f1, f2]) rfl ⟨pv, by rw [EQ.out], by rw [EQ.out]; exact own_leR QP (by omega), bF⟩
      · obtain ⟨hlen, hjk⟩ := HIX.out k e
        have hr12 := hR.1.2
        obtain ⟨n', rfl⟩ : ∃ n', n = n' + 1 := ⟨n - 1, by omega⟩
        have hnow : now ≤ 12000 := by omega
        have STEP := fun t well => go_step hR (lf := lf) (t := t) (well := well) hk e h0 hnow
        obtain ⟨tt, ww, hsy⟩ : ∃ tt ww, sayT L j = (tt, ww) := ⟨_, _, rfl⟩
        have HN : Hid (runS r L = runF n' r L (j + 1) (goS r x now lf tt ww).1 (p ++ [x])) := HEQ.out.trans ((run_next (by show ¬ atI r x < 0; omega)).trans (by rw [hsy]))
        have hstep := STEP tt ww
        obtain ⟨⟨⟨N, M, K⟩, ok⟩, hGS⟩ : ∃ g, g = goS r x now lf tt ww := ⟨_, rfl⟩
        rw [← hGS] at hstep HN
        have NEXT : Hid (runS r L = runF n' r L (j + 1) (N, M, K) (p ++ [x])) := HN.out
        have IDX : Hid (∀ q : Nat, atI r N = (q : Int) → r.length ≤ q + n' ∧ j + 1 ≤ q) := fun q hq => by have := hstep.1 q hq; omega
        have hM := hstep.2
        simp only at hM
        have GO0 : Hid (OkN tt → ∀ u, Below w.heap.size w u → Calls Try.prog 24 #[v, .agg #[.string x, .int .i64 now, .int .i64 lf], .agg #[.int .i64 tt, .bool ww]] u fun e w' => e = .returned (.tuple #[.agg #[.string N, .int .i64 M, .int .i64 K], .bool ok]) ∧ Below u.heap.size u w') := fun ht u hu => by
          have := recGoX_any S r v x now lf tt ww u (H.out u hu).1 (H.out u hu).2 ht
          rw [← hGS] at this
          exact this
        rw [e]
        clear hstep HN STEP hGS HEQ HIX e
        by_cases hjl : j < nl
        · obtain ⟨b, off, rfl, hbS, cc, hcell, hat⟩ := HCL.out j (by rw [EN.out]; exact hjl)
          have hb := hS2 b hbS
          rw [width_DRecSay] at hcell
          have hLj : L[j]'(by rw [EN.out]; exact hjl) = (tt, ww) := by rw [← hsy]; unfold sayT; rw [List.getElem?_eq_getElem (by rw [EN.out]; exact hjl)]; rfl
          rw [at_DRecSay, hLj] at hat
          obtain ⟨⟨q0, i1, i2⟩, q1⟩ := hat
          have GO : Hid (∀ u, Below w.heap.size w u → Calls Try.prog 24 #[v, .agg #[.string x, .int .i64 now, .int .i64 lf], .agg #[.int .i64 tt, .bool ww]] u fun e w' => e = .returned (.tuple #[.agg #[.string N, .int .i64 M, .int .i64 K], .bool ok]) ∧ Below u.heap.size u w') := GO0.out ⟨i1, i2⟩
          have e0 : u1.cell? ⟨b, off + j * 2, none⟩ = some (.int .i64 tt) := ((B1.out.cell hb).trans (hcell 0 (by omega))).trans (by rw [q0])
          have e1 : u1.cell? ⟨b, off + j * 2 + 1, none⟩ = some (.bool ww) := ((B1.out.cell hb).trans (hcell 1 (by omega))).trans (by rw [q1])
          have hbu : b < u1.heap.size := by have := B1.out.size; omega
          have E0 : (u1.alloc (.cells #[.int .i64 1001, .bool false] 41)).cell? ⟨b, off + j * 2, none⟩ = some (.int .i64 tt) := cell_past e0 hbu _
          have E1 : (u1.alloc (.cells #[.int .i64 1001, .bool false] 41)).cell? ⟨b, off + j * 2 + 1, none⟩ = some (.bool ww) := cell_past e1 hbu _
          clear hcell q0 q1 i1 i2 hLj hsy GO0 e0 e1
          obtain ⟨Y, hY⟩ : ∃ Y, Y = u1.alloc (.cells #[.int .i64 tt, .bool ww] 41) := ⟨_, rfl⟩
          have bY : Hid (Below u1.heap.size u1 Y) := by rw [hY]; exact (Below.refl _ _).alloc (Nat.le_refl _) _
          have zY : Y.heap.size ≤ u1.heap.size + 1 ∧ u1.heap.size + 1 ≤ Y.heap.size := by rw [hY]; simp
          have rY : Hid (Y.heap[u1.heap.size]? = some (.cells #[.int .i64 tt, .bool ww] 41 (0, 0))) := by rw [hY]; exact heap_alloc_new u1 _
          have eY : Hid (Y = u1.alloc (.cells #[.int .i64 tt, .bool ww] 41)) := hY
          clear hY
          have pY : Hid (Y.ownsRow (gS + 1) 9 1 pv j (p.map .string)) := own_belowR P1.out bY.out
          have sY : Hid (Y.heap[gS]? = some (.cells #[.string x, .int .i64 now, .int .i64 lf] 28 (0, 0))) := (bY.out.block _ (by omega)).trans S1.out
          have oY : Hid (Y.heap[w.heap.size]? = some (.cells #[.string ⟨#[]⟩, .int .i64 0, .int .i64 0] 28 (0, 0))) := (bY.out.block _ (by omega)).trans Z1.out
          have y0 := (cell_row sY.out 0 (.string x) rfl).1
          go_upto_region 9 with fail
          rw [← eY.out]
          go_wp2_with (
            at_builtin
            refine wpList_append_own _ rfl _ _ 29 rfl (gS + 1) 9 i0 (.string ByteArray.empty) 1 16 underS hi hz0 hz1 hz2 rfl (by decide) _ _ _ rfl (own_belowR pY.out ((Below.refl _ _).alloc (Nat.le_refl _) _)) ⟨Y.heap.size, 0, none⟩ 1 1 [.string x] rfl rfl (cell_one_new _ _ _) (fun z hz => by simp at hz; subst hz; rfl) (by unfold maxLen; omega) (by omega) (by simp; omega) ?_
            intro v' w3 hown' hgrow3 hnil3
            have OLT : Hid (∀ q, pv.ownBlock = some q → gS + 1 ≤ q ∧ q < u1.heap.size) := fun q hq => P1.out.lt q hq
            have z3 : Y.heap.size + 1 ≤ w3.heap.size := by have := hgrow3.size; simpa using this
            have blk : Hid (∀ b, b < Y.heap.size → (∀ q, pv.ownBlock = some q → q ≠ b) → w3.heap[b]? = Y.heap[b]?) := fun b hb hne => (hgrow3.block b (by simp; omega) (fun e => hne b e.symm rfl)).trans (Below.heap_alloc _ _ _ hb)
            have s3 : Hid (w3.heap[gS]? = some (.cells #[.string x, .int .i64 now, .int .i64 lf] 28 (0, 0))) := (blk.out gS (by omega) (fun q hq => by have := OLT.out q hq; omega)).trans sY.out
            have r3 : Hid (w3.heap[u1.heap.size]? = some (.cells #[.int .i64 tt, .bool ww] 41 (0, 0))) := (blk.out _ (by omega) (fun q hq => by have := OLT.out q hq; omega)).trans rY.out
            have o3 : Hid (w3.heap[w.heap.size]? = some (.cells #[.string ⟨#[]⟩, .int .i64 0, .int .i64 0] 28 (0, 0))) := (blk.out _ (by omega) (fun q hq => by have := OLT.out q hq; omega)).trans oY.out
            have p3 : Hid (w3.ownsRow (gS + 1) 9 1 v' (j + 1) ((p ++ [x]).map .string)) := by rw [List.map_append]; exact hown'
            have B3 : Hid (Below w.heap.size w w3) := ((B1.out.trans (bY.out.mono (by omega))).alloc (by omega) _).grown hgrow3 (by simp; omega) (fun q hq => by have := OLT.out q hq; omega)
            clear hown' hgrow3 hnil3 y0 blk
            have y0 := (cell_row s3.out 0 (.string x) rfl).1
            have y1 := (cell_row s3.out 1 (.int .i64 now) rfl).1
            have y2 := (cell_row s3.out 2 (.int .i64 lf) rfl).1
            have a0 := (cell_row r3.out 0 (.int .i64 tt) rfl).1
            have a1 := (cell_row r3.out 1 (.bool ww) rfl).1)
          refine (GO.out w3 B3.out).mono ?_; rintro e' u2 ⟨rfl, hb2⟩
          have z2 := hb2.size
          have s2 : Hid (u2.heap[gS]? = some (.cells #[.string x, .int .i64 now, .int .i64 lf] 28 (0, 0))) := (hb2.block _ (by omega)).trans s3.out
          have o2 : Hid (u2.heap[w.heap.size]? = some (.cells #[.string ⟨#[]⟩, .int .i64 0, .int .i64 0] 28 (0, 0))) := (hb2.block _ (by omega)).trans o3.out
          have p2 : Hid (u2.ownsRow (gS + 1) 9 1 v' (j + 1) ((p ++ [x]).map .string)) := own_belowR p3.out hb2
          have B2 : Hid (Below w.heap.size w u2) := B3.out.trans (hb2.mono (by omega))
          clear hb2 y0 y1 y2 a0 a1
          obtain ⟨X, hX⟩ : ∃ X, X = u2.alloc (.cells #[.string N, .int .i64 M, .int .i64 K] 28) := ⟨_, rfl⟩
          have bX : Hid (Below u2.heap.size u2 X) := by rw [hX]; exact (Below.refl _ _).alloc (Nat.le_refl _) _
          have rX : Hid (X.heap[u2.heap.size]? = some (.cells #[.string N, .int .i64 M, .int .i64 K] 28 (0, 0))) := by rw [hX]; exact heap_alloc_new u2 _
          have eX : Hid (X = u2.alloc (.cells #[.string N, .int .i64 M, .int .i64 K] 28)) := hX
          have zX : u2.heap.size + 1 ≤ X.heap.size := by rw [hX]; simp
          clear hX
          have sX : Hid (X.heap[gS]? = some (.cells #[.string x, .int .i64 now, .int .i64 lf] 28 (0, 0))) := (bX.out.block _ (by omega)).trans s2.out
          have oX : Hid (X.heap[w.heap.size]? = some (.cells #[.string ⟨#[]⟩, .int .i64 0, .int .i64 0] 28 (0, 0))) := (bX.out.block _ (by omega)).trans o2.out
          have pX : Hid (X.ownsRow (gS + 1) 9 1 v' (j + 1) ((p ++ [x]).map .string)) := own_belowR p2.out bX.out
          have BX : Hid (Below w.heap.size w X) := B2.out.trans (bX.out.mono (by omega))
          go_upto_region 11 with fail
          rw [← eX.out]
          have b0 := (cell_row rX.out 0 (.string N) rfl).1
          have b1 := (cell_row rX.out 1 (.int .i64 M) rfl).1
          have b2 := (cell_row rX.out 2 (.int .i64 K) rfl).1
          obtain ⟨p0, g0⟩ := cell_row sX.out 0 _ rfl
          obtain ⟨p1, g1⟩ := cell_row sX.out 1 _ rfl
          obtain ⟨p2c, g2⟩ := cell_row sX.out 2 _ rfl
          have fin := set_row (set_row (set_row sX.out 0 (.string N)) 1 (.int .i64 M)) 2 (.int .i64 K)
          have oth : Hid (∀ b, b ≠ gS → (((X.setCell ⟨gS, 0, none⟩ (.string N)).setCell ⟨gS, 1, none⟩ (.int .i64 M)).setCell ⟨gS, 2, none⟩ (.int .i64 K)).heap[b]? = X.heap[b]?) := fun b hb => (Below.heap_setCell _ _ _ _ hb).trans ((Below.heap_setCell _ _ _ _ hb).trans (Below.heap_setCell _ _ _ _ hb))
          have FIN : Hid ((((X.setCell ⟨gS, 0, none⟩ (.string N)).setCell ⟨gS, 1, none⟩ (.int .i64 M)).setCell ⟨gS, 2, none⟩ (.int .i64 K)).heap[gS]? = some (.cells #[.string N, .int .i64 M, .int .i64 K] 28 (0, 0))) := fin
          have BF : Hid (Below w.heap.size w (((X.setCell ⟨gS, 0, none⟩ (.string N)).setCell ⟨gS, 1, none⟩ (.int .i64 M)).setCell ⟨gS, 2, none⟩ (.int .i64 K))) := ((BX.out.setCell (p := ⟨gS, 0, none⟩) (by show w.heap.size ≤ gS; omega) _).setCell (p := ⟨gS, 1, none⟩) (by show w.heap.size ≤ gS; omega) _).setCell (p := ⟨gS, 2, none⟩) (by show w.heap.size ≤ gS; omega) _
          have pF : Hid ((((X.setCell ⟨gS, 0, none⟩ (.string N)).setCell ⟨gS, 1, none⟩ (.int .i64 M)).setCell ⟨gS, 2, none⟩ (.int .i64 K)).ownsRow (gS + 1) 9 1 v' (j + 1) ((p ++ [x]).map .string)) := own_same pX.out (fun b hb => oth.out b (by omega))
          have zF : gS < (((X.setCell ⟨gS, 0, none⟩ (.string N)).setCell ⟨gS, 1, none⟩ (.int .i64 M)).setCell ⟨gS, 2, none⟩ (.int .i64 K)).heap.size := by simp; omega
          have oF : Hid ((((X.setCell ⟨gS, 0, none⟩ (.string N)).setCell ⟨gS, 1, none⟩ (.int .i64 M)).setCell ⟨gS, 2, none⟩ (.int .i64 K)).heap[w.heap.size]? = some (.cells #[.string ⟨#[]⟩, .int .i64 0, .int .i64 0] 28 (0, 0))) := (oth.out _ (by omega)).trans oX.out
          clear fin
          go_wp2_with fail
          go_roundw
          case rel => exact ⟨j + 1, n', N, M, K, p ++ [x], _, by omega, by go_num, rfl, by simp; omega, zF, by omega, by omega, NEXT.out, IDX.out, FIN.out, oF.out, pF.out, BF.out⟩
          case measure => simp [intOf]; omega
        · have hs2 : tt = 1001 ∧ ww = false := by
            have : sayT L j = (1001, false) := by unfold sayT; rw [List.getElem?_eq_none (by rw [EN.out]; omega)]; rfl
            rw [this] at hsy
            cases hsy; exact ⟨rfl, rfl⟩
          obtain ⟨rfl, rfl⟩ := hs2
          have GO : Hid (∀ u, Below w.heap.size w u → Calls Try.prog 24 #[v, .agg #[.string x, .int .i64 now, .int .i64 lf], .agg #[.int .i64 1001, .bool false]] u fun e w' => e = .returned (.tuple #[.agg #[.string N, .int .i64 M, .int .i64 K], .bool ok]) ∧ Below u.heap.size u w') := GO0.out ⟨by decide, by decide⟩
          clear hsy GO0
          obtain ⟨Y, hY⟩ : ∃ Y, Y = u1.alloc (.cells #[.int .i64 1001, .bool false] 41) := ⟨_, rfl⟩
          have bY : Hid (Below u1.heap.size u1 Y) := by rw [hY]; exact (Below.refl _ _).alloc (Nat.le_refl _) _
          have zY : Y.heap.size ≤ u1.heap.size + 1 ∧ u1.heap.size + 1 ≤ Y.heap.size := by rw [hY]; simp
          have rY : Hid (Y.heap[u1.heap.size]? = some (.cells #[.int .i64 1001, .bool false] 41 (0, 0))) := by rw [hY]; exact heap_alloc_new u1 _
          have eY : Hid (Y = u1.alloc (.cells #[.int .i64 1001, .bool false] 41)) := hY
          clear hY
          have pY : Hid (Y.ownsRow (gS + 1) 9 1 pv j (p.map .string)) := own_belowR P1.out bY.out
          have sY : Hid (Y.heap[gS]? = some (.cells #[.string x, .int .i64 now, .int .i64 lf] 28 (0, 0))) := (bY.out.block _ (by omega)).trans S1.out
          have oY : Hid (Y.heap[w.heap.size]? = some (.cells #[.string ⟨#[]⟩, .int .i64 0, .int .i64 0] 28 (0, 0))) := (bY.out.block _ (by omega)).trans Z1.out
          have y0 := (cell_row sY.out 0 (.string x) rfl).1
          go_upto_region 9 with fail
          rw [← eY.out]
          go_wp2_with (
            at_builtin
            refine wpList_append_own _ rfl _ _ 29 rfl (gS + 1) 9 i0 (.string ByteArray.empty) 1 16 underS hi hz0 hz1 hz2 rfl (by decide) _ _ _ rfl (own_belowR pY.out ((Below.refl _ _).alloc (Nat.le_refl _) _)) ⟨Y.heap.size, 0, none⟩ 1 1 [.string x] rfl rfl (cell_one_new _ _ _) (fun z hz => by simp at hz; subst hz; rfl) (by unfold maxLen; omega) (by omega) (by simp; omega) ?_
            intro v' w3 hown' hgrow3 hnil3
            have OLT : Hid (∀ q, pv.ownBlock = some q → gS + 1 ≤ q ∧ q < u1.heap.size) := fun q hq => P1.out.lt q hq
            have z3 : Y.heap.size + 1 ≤ w3.heap.size := by have := hgrow3.size; simpa using this
            have blk : Hid (∀ b, b < Y.heap.size → (∀ q, pv.ownBlock = some q → q ≠ b) → w3.heap[b]? = Y.heap[b]?) := fun b hb hne => (hgrow3.block b (by simp; omega) (fun e => hne b e.symm rfl)).trans (Below.heap_alloc _ _ _ hb)
            have s3 : Hid (w3.heap[gS]? = some (.cells #[.string x, .int .i64 now, .int .i64 lf] 28 (0, 0))) := (blk.out gS (by omega) (fun q hq => by have := OLT.out q hq; omega)).trans sY.out
            have r3 : Hid (w3.heap[u1.heap.size]? = some (.cells #[.int .i64 1001, .bool false] 41 (0, 0))) := (blk.out _ (by omega) (fun q hq => by have := OLT.out q hq; omega)).trans rY.out
            have o3 : Hid (w3.heap[w.heap.size]? = some (.cells #[.string ⟨#[]⟩, .int .i64 0, .int .i64 0] 28 (0, 0))) := (blk.out _ (by omega) (fun q hq => by have := OLT.out q hq; omega)).trans oY.out
            have p3 : Hid (w3.ownsRow (gS + 1) 9 1 v' (j + 1) ((p ++ [x]).map .string)) := by rw [List.map_append]; exact hown'
            have B3 : Hid (Below w.heap.size w w3) := ((B1.out.trans (bY.out.mono (by omega))).alloc (by omega) _).grown hgrow3 (by simp; omega) (fun q hq => by have := OLT.out q hq; omega)
            clear hown' hgrow3 hnil3 y0 blk
            have y0 := (cell_row s3.out 0 (.string x) rfl).1
            have y1 := (cell_row s3.out 1 (.int .i64 now) rfl).1
            have y2 := (cell_row s3.out 2 (.int .i64 lf) rfl).1
            have a0 := (cell_row r3.out 0 (.int .i64 1001) rfl).1
            have a1 := (cell_row r3.out 1 (.bool false) rfl).1)
          refine (GO.out w3 B3.out).mono ?_; rintro e' u2 ⟨rfl, hb2⟩
          have z2 := hb2.size
          have s2 : Hid (u2.heap[gS]? = some (.cells #[.string x, .int .i64 now, .int .i64 lf] 28 (0, 0))) := (hb2.block _ (by omega)).trans s3.out
          have o2 : Hid (u2.heap[w.heap.size]? = some (.cells #[.string ⟨#[]⟩, .int .i64 0, .int .i64 0] 28 (0, 0))) := (hb2.block _ (by omega)).trans o3.out
          have p2 : Hid (u2.ownsRow (gS + 1) 9 1 v' (j + 1) ((p ++ [x]).map .string)) := own_belowR p3.out hb2
          have B2 : Hid (Below w.heap.size w u2) := B3.out.trans (hb2.mono (by omega))
          clear hb2 y0 y1 y2 a0 a1
          obtain ⟨X, hX⟩ : ∃ X, X = u2.alloc (.cells #[.string N, .int .i64 M, .int .i64 K] 28) := ⟨_, rfl⟩
          have bX : Hid (Below u2.heap.size u2 X) := by rw [hX]; exact (Below.refl _ _).alloc (Nat.le_refl _) _
          have rX : Hid (X.heap[u2.heap.size]? = some (.cells #[.string N, .int .i64 M, .int .i64 K] 28 (0, 0))) := by rw [hX]; exact heap_alloc_new u2 _
          have eX : Hid (X = u2.alloc (.cells #[.string N, .int .i64 M, .int .i64 K] 28)) := hX
          have zX : u2.heap.size + 1 ≤ X.heap.size := by rw [hX]; simp
          clear hX
          have sX : Hid (X.heap[gS]? = some (.cells #[.string x, .int .i64 now, .int .i64 lf] 28 (0, 0))) := (bX.out.block _ (by omega)).trans s2.out
          have oX : Hid (X.heap[w.heap.size]? = some (.cells #[.string ⟨#[]⟩, .int .i64 0, .int .i64 0] 28 (0, 0))) := (bX.out.block _ (by omega)).trans o2.out
          have pX : Hid (X.ownsRow (gS + 1) 9 1 v' (j + 1) ((p ++ [x]).map .string)) := own_belowR p2.out bX.out
          have BX : Hid (Below w.heap.size w X) := B2.out.trans (bX.out.mono (by omega))
          go_upto_region 11 with fail
          rw [← eX.out]
          have b0 := (cell_row rX.out 0 (.string N) rfl).1
          have b1 := (cell_row rX.out 1 (.int .i64 M) rfl).1
          have b2 := (cell_row rX.out 2 (.int .i64 K) rfl).1
          obtain ⟨p0, g0⟩ := cell_row sX.out 0 _ rfl
          obtain ⟨p1, g1⟩ := cell_row sX.out 1 _ rfl
          obtain ⟨p2c, g2⟩ := cell_row sX.out 2 _ rfl
          have fin := set_row (set_row (set_row sX.out 0 (.string N)) 1 (.int .i64 M)) 2 (.int .i64 K)
          have oth : Hid (∀ b, b ≠ gS → (((X.setCell ⟨gS, 0, none⟩ (.string N)).setCell ⟨gS, 1, none⟩ (.int .i64 M)).setCell ⟨gS, 2, none⟩ (.int .i64 K)).heap[b]? = X.heap[b]?) := fun b hb => (Below.heap_setCell _ _ _ _ hb).trans ((Below.heap_setCell _ _ _ _ hb).trans (Below.heap_setCell _ _ _ _ hb))
          have FIN : Hid ((((X.setCell ⟨gS, 0, none⟩ (.string N)).setCell ⟨gS, 1, none⟩ (.int .i64 M)).setCell ⟨gS, 2, none⟩ (.int .i64 K)).heap[gS]? = some (.cells #[.string N, .int .i64 M, .int .i64 K] 28 (0, 0))) := fin
          have BF : Hid (Below w.heap.size w (((X.setCell ⟨gS, 0, none⟩ (.string N)).setCell ⟨gS, 1, none⟩ (.int .i64 M)).setCell ⟨gS, 2, none⟩ (.int .i64 K))) := ((BX.out.setCell (p := ⟨gS, 0, none⟩) (by show w.heap.size ≤ gS; omega) _).setCell (p := ⟨gS, 1, none⟩) (by show w.heap.size ≤ gS; omega) _).setCell (p := ⟨gS, 2, none⟩) (by show w.heap.size ≤ gS; omega) _
          have pF : Hid ((((X.setCell ⟨gS, 0, none⟩ (.string N)).setCell ⟨gS, 1, none⟩ (.int .i64 M)).setCell ⟨gS, 2, none⟩ (.int .i64 K)).ownsRow (gS + 1) 9 1 v' (j + 1) ((p ++ [x]).map .string)) := own_same pX.out (fun b hb => oth.out b (by omega))
          have zF : gS < (((X.setCell ⟨gS, 0, none⟩ (.string N)).setCell ⟨gS, 1, none⟩ (.int .i64 M)).setCell ⟨gS, 2, none⟩ (.int .i64 K)).heap.size := by simp; omega
          have oF : Hid ((((X.setCell ⟨gS, 0, none⟩ (.string N)).setCell ⟨gS, 1, none⟩ (.int .i64 M)).setCell ⟨gS, 2, none⟩ (.int .i64 K)).heap[w.heap.size]? = some (.cells #[.string ⟨#[]⟩, .int .i64 0, .int .i64 0] 28 (0, 0))) := (oth.out _ (by omega)).trans oX.out
          clear fin
          go_wp2_with fail
          go_roundw
          case rel => exact ⟨j + 1, n', N, M, K, p ++ [x], _, by omega, by go_num, rfl, by simp; omega, zF, by omega, by omega, NEXT.out, IDX.out, FIN.out, oF.out, pF.out, BF.out⟩
          case measure => simp [intOf]; omega

end Go.Proofs.Ytkongeofapbblaa
