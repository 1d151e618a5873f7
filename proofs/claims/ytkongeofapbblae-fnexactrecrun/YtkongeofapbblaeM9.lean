/-
  Several texts in one.
-/
import Derived.Test.YtkongeofapbblaeXo
/-
  The model's recipes: how long they may take, to which ends they may come.
-/
namespace Go.Proofs.Ytkongeofapbblae
open Go.RowKit

theorem at_cases (r : List DRecPhase) (x : ByteArray) : atI r x = -1 ∨ ∃ (k : Nat) (hk : k < r.length), atI r x = (k : Int) ∧ eqB r[k].1 x = true := by
  unfold atI idxI
  cases h : r.findIdx? (fun p : DRecPhase => eqB p.1 x) with
  | none => exact Or.inl rfl
  | some i =>
    obtain ⟨hi, hp, _⟩ := List.findIdx?_eq_some_iff_getElem.1 h
    exact Or.inr ⟨i, hi, rfl, hp⟩
theorem end_eq {a b : ByteArray} (h : eqB a b = true) : endI a = endI b := by
  have e : a.toList = b.toList := by simpa [eqB] using h
  unfold endI isT
  rw [e]
/-- The phase of a name. -/
def phX (r : List DRecPhase) (x : ByteArray) : DRecPhase := (r[(atI r x).toNat]?).getD default
theorem ph_at {r : List DRecPhase} {x : ByteArray} {k : Nat} (hk : k < r.length) (h : atI r x = (k : Int)) : phX r x = r[k] := by
  unfold phX
  rw [h, Int.toNat_natCast, List.getElem?_eq_getElem hk]; rfl
theorem step_of {r : List DRecPhase} (h : RecP r) {k : Nat} (hk : k < r.length) : phaseB r[k] = true ∧ goesB r k r[k].2.2.2.2.2.2.1 = true ∧ goesB r k r[k].2.2.2.2.2.2.2 = true := by
  have := h.2 k hk
  simp only [stepB, Bool.and_eq_true] at this
  exact ⟨this.1.1.1, this.1.2, this.2⟩
theorem ph_name {p : DRecPhase} (h : phaseB p = true) : nameB p.1 = true ∧ endI p.1 = 0 ∧ (1 ≤ p.2.2.2.2.2.1 ∧ p.2.2.2.2.2.1 ≤ 1000) ∧ nameB p.2.2.1 = true := by
  simp only [phaseB, plainB, Bool.and_eq_true, inB, decide_eq_true_eq, beq_iff_eq] at h
  refine ⟨h.1.1.1.1.1, h.1.1.1.1.2, h.1.1.1.2, ?_⟩
  have ha := h.1.1.2
  unfold argsB at ha
  repeat' split at ha
  all_goals simp_all
theorem go_next {r : List DRecPhase} (h : RecP r) {k : Nat} {x : ByteArray} (hg : goesB r k x = true) (j : Nat) (hj : atI r x = (j : Int)) : k < j := by
  by_cases c : endI x = 0
  · simp [goesB, c] at hg; omega
  · exfalso
    rcases at_cases r x with e | ⟨i, hi, _, hx⟩
    · omega
    · exact c (by rw [← end_eq hx]; exact (ph_name (step_of h hi).1).2.1)
/-- How long a way from here may be, by at most so many phases. -/
def bndF : Nat → List DRecPhase → ByteArray → Int
  | 0, _, _ => 0
  | n + 1, r, x => if atI r x < 0 then 0 else max (bndF n r (phX r x).2.2.2.2.2.2.1) (bndF n r (phX r x).2.2.2.2.2.2.2) + (phX r x).2.2.2.2.2.1
/-- May this end come from here, by at most so many phases? -/
def canF : Nat → List DRecPhase → ByteArray → Int → Bool
  | 0, _, x, e => endI x == e
  | n + 1, r, x, e => if atI r x < 0 then endI x == e else canF n r (phX r x).2.2.2.2.2.2.1 e || canF n r (phX r x).2.2.2.2.2.2.2 e
theorem bnd_le {r : List DRecPhase} (h : RecP r) : ∀ (n : Nat) (x : ByteArray), 0 ≤ bndF n r x ∧ bndF n r x ≤ 1000 * n
  | 0, x => by simp [bndF]
  | n + 1, x => by
    rcases at_cases r x with e | ⟨k, hk, e, _⟩
    · simp [bndF, e]; omega
    · have h1 := bnd_le h n (phX r x).2.2.2.2.2.2.1
      have h2 := bnd_le h n (phX r x).2.2.2.2.2.2.2
      have h3 := (ph_name (step_of h hk).1).2.2.1
      rw [← ph_at hk e] at h3
      have hx : ¬ (atI r x < 0) := by omega
      simp only [bndF, if_neg hx]
      omega

end Go.Proofs.Ytkongeofapbblae

/-
  How long the model's recipes may take.
-/
namespace Go.Proofs.Ytkongeofapbblae
open Go.RowKit

set_option maxRecDepth 100000 in
set_option maxHeartbeats 4000000 in
theorem bndX_any (S : Nat → Prop) (r : List DRecPhase) (hR : RecP r) : ∀ (n : Nat) (v : Value) (x : ByteArray) (w : World), n ≤ 12 → AtL S w r v → (∀ k : Nat, atI r x = (k : Int) → r.length ≤ k + n) → Calls Try.prog 41 #[v, .string x] w fun e w' => e = .returned (.int .i64 (bndF n r x)) ∧ w' = w := by
  intro n
  induction n with
  | zero =>
    intro v x w _ h hd
    have e : atI r x = -1 := by
      rcases at_cases r x with e | ⟨k, hk, e, _⟩
      · exact e
      · have := hd k e; omega
    go_enter Try.func41, Try.ntmps41
    go_wp2_with fail
    refine (atX_any S r v x w h).mono ?_; rintro e' w1 ⟨rfl, rfl⟩; rw [e]
    go_wp2_with fail
    go_ret
    exact ⟨rfl, rfl⟩
  | succ n IH =>
    intro v x w hn12 h hd
    rcases at_cases r x with e | ⟨k, hk, e, _⟩
    · have hr : bndF (n + 1) r x = 0 := by simp [bndF, e]
      rw [hr]
      go_enter Try.func41, Try.ntmps41
      go_wp2_with fail
      refine (atX_any S r v x w h).mono ?_; rintro e' w1 ⟨rfl, rfl⟩; rw [e]
      go_wp2_with fail
      go_ret
      exact ⟨rfl, rfl⟩
    obtain ⟨oa, cap, ev, hx⟩ := id h
    subst ev
    obtain ⟨b, off, rfl, hbS, cc, hcell, hat⟩ := hx.2 k hk
    clear hx
    have hph := ph_at hk e
    rw [width_DRecPhase] at hcell
    rw [at_DRecPhase] at hat
    obtain ⟨nl, en⟩ : ∃ n, r.length = n := ⟨_, rfl⟩
    obtain ⟨f, ef⟩ : ∃ f, r[k] = f := ⟨_, rfl⟩
    have hst := step_of hR hk
    have hin := (ph_name hst.1).2.2.1
    rw [ef] at hph hst hin hat
    obtain ⟨nm, kd, a, b', n', wi, th, el⟩ := f
    obtain ⟨_, _, _, _, _, ⟨q5, _, _⟩, ⟨q6, _⟩, ⟨q7, _⟩⟩ := hat
    have e5 : w.cell? ⟨b, off + k * 8 + 5, none⟩ = some (.int .i64 wi) := (hcell 5 (by omega)).trans (by rw [q5])
    have e6 : w.cell? ⟨b, off + k * 8 + 6, none⟩ = some (.string th) := (hcell 6 (by omega)).trans (by rw [q6])
    have e7 : w.cell? ⟨b, off + k * 8 + 7, none⟩ = some (.string el) := (hcell 7 (by omega)).trans (by rw [q7])
    clear hcell q5 q6 q7
    have HT : Hid (∀ j : Nat, atI r th = (j : Int) → r.length ≤ j + n) := fun j hj => by have := go_next hR hst.2.1 j hj; have := hd k e; omega
    have HE : Hid (∀ j : Nat, atI r el = (j : Int) → r.length ≤ j + n) := fun j hj => by have := go_next hR hst.2.2 j hj; have := hd k e; omega
    simp only at hin
    rw [en] at h
    rw [en]
    have H : Hid (AtL S w r (.slice (some ⟨b, off, none⟩) nl cap)) := h
    have hkn : k < nl := by omega
    have hnl : nl ≤ 12 := by have := hR.1; omega
    have hnx : ¬ (atI r x < 0) := by omega
    have hr : Hid (bndF (n + 1) r x = max (bndF n r th) (bndF n r el) + wi) := by show _ = _; simp only [bndF, if_neg hnx, hph]
    obtain ⟨A, hA⟩ : ∃ A, A = bndF n r th := ⟨_, rfl⟩
    obtain ⟨B, hB⟩ : ∃ B, B = bndF n r el := ⟨_, rfl⟩
    have bA := bnd_le hR n th
    have bB := bnd_le hR n el
    rw [← hA] at bA
    rw [← hB] at bB
    have CT : Hid (Calls Try.prog 41 #[.slice (some ⟨b, off, none⟩) nl cap, .string th] w fun e w' => e = .returned (.int .i64 A) ∧ w' = w) := by rw [hA]; exact IH _ th w (by omega) H.out HT.out
    have CE : Hid (Calls Try.prog 41 #[.slice (some ⟨b, off, none⟩) nl cap, .string el] w fun e w' => e = .returned (.int .i64 B) ∧ w' = w) := by rw [hB]; exact IH _ el w (by omega) H.out HE.out
    have HR2 : Hid (bndF (n + 1) r x = max A B + wi) := by rw [hA, hB]; exact hr.out
    clear hA hB IH hd hst hph hr HT HE h hR en ef
    rw [HR2.out]
    go_enter Try.func41, Try.ntmps41
    go_wp2_with fail
    refine (atX_any S r _ x w H.out).mono ?_; rintro e' w1 ⟨rfl, rfl⟩; rw [e]
    clear e
    go_wp2_with fail
    refine CT.out.mono ?_; rintro e' w2 ⟨rfl, rfl⟩
    go_wp2_with fail
    refine CE.out.mono ?_; rintro e' w3 ⟨rfl, rfl⟩
    by_cases c : A < B
    · have hm : Hid (max A B = B) := by show _ = _; omega
      go_wp2_with fail
      go_ret
      exact ⟨by rw [hm.out]; rfl, rfl⟩
    · have hm : Hid (max A B = A) := by show _ = _; omega
      go_wp2_with fail
      go_ret
      exact ⟨by rw [hm.out]; rfl, rfl⟩

end Go.Proofs.Ytkongeofapbblae

/-
  The model's runs of a recipe: where a run stands, how a phase goes.
-/
namespace Go.Proofs.Ytkongeofapbblae
open Go.RowKit


set_option maxRecDepth 100000 in
set_option maxHeartbeats 4000000 in
theorem stX_any (S : Nat → Prop) (r : List DRecPhase) (hR : RecP r) (v : Value) (x : ByteArray) (now : Int) (w : World) (h : AtL S w r v) (hS : ∀ b, S b → b < w.heap.size) :
    Calls Try.prog 31 #[v, .string x, .int .i64 now] w fun e w' => e = .returned (.agg #[.string x, .int .i64 now, .int .i64 (bndF 12 r x)]) ∧ Below w.heap.size w w' := by
  have b0 : Hid (Below w.heap.size w (w.alloc (.cells #[.string ⟨#[]⟩, .int .i64 0, .int .i64 0] 27))) := (Below.refl _ _).alloc (Nat.le_refl _) _
  have H : Hid (AtL S (w.alloc (.cells #[.string ⟨#[]⟩, .int .i64 0, .int .i64 0] 27)) r v) := h.same (Same.of_below b0.out hS)
  obtain ⟨R, hRR⟩ : ∃ R, R = bndF 12 r x := ⟨_, rfl⟩
  have CB : Hid (Calls Try.prog 41 #[v, .string x] (w.alloc (.cells #[.string ⟨#[]⟩, .int .i64 0, .int .i64 0] 27)) fun e w' => e = .returned (.int .i64 R) ∧ w' = (w.alloc (.cells #[.string ⟨#[]⟩, .int .i64 0, .int .i64 0] 27))) := by rw [hRR]; exact bndX_any S r hR 12 v x _ (Nat.le_refl _) H.out (fun k _ => by have := hR.1; omega)
  rw [← hRR]
  clear hRR h
  go_enter Try.func31, Try.ntmps31
  go_wp2_with fail
  refine CB.out.mono ?_; rintro e w1 ⟨rfl, rfl⟩
  go_wp2_with fail
  exact bodyPost_ret (v := .agg #[.string x, .int .i64 now, .int .i64 R]) (by simp [results, Try.results31, go_sem]) rfl ⟨rfl, (Below.refl _ _).alloc (Nat.le_refl _) _⟩

end Go.Proofs.Ytkongeofapbblae

/-
  The model's runs of a recipe: how a run begins.
-/
namespace Go.Proofs.Ytkongeofapbblae
open Go.RowKit

/-- The state at the beginning, nothing if the recipe is not ok. -/
noncomputable def begS (r : List DRecPhase) : ByteArray × Int × Int := if recB r = true then ((r[0]?.getD default).1, 0, bndF 12 r (r[0]?.getD default).1) else (⟨#[]⟩, 0, 0)

set_option maxRecDepth 100000 in
set_option maxHeartbeats 4000000 in
theorem begX_any (S : Nat → Prop) (r : List DRecPhase) (v : Value) (w : World) (h : AtL S w r v) (hS : ∀ b, S b → b < w.heap.size) :
    Calls Try.prog 19 #[v] w fun e w' => e = .returned (.agg #[.string (begS r).1, .int .i64 (begS r).2.1, .int .i64 (begS r).2.2]) ∧ Below w.heap.size w w' := by
  have H : Hid (∀ w', Below w.heap.size w w' → AtL S w' r v ∧ ∀ b, S b → b < w'.heap.size) := fun w' hb => ⟨h.same (Same.of_below hb hS), fun b hb' => Nat.lt_of_lt_of_le (hS b hb') hb.size⟩
  have b0 : Hid (Below w.heap.size w (w.alloc (.cells #[.string ⟨#[]⟩, .int .i64 0, .int .i64 0] 27))) := (Below.refl _ _).alloc (Nat.le_refl _) _
  have OK : Hid (Calls Try.prog 20 #[v] (w.alloc (.cells #[.string ⟨#[]⟩, .int .i64 0, .int .i64 0] 27)) fun e w' => e = .returned (.bool (recB r)) ∧ Below (w.alloc (.cells #[.string ⟨#[]⟩, .int .i64 0, .int .i64 0] 27)).heap.size (w.alloc (.cells #[.string ⟨#[]⟩, .int .i64 0, .int .i64 0] 27)) w') := okX_any S r v _ (H.out _ b0.out).1 (H.out _ b0.out).2
  cases c : recB r
  · have hr : begS r = (⟨#[]⟩, 0, 0) := by simp [begS, c]
    rw [hr]
    rw [c] at OK
    go_enter Try.func19, Try.ntmps19
    go_wp2_with fail
    refine OK.out.mono ?_; rintro e u ⟨rfl, hb⟩
    have bU : Below w.heap.size w u := b0.out.trans (hb.mono b0.out.size)
    have row : u.heap[w.heap.size]? = some (.cells #[.string ⟨#[]⟩, .int .i64 0, .int .i64 0] 27 (0, 0)) := (hb.block _ (by simp)).trans (heap_alloc_new w _)
    obtain ⟨p0, g0⟩ := cell_row row 0 _ rfl
    obtain ⟨p1, g1⟩ := cell_row row 1 _ rfl
    obtain ⟨p2, g2⟩ := cell_row row 2 _ rfl
    have fin := set_row (set_row (set_row row 0 (.string ⟨#[]⟩)) 1 (.int .i64 0)) 2 (.int .i64 0)
    have f0 := (cell_row fin 0 (.string ⟨#[]⟩) rfl).1
    have f1 := (cell_row fin 1 (.int .i64 0) rfl).1
    have f2 := (cell_row fin 2 (.int .i64 0) rfl).1
    have bF := (((bU.setCell (p := ⟨w.heap.size, 0, none⟩) (by show w.heap.size ≤ w.heap.size; omega) (.string ⟨#[]⟩)).setCell (p := ⟨w.heap.size, 1, none⟩) (by show w.heap.size ≤ w.heap.size; omega) (.int .i64 0)).setCell (p := ⟨w.heap.size, 2, none⟩) (by show w.heap.size ≤ w.heap.size; omega) (.int .i64 0))
    clear row fin
    go_wp2_with fail
    exact bodyPost_ret (v := .agg #[.string ⟨#[]⟩, .int .i64 0, .int .i64 0]) (by simp [results, Try.results19, go_sem, f0, f1, f2]) rfl ⟨rfl, bF⟩
  · have hR := rec_iff.1 c
    have hk : 0 < r.length := hR.1.1
    obtain ⟨f, ef⟩ : ∃ f, r[0] = f := ⟨_, rfl⟩
    have hr : begS r = (f.1, 0, bndF 12 r f.1) := by simp [begS, c, List.getElem?_eq_getElem hk, ef]
    rw [hr]
    rw [c] at OK
    have ST : Hid (∀ (y : ByteArray) (m : Int) (u : World), Below w.heap.size w u → Calls Try.prog 31 #[v, .string y, .int .i64 m] u fun e w' => e = .returned (.agg #[.string y, .int .i64 m, .int .i64 (bndF 12 r y)]) ∧ Below u.heap.size u w') := fun y m u hu => stX_any S r hR v y m u (H.out u hu).1 (H.out u hu).2
    obtain ⟨oa, cap, ev, hx⟩ := id h
    subst ev
    obtain ⟨b, off, rfl, hbS, cc, hcell, hat⟩ := hx.2 0 hk
    clear hx h
    have hb' := hS b hbS
    rw [width_DRecPhase] at hcell
    rw [at_DRecPhase, ef] at hat
    obtain ⟨⟨q0, _⟩, _⟩ := hat
    obtain ⟨nl, en⟩ : ∃ n, r.length = n := ⟨_, rfl⟩
    rw [en] at OK ST hk
    rw [en]
    have hnl : nl ≤ 12 := by have := hR.1; omega
    have E : Hid (∀ u, Below w.heap.size w u → u.cell? ⟨b, off, none⟩ = some (.string f.1)) := fun u hu => ((hu.cell hb').trans (by simpa using hcell 0 (by omega))).trans (by rw [q0])
    clear hcell q0 en ef hR H
    go_enter Try.func19, Try.ntmps19
    go_wp2_with fail
    refine OK.out.mono ?_; rintro e u ⟨rfl, hb⟩
    have bU : Hid (Below w.heap.size w u) := b0.out.trans (hb.mono b0.out.size)
    have rU : Hid (u.heap[w.heap.size]? = some (.cells #[.string ⟨#[]⟩, .int .i64 0, .int .i64 0] 27 (0, 0))) := (hb.block _ (by simp)).trans (heap_alloc_new w _)
    have sU : w.heap.size + 1 ≤ u.heap.size := by have := hb.size; simpa using this
    have x0 := E.out u bU.out
    clear hb
    go_wp2_with fail
    refine (ST.out f.1 0 u bU.out).mono ?_; rintro e u2 ⟨rfl, hb2⟩
    have bU2 : Below w.heap.size w u2 := bU.out.trans (hb2.mono bU.out.size)
    have row : u2.heap[w.heap.size]? = some (.cells #[.string ⟨#[]⟩, .int .i64 0, .int .i64 0] 27 (0, 0)) := (hb2.block _ (by omega)).trans rU.out
    obtain ⟨p0, g0⟩ := cell_row row 0 _ rfl
    obtain ⟨p1, g1⟩ := cell_row row 1 _ rfl
    obtain ⟨p2, g2⟩ := cell_row row 2 _ rfl
    have fin := set_row (set_row (set_row row 0 (.string f.1)) 1 (.int .i64 0)) 2 (.int .i64 (bndF 12 r f.1))
    have f0 := (cell_row fin 0 (.string f.1) rfl).1
    have f1 := (cell_row fin 1 (.int .i64 0) rfl).1
    have f2 := (cell_row fin 2 (.int .i64 (bndF 12 r f.1)) rfl).1
    have bF := (((bU2.setCell (p := ⟨w.heap.size, 0, none⟩) (by show w.heap.size ≤ w.heap.size; omega) (.string f.1)).setCell (p := ⟨w.heap.size, 1, none⟩) (by show w.heap.size ≤ w.heap.size; omega) (.int .i64 0)).setCell (p := ⟨w.heap.size, 2, none⟩) (by show w.heap.size ≤ w.heap.size; omega) (.int .i64 (bndF 12 r f.1)))
    clear row fin
    go_wp2_with fail
    exact bodyPost_ret (v := .agg #[.string f.1, .int .i64 0, .int .i64 (bndF 12 r f.1)]) (by simp [results, Try.results19, go_sem, f0, f1, f2]) rfl ⟨rfl, bF⟩

end Go.Proofs.Ytkongeofapbblae
