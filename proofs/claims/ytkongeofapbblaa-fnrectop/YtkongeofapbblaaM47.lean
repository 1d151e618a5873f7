/-
  Several texts in one.
-/
import Derived.Test.YtkongeofapbblaaM25
import Derived.Test.YtkongeofapbblaaM11
import Derived.Test.YtkongeofapbblaaXh
import Derived.Test.YtkongeofapbblaaM43
/-
  A law for a range over a function that may be left, whose iterator writes blocks of its own beside what it makes: rounds are counted, what comes in a round hangs on its number alone. No program is named here.
-/
namespace Go.Proofs.Ytkongeofapbblaa
open Go.RowKit

/-- Nothing turned but blocks of T, records of loops from block B on, and what is new. -/
structure ButR (T : Nat → Prop) (B : Nat) (A C : World) : Prop where
  os : C.os = A.os
  tape : C.tape = A.tape
  output : C.output = A.output
  size : A.heap.size ≤ C.heap.size
  block : ∀ b, b < A.heap.size → ¬ T b → ¬ (B ≤ b ∧ ∃ o : Obj, A.heap[b]? = some o ∧ o.isCells = false) → C.heap[b]? = A.heap[b]?
theorem ButR.of_but {T : Nat → Prop} {B : Nat} {A C : World} (h : But T A C) : ButR T B A C := ⟨h.os, h.tape, h.output, h.size, fun b hb hn _ => h.block b hb hn⟩
theorem ButR.of_below {T : Nat → Prop} {B : Nat} {A C : World} (h : Below A.heap.size A C) : ButR T B A C := ⟨h.os, h.tape, h.output, h.size, fun b hb _ _ => h.block b hb⟩
theorem ButR.put {T : Nat → Prop} {B : Nat} {A : World} {l : Nat} {o : Obj} (hl : A.heap[l]? = some o) (ho : o.isCells = false) (hB : B ≤ l) (o' : Obj) : ButR T B A (A.putObj l o') :=
  have g := grownBy_putObj' A l o'
  ⟨g.os, g.tape, g.output, g.size, fun b hb _ hr => g.block b hb (fun e => hr (by cases e; exact ⟨hB, o, hl, ho⟩))⟩

/-- An iterator's contract: so many rounds, each with what its number tells; the caller may leave. -/
def SeqIt (F : Fence) (n : Nat) (P : Program) (g : Nat) (lb : Array Value) (encs : Nat → Array Value) (own : World → Nat → Prop) (n₀ : Nat) (T low : Nat → Prop) (Sx : Nat → Prop) (Fi : Prop) (N : Nat) (w : World) : Prop :=
  ∀ (l : Nat) (J Jx : Nat → World → Prop) (W : World), Below w.heap.size w W →
    (∀ k A C, J k A → But T A C → J k C) → (∀ k A C, Jx k A → But T A C → Jx k C) →
    (∀ k A, J k A → (∀ q, own A q → q < A.heap.size) ∧ ∀ C, But T A C → ∀ q, own C q → own A q) → (∀ q, low q → ¬ own W q) → (∀ k A, J k A → k < N) →
    (∀ k W1, J k W1 → Fi → YieldAt F (n - 1) P l (encs k) W1 fun e W' => (e = .returned (.bool true) ∧ J (k + 1) W' ∧ KpO own n₀ W1 W') ∨ (e = .returned (.bool false) ∧ Jx k W')) →
    J 0 W →
    CallsIn F n P g (#[.func (.yield l) #[] #[]] ++ lb) W fun e W' => (∃ v, e = .returned v) ∧ ((∃ k, Sx k ∧ J k W') ∨ ∃ k, Jx k W')

/-- How a round goes on, or is left. -/
def postL (own : World → Nat → Prop) (n₀ : Nat) (I : Nat → World → Prop) (Ix : Code → Nat → World → Prop) (k : Nat) (W : World) : Exit → Act → World → Prop
  | .normal, _, W' => KeepsOthers W W' ∧ KpO own n₀ W W' ∧ I (k + 1) W'
  | .exit id, _, W' => KeepsOthers W W' ∧ Ix (.exit id) k W'
  | _, _, _ => False

variable {F : Fence} {n : Nat} {P : Program}

theorem wpIn_range_it {g : Operand} {ps : Array Tmp} {assign body : Code} {Q : Exit → Act → World → Prop} {a : Act} {w : World}
    (hro : F.round = none) (h1 : 1 ≤ n) {gf : Nat} {lb : Array Value} (hg : a.eval g = .func (.func gf) #[] lb) (hFg : F.fn gf) (eg : ∀ args w, (callFunc gf args).run P w = .ok (.enter gf args) w)
    {encs : Nat → Array Value} {own : World → Nat → Prop} {n₀ : Nat} {T low : Nat → Prop} {Sx : Nat → Prop} {Fi : Prop} {N : Nat} {w0 : World} (hseq : SeqIt F (n - 1) P gf lb encs own n₀ T low Sx Fi N w0)
    (hb0 : Below w0.heap.size w0 w) (hps : ∀ k, (encs k).size = ps.size) (hno : ∀ q, low q → ¬ own w q) (hlo : n₀ ≤ w.heap.size) (hT : ∀ q, T q → q < w.heap.size)
    (I : Nat → World → Prop) (Ix : Code → Nat → World → Prop) (hI : ∀ k A C, I k A → ButR T w.heap.size A C → I k C) (hIx : ∀ c k A C, Ix c k A → ButR T w.heap.size A C → Ix c k C)
    (hst : ∀ k A, I k A → (∀ q, own A q → q < A.heap.size) ∧ ∀ C, ButR T w.heap.size A C → ∀ q, own C q → own A q) (h0 : I 0 w) (hN : ∀ k A, I k A → k < N)
    (hround : ∀ (l k : Nat) (W : World), I k W → Fi → ∃ (a₁ : Act) (Wa : World), Below W.heap.size W Wa ∧
      (∀ K : Act → World → Prop, K a₁ Wa → assign.wpIn (F.inRound l) (n - 1 - 1) P (Exit.then K (fun _ _ _ => False)) { tmps := (ps.zip (encs k)).foldl (fun t (p, v) => t.setIfInBounds p v) a.tmps, defers := [] } W) ∧
      ∀ V : World, I k V → (∃ (q : Nat) (o o' : Obj), Wa.heap[q]? = some o ∧ o.isCells = false ∧ V = Wa.putObj q o') → body.wpIn (F.inRound l) (n - 1 - 1) P (postL own n₀ I Ix k V) a₁ V)
    (hdone : ∀ (D k : Nat) (W : World), w.heap.size ≤ D → D < W.heap.size → Sx k → I k W → W.heap[D]? = some (.deferred (some [])) → Q .normal { a with defers := { target := .collected D, args := #[] } :: a.defers } W)
    (hstop : ∀ (D : Nat) (c : Code) (k : Nat) (W : World), w.heap.size ≤ D → D < W.heap.size → Ix c k W → W.heap[D]? = some (.deferred (some [])) → c.wpIn F n P Q { a with defers := { target := .collected D, args := #[] } :: a.defers } W) :
    (Code.rangeFunc g ps assign body).wpIn F n P Q a w := by
  refine wpIn_rangeFunc fun fn hfn => ?_
  rw [hro]
  let rec' : LoopState → Option Code → Loop := fun st pe => { state := st, pending := pe, fn, tmps := a.tmps, params := ps, assign, body, defers := w.heap.size }
  obtain ⟨W1, hW1⟩ : ∃ W1, (w.alloc (.deferred (some []))).alloc (.loop (rec' .ready none)) = W1 := ⟨_, rfl⟩
  have hL1 : W1.heap[w.heap.size + 1]? = some (.loop (rec' .ready none)) := by
    rw [← hW1]; have := World.alloc_heap_new (w.alloc (.deferred (some []))) (.loop (rec' .ready none)); rwa [World.size_alloc] at this
  have hD1 : W1.heap[w.heap.size]? = some (.deferred (some [])) := by
    rw [← hW1]; exact (Below.heap_alloc _ _ _ (by simp)).trans (World.alloc_heap_new w _)
  have hw1 : Below w.heap.size w W1 := by
    rw [← hW1]; exact ((Below.refl _ w).alloc (Nat.le_refl _) _).alloc (by simp) _
  have hI1 : I 0 W1 := hI 0 w W1 h0 (.of_below hw1)
  have hb1 : Below w0.heap.size w0 W1 := hb0.trans (hw1.mono hb0.size)
  have hno1 : ∀ q, low q → ¬ own W1 q := fun q hq ho => hno q hq ((hst 0 w h0).2 W1 (.of_below hw1) q ho)
  refine ⟨w.heap.size + 1, [{ target := .collected w.heap.size, args := #[] }], W1, { target := .fn (.func gf) lb, args := #[.func (.yield (w.heap.size + 1)) #[] #[]] }, W1, gf,
    #[.func (.yield (w.heap.size + 1)) #[] #[]] ++ lb, W1, ?_, ?_, ?_, ?_, fun _ => h1, ?_⟩
  · rw [← hW1]; exact run_enterLoop_outer _ _ _ _ _
  · simp only [resolve, hg]
    simp [go_sem]
  · intro f' hf'; simp [Target.leads] at hf'; subst hf'; exact hFg
  · simp [invoke, go_sem, eg]
  · let Bk : LoopState → Option Code → World → Prop := fun st pe W => W.heap[w.heap.size + 1]? = some (.loop (rec' st pe)) ∧ W.heap[w.heap.size]? = some (.deferred (some []))
    have bkT : ∀ (st : LoopState) (pe : Option Code) (A C : World), Bk st pe A → But T A C → Bk st pe C := fun st pe A C h hb =>
      ⟨(hb.block _ (Array.getElem?_eq_some_iff.1 h.1).1 (fun ht => by have := hT _ ht; omega)).trans h.1, (hb.block _ (Array.getElem?_eq_some_iff.1 h.2).1 (fun ht => by have := hT _ ht; omega)).trans h.2⟩
    refine (hseq (w.heap.size + 1) (fun k W => I k W ∧ Bk .ready none W) (fun k W => ∃ c, Ix c k W ∧ Bk .done (some c) W) W1 hb1
      (fun k A C h hb => ⟨hI k A C h.1 (.of_but hb), bkT _ _ A C h.2 hb⟩)
      (fun k A C h hb => by obtain ⟨c, hc, hbk⟩ := h; exact ⟨c, hIx c k A C hc (.of_but hb), bkT _ _ A C hbk hb⟩)
      (fun k A h => ⟨(hst k A h.1).1, fun C hb q hq => (hst k A h.1).2 C (.of_but hb) q hq⟩) hno1 (fun k A h => hN k A h.1) ?_ ⟨hI1, hL1, hD1⟩).mono ?_
    · rintro k W ⟨hi, hl, hd⟩ hfi
      have hlt : w.heap.size + 1 < W.heap.size := (Array.getElem?_eq_some_iff.1 hl).1
      obtain ⟨a₁, Wa, ba, hassign, hbody⟩ := hround (w.heap.size + 1) k W hi hfi
      refine ⟨fn, _, assign, body, run_yield (P := P) (args := encs k) hl (hps k), roundIn_of_wpIn hfn (hassign _ ?_)⟩
      have hs := hst k W hi
      have kpa : KpO own n₀ W Wa := ⟨ba.size, fun q hq => .inl (hs.2 Wa (.of_below ba) q hq), fun q hq => ba.block q (by omega), fun q c t z hc _ => (ba.block q (Array.getElem?_eq_some_iff.1 hc).1).trans hc⟩
      have hia : I k Wa := hI k W Wa hi (.of_below ba)
      have hla := (ba.block _ hlt).trans hl
      have hda := (ba.block _ (by omega)).trans hd
      have sa := ba.size
      have kpp : ∀ (i : Nat) (A : World) (st : LoopState) (pe : Option Code) (o' : Obj), I i A → A.heap[w.heap.size + 1]? = some (.loop (rec' st pe)) → KpO own n₀ A (A.putObj (w.heap.size + 1) o') := fun i A st pe o' hA hlA =>
        ⟨by simp, fun q hq => .inl ((hst i A hA).2 _ (.put hlA rfl (by omega) o') q hq), fun q hq => World.putObj_heap_other (by omega), fun q c t z hc _ => (World.putObj_heap_other (fun e => by first | (subst e; rw [hlA] at hc; cases hc) | (rw [e] at hlA; rw [hlA] at hc; cases hc) | (rw [← e] at hc; rw [hlA] at hc; cases hc))).trans hc⟩
      refine ⟨_, run_beginRound hla rfl, ?_⟩
      have hl2 : (Wa.putObj (w.heap.size + 1) (.loop (rec' .busy none))).heap[w.heap.size + 1]? = some (.loop (rec' .busy none)) := World.putObj_heap_same (by omega)
      have hd2 : (Wa.putObj (w.heap.size + 1) (.loop (rec' .busy none))).heap[w.heap.size]? = some (.deferred (some [])) := (World.putObj_heap_other (by omega)).trans hda
      have hi2 : I k (Wa.putObj (w.heap.size + 1) (.loop (rec' .busy none))) := hI k Wa _ hia (.put hla rfl (by omega) _)
      refine wpIn_mono (hbody _ hi2 ⟨_, _, _, hla, rfl, rfl⟩) ?_
      rintro e a3 W3 hp
      cases e with
      | normal =>
        obtain ⟨hk3, hkp3, hi3⟩ := hp
        have hl3 := hk3.same _ _ hl2 rfl
        have hd3 := hk3.same _ _ hd2 rfl
        have hlt3 := (Array.getElem?_eq_some_iff.1 hl3).1
        refine ⟨_, _, run_endRound (P := P) none hl3, .inl ⟨rfl, ⟨hI (k + 1) W3 _ hi3 (.put hl3 rfl (by omega) _), World.putObj_heap_same hlt3, (World.putObj_heap_other (by omega)).trans hd3⟩, ?_⟩⟩
        exact kpa.trans ((kpp k Wa _ _ _ hia hla).trans (hkp3.trans (kpp (k + 1) W3 _ _ _ hi3 hl3)))
      | exit id =>
        obtain ⟨hk3, hi3⟩ := hp
        have hl3 := hk3.same _ _ hl2 rfl
        have hd3 := hk3.same _ _ hd2 rfl
        have hlt3 := (Array.getElem?_eq_some_iff.1 hl3).1
        exact ⟨_, _, run_endRound (P := P) (some (.exit id)) hl3, .inr ⟨rfl, .exit id, hIx _ k W3 _ hi3 (.put hl3 rfl (by omega) _), World.putObj_heap_same hlt3, (World.putObj_heap_other (by omega)).trans hd3⟩⟩
      | ret => exact hp.elim
      | goto t => exact hp.elim
      | panic ch => exact hp.elim
      | outgrown => exact hp.elim
    · rintro e W2 ⟨⟨v, rfl⟩, ⟨k, hS, hi, hl, hd⟩ | ⟨k, c, hi, hl, hd⟩⟩
      · have hlt2 := (Array.getElem?_eq_some_iff.1 hl).1
        exact ⟨none, _, run_endLoop (P := P) hl (by simp [rec']), hdone _ k _ (Nat.le_refl _) (by simp; omega) hS (hI k W2 _ hi (.put hl rfl (by omega) _)) ((World.putObj_heap_other (by omega)).trans hd)⟩
      · have hlt2 := (Array.getElem?_eq_some_iff.1 hl).1
        exact ⟨some c, _, run_endLoop (P := P) hl (by simp [rec']), hstop _ c k _ (Nat.le_refl _) (by simp; omega) (hIx c k W2 _ hi (.put hl rfl (by omega) _)) ((World.putObj_heap_other (by omega)).trans hd)⟩

end Go.Proofs.Ytkongeofapbblaa

/-
  What a whole run does (plain): how many phases are met, and that it ends where the recipe has an end.
-/
namespace Go.Proofs.Ytkongeofapbblaa
open Go.RowKit

theorem eqG_eq {a b : ByteArray} (h : eqB a b = true) : a = b := by
  rw [eqB, beq_iff_eq, ByteArray.toList_eq, ByteArray.toList_eq] at h
  exact ByteArray.ext (Array.ext' h)
theorem nameG {r : List DRecPhase} {x : ByteArray} {k : Nat} (hk : k < r.length) (e : atI r x = (k : Int)) : r[k].1 = x := by
  rcases at_cases r x with h | ⟨j, hj, h, hx⟩
  · omega
  · obtain rfl : j = k := by omega
    exact eqG_eq hx
/-- Where a run is behind so many phases. -/
noncomputable def stG (r : List DRecPhase) (L : List DRecSay) : Nat → ByteArray × Int × Int
  | 0 => begS r
  | i + 1 => (goS r (stG r L i).1 (stG r L i).2.1 (stG r L i).2.2 (sayT L i).1 (sayT L i).2).1
noncomputable def paG (r : List DRecPhase) (L : List DRecSay) (i : Nat) : List ByteArray := (List.range i).map fun q => (stG r L q).1
theorem paG_succ (r : List DRecPhase) (L : List DRecSay) (i : Nat) : paG r L (i + 1) = paG r L i ++ [(stG r L i).1] := by simp [paG, List.range_succ]
theorem paG_len (r : List DRecPhase) (L : List DRecSay) (i : Nat) : (paG r L i).length = i := by simp [paG]
/-- A state on the way. -/
structure StG (s : ByteArray × Int × Int) (j : Nat) : Prop where
  lo : 0 ≤ s.2.1
  hi : s.2.1 ≤ 1000 * j
  sz : s.1.size ≤ 8
/-- How far it is yet, at most. -/
def mzG (r : List DRecPhase) (x : ByteArray) : Nat := if atI r x < 0 then 0 else (13 - atI r x).toNat
theorem mz_at {r : List DRecPhase} {x : ByteArray} {k : Nat} (h : atI r x = (k : Int)) : mzG r x = 13 - k := by
  unfold mzG
  rw [if_neg (by omega), h]; omega
theorem mz_no {r : List DRecPhase} {x : ByteArray} (h : atI r x = -1) : mzG r x = 0 := by
  unfold mzG
  rw [if_pos (by omega)]
/-- A whole run. -/
structure RunG (r : List DRecPhase) (L : List DRecSay) (m : Nat) : Prop where
  le : m ≤ 12
  go : ∀ i, i < m → (goS r (stG r L i).1 (stG r L i).2.1 (stG r L i).2.2 (sayT L i).1 (sayT L i).2).2 = true
  mid : ∀ i, i < m → endI (stG r L i).1 = 0
  less : ∀ i, i < m → mzG r (stG r L (i + 1)).1 < mzG r (stG r L i).1
  fin : endI (stG r L m).1 ≠ 0
  st : ∀ i, i ≤ m → StG (stG r L i) i
  run : runS r L = (stG r L m, paG r L m)
theorem goG_at {r : List DRecPhase} (hR : RecP r) {x : ByteArray} {now lf t : Int} {well : Bool} {k : Nat} (hk : k < r.length) (e : atI r x = (k : Int)) (h0 : 0 ≤ now) (h1 : now ≤ 12000) :
    (goS r x now lf t well).2 = true ∧ (goS r x now lf t well).1.1.size ≤ 8 ∧ (atI r (goS r x now lf t well).1.1 = -1 → endI (goS r x now lf t well).1.1 ≠ 0) := by
  have hst := step_of hR hk
  have hi : inB now 0 12000 = true := by simp [inB]; omega
  have hr : goS r x now lf t well = ((nxT r[k] (goT r[k] t well).2, now + (goT r[k] t well).1, bndF 12 r (nxT r[k] (goT r[k] t well).2)), true) := by
    have hn0 : 0 ≤ atI r x := by omega
    simp only [goS, rec_yes hR, hn0, hi, and_self, if_true, ph_at hk e]
  rw [hr]
  have hz := ph_goes hst.1
  have hg : goesB r k (nxT r[k] (goT r[k] t well).2) = true := by
    unfold nxT
    split
    · exact hst.2.1
    · exact hst.2.2
  refine ⟨rfl, ?_, fun h => ?_⟩
  · show (nxT r[k] _).size ≤ 8
    unfold nxT
    split
    · exact hz.1
    · exact hz.2
  · intro h0
    simp only at h h0
    rw [goes_no h0 (by omega)] at hg
    cases hg
theorem runG_go {r : List DRecPhase} (hR : RecP r) (L : List DRecSay) : ∀ (n j : Nat), StG (stG r L j) j → (∀ k : Nat, atI r (stG r L j).1 = (k : Int) → r.length ≤ k + n ∧ j ≤ k) → (atI r (stG r L j).1 = -1 → endI (stG r L j).1 ≠ 0) → j ≤ 12 →
    ∃ m, j ≤ m ∧ m ≤ 12 ∧ (∀ i, j ≤ i → i < m → (goS r (stG r L i).1 (stG r L i).2.1 (stG r L i).2.2 (sayT L i).1 (sayT L i).2).2 = true) ∧ (∀ i, j ≤ i → i < m → endI (stG r L i).1 = 0 ∧ mzG r (stG r L (i + 1)).1 < mzG r (stG r L i).1) ∧ endI (stG r L m).1 ≠ 0 ∧ (∀ i, j ≤ i → i ≤ m → StG (stG r L i) i) ∧ runF n r L j (stG r L j) (paG r L j) = (stG r L m, paG r L m) := by
  intro n
  induction n with
  | zero =>
    intro j hq hd he hj
    rcases at_cases r (stG r L j).1 with e | ⟨k, hk, e, _⟩
    · exact ⟨j, Nat.le_refl _, hj, fun i h1 h2 => by omega, fun i h1 h2 => by omega, he e, fun i h1 h2 => by obtain rfl : i = j := (by omega); exact hq, rfl⟩
    · have := (hd k e).1; omega
  | succ n ih =>
    intro j hq hd he hj
    rcases at_cases r (stG r L j).1 with e | ⟨k, hk, e, _⟩
    · exact ⟨j, Nat.le_refl _, hj, fun i h1 h2 => by omega, fun i h1 h2 => by omega, he e, fun i h1 h2 => by obtain rfl : i = j := (by omega); exact hq, run_end (by omega)⟩
    · have hl := hR.1
      obtain ⟨d1, d2⟩ := hd k e
      have hj12 : j < 12 := by omega
      have S := go_step hR (x := (stG r L j).1) (now := (stG r L j).2.1) (lf := (stG r L j).2.2) (t := (sayT L j).1) (well := (sayT L j).2) hk e hq.lo (by have := hq.hi; omega)
      have G := goG_at hR (x := (stG r L j).1) (now := (stG r L j).2.1) (lf := (stG r L j).2.2) (t := (sayT L j).1) (well := (sayT L j).2) hk e hq.lo (by have := hq.hi; omega)
      have es : stG r L (j + 1) = (goS r (stG r L j).1 (stG r L j).2.1 (stG r L j).2.2 (sayT L j).1 (sayT L j).2).1 := rfl
      have hz : endI (stG r L j).1 = 0 := by rw [← nameG hk e]; exact (ph_name (step_of hR hk).1).2.1
      have hm : mzG r (stG r L (j + 1)).1 < mzG r (stG r L j).1 := by
        rw [mz_at e]
        rcases at_cases r (stG r L (j + 1)).1 with e2 | ⟨q, hq2, e2, _⟩
        · rw [mz_no e2]; omega
        · have := S.1 q (by rw [← es]; exact e2)
          rw [mz_at e2]; omega
      have hq' : StG (stG r L (j + 1)) (j + 1) := by
        rw [es]
        have := hq.lo; have := hq.hi; have := S.2.1; have := S.2.2
        exact ⟨by omega, by omega, G.2.1⟩
      obtain ⟨m, m1, m2, m3, m4, m5, m6, m7⟩ := ih (j + 1) hq' (fun q hq2 => by rw [es] at hq2; have := S.1 q hq2; omega) (by rw [es]; exact G.2.2) (by omega)
      refine ⟨m, by omega, m2, fun i h1 h2 => ?_, fun i h1 h2 => ?_, m5, fun i h1 h2 => ?_, ?_⟩
      · by_cases hij : i = j
        · subst hij; exact G.1
        · exact m3 i (by omega) h2
      · by_cases hij : i = j
        · subst hij; exact ⟨hz, hm⟩
        · exact m4 i (by omega) h2
      · by_cases hij : i = j
        · subst hij; exact hq
        · exact m6 i (by omega) h2
      · rw [run_next (by omega), ← paG_succ, ← es]
        exact m7
theorem runG_all {r : List DRecPhase} (hR : RecP r) (L : List DRecSay) : ∃ m, RunG r L m := by
  have hl : 0 < r.length := hR.1.1
  have hb : begS r = (r[0].1, (0 : Int), bndF 12 r r[0].1) := by
    unfold begS
    rw [if_pos (rec_yes hR), List.getElem?_eq_getElem hl]
    rfl
  have h0 : atI r (stG r L 0).1 = ((0 : Nat) : Int) := by
    show atI r (begS r).1 = _
    rw [hb]
    exact at_self hR hl
  have hq : StG (stG r L 0) 0 := by
    show StG (begS r) 0
    rw [hb]
    exact ⟨by simp, by simp, name_le8 (ph_name (step_of hR hl).1).1⟩
  obtain ⟨m, m1, m2, m3, m4, m5, m6, m7⟩ := runG_go hR L 12 0 hq (fun k hk => by have := hR.1; omega) (fun h => by omega) (by omega)
  refine ⟨m, m2, fun i h => m3 i (by omega) h, fun i h => (m4 i (by omega) h).1, fun i h => (m4 i (by omega) h).2, m5, fun i h => m6 i (by omega) h, ?_⟩
  unfold runS
  rw [if_pos (rec_yes hR)]
  exact m7

end Go.Proofs.Ytkongeofapbblaa
