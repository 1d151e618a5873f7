/-
  Several texts in one.
-/
import Derived.Test.YtidojjecjjochadGreatDoorM33
import Derived.Test.YtidojjecjjochadGreatDoorM1
/-
  A law for a range over a function whose iterator ranges over another one and hands on lists that it makes: as the law for those that hand on what they get, with a word on what is handed on. No program is named here.
-/
namespace Go.Proofs.YtidojjecjjochadGreatDoor
open Go.RowKit

/-- An iterator's contract, for callers that own what they speak of and hear all that comes; of what is handed on a caller learns how it lies, in blocks that were not there when it last spoke. -/
def SeqFit {α : Type} (F : Fence) (n : Nat) (P : Program) (g : Nat) (lb : Array Value) (encs : α → Array Value) (own : World → Nat → Prop) (n₀ : Nat) (low : Nat → Prop) (fits : Nat → α → World → Prop) (S : List α → Prop) (N : Nat) (w : World) : Prop :=
  ∀ (l : Nat) (J : List α → World → Prop) (W : World), Below w.heap.size w W → OwnFrom W.heap.size J → (∀ pre W1, J pre W1 → OwnSt own W1) → (∀ k, low k → ¬ own W k) →
    (∀ pre x W0 W1, J pre W0 → J pre W1 → fits W0.heap.size x W1 → pre.length < N → YieldAt F (n - 1) P l (encs x) W1 fun e W' => e = .returned (.bool true) ∧ J (pre ++ [x]) W' ∧ KpO own n₀ W1 W' ∧ KeepsFrom W.heap.size W1 W') →
    J [] W →
    CallsIn F n P g (#[.func (.yield l) #[] #[]] ++ lb) W fun e W' => (∃ v, e = .returned v) ∧ ∃ xs, S xs ∧ J xs W'

theorem below_grown0 {A C : World} (h : Below A.heap.size A C) : A.grownBy C none := ⟨h.os, h.tape, h.output, h.size, fun k hk _ => h.block k hk⟩
theorem keeps_below {A C : World} (h : Below A.heap.size A C) : KeepsOthers A C := ⟨h.size, fun k _ hk _ => (h.block k (Array.getElem?_eq_some_iff.1 hk).1).trans hk⟩

variable {F : Fence} {n : Nat} {P : Program}

theorem wpIn_range_fit {α : Type} {g : Operand} {ps : Array Tmp} {assign body : Code} {Q : Exit → Act → World → Prop} {a : Act} {w : World}
    (hro : F.round = none) (h1 : 1 ≤ n) {gf : Nat} {lb : Array Value} (hg : a.eval g = .func (.func gf) #[] lb) (hFg : F.fn gf) (eg : ∀ args w, (callFunc gf args).run P w = .ok (.enter gf args) w)
    {encs : α → Array Value} {own : World → Nat → Prop} {n₀ : Nat} {low : Nat → Prop} {fits : Nat → α → World → Prop} {S : List α → Prop} {N : Nat} {w0 : World} (hseq : SeqFit F (n - 1) P gf lb encs own n₀ low fits S N w0) (hfp : ∀ S x (W : World) (l : Nat) (o o' : Obj), fits S x W → W.heap[l]? = some o → o.isCells = false → fits S x (W.putObj l o'))
    (hb0 : Below w0.heap.size w0 w) (hps : ∀ x, (encs x).size = ps.size) (hn₀ : ∀ k, low k → ¬ own w k) (hlo : n₀ ≤ w.heap.size)
    (I : List α → World → Prop) (hI : OwnFrom w.heap.size I) (hst : ∀ pre W, I pre W → OwnSt own W) (h0 : I [] w) (a₁ : α → World → Act) (wa : α → World → World) (hwa : ∀ x W, Below W.heap.size W (wa x W)) (hfb : ∀ S x W W', fits S x W → Below W.heap.size W W' → fits S x W')
    (hassign : ∀ (l : Nat) (x : α) (W : World) (K : Act → World → Prop), K (a₁ x W) (wa x W) →
      assign.wpIn (F.inRound l) (n - 1 - 1) P (Exit.then K (fun _ _ _ => False)) { tmps := (ps.zip (encs x)).foldl (fun t (p, v) => t.setIfInBounds p v) a.tmps, defers := [] } W)
    (hbody : ∀ (l : Nat) (pre : List α) (x : α) (W0 W V : World), I pre W0 → I pre V → fits W0.heap.size x V → (∃ (k : Nat) (o o' : Obj), (wa x W).heap[k]? = some o ∧ o.isCells = false ∧ V = (wa x W).putObj k o') → pre.length < N → body.wpIn (F.inRound l) (n - 1 - 1) P (postO own n₀ I (pre ++ [x]) V) (a₁ x W) V)
    (hdone : ∀ (D : Nat) (xs : List α) (W : World), w.heap.size ≤ D → D < W.heap.size → S xs → I xs W → W.heap[D]? = some (.deferred (some [])) → KeepsOthers w W → Q .normal { a with defers := { target := .collected D, args := #[] } :: a.defers } W) :
    (Code.rangeFunc g ps assign body).wpIn F n P Q a w := by
  refine wpIn_rangeFunc fun fn hfn => ?_
  rw [hro]
  let rec' : LoopState → Option Code → Loop := fun st pe => { state := st, pending := pe, fn, tmps := a.tmps, params := ps, assign, body, defers := w.heap.size }
  obtain ⟨W1, hW1⟩ : ∃ W1, (w.alloc (.deferred (some []))).alloc (.loop (rec' .ready none)) = W1 := ⟨_, rfl⟩
  have sW1 : W1.heap.size = w.heap.size + 1 + 1 := by rw [← hW1]; simp
  have hL1 : W1.heap[w.heap.size + 1]? = some (.loop (rec' .ready none)) := by
    rw [← hW1]; have := World.alloc_heap_new (w.alloc (.deferred (some []))) (.loop (rec' .ready none)); rwa [World.size_alloc] at this
  have hD1 : W1.heap[w.heap.size]? = some (.deferred (some [])) := by
    rw [← hW1]; exact (Below.heap_alloc _ _ _ (by simp)).trans (World.alloc_heap_new w _)
  have hI1 : I [] W1 := by rw [← hW1]; exact hI.alloc _ (hI.alloc _ h0)
  have hk1 : KeepsOthers w W1 := by rw [← hW1]; exact (KeepsOthers.alloc _ _).trans (KeepsOthers.alloc _ _)
  have hb1 : Below w0.heap.size w0 W1 := by
    rw [← hW1]; exact hb0.trans ((((Below.refl _ w).alloc (Nat.le_refl _) _).alloc (by simp) _).mono hb0.size)
  have hno : ∀ k, low k → ¬ own W1 k := fun k hk ho => by
    have g1 := (hst [] w h0).2 _ none (World.grownBy_alloc w (.deferred (some [])) none) (fun r e => by cases e)
    have hs2 := hst [] _ (hI.alloc (.deferred (some [])) h0)
    rw [← hW1] at ho
    exact hn₀ k hk (g1 k (hs2.2 _ none (World.grownBy_alloc _ _ none) (fun r e => by cases e) k ho))
  refine ⟨w.heap.size + 1, [{ target := .collected w.heap.size, args := #[] }], W1, { target := .fn (.func gf) lb, args := #[.func (.yield (w.heap.size + 1)) #[] #[]] }, W1, gf,
    #[.func (.yield (w.heap.size + 1)) #[] #[]] ++ lb, W1, ?_, ?_, ?_, ?_, fun _ => h1, ?_⟩
  · rw [← hW1]; exact run_enterLoop_outer _ _ _ _ _
  · simp only [resolve, hg]
    simp [go_sem]
  · intro f' hf'; simp [Target.leads] at hf'; subst hf'; exact hFg
  · simp [invoke, go_sem, eg]
  · -- the three facts that stand beside the caller's own
    let Bk : LoopState → World → Prop := fun st W => W.heap[w.heap.size + 1]? = some (.loop (rec' st none)) ∧ W.heap[w.heap.size]? = some (.deferred (some [])) ∧ KeepsOthers w W
    have bk_own : ∀ (st : LoopState) (A B : World) (row : Option Nat), Bk st A → A.grownBy B row → (∀ r, row = some r → W1.heap.size ≤ r ∧ ∃ o : Obj, A.heap[r]? = some o ∧ o.isCells = false) → Bk st B := fun st A B row hs hg' hr => by
      have no : ∀ k, k < W1.heap.size → some k ≠ row := fun k hk e => by have := (hr k e.symm).1; omega
      refine ⟨(hg'.block _ (Array.getElem?_eq_some_iff.1 hs.1).1 (no _ (by omega))).trans hs.1, (hg'.block _ (Array.getElem?_eq_some_iff.1 hs.2.1).1 (no _ (by omega))).trans hs.2.1, Nat.le_trans hs.2.2.size hg'.size, fun k o hk ho => ?_⟩
      have hA := hs.2.2.same k o hk ho
      exact (hg'.block k (Array.getElem?_eq_some_iff.1 hA).1 (no k (by have := (Array.getElem?_eq_some_iff.1 hk).1; omega))).trans hA
    refine (hseq (w.heap.size + 1) (fun pre W => I pre W ∧ Bk .ready W) W1 hb1
      (fun s A B row hs hg' hr => ⟨hI s A B row hs.1 hg' (fun r e => ⟨by have := (hr r e).1; omega, (hr r e).2⟩), bk_own _ A B row hs.2 hg' hr⟩)
      (fun pre W h => hst pre W h.1) hno ?_ ⟨hI1, hL1, hD1, hk1⟩).mono ?_
    · rintro pre x W0 W ⟨hi0, _⟩ ⟨hi, hl, hd, hkf⟩ hfit hlen
      have hlt : w.heap.size + 1 < W.heap.size := (Array.getElem?_eq_some_iff.1 hl).1
      refine ⟨fn, _, assign, body, run_yield (P := P) (args := encs x) hl (hps x), roundIn_of_wpIn hfn (hassign _ x W _ ?_)⟩
      have ba := hwa x W
      have hkw := hst pre W hi
      have kpa : KpO own n₀ W (wa x W) := hkw.kp (by omega) (below_grown0 ba) (fun r e => by cases e)
      have hia : I pre (wa x W) := hI pre W (wa x W) none hi (below_grown0 ba) (fun r e => by cases e)
      have hla := (ba.block _ hlt).trans hl
      have hda := (ba.block _ (by omega)).trans hd
      have hka := hkf.trans (keeps_below ba)
      have hfa := hfb _ _ _ _ hfit ba
      have fra : KeepsFrom W1.heap.size W (wa x W) := (keeps_below ba).from _
      have hlta := ba.size
      obtain ⟨Wa, hWa⟩ : ∃ Wa, Wa = wa x W := ⟨_, rfl⟩
      rw [← hWa] at ba kpa hia hla hda hka hfa fra hlta ⊢
      refine ⟨_, run_beginRound hla rfl, ?_⟩
      have hl2 : (Wa.putObj (w.heap.size + 1) (.loop (rec' .busy none))).heap[w.heap.size + 1]? = some (.loop (rec' .busy none)) := World.putObj_heap_same (by omega)
      have hi2 : I pre (Wa.putObj (w.heap.size + 1) (.loop (rec' .busy none))) := hI.putObj _ hia (by omega) hla rfl
      have hw2 : KpO own n₀ W (Wa.putObj (w.heap.size + 1) (.loop (rec' .busy none))) := kpa.trans ((hst pre Wa hia).kp (by omega) (grownBy_putObj' Wa _ _) (fun r e => by cases e; exact ⟨by omega, _, hla, rfl⟩))
      refine wpIn_mono (hbody _ pre x W0 W _ hi0 hi2 (hfp _ _ _ _ _ _ hfa hla rfl) ⟨_, _, _, by rw [← hWa]; exact hla, rfl, by rw [← hWa]⟩ hlen) ?_
      rintro e a3 W3 hp
      cases e with
      | normal =>
        obtain ⟨hk3, hkp3, hi3⟩ := hp
        have hl3 := hk3.same _ _ hl2 rfl
        have hd2 : (Wa.putObj (w.heap.size + 1) (.loop (rec' .busy none))).heap[w.heap.size]? = some (.deferred (some [])) := (World.putObj_heap_other (by omega)).trans hda
        have hd3 := hk3.same _ _ hd2 rfl
        have hi4 : I (pre ++ [x]) (W3.putObj (w.heap.size + 1) (.loop (rec' .ready none))) := hI.putObj _ hi3 (by omega) hl3 rfl
        have hlt3 := (Array.getElem?_eq_some_iff.1 hl3).1
        refine ⟨_, _, run_endRound (P := P) none hl3, rfl, ⟨hi4, World.putObj_heap_same hlt3, (World.putObj_heap_other (by omega)).trans hd3, ?_⟩, (hw2.trans hkp3).trans ((hst _ _ hi3).kp (by omega) (grownBy_putObj' W3 _ _) (fun r e => by cases e; exact ⟨by omega, _, hl3, rfl⟩)), ?_⟩
        · exact keeps_put ((keeps_put hka (by omega) _).trans hk3) (by omega) _
        · exact from_trans (from_trans (from_trans fra (from_put (by omega) _)) (hk3.from _)) (from_put (by omega) _)
      | ret => exact hp.elim
      | exit id => exact hp.elim
      | goto t => exact hp.elim
      | panic ch => exact hp.elim
      | outgrown => exact hp.elim
    · rintro e W2 ⟨⟨v, rfl⟩, xs, hS, hi, hl, hd, hkf⟩
      have hlt2 := (Array.getElem?_eq_some_iff.1 hl).1
      exact ⟨none, _, run_endLoop (P := P) hl (by simp [rec']), hdone _ xs _ (Nat.le_refl _) (by simp; omega) hS (hI.putObj _ hi (by omega) hl rfl) ((World.putObj_heap_other (by omega)).trans hd) (keeps_put hkf (by omega) _)⟩

end Go.Proofs.YtidojjecjjochadGreatDoor

/-
  A law for a range over a function that may be left, whose iterator writes blocks of its own beside what it makes: rounds are counted, what comes in a round hangs on its number alone. No program is named here.
-/
namespace Go.Proofs.YtidojjecjjochadGreatDoor
open Go.RowKit

/-- Nothing turned but blocks of T, records of loops from block B on, and what is new. -/
structure ButR (T : Nat → Prop) (B : Nat) (A C : World) : Prop where
  os : C.os = A.os
  tape : C.tape = A.tape
  output : C.output = A.output
  size : A.heap.size ≤ C.heap.size
  block : ∀ b, b < A.heap.size → ¬ T b → ¬ (B ≤ b ∧ ∃ o : Obj, A.heap[b]? = some o ∧ o.isCells = false) → C.heap[b]? = A.heap[b]?
theorem ButR.of_but {T : Nat → Prop} {B : Nat} {A C : World} (h : But T A C) : ButR T B A C := ⟨h.os, h.tape, h.output, h.size, fun b hb hn _ => h.block b hb hn⟩
theorem ButR.of_below {T : Nat → Prop} {B : Nat} {A C : World} (h : Below A.heap.size A C) : ButR T B A C := ⟨h.os, h.tape, h.output, h.size, fun b hb _ _ => h.block b hb⟩
theorem ButR.put {T : Nat → Prop} {B : Nat} {A : World} {l : Nat} {o : Obj} (hl : A.heap[l]? = some o) (ho : o.isCells = false) (hB : B ≤ l) (o' : Obj) : ButR T B A (A.putObj l o') :=
  have g := grownBy_putObj' A l o'
  ⟨g.os, g.tape, g.output, g.size, fun b hb _ hr => g.block b hb (fun e => hr (by cases e; exact ⟨hB, o, hl, ho⟩))⟩

/-- An iterator's contract: so many rounds, each with what its number tells; the caller may leave. -/
def SeqIt (F : Fence) (n : Nat) (P : Program) (g : Nat) (lb : Array Value) (encs : Nat → Array Value) (own : World → Nat → Prop) (n₀ : Nat) (T low : Nat → Prop) (Sx : Nat → Prop) (Fi : Prop) (N : Nat) (w : World) : Prop :=
  ∀ (l : Nat) (J Jx : Nat → World → Prop) (W : World), Below w.heap.size w W →
    (∀ k A C, J k A → But T A C → J k C) → (∀ k A C, Jx k A → But T A C → Jx k C) →
    (∀ k A, J k A → (∀ q, own A q → q < A.heap.size) ∧ ∀ C, But T A C → ∀ q, own C q → own A q) → (∀ q, low q → ¬ own W q) → (∀ k A, J k A → k < N) →
    (∀ k W1, J k W1 → Fi → YieldAt F (n - 1) P l (encs k) W1 fun e W' => (e = .returned (.bool true) ∧ J (k + 1) W' ∧ KpO own n₀ W1 W') ∨ (e = .returned (.bool false) ∧ Jx k W')) →
    J 0 W →
    CallsIn F n P g (#[.func (.yield l) #[] #[]] ++ lb) W fun e W' => (∃ v, e = .returned v) ∧ ((∃ k, Sx k ∧ J k W') ∨ ∃ k, Jx k W')

/-- How a round goes on, or is left. -/
def postL (own : World → Nat → Prop) (n₀ : Nat) (I : Nat → World → Prop) (Ix : Code → Nat → World → Prop) (k : Nat) (W : World) : Exit → Act → World → Prop
  | .normal, _, W' => KeepsOthers W W' ∧ KpO own n₀ W W' ∧ I (k + 1) W'
  | .exit id, _, W' => KeepsOthers W W' ∧ Ix (.exit id) k W'
  | _, _, _ => False

variable {F : Fence} {n : Nat} {P : Program}

theorem wpIn_range_it {g : Operand} {ps : Array Tmp} {assign body : Code} {Q : Exit → Act → World → Prop} {a : Act} {w : World}
    (hro : F.round = none) (h1 : 1 ≤ n) {gf : Nat} {lb : Array Value} (hg : a.eval g = .func (.func gf) #[] lb) (hFg : F.fn gf) (eg : ∀ args w, (callFunc gf args).run P w = .ok (.enter gf args) w)
    {encs : Nat → Array Value} {own : World → Nat → Prop} {n₀ : Nat} {T low : Nat → Prop} {Sx : Nat → Prop} {Fi : Prop} {N : Nat} {w0 : World} (hseq : SeqIt F (n - 1) P gf lb encs own n₀ T low Sx Fi N w0)
    (hb0 : Below w0.heap.size w0 w) (hps : ∀ k, (encs k).size = ps.size) (hno : ∀ q, low q → ¬ own w q) (hlo : n₀ ≤ w.heap.size) (hT : ∀ q, T q → q < w.heap.size)
    (I : Nat → World → Prop) (Ix : Code → Nat → World → Prop) (hI : ∀ k A C, I k A → ButR T w.heap.size A C → I k C) (hIx : ∀ c k A C, Ix c k A → ButR T w.heap.size A C → Ix c k C)
    (hst : ∀ k A, I k A → (∀ q, own A q → q < A.heap.size) ∧ ∀ C, ButR T w.heap.size A C → ∀ q, own C q → own A q) (h0 : I 0 w) (hN : ∀ k A, I k A → k < N)
    (hround : ∀ (l k : Nat) (W : World), I k W → Fi → ∃ (a₁ : Act) (Wa : World), Below W.heap.size W Wa ∧
      (∀ K : Act → World → Prop, K a₁ Wa → assign.wpIn (F.inRound l) (n - 1 - 1) P (Exit.then K (fun _ _ _ => False)) { tmps := (ps.zip (encs k)).foldl (fun t (p, v) => t.setIfInBounds p v) a.tmps, defers := [] } W) ∧
      ∀ V : World, I k V → (∃ (q : Nat) (o o' : Obj), Wa.heap[q]? = some o ∧ o.isCells = false ∧ V = Wa.putObj q o') → body.wpIn (F.inRound l) (n - 1 - 1) P (postL own n₀ I Ix k V) a₁ V)
    (hdone : ∀ (D k : Nat) (W : World), w.heap.size ≤ D → D < W.heap.size → Sx k → I k W → W.heap[D]? = some (.deferred (some [])) → Q .normal { a with defers := { target := .collected D, args := #[] } :: a.defers } W)
    (hstop : ∀ (D : Nat) (c : Code) (k : Nat) (W : World), w.heap.size ≤ D → D < W.heap.size → Ix c k W → W.heap[D]? = some (.deferred (some [])) → c.wpIn F n P Q { a with defers := { target := .collected D, args := #[] } :: a.defers } W) :
    (Code.rangeFunc g ps assign body).wpIn F n P Q a w := by
  refine wpIn_rangeFunc fun fn hfn => ?_
  rw [hro]
  let rec' : LoopState → Option Code → Loop := fun st pe => { state := st, pending := pe, fn, tmps := a.tmps, params := ps, assign, body, defers := w.heap.size }
  obtain ⟨W1, hW1⟩ : ∃ W1, (w.alloc (.deferred (some []))).alloc (.loop (rec' .ready none)) = W1 := ⟨_, rfl⟩
  have hL1 : W1.heap[w.heap.size + 1]? = some (.loop (rec' .ready none)) := by
    rw [← hW1]; have := World.alloc_heap_new (w.alloc (.deferred (some []))) (.loop (rec' .ready none)); rwa [World.size_alloc] at this
  have hD1 : W1.heap[w.heap.size]? = some (.deferred (some [])) := by
    rw [← hW1]; exact (Below.heap_alloc _ _ _ (by simp)).trans (World.alloc_heap_new w _)
  have hw1 : Below w.heap.size w W1 := by
    rw [← hW1]; exact ((Below.refl _ w).alloc (Nat.le_refl _) _).alloc (by simp) _
  have hI1 : I 0 W1 := hI 0 w W1 h0 (.of_below hw1)
  have hb1 : Below w0.heap.size w0 W1 := hb0.trans (hw1.mono hb0.size)
  have hno1 : ∀ q, low q → ¬ own W1 q := fun q hq ho => hno q hq ((hst 0 w h0).2 W1 (.of_below hw1) q ho)
  refine ⟨w.heap.size + 1, [{ target := .collected w.heap.size, args := #[] }], W1, { target := .fn (.func gf) lb, args := #[.func (.yield (w.heap.size + 1)) #[] #[]] }, W1, gf,
    #[.func (.yield (w.heap.size + 1)) #[] #[]] ++ lb, W1, ?_, ?_, ?_, ?_, fun _ => h1, ?_⟩
  · rw [← hW1]; exact run_enterLoop_outer _ _ _ _ _
  · simp only [resolve, hg]
    simp [go_sem]
  · intro f' hf'; simp [Target.leads] at hf'; subst hf'; exact hFg
  · simp [invoke, go_sem, eg]
  · let Bk : LoopState → Option Code → World → Prop := fun st pe W => W.heap[w.heap.size + 1]? = some (.loop (rec' st pe)) ∧ W.heap[w.heap.size]? = some (.deferred (some []))
    have bkT : ∀ (st : LoopState) (pe : Option Code) (A C : World), Bk st pe A → But T A C → Bk st pe C := fun st pe A C h hb =>
      ⟨(hb.block _ (Array.getElem?_eq_some_iff.1 h.1).1 (fun ht => by have := hT _ ht; omega)).trans h.1, (hb.block _ (Array.getElem?_eq_some_iff.1 h.2).1 (fun ht => by have := hT _ ht; omega)).trans h.2⟩
    refine (hseq (w.heap.size + 1) (fun k W => I k W ∧ Bk .ready none W) (fun k W => ∃ c, Ix c k W ∧ Bk .done (some c) W) W1 hb1
      (fun k A C h hb => ⟨hI k A C h.1 (.of_but hb), bkT _ _ A C h.2 hb⟩)
      (fun k A C h hb => by obtain ⟨c, hc, hbk⟩ := h; exact ⟨c, hIx c k A C hc (.of_but hb), bkT _ _ A C hbk hb⟩)
      (fun k A h => ⟨(hst k A h.1).1, fun C hb q hq => (hst k A h.1).2 C (.of_but hb) q hq⟩) hno1 (fun k A h => hN k A h.1) ?_ ⟨hI1, hL1, hD1⟩).mono ?_
    · rintro k W ⟨hi, hl, hd⟩ hfi
      have hlt : w.heap.size + 1 < W.heap.size := (Array.getElem?_eq_some_iff.1 hl).1
      obtain ⟨a₁, Wa, ba, hassign, hbody⟩ := hround (w.heap.size + 1) k W hi hfi
      refine ⟨fn, _, assign, body, run_yield (P := P) (args := encs k) hl (hps k), roundIn_of_wpIn hfn (hassign _ ?_)⟩
      have hs := hst k W hi
      have kpa : KpO own n₀ W Wa := ⟨ba.size, fun q hq => .inl (hs.2 Wa (.of_below ba) q hq), fun q hq => ba.block q (by omega), fun q c t z hc _ => (ba.block q (Array.getElem?_eq_some_iff.1 hc).1).trans hc⟩
      have hia : I k Wa := hI k W Wa hi (.of_below ba)
      have hla := (ba.block _ hlt).trans hl
      have hda := (ba.block _ (by omega)).trans hd
      have sa := ba.size
      have kpp : ∀ (i : Nat) (A : World) (st : LoopState) (pe : Option Code) (o' : Obj), I i A → A.heap[w.heap.size + 1]? = some (.loop (rec' st pe)) → KpO own n₀ A (A.putObj (w.heap.size + 1) o') := fun i A st pe o' hA hlA =>
        ⟨by simp, fun q hq => .inl ((hst i A hA).2 _ (.put hlA rfl (by omega) o') q hq), fun q hq => World.putObj_heap_other (by omega), fun q c t z hc _ => (World.putObj_heap_other (fun e => by first | (subst e; rw [hlA] at hc; cases hc) | (rw [e] at hlA; rw [hlA] at hc; cases hc) | (rw [← e] at hc; rw [hlA] at hc; cases hc))).trans hc⟩
      refine ⟨_, run_beginRound hla rfl, ?_⟩
      have hl2 : (Wa.putObj (w.heap.size + 1) (.loop (rec' .busy none))).heap[w.heap.size + 1]? = some (.loop (rec' .busy none)) := World.putObj_heap_same (by omega)
      have hd2 : (Wa.putObj (w.heap.size + 1) (.loop (rec' .busy none))).heap[w.heap.size]? = some (.deferred (some [])) := (World.putObj_heap_other (by omega)).trans hda
      have hi2 : I k (Wa.putObj (w.heap.size + 1) (.loop (rec' .busy none))) := hI k Wa _ hia (.put hla rfl (by omega) _)
      refine wpIn_mono (hbody _ hi2 ⟨_, _, _, hla, rfl, rfl⟩) ?_
      rintro e a3 W3 hp
      cases e with
      | normal =>
        obtain ⟨hk3, hkp3, hi3⟩ := hp
        have hl3 := hk3.same _ _ hl2 rfl
        have hd3 := hk3.same _ _ hd2 rfl
        have hlt3 := (Array.getElem?_eq_some_iff.1 hl3).1
        refine ⟨_, _, run_endRound (P := P) none hl3, .inl ⟨rfl, ⟨hI (k + 1) W3 _ hi3 (.put hl3 rfl (by omega) _), World.putObj_heap_same hlt3, (World.putObj_heap_other (by omega)).trans hd3⟩, ?_⟩⟩
        exact kpa.trans ((kpp k Wa _ _ _ hia hla).trans (hkp3.trans (kpp (k + 1) W3 _ _ _ hi3 hl3)))
      | exit id =>
        obtain ⟨hk3, hi3⟩ := hp
        have hl3 := hk3.same _ _ hl2 rfl
        have hd3 := hk3.same _ _ hd2 rfl
        have hlt3 := (Array.getElem?_eq_some_iff.1 hl3).1
        exact ⟨_, _, run_endRound (P := P) (some (.exit id)) hl3, .inr ⟨rfl, .exit id, hIx _ k W3 _ hi3 (.put hl3 rfl (by omega) _), World.putObj_heap_same hlt3, (World.putObj_heap_other (by omega)).trans hd3⟩⟩
      | ret => exact hp.elim
      | goto t => exact hp.elim
      | panic ch => exact hp.elim
      | outgrown => exact hp.elim
    · rintro e W2 ⟨⟨v, rfl⟩, ⟨k, hS, hi, hl, hd⟩ | ⟨k, c, hi, hl, hd⟩⟩
      · have hlt2 := (Array.getElem?_eq_some_iff.1 hl).1
        exact ⟨none, _, run_endLoop (P := P) hl (by simp [rec']), hdone _ k _ (Nat.le_refl _) (by simp; omega) hS (hI k W2 _ hi (.put hl rfl (by omega) _)) ((World.putObj_heap_other (by omega)).trans hd)⟩
      · have hlt2 := (Array.getElem?_eq_some_iff.1 hl).1
        exact ⟨some c, _, run_endLoop (P := P) hl (by simp [rec']), hstop _ c k _ (Nat.le_refl _) (by simp; omega) (hIx c k W2 _ hi (.put hl rfl (by omega) _)) ((World.putObj_heap_other (by omega)).trans hd)⟩

end Go.Proofs.YtidojjecjjochadGreatDoor
