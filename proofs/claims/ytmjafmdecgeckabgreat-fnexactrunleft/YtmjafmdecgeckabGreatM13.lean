/-
  Several texts in one.
-/
import Derived.RangeFuncNested
import Derived.RangeFuncBound
import Derived.RangeFuncLeaves
import Derived.RangeFuncBox
/-
  A law for a range over a function whose iterator ranges over another one and hands on what that gives: the iterator's contract speaks of what a caller owns, whatever records of loops come and go beside it. No program is named here.
-/
namespace Go.Proofs.YtmjafmdecgeckabGreat
open Go.RowKit

/-- What a round leaves: all below n₀, and blocks of cells that the caller doesn't own, lie as they lay; what it owns then it owned, or it is new. -/
structure KpO (own : World → Nat → Prop) (n₀ : Nat) (W W' : World) : Prop where
  size : W.heap.size ≤ W'.heap.size
  old : ∀ k, own W' k → own W k ∨ W.heap.size ≤ k
  low : ∀ k, k < n₀ → W'.heap[k]? = W.heap[k]?
  blk : ∀ (k : Nat) (c : Array Value) (t : TypeId) (z : Nat × Nat), W.heap[k]? = some (.cells c t z) → ¬ own W k → W'.heap[k]? = some (.cells c t z)
theorem KpO.refl (own : World → Nat → Prop) (n₀ : Nat) (W : World) : KpO own n₀ W W := ⟨Nat.le_refl _, fun _ h => .inl h, fun _ _ => rfl, fun _ _ _ _ h _ => h⟩
theorem KpO.trans {own : World → Nat → Prop} {n₀ : Nat} {A B C : World} (h : KpO own n₀ A B) (k : KpO own n₀ B C) : KpO own n₀ A C := by
  refine ⟨Nat.le_trans h.size k.size, fun i hi => ?_, fun i hi => (k.low i hi).trans (h.low i hi), fun i c t z hc ho => k.blk i c t z (h.blk i c t z hc ho) (fun hB => ?_)⟩
  · rcases k.old i hi with h1 | h1
    · exact h.old i h1
    · exact .inr (Nat.le_trans h.size h1)
  · rcases h.old i hB with h1 | h1
    · exact ho h1
    · exact absurd (Array.getElem?_eq_some_iff.1 hc).1 (by omega)

/-- What a caller owns is there, and records of loops and new blocks add nothing to it. -/
def OwnSt (own : World → Nat → Prop) (W : World) : Prop :=
  (∀ k, own W k → k < W.heap.size) ∧ ∀ W' row, W.grownBy W' row → (∀ r, row = some r → ∃ o : Obj, W.heap[r]? = some o ∧ o.isCells = false) → ∀ k, own W' k → own W k
theorem OwnSt.kp {own : World → Nat → Prop} {n₀ : Nat} {W W' : World} {row : Option Nat} (h : OwnSt own W) (hn : n₀ ≤ W.heap.size) (hg : W.grownBy W' row) (hr : ∀ r, row = some r → n₀ ≤ r ∧ ∃ o : Obj, W.heap[r]? = some o ∧ o.isCells = false) : KpO own n₀ W W' := by
  refine ⟨hg.size, fun k hk => .inl (h.2 W' row hg (fun r e => (hr r e).2) k hk), fun k hk => hg.block k (by omega) (fun e => by have := (hr k e.symm).1; omega), fun k c t z hc _ => (hg.block k (Array.getElem?_eq_some_iff.1 hc).1 (fun e => ?_)).trans hc⟩
  obtain ⟨o, ho, hn⟩ := (hr k e.symm).2
  rw [hc] at ho
  cases ho; cases hn

/-- An iterator's contract, for callers that own what they speak of and hear all that comes. -/
def SeqOwn {α : Type} (F : Fence) (n : Nat) (P : Program) (g : Nat) (lb : Array Value) (encs : α → Array Value) (own : World → Nat → Prop) (n₀ : Nat) (S : List α → Prop) (N : Nat) (w : World) : Prop :=
  ∀ (l : Nat) (J : List α → World → Prop) (W : World), Below w.heap.size w W → OwnFrom W.heap.size J → (∀ pre W1, J pre W1 → OwnSt own W1) → (∀ k, k < n₀ → ¬ own W k) →
    (∀ pre x W1, J pre W1 → pre.length < N → YieldAt F (n - 1) P l (encs x) W1 fun e W' => e = .returned (.bool true) ∧ J (pre ++ [x]) W' ∧ KpO own n₀ W1 W' ∧ KeepsFrom W.heap.size W1 W') →
    J [] W →
    CallsIn F n P g (#[.func (.yield l) #[] #[]] ++ lb) W fun e W' => (∃ v, e = .returned v) ∧ ∃ xs, S xs ∧ J xs W'

theorem keeps_put {w W : World} {l : Nat} (h : KeepsOthers w W) (hl : w.heap.size ≤ l) (o' : Obj) : KeepsOthers w (W.putObj l o') :=
  ⟨by have := h.size; simpa using this, fun k o hk ho => (World.putObj_heap_other (by have := (Array.getElem?_eq_some_iff.1 hk).1; omega)).trans (h.same k o hk ho)⟩
theorem from_put {W : World} {l B : Nat} (hl : l < B) (o' : Obj) : KeepsFrom B W (W.putObj l o') :=
  ⟨by simp, fun k o hk h0 _ => (World.putObj_heap_other (by omega)).trans h0⟩
theorem from_trans {A B C : World} {b : Nat} (h : KeepsFrom b A B) (k : KeepsFrom b B C) : KeepsFrom b A C :=
  ⟨Nat.le_trans h.size k.size, fun i o hi h0 ho => k.same i o hi (h.same i o hi h0 ho) ho⟩

/-- How a round of such a loop goes on: no way out of it is taken. -/
def postO {α : Type} (own : World → Nat → Prop) (n₀ : Nat) (I : List α → World → Prop) (xs : List α) (W : World) : Exit → Act → World → Prop
  | .normal, _, W' => KeepsOthers W W' ∧ KpO own n₀ W W' ∧ I xs W'
  | _, _, _ => False

variable {F : Fence} {n : Nat} {P : Program}

theorem wpIn_range_own {α : Type} {g : Operand} {ps : Array Tmp} {assign body : Code} {Q : Exit → Act → World → Prop} {a : Act} {w : World}
    (hro : F.round = none) (h1 : 1 ≤ n) {gf : Nat} {lb : Array Value} (hg : a.eval g = .func (.func gf) #[] lb) (hFg : F.fn gf) (eg : ∀ args w, (callFunc gf args).run P w = .ok (.enter gf args) w)
    {encs : α → Array Value} {own : World → Nat → Prop} {n₀ : Nat} {S : List α → Prop} {N : Nat} {w0 : World} (hseq : SeqOwn F (n - 1) P gf lb encs own n₀ S N w0)
    (hb0 : Below w0.heap.size w0 w) (hps : ∀ x, (encs x).size = ps.size) (hn₀ : ∀ k, k < n₀ → ¬ own w k) (hlo : n₀ ≤ w.heap.size)
    (I : List α → World → Prop) (hI : OwnFrom w.heap.size I) (hst : ∀ pre W, I pre W → OwnSt own W) (h0 : I [] w) (a₁ : α → Act)
    (hassign : ∀ (l : Nat) (x : α) (W : World) (K : Act → World → Prop), K (a₁ x) W →
      assign.wpIn (F.inRound l) (n - 1 - 1) P (Exit.then K (fun _ _ _ => False)) { tmps := (ps.zip (encs x)).foldl (fun t (p, v) => t.setIfInBounds p v) a.tmps, defers := [] } W)
    (hbody : ∀ (l : Nat) (pre : List α) (x : α) (W : World), I pre W → pre.length < N → body.wpIn (F.inRound l) (n - 1 - 1) P (postO own n₀ I (pre ++ [x]) W) (a₁ x) W)
    (hdone : ∀ (D : Nat) (xs : List α) (W : World), w.heap.size ≤ D → D < W.heap.size → S xs → I xs W → W.heap[D]? = some (.deferred (some [])) → KeepsOthers w W → Q .normal { a with defers := { target := .collected D, args := #[] } :: a.defers } W) :
    (Code.rangeFunc g ps assign body).wpIn F n P Q a w := by
  refine wpIn_rangeFunc fun fn hfn => ?_
  rw [hro]
  let rec' : LoopState → Option Code → Loop := fun st pe => { state := st, pending := pe, fn, tmps := a.tmps, params := ps, assign, body, defers := w.heap.size }
  obtain ⟨W1, hW1⟩ : ∃ W1, (w.alloc (.deferred (some []))).alloc (.loop (rec' .ready none)) = W1 := ⟨_, rfl⟩
  have sW1 : W1.heap.size = w.heap.size + 1 + 1 := by rw [← hW1]; simp
  have hL1 : W1.heap[w.heap.size + 1]? = some (.loop (rec' .ready none)) := by
    rw [← hW1]; have := World.alloc_heap_new (w.alloc (.deferred (some []))) (.loop (rec' .ready none)); rwa [World.size_alloc] at this
  have hD1 : W1.heap[w.heap.size]? = some (.deferred (some [])) := by
    rw [← hW1]; exact (Below.heap_alloc _ _ _ (by simp)).trans (World.alloc_heap_new w _)
  have hI1 : I [] W1 := by rw [← hW1]; exact hI.alloc _ (hI.alloc _ h0)
  have hk1 : KeepsOthers w W1 := by rw [← hW1]; exact (KeepsOthers.alloc _ _).trans (KeepsOthers.alloc _ _)
  have hb1 : Below w0.heap.size w0 W1 := by
    rw [← hW1]; exact hb0.trans ((((Below.refl _ w).alloc (Nat.le_refl _) _).alloc (by simp) _).mono hb0.size)
  have hno : ∀ k, k < n₀ → ¬ own W1 k := fun k hk ho => by
    have g1 := (hst [] w h0).2 _ none (World.grownBy_alloc w (.deferred (some [])) none) (fun r e => by cases e)
    have hs2 := hst [] _ (hI.alloc (.deferred (some [])) h0)
    rw [← hW1] at ho
    exact hn₀ k hk (g1 k (hs2.2 _ none (World.grownBy_alloc _ _ none) (fun r e => by cases e) k ho))
  refine ⟨w.heap.size + 1, [{ target := .collected w.heap.size, args := #[] }], W1, { target := .fn (.func gf) lb, args := #[.func (.yield (w.heap.size + 1)) #[] #[]] }, W1, gf,
    #[.func (.yield (w.heap.size + 1)) #[] #[]] ++ lb, W1, ?_, ?_, ?_, ?_, fun _ => h1, ?_⟩
  · rw [← hW1]; exact run_enterLoop_outer _ _ _ _ _
  · simp only [resolve, hg]
    simp [go_sem]
  · intro f' hf'; simp [Target.leads] at hf'; subst hf'; exact hFg
  · simp [invoke, go_sem, eg]
  · -- the three facts that stand beside the caller's own
    let Bk : LoopState → World → Prop := fun st W => W.heap[w.heap.size + 1]? = some (.loop (rec' st none)) ∧ W.heap[w.heap.size]? = some (.deferred (some [])) ∧ KeepsOthers w W
    have bk_own : ∀ (st : LoopState) (A B : World) (row : Option Nat), Bk st A → A.grownBy B row → (∀ r, row = some r → W1.heap.size ≤ r ∧ ∃ o : Obj, A.heap[r]? = some o ∧ o.isCells = false) → Bk st B := fun st A B row hs hg' hr => by
      have no : ∀ k, k < W1.heap.size → some k ≠ row := fun k hk e => by have := (hr k e.symm).1; omega
      refine ⟨(hg'.block _ (Array.getElem?_eq_some_iff.1 hs.1).1 (no _ (by omega))).trans hs.1, (hg'.block _ (Array.getElem?_eq_some_iff.1 hs.2.1).1 (no _ (by omega))).trans hs.2.1, Nat.le_trans hs.2.2.size hg'.size, fun k o hk ho => ?_⟩
      have hA := hs.2.2.same k o hk ho
      exact (hg'.block k (Array.getElem?_eq_some_iff.1 hA).1 (no k (by have := (Array.getElem?_eq_some_iff.1 hk).1; omega))).trans hA
    refine (hseq (w.heap.size + 1) (fun pre W => I pre W ∧ Bk .ready W) W1 hb1
      (fun s A B row hs hg' hr => ⟨hI s A B row hs.1 hg' (fun r e => ⟨by have := (hr r e).1; omega, (hr r e).2⟩), bk_own _ A B row hs.2 hg' hr⟩)
      (fun pre W h => hst pre W h.1) hno ?_ ⟨hI1, hL1, hD1, hk1⟩).mono ?_
    · rintro pre x W ⟨hi, hl, hd, hkf⟩ hlen
      have hlt : w.heap.size + 1 < W.heap.size := (Array.getElem?_eq_some_iff.1 hl).1
      refine ⟨fn, _, assign, body, run_yield (P := P) (args := encs x) hl (hps x), roundIn_of_wpIn hfn (hassign _ x W _ ?_)⟩
      refine ⟨_, run_beginRound hl rfl, ?_⟩
      have hl2 : (W.putObj (w.heap.size + 1) (.loop (rec' .busy none))).heap[w.heap.size + 1]? = some (.loop (rec' .busy none)) := World.putObj_heap_same hlt
      have hi2 : I pre (W.putObj (w.heap.size + 1) (.loop (rec' .busy none))) := hI.putObj _ hi (by omega) hl rfl
      have hw2 : KpO own n₀ W (W.putObj (w.heap.size + 1) (.loop (rec' .busy none))) := (hst pre W hi).kp (by omega) (grownBy_putObj' W _ _) (fun r e => by cases e; exact ⟨by omega, _, hl, rfl⟩)
      refine wpIn_mono (hbody _ pre x _ hi2 hlen) ?_
      rintro e a3 W3 hp
      cases e with
      | normal =>
        obtain ⟨hk3, hkp3, hi3⟩ := hp
        have hl3 := hk3.same _ _ hl2 rfl
        have hd2 : (W.putObj (w.heap.size + 1) (.loop (rec' .busy none))).heap[w.heap.size]? = some (.deferred (some [])) := (World.putObj_heap_other (by omega)).trans hd
        have hd3 := hk3.same _ _ hd2 rfl
        have hi4 : I (pre ++ [x]) (W3.putObj (w.heap.size + 1) (.loop (rec' .ready none))) := hI.putObj _ hi3 (by omega) hl3 rfl
        have hlt3 := (Array.getElem?_eq_some_iff.1 hl3).1
        refine ⟨_, _, run_endRound (P := P) none hl3, rfl, ⟨hi4, World.putObj_heap_same hlt3, (World.putObj_heap_other (by omega)).trans hd3, ?_⟩, (hw2.trans hkp3).trans ((hst _ _ hi3).kp (by omega) (grownBy_putObj' W3 _ _) (fun r e => by cases e; exact ⟨by omega, _, hl3, rfl⟩)), ?_⟩
        · exact keeps_put ((keeps_put hkf (by omega) _).trans hk3) (by omega) _
        · exact from_trans (from_trans (from_put (by omega) _) (hk3.from _)) (from_put (by omega) _)
      | ret => exact hp.elim
      | exit id => exact hp.elim
      | goto t => exact hp.elim
      | panic ch => exact hp.elim
      | outgrown => exact hp.elim
    · rintro e W2 ⟨⟨v, rfl⟩, xs, hS, hi, hl, hd, hkf⟩
      have hlt2 := (Array.getElem?_eq_some_iff.1 hl).1
      exact ⟨none, _, run_endLoop (P := P) hl (by simp [rec']), hdone _ xs _ (Nat.le_refl _) (by simp; omega) hS (hI.putObj _ hi (by omega) hl rfl) ((World.putObj_heap_other (by omega)).trans hd) (keeps_put hkf (by omega) _)⟩

end Go.Proofs.YtmjafmdecgeckabGreat

/-
  A law for a range over a function whose iterator ranges over another one and hands on lists that it makes: as the law for those that hand on what they get, with a word on what is handed on. No program is named here.
-/
namespace Go.Proofs.YtmjafmdecgeckabGreat
open Go.RowKit

/-- An iterator's contract, for callers that own what they speak of and hear all that comes; of what is handed on a caller learns how it lies, in blocks that were not there when it last spoke. -/
def SeqFit {α : Type} (F : Fence) (n : Nat) (P : Program) (g : Nat) (lb : Array Value) (encs : α → Array Value) (own : World → Nat → Prop) (n₀ : Nat) (low : Nat → Prop) (fits : Nat → α → World → Prop) (S : List α → Prop) (N : Nat) (w : World) : Prop :=
  ∀ (l : Nat) (J : List α → World → Prop) (W : World), Below w.heap.size w W → OwnFrom W.heap.size J → (∀ pre W1, J pre W1 → OwnSt own W1) → (∀ k, low k → ¬ own W k) →
    (∀ pre x W0 W1, J pre W0 → J pre W1 → fits W0.heap.size x W1 → pre.length < N → YieldAt F (n - 1) P l (encs x) W1 fun e W' => e = .returned (.bool true) ∧ J (pre ++ [x]) W' ∧ KpO own n₀ W1 W' ∧ KeepsFrom W.heap.size W1 W') →
    J [] W →
    CallsIn F n P g (#[.func (.yield l) #[] #[]] ++ lb) W fun e W' => (∃ v, e = .returned v) ∧ ∃ xs, S xs ∧ J xs W'

theorem below_grown0 {A C : World} (h : Below A.heap.size A C) : A.grownBy C none := ⟨h.os, h.tape, h.output, h.size, fun k hk _ => h.block k hk⟩
theorem keeps_below {A C : World} (h : Below A.heap.size A C) : KeepsOthers A C := ⟨h.size, fun k _ hk _ => (h.block k (Array.getElem?_eq_some_iff.1 hk).1).trans hk⟩

variable {F : Fence} {n : Nat} {P : Program}

theorem wpIn_range_fit {α : Type} {g : Operand} {ps : Array Tmp} {assign body : Code} {Q : Exit → Act → World → Prop} {a : Act} {w : World}
    (hro : F.round = none) (h1 : 1 ≤ n) {gf : Nat} {lb : Array Value} (hg : a.eval g = .func (.func gf) #[] lb) (hFg : F.fn gf) (eg : ∀ args w, (callFunc gf args).run P w = .ok (.enter gf args) w)
    {encs : α → Array Value} {own : World → Nat → Prop} {n₀ : Nat} {low : Nat → Prop} {fits : Nat → α → World → Prop} {S : List α → Prop} {N : Nat} {w0 : World} (hseq : SeqFit F (n - 1) P gf lb encs own n₀ low fits S N w0) (hfp : ∀ S x (W : World) (l : Nat) (o o' : Obj), fits S x W → W.heap[l]? = some o → o.isCells = false → fits S x (W.putObj l o'))
    (hb0 : Below w0.heap.size w0 w) (hps : ∀ x, (encs x).size = ps.size) (hn₀ : ∀ k, low k → ¬ own w k) (hlo : n₀ ≤ w.heap.size)
    (I : List α → World → Prop) (hI : OwnFrom w.heap.size I) (hst : ∀ pre W, I pre W → OwnSt own W) (h0 : I [] w) (a₁ : α → World → Act) (wa : α → World → World) (hwa : ∀ x W, Below W.heap.size W (wa x W)) (hfb : ∀ S x W W', fits S x W → Below W.heap.size W W' → fits S x W')
    (hassign : ∀ (l : Nat) (x : α) (W : World) (K : Act → World → Prop), K (a₁ x W) (wa x W) →
      assign.wpIn (F.inRound l) (n - 1 - 1) P (Exit.then K (fun _ _ _ => False)) { tmps := (ps.zip (encs x)).foldl (fun t (p, v) => t.setIfInBounds p v) a.tmps, defers := [] } W)
    (hbody : ∀ (l : Nat) (pre : List α) (x : α) (W0 W V : World), I pre W0 → I pre V → fits W0.heap.size x V → (∃ (k : Nat) (o o' : Obj), (wa x W).heap[k]? = some o ∧ o.isCells = false ∧ V = (wa x W).putObj k o') → pre.length < N → body.wpIn (F.inRound l) (n - 1 - 1) P (postO own n₀ I (pre ++ [x]) V) (a₁ x W) V)
    (hdone : ∀ (D : Nat) (xs : List α) (W : World), w.heap.size ≤ D → D < W.heap.size → S xs → I xs W → W.heap[D]? = some (.deferred (some [])) → KeepsOthers w W → Q .normal { a with defers := { target := .collected D, args := #[] } :: a.defers } W) :
    (Code.rangeFunc g ps assign body).wpIn F n P Q a w := by
  refine wpIn_rangeFunc fun fn hfn => ?_
  rw [hro]
  let rec' : LoopState → Option Code → Loop := fun st pe => { state := st, pending := pe, fn, tmps := a.tmps, params := ps, assign, body, defers := w.heap.size }
  obtain ⟨W1, hW1⟩ : ∃ W1, (w.alloc (.deferred (some []))).alloc (.loop (rec' .ready none)) = W1 := ⟨_, rfl⟩
  have sW1 : W1.heap.size = w.heap.size + 1 + 1 := by rw [← hW1]; simp
  have hL1 : W1.heap[w.heap.size + 1]? = some (.loop (rec' .ready none)) := by
    rw [← hW1]; have := World.alloc_heap_new (w.alloc (.deferred (some []))) (.loop (rec' .ready none)); rwa [World.size_alloc] at this
  have hD1 : W1.heap[w.heap.size]? = some (.deferred (some [])) := by
    rw [← hW1]; exact (Below.heap_alloc _ _ _ (by simp)).trans (World.alloc_heap_new w _)
  have hI1 : I [] W1 := by rw [← hW1]; exact hI.alloc _ (hI.alloc _ h0)
  have hk1 : KeepsOthers w W1 := by rw [← hW1]; exact (KeepsOthers.alloc _ _).trans (KeepsOthers.alloc _ _)
  have hb1 : Below w0.heap.size w0 W1 := by
    rw [← hW1]; exact hb0.trans ((((Below.refl _ w).alloc (Nat.le_refl _) _).alloc (by simp) _).mono hb0.size)
  have hno : ∀ k, low k → ¬ own W1 k := fun k hk ho => by
    have g1 := (hst [] w h0).2 _ none (World.grownBy_alloc w (.deferred (some [])) none) (fun r e => by cases e)
    have hs2 := hst [] _ (hI.alloc (.deferred (some [])) h0)
    rw [← hW1] at ho
    exact hn₀ k hk (g1 k (hs2.2 _ none (World.grownBy_alloc _ _ none) (fun r e => by cases e) k ho))
  refine ⟨w.heap.size + 1, [{ target := .collected w.heap.size, args := #[] }], W1, { target := .fn (.func gf) lb, args := #[.func (.yield (w.heap.size + 1)) #[] #[]] }, W1, gf,
    #[.func (.yield (w.heap.size + 1)) #[] #[]] ++ lb, W1, ?_, ?_, ?_, ?_, fun _ => h1, ?_⟩
  · rw [← hW1]; exact run_enterLoop_outer _ _ _ _ _
  · simp only [resolve, hg]
    simp [go_sem]
  · intro f' hf'; simp [Target.leads] at hf'; subst hf'; exact hFg
  · simp [invoke, go_sem, eg]
  · -- the three facts that stand beside the caller's own
    let Bk : LoopState → World → Prop := fun st W => W.heap[w.heap.size + 1]? = some (.loop (rec' st none)) ∧ W.heap[w.heap.size]? = some (.deferred (some [])) ∧ KeepsOthers w W
    have bk_own : ∀ (st : LoopState) (A B : World) (row : Option Nat), Bk st A → A.grownBy B row → (∀ r, row = some r → W1.heap.size ≤ r ∧ ∃ o : Obj, A.heap[r]? = some o ∧ o.isCells = false) → Bk st B := fun st A B row hs hg' hr => by
      have no : ∀ k, k < W1.heap.size → some k ≠ row := fun k hk e => by have := (hr k e.symm).1; omega
      refine ⟨(hg'.block _ (Array.getElem?_eq_some_iff.1 hs.1).1 (no _ (by omega))).trans hs.1, (hg'.block _ (Array.getElem?_eq_some_iff.1 hs.2.1).1 (no _ (by omega))).trans hs.2.1, Nat.le_trans hs.2.2.size hg'.size, fun k o hk ho => ?_⟩
      have hA := hs.2.2.same k o hk ho
      exact (hg'.block k (Array.getElem?_eq_some_iff.1 hA).1 (no k (by have := (Array.getElem?_eq_some_iff.1 hk).1; omega))).trans hA
    refine (hseq (w.heap.size + 1) (fun pre W => I pre W ∧ Bk .ready W) W1 hb1
      (fun s A B row hs hg' hr => ⟨hI s A B row hs.1 hg' (fun r e => ⟨by have := (hr r e).1; omega, (hr r e).2⟩), bk_own _ A B row hs.2 hg' hr⟩)
      (fun pre W h => hst pre W h.1) hno ?_ ⟨hI1, hL1, hD1, hk1⟩).mono ?_
    · rintro pre x W0 W ⟨hi0, _⟩ ⟨hi, hl, hd, hkf⟩ hfit hlen
      have hlt : w.heap.size + 1 < W.heap.size := (Array.getElem?_eq_some_iff.1 hl).1
      refine ⟨fn, _, assign, body, run_yield (P := P) (args := encs x) hl (hps x), roundIn_of_wpIn hfn (hassign _ x W _ ?_)⟩
      have ba := hwa x W
      have hkw := hst pre W hi
      have kpa : KpO own n₀ W (wa x W) := hkw.kp (by omega) (below_grown0 ba) (fun r e => by cases e)
      have hia : I pre (wa x W) := hI pre W (wa x W) none hi (below_grown0 ba) (fun r e => by cases e)
      have hla := (ba.block _ hlt).trans hl
      have hda := (ba.block _ (by omega)).trans hd
      have hka := hkf.trans (keeps_below ba)
      have hfa := hfb _ _ _ _ hfit ba
      have fra : KeepsFrom W1.heap.size W (wa x W) := (keeps_below ba).from _
      have hlta := ba.size
      obtain ⟨Wa, hWa⟩ : ∃ Wa, Wa = wa x W := ⟨_, rfl⟩
      rw [← hWa] at ba kpa hia hla hda hka hfa fra hlta ⊢
      refine ⟨_, run_beginRound hla rfl, ?_⟩
      have hl2 : (Wa.putObj (w.heap.size + 1) (.loop (rec' .busy none))).heap[w.heap.size + 1]? = some (.loop (rec' .busy none)) := World.putObj_heap_same (by omega)
      have hi2 : I pre (Wa.putObj (w.heap.size + 1) (.loop (rec' .busy none))) := hI.putObj _ hia (by omega) hla rfl
      have hw2 : KpO own n₀ W (Wa.putObj (w.heap.size + 1) (.loop (rec' .busy none))) := kpa.trans ((hst pre Wa hia).kp (by omega) (grownBy_putObj' Wa _ _) (fun r e => by cases e; exact ⟨by omega, _, hla, rfl⟩))
      refine wpIn_mono (hbody _ pre x W0 W _ hi0 hi2 (hfp _ _ _ _ _ _ hfa hla rfl) ⟨_, _, _, by rw [← hWa]; exact hla, rfl, by rw [← hWa]⟩ hlen) ?_
      rintro e a3 W3 hp
      cases e with
      | normal =>
        obtain ⟨hk3, hkp3, hi3⟩ := hp
        have hl3 := hk3.same _ _ hl2 rfl
        have hd2 : (Wa.putObj (w.heap.size + 1) (.loop (rec' .busy none))).heap[w.heap.size]? = some (.deferred (some [])) := (World.putObj_heap_other (by omega)).trans hda
        have hd3 := hk3.same _ _ hd2 rfl
        have hi4 : I (pre ++ [x]) (W3.putObj (w.heap.size + 1) (.loop (rec' .ready none))) := hI.putObj _ hi3 (by omega) hl3 rfl
        have hlt3 := (Array.getElem?_eq_some_iff.1 hl3).1
        refine ⟨_, _, run_endRound (P := P) none hl3, rfl, ⟨hi4, World.putObj_heap_same hlt3, (World.putObj_heap_other (by omega)).trans hd3, ?_⟩, (hw2.trans hkp3).trans ((hst _ _ hi3).kp (by omega) (grownBy_putObj' W3 _ _) (fun r e => by cases e; exact ⟨by omega, _, hl3, rfl⟩)), ?_⟩
        · exact keeps_put ((keeps_put hka (by omega) _).trans hk3) (by omega) _
        · exact from_trans (from_trans (from_trans fra (from_put (by omega) _)) (hk3.from _)) (from_put (by omega) _)
      | ret => exact hp.elim
      | exit id => exact hp.elim
      | goto t => exact hp.elim
      | panic ch => exact hp.elim
      | outgrown => exact hp.elim
    · rintro e W2 ⟨⟨v, rfl⟩, xs, hS, hi, hl, hd, hkf⟩
      have hlt2 := (Array.getElem?_eq_some_iff.1 hl).1
      exact ⟨none, _, run_endLoop (P := P) hl (by simp [rec']), hdone _ xs _ (Nat.le_refl _) (by simp; omega) hS (hI.putObj _ hi (by omega) hl rfl) ((World.putObj_heap_other (by omega)).trans hd) (keeps_put hkf (by omega) _)⟩

end Go.Proofs.YtmjafmdecgeckabGreat

/-
  The law for a range over a function, where what is handed on is known beside what came ahead of it. No program is named here.
-/
namespace Go.Proofs.YtmjafmdecgeckabGreat
open Go.RowKit

/-- An iterator's contract, for callers that own what they speak of and hear all that comes; of what is handed on a caller learns how it lies, in blocks that were not there when it last spoke. -/
def SeqFitP {α : Type} (F : Fence) (n : Nat) (P : Program) (g : Nat) (lb : Array Value) (encs : α → Array Value) (own : World → Nat → Prop) (n₀ : Nat) (low : Nat → Prop) (fits : Nat → List α → α → World → Prop) (S : List α → Prop) (N : Nat) (w : World) : Prop :=
  ∀ (l : Nat) (J : List α → World → Prop) (W : World), Below w.heap.size w W → OwnFrom W.heap.size J → (∀ pre W1, J pre W1 → OwnSt own W1) → (∀ k, low k → ¬ own W k) →
    (∀ pre x W0 W1, J pre W0 → J pre W1 → fits W0.heap.size pre x W1 → pre.length < N → YieldAt F (n - 1) P l (encs x) W1 fun e W' => e = .returned (.bool true) ∧ J (pre ++ [x]) W' ∧ KpO own n₀ W1 W' ∧ KeepsFrom W.heap.size W1 W') →
    J [] W →
    CallsIn F n P g (#[.func (.yield l) #[] #[]] ++ lb) W fun e W' => (∃ v, e = .returned v) ∧ ∃ xs, S xs ∧ J xs W'

variable {F : Fence} {n : Nat} {P : Program}

theorem wpIn_range_fitp {α : Type} {g : Operand} {ps : Array Tmp} {assign body : Code} {Q : Exit → Act → World → Prop} {a : Act} {w : World}
    (hro : F.round = none) (h1 : 1 ≤ n) {gf : Nat} {lb : Array Value} (hg : a.eval g = .func (.func gf) #[] lb) (hFg : F.fn gf) (eg : ∀ args w, (callFunc gf args).run P w = .ok (.enter gf args) w)
    {encs : α → Array Value} {own : World → Nat → Prop} {n₀ : Nat} {low : Nat → Prop} {fits : Nat → List α → α → World → Prop} {S : List α → Prop} {N : Nat} {w0 : World} (hseq : SeqFitP F (n - 1) P gf lb encs own n₀ low fits S N w0) (hfp : ∀ S pre x (W : World) (l : Nat) (o o' : Obj), fits S pre x W → W.heap[l]? = some o → o.isCells = false → fits S pre x (W.putObj l o'))
    (hb0 : Below w0.heap.size w0 w) (hps : ∀ x, (encs x).size = ps.size) (hn₀ : ∀ k, low k → ¬ own w k) (hlo : n₀ ≤ w.heap.size)
    (I : List α → World → Prop) (hI : OwnFrom w.heap.size I) (hst : ∀ pre W, I pre W → OwnSt own W) (h0 : I [] w) (hfb : ∀ S pre x W W', fits S pre x W → Below W.heap.size W W' → fits S pre x W')
    (hround : ∀ (l : Nat) (pre : List α) (x : α) (W : World), I pre W → pre.length < N → ∃ (a₁ : Act) (Wa : World), Below W.heap.size W Wa ∧
      (∀ K : Act → World → Prop, K a₁ Wa → assign.wpIn (F.inRound l) (n - 1 - 1) P (Exit.then K (fun _ _ _ => False)) { tmps := (ps.zip (encs x)).foldl (fun t (p, v) => t.setIfInBounds p v) a.tmps, defers := [] } W) ∧
      ∀ W0 V : World, I pre W0 → I pre V → fits W0.heap.size pre x V → (∃ (k : Nat) (o o' : Obj), Wa.heap[k]? = some o ∧ o.isCells = false ∧ V = Wa.putObj k o') → body.wpIn (F.inRound l) (n - 1 - 1) P (postO own n₀ I (pre ++ [x]) V) a₁ V)
    (hdone : ∀ (D : Nat) (xs : List α) (W : World), w.heap.size ≤ D → D < W.heap.size → S xs → I xs W → W.heap[D]? = some (.deferred (some [])) → KeepsOthers w W → Q .normal { a with defers := { target := .collected D, args := #[] } :: a.defers } W) :
    (Code.rangeFunc g ps assign body).wpIn F n P Q a w := by
  refine wpIn_rangeFunc fun fn hfn => ?_
  rw [hro]
  let rec' : LoopState → Option Code → Loop := fun st pe => { state := st, pending := pe, fn, tmps := a.tmps, params := ps, assign, body, defers := w.heap.size }
  obtain ⟨W1, hW1⟩ : ∃ W1, (w.alloc (.deferred (some []))).alloc (.loop (rec' .ready none)) = W1 := ⟨_, rfl⟩
  have sW1 : W1.heap.size = w.heap.size + 1 + 1 := by rw [← hW1]; simp
  have hL1 : W1.heap[w.heap.size + 1]? = some (.loop (rec' .ready none)) := by
    rw [← hW1]; have := World.alloc_heap_new (w.alloc (.deferred (some []))) (.loop (rec' .ready none)); rwa [World.size_alloc] at this
  have hD1 : W1.heap[w.heap.size]? = some (.deferred (some [])) := by
    rw [← hW1]; exact (Below.heap_alloc _ _ _ (by simp)).trans (World.alloc_heap_new w _)
  have hI1 : I [] W1 := by rw [← hW1]; exact hI.alloc _ (hI.alloc _ h0)
  have hk1 : KeepsOthers w W1 := by rw [← hW1]; exact (KeepsOthers.alloc _ _).trans (KeepsOthers.alloc _ _)
  have hb1 : Below w0.heap.size w0 W1 := by
    rw [← hW1]; exact hb0.trans ((((Below.refl _ w).alloc (Nat.le_refl _) _).alloc (by simp) _).mono hb0.size)
  have hno : ∀ k, low k → ¬ own W1 k := fun k hk ho => by
    have g1 := (hst [] w h0).2 _ none (World.grownBy_alloc w (.deferred (some [])) none) (fun r e => by cases e)
    have hs2 := hst [] _ (hI.alloc (.deferred (some [])) h0)
    rw [← hW1] at ho
    exact hn₀ k hk (g1 k (hs2.2 _ none (World.grownBy_alloc _ _ none) (fun r e => by cases e) k ho))
  refine ⟨w.heap.size + 1, [{ target := .collected w.heap.size, args := #[] }], W1, { target := .fn (.func gf) lb, args := #[.func (.yield (w.heap.size + 1)) #[] #[]] }, W1, gf,
    #[.func (.yield (w.heap.size + 1)) #[] #[]] ++ lb, W1, ?_, ?_, ?_, ?_, fun _ => h1, ?_⟩
  · rw [← hW1]; exact run_enterLoop_outer _ _ _ _ _
  · simp only [resolve, hg]
    simp [go_sem]
  · intro f' hf'; simp [Target.leads] at hf'; subst hf'; exact hFg
  · simp [invoke, go_sem, eg]
  · -- the three facts that stand beside the caller's own
    let Bk : LoopState → World → Prop := fun st W => W.heap[w.heap.size + 1]? = some (.loop (rec' st none)) ∧ W.heap[w.heap.size]? = some (.deferred (some [])) ∧ KeepsOthers w W
    have bk_own : ∀ (st : LoopState) (A B : World) (row : Option Nat), Bk st A → A.grownBy B row → (∀ r, row = some r → W1.heap.size ≤ r ∧ ∃ o : Obj, A.heap[r]? = some o ∧ o.isCells = false) → Bk st B := fun st A B row hs hg' hr => by
      have no : ∀ k, k < W1.heap.size → some k ≠ row := fun k hk e => by have := (hr k e.symm).1; omega
      refine ⟨(hg'.block _ (Array.getElem?_eq_some_iff.1 hs.1).1 (no _ (by omega))).trans hs.1, (hg'.block _ (Array.getElem?_eq_some_iff.1 hs.2.1).1 (no _ (by omega))).trans hs.2.1, Nat.le_trans hs.2.2.size hg'.size, fun k o hk ho => ?_⟩
      have hA := hs.2.2.same k o hk ho
      exact (hg'.block k (Array.getElem?_eq_some_iff.1 hA).1 (no k (by have := (Array.getElem?_eq_some_iff.1 hk).1; omega))).trans hA
    refine (hseq (w.heap.size + 1) (fun pre W => I pre W ∧ Bk .ready W) W1 hb1
      (fun s A B row hs hg' hr => ⟨hI s A B row hs.1 hg' (fun r e => ⟨by have := (hr r e).1; omega, (hr r e).2⟩), bk_own _ A B row hs.2 hg' hr⟩)
      (fun pre W h => hst pre W h.1) hno ?_ ⟨hI1, hL1, hD1, hk1⟩).mono ?_
    · rintro pre x W0 W ⟨hi0, _⟩ ⟨hi, hl, hd, hkf⟩ hfit hlen
      have hlt : w.heap.size + 1 < W.heap.size := (Array.getElem?_eq_some_iff.1 hl).1
      obtain ⟨a₁, Wa, ba, hassign, hbody⟩ := hround (w.heap.size + 1) pre x W hi hlen
      refine ⟨fn, _, assign, body, run_yield (P := P) (args := encs x) hl (hps x), roundIn_of_wpIn hfn (hassign _ ?_)⟩
      have hkw := hst pre W hi
      have kpa : KpO own n₀ W Wa := hkw.kp (by omega) (below_grown0 ba) (fun r e => by cases e)
      have hia : I pre Wa := hI pre W Wa none hi (below_grown0 ba) (fun r e => by cases e)
      have hla := (ba.block _ hlt).trans hl
      have hda := (ba.block _ (by omega)).trans hd
      have hka := hkf.trans (keeps_below ba)
      have hfa := hfb _ _ _ _ _ hfit ba
      have fra : KeepsFrom W1.heap.size W Wa := (keeps_below ba).from _
      have hlta := ba.size
      refine ⟨_, run_beginRound hla rfl, ?_⟩
      have hl2 : (Wa.putObj (w.heap.size + 1) (.loop (rec' .busy none))).heap[w.heap.size + 1]? = some (.loop (rec' .busy none)) := World.putObj_heap_same (by omega)
      have hi2 : I pre (Wa.putObj (w.heap.size + 1) (.loop (rec' .busy none))) := hI.putObj _ hia (by omega) hla rfl
      have hw2 : KpO own n₀ W (Wa.putObj (w.heap.size + 1) (.loop (rec' .busy none))) := kpa.trans ((hst pre Wa hia).kp (by omega) (grownBy_putObj' Wa _ _) (fun r e => by cases e; exact ⟨by omega, _, hla, rfl⟩))
      refine wpIn_mono (hbody W0 _ hi0 hi2 (hfp _ _ _ _ _ _ _ hfa hla rfl) ⟨_, _, _, hla, rfl, rfl⟩) ?_
      rintro e a3 W3 hp
      cases e with
      | normal =>
        obtain ⟨hk3, hkp3, hi3⟩ := hp
        have hl3 := hk3.same _ _ hl2 rfl
        have hd2 : (Wa.putObj (w.heap.size + 1) (.loop (rec' .busy none))).heap[w.heap.size]? = some (.deferred (some [])) := (World.putObj_heap_other (by omega)).trans hda
        have hd3 := hk3.same _ _ hd2 rfl
        have hi4 : I (pre ++ [x]) (W3.putObj (w.heap.size + 1) (.loop (rec' .ready none))) := hI.putObj _ hi3 (by omega) hl3 rfl
        have hlt3 := (Array.getElem?_eq_some_iff.1 hl3).1
        refine ⟨_, _, run_endRound (P := P) none hl3, rfl, ⟨hi4, World.putObj_heap_same hlt3, (World.putObj_heap_other (by omega)).trans hd3, ?_⟩, (hw2.trans hkp3).trans ((hst _ _ hi3).kp (by omega) (grownBy_putObj' W3 _ _) (fun r e => by cases e; exact ⟨by omega, _, hl3, rfl⟩)), ?_⟩
        · exact keeps_put ((keeps_put hka (by omega) _).trans hk3) (by omega) _
        · exact from_trans (from_trans (from_trans fra (from_put (by omega) _)) (hk3.from _)) (from_put (by omega) _)
      | ret => exact hp.elim
      | exit id => exact hp.elim
      | goto t => exact hp.elim
      | panic ch => exact hp.elim
      | outgrown => exact hp.elim
    · rintro e W2 ⟨⟨v, rfl⟩, xs, hS, hi, hl, hd, hkf⟩
      have hlt2 := (Array.getElem?_eq_some_iff.1 hl).1
      exact ⟨none, _, run_endLoop (P := P) hl (by simp [rec']), hdone _ xs _ (Nat.le_refl _) (by simp; omega) hS (hI.putObj _ hi (by omega) hl rfl) ((World.putObj_heap_other (by omega)).trans hd) (keeps_put hkf (by omega) _)⟩

end Go.Proofs.YtmjafmdecgeckabGreat
