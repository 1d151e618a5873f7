/-
  A law for a range over a function whose iterator ranges over another one and hands on what that gives: the iterator's contract speaks of what a caller owns, whatever records of loops come and go beside it. No program is named here.
-/
import Derived.RangeFuncNested
import Derived.RangeFuncBound
import Derived.RangeFuncLeaves
import Derived.RangeFuncBox
import Derived.Test.YtnpfnbgbodojnabHc
import Derived.RangeFuncCalls
import Derived.OwnWalkIn
import Derived.OrdersIn
import Derived.TacticsIn
import Derived.Test.YtnpfnbgbodojnabRz
import Derived.Shelf.Abstract
import Derived.Shelf.RegionOpen
import Derived.TacticsInMore
import Derived.LoopNIn
import Derived.LoopIn
import Derived.Maps.AppendAt
import Derived.Test.YtnpfnbgbodojnabVa
import Derived.Test.YtnpfnbgbodojnabRw
import Derived.Test.YtnpfnbgbodojnabRv
namespace Go.Proofs.Ytnpfnbgbodojnab
open Go.RowKit

/-- What a round leaves: all below n₀, and blocks of cells that the caller doesn't own, lie as they lay; what it owns then it owned, or it is new. -/
structure KpO (own : World → Nat → Prop) (n₀ : Nat) (W W' : World) : Prop where
  size : W.heap.size ≤ W'.heap.size
  old : ∀ k, own W' k → own W k ∨ W.heap.size ≤ k
  low : ∀ k, k < n₀ → W'.heap[k]? = W.heap[k]?
  blk : ∀ (k : Nat) (c : Array Value) (t : TypeId) (z : Nat × Nat), W.heap[k]? = some (.cells c t z) → ¬ own W k → W'.heap[k]? = some (.cells c t z)
theorem KpO.refl (own : World → Nat → Prop) (n₀ : Nat) (W : World) : KpO own n₀ W W := ⟨Nat.le_refl _, fun _ h => .inl h, fun _ _ => rfl, fun _ _ _ _ h _ => h⟩
theorem KpO.trans {own : World → Nat → Prop} {n₀ : Nat} {A B C : World} (h : KpO own n₀ A B) (k : KpO own n₀ B C) : KpO own n₀ A C := by
  refine ⟨Nat.le_trans h.size k.size, fun i hi => ?_, fun i hi => (k.low i hi).trans (h.low i hi), fun i c t z hc ho => k.blk i c t z (h.blk i c t z hc ho) (fun hB => ?_)⟩
  · rcases k.old i hi with h1 | h1
    · exact h.old i h1
    · exact .inr (Nat.le_trans h.size h1)
  · rcases h.old i hB with h1 | h1
    · exact ho h1
    · exact absurd (Array.getElem?_eq_some_iff.1 hc).1 (by omega)

/-- What a caller owns is there, and records of loops and new blocks add nothing to it. -/
def OwnSt (own : World → Nat → Prop) (W : World) : Prop :=
  (∀ k, own W k → k < W.heap.size) ∧ ∀ W' row, W.grownBy W' row → (∀ r, row = some r → ∃ o : Obj, W.heap[r]? = some o ∧ o.isCells = false) → ∀ k, own W' k → own W k
theorem OwnSt.kp {own : World → Nat → Prop} {n₀ : Nat} {W W' : World} {row : Option Nat} (h : OwnSt own W) (hn : n₀ ≤ W.heap.size) (hg : W.grownBy W' row) (hr : ∀ r, row = some r → n₀ ≤ r ∧ ∃ o : Obj, W.heap[r]? = some o ∧ o.isCells = false) : KpO own n₀ W W' := by
  refine ⟨hg.size, fun k hk => .inl (h.2 W' row hg (fun r e => (hr r e).2) k hk), fun k hk => hg.block k (by omega) (fun e => by have := (hr k e.symm).1; omega), fun k c t z hc _ => (hg.block k (Array.getElem?_eq_some_iff.1 hc).1 (fun e => ?_)).trans hc⟩
  obtain ⟨o, ho, hn⟩ := (hr k e.symm).2
  rw [hc] at ho
  cases ho; cases hn

/-- An iterator's contract, for callers that own what they speak of and hear all that comes. -/
def SeqOwn {α : Type} (F : Fence) (n : Nat) (P : Program) (g : Nat) (lb : Array Value) (encs : α → Array Value) (own : World → Nat → Prop) (n₀ : Nat) (S : List α → Prop) (N : Nat) (w : World) : Prop :=
  ∀ (l : Nat) (J : List α → World → Prop) (W : World), Below w.heap.size w W → OwnFrom W.heap.size J → (∀ pre W1, J pre W1 → OwnSt own W1) → (∀ k, k < n₀ → ¬ own W k) →
    (∀ pre x W1, J pre W1 → pre.length < N → YieldAt F (n - 1) P l (encs x) W1 fun e W' => e = .returned (.bool true) ∧ J (pre ++ [x]) W' ∧ KpO own n₀ W1 W' ∧ KeepsFrom W.heap.size W1 W') →
    J [] W →
    CallsIn F n P g (#[.func (.yield l) #[] #[]] ++ lb) W fun e W' => (∃ v, e = .returned v) ∧ ∃ xs, S xs ∧ J xs W'

theorem keeps_put {w W : World} {l : Nat} (h : KeepsOthers w W) (hl : w.heap.size ≤ l) (o' : Obj) : KeepsOthers w (W.putObj l o') :=
  ⟨by have := h.size; simpa using this, fun k o hk ho => (World.putObj_heap_other (by have := (Array.getElem?_eq_some_iff.1 hk).1; omega)).trans (h.same k o hk ho)⟩
theorem from_put {W : World} {l B : Nat} (hl : l < B) (o' : Obj) : KeepsFrom B W (W.putObj l o') :=
  ⟨by simp, fun k o hk h0 _ => (World.putObj_heap_other (by omega)).trans h0⟩
theorem from_trans {A B C : World} {b : Nat} (h : KeepsFrom b A B) (k : KeepsFrom b B C) : KeepsFrom b A C :=
  ⟨Nat.le_trans h.size k.size, fun i o hi h0 ho => k.same i o hi (h.same i o hi h0 ho) ho⟩

/-- How a round of such a loop goes on: no way out of it is taken. -/
def postO {α : Type} (own : World → Nat → Prop) (n₀ : Nat) (I : List α → World → Prop) (xs : List α) (W : World) : Exit → Act → World → Prop
  | .normal, _, W' => KeepsOthers W W' ∧ KpO own n₀ W W' ∧ I xs W'
  | _, _, _ => False

variable {F : Fence} {n : Nat} {P : Program}

theorem wpIn_range_own {α : Type} {g : Operand} {ps : Array Tmp} {assign body : Code} {Q : Exit → Act → World → Prop} {a : Act} {w : World}
    (hro : F.round = none) (h1 : 1 ≤ n) {gf : Nat} {lb : Array Value} (hg : a.eval g = .func (.func gf) #[] lb) (hFg : F.fn gf) (eg : ∀ args w, (callFunc gf args).run P w = .ok (.enter gf args) w)
    {encs : α → Array Value} {own : World → Nat → Prop} {n₀ : Nat} {S : List α → Prop} {N : Nat} {w0 : World} (hseq : SeqOwn F (n - 1) P gf lb encs own n₀ S N w0)
    (hb0 : Below w0.heap.size w0 w) (hps : ∀ x, (encs x).size = ps.size) (hn₀ : ∀ k, k < n₀ → ¬ own w k) (hlo : n₀ ≤ w.heap.size)
    (I : List α → World → Prop) (hI : OwnFrom w.heap.size I) (hst : ∀ pre W, I pre W → OwnSt own W) (h0 : I [] w) (a₁ : α → Act)
    (hassign : ∀ (l : Nat) (x : α) (W : World) (K : Act → World → Prop), K (a₁ x) W →
      assign.wpIn (F.inRound l) (n - 1 - 1) P (Exit.then K (fun _ _ _ => False)) { tmps := (ps.zip (encs x)).foldl (fun t (p, v) => t.setIfInBounds p v) a.tmps, defers := [] } W)
    (hbody : ∀ (l : Nat) (pre : List α) (x : α) (W : World), I pre W → pre.length < N → body.wpIn (F.inRound l) (n - 1 - 1) P (postO own n₀ I (pre ++ [x]) W) (a₁ x) W)
    (hdone : ∀ (D : Nat) (xs : List α) (W : World), w.heap.size ≤ D → D < W.heap.size → S xs → I xs W → W.heap[D]? = some (.deferred (some [])) → KeepsOthers w W → Q .normal { a with defers := { target := .collected D, args := #[] } :: a.defers } W) :
    (Code.rangeFunc g ps assign body).wpIn F n P Q a w := by
  refine wpIn_rangeFunc fun fn hfn => ?_
  rw [hro]
  let rec' : LoopState → Option Code → Loop := fun st pe => { state := st, pending := pe, fn, tmps := a.tmps, params := ps, assign, body, defers := w.heap.size }
  obtain ⟨W1, hW1⟩ : ∃ W1, (w.alloc (.deferred (some []))).alloc (.loop (rec' .ready none)) = W1 := ⟨_, rfl⟩
  have sW1 : W1.heap.size = w.heap.size + 1 + 1 := by rw [← hW1]; simp
  have hL1 : W1.heap[w.heap.size + 1]? = some (.loop (rec' .ready none)) := by
    rw [← hW1]; have := World.alloc_heap_new (w.alloc (.deferred (some []))) (.loop (rec' .ready none)); rwa [World.size_alloc] at this
  have hD1 : W1.heap[w.heap.size]? = some (.deferred (some [])) := by
    rw [← hW1]; exact (Below.heap_alloc _ _ _ (by simp)).trans (World.alloc_heap_new w _)
  have hI1 : I [] W1 := by rw [← hW1]; exact hI.alloc _ (hI.alloc _ h0)
  have hk1 : KeepsOthers w W1 := by rw [← hW1]; exact (KeepsOthers.alloc _ _).trans (KeepsOthers.alloc _ _)
  have hb1 : Below w0.heap.size w0 W1 := by
    rw [← hW1]; exact hb0.trans ((((Below.refl _ w).alloc (Nat.le_refl _) _).alloc (by simp) _).mono hb0.size)
  have hno : ∀ k, k < n₀ → ¬ own W1 k := fun k hk ho => by
    have g1 := (hst [] w h0).2 _ none (World.grownBy_alloc w (.deferred (some [])) none) (fun r e => by cases e)
    have hs2 := hst [] _ (hI.alloc (.deferred (some [])) h0)
    rw [← hW1] at ho
    exact hn₀ k hk (g1 k (hs2.2 _ none (World.grownBy_alloc _ _ none) (fun r e => by cases e) k ho))
  refine ⟨w.heap.size + 1, [{ target := .collected w.heap.size, args := #[] }], W1, { target := .fn (.func gf) lb, args := #[.func (.yield (w.heap.size + 1)) #[] #[]] }, W1, gf,
    #[.func (.yield (w.heap.size + 1)) #[] #[]] ++ lb, W1, ?_, ?_, ?_, ?_, fun _ => h1, ?_⟩
  · rw [← hW1]; exact run_enterLoop_outer _ _ _ _ _
  · simp only [resolve, hg]
    simp [go_sem]
  · intro f' hf'; simp [Target.leads] at hf'; subst hf'; exact hFg
  · simp [invoke, go_sem, eg]
  · -- the three facts that stand beside the caller's own
    let Bk : LoopState → World → Prop := fun st W => W.heap[w.heap.size + 1]? = some (.loop (rec' st none)) ∧ W.heap[w.heap.size]? = some (.deferred (some [])) ∧ KeepsOthers w W
    have bk_own : ∀ (st : LoopState) (A B : World) (row : Option Nat), Bk st A → A.grownBy B row → (∀ r, row = some r → W1.heap.size ≤ r ∧ ∃ o : Obj, A.heap[r]? = some o ∧ o.isCells = false) → Bk st B := fun st A B row hs hg' hr => by
      have no : ∀ k, k < W1.heap.size → some k ≠ row := fun k hk e => by have := (hr k e.symm).1; omega
      refine ⟨(hg'.block _ (Array.getElem?_eq_some_iff.1 hs.1).1 (no _ (by omega))).trans hs.1, (hg'.block _ (Array.getElem?_eq_some_iff.1 hs.2.1).1 (no _ (by omega))).trans hs.2.1, Nat.le_trans hs.2.2.size hg'.size, fun k o hk ho => ?_⟩
      have hA := hs.2.2.same k o hk ho
      exact (hg'.block k (Array.getElem?_eq_some_iff.1 hA).1 (no k (by have := (Array.getElem?_eq_some_iff.1 hk).1; omega))).trans hA
    refine (hseq (w.heap.size + 1) (fun pre W => I pre W ∧ Bk .ready W) W1 hb1
      (fun s A B row hs hg' hr => ⟨hI s A B row hs.1 hg' (fun r e => ⟨by have := (hr r e).1; omega, (hr r e).2⟩), bk_own _ A B row hs.2 hg' hr⟩)
      (fun pre W h => hst pre W h.1) hno ?_ ⟨hI1, hL1, hD1, hk1⟩).mono ?_
    · rintro pre x W ⟨hi, hl, hd, hkf⟩ hlen
      have hlt : w.heap.size + 1 < W.heap.size := (Array.getElem?_eq_some_iff.1 hl).1
      refine ⟨fn, _, assign, body, run_yield (P := P) (args := encs x) hl (hps x), roundIn_of_wpIn hfn (hassign _ x W _ ?_)⟩
      refine ⟨_, run_beginRound hl rfl, ?_⟩
      have hl2 : (W.putObj (w.heap.size + 1) (.loop (rec' .busy none))).heap[w.heap.size + 1]? = some (.loop (rec' .busy none)) := World.putObj_heap_same hlt
      have hi2 : I pre (W.putObj (w.heap.size + 1) (.loop (rec' .busy none))) := hI.putObj _ hi (by omega) hl rfl
      have hw2 : KpO own n₀ W (W.putObj (w.heap.size + 1) (.loop (rec' .busy none))) := (hst pre W hi).kp (by omega) (grownBy_putObj' W _ _) (fun r e => by cases e; exact ⟨by omega, _, hl, rfl⟩)
      refine wpIn_mono (hbody _ pre x _ hi2 hlen) ?_
      rintro e a3 W3 hp
      cases e with
      | normal =>
        obtain ⟨hk3, hkp3, hi3⟩ := hp
        have hl3 := hk3.same _ _ hl2 rfl
        have hd2 : (W.putObj (w.heap.size + 1) (.loop (rec' .busy none))).heap[w.heap.size]? = some (.deferred (some [])) := (World.putObj_heap_other (by omega)).trans hd
        have hd3 := hk3.same _ _ hd2 rfl
        have hi4 : I (pre ++ [x]) (W3.putObj (w.heap.size + 1) (.loop (rec' .ready none))) := hI.putObj _ hi3 (by omega) hl3 rfl
        have hlt3 := (Array.getElem?_eq_some_iff.1 hl3).1
        refine ⟨_, _, run_endRound (P := P) none hl3, rfl, ⟨hi4, World.putObj_heap_same hlt3, (World.putObj_heap_other (by omega)).trans hd3, ?_⟩, (hw2.trans hkp3).trans ((hst _ _ hi3).kp (by omega) (grownBy_putObj' W3 _ _) (fun r e => by cases e; exact ⟨by omega, _, hl3, rfl⟩)), ?_⟩
        · exact keeps_put ((keeps_put hkf (by omega) _).trans hk3) (by omega) _
        · exact from_trans (from_trans (from_put (by omega) _) (hk3.from _)) (from_put (by omega) _)
      | ret => exact hp.elim
      | exit id => exact hp.elim
      | goto t => exact hp.elim
      | panic ch => exact hp.elim
      | outgrown => exact hp.elim
    · rintro e W2 ⟨⟨v, rfl⟩, xs, hS, hi, hl, hd, hkf⟩
      have hlt2 := (Array.getElem?_eq_some_iff.1 hl).1
      exact ⟨none, _, run_endLoop (P := P) hl (by simp [rec']), hdone _ xs _ (Nat.le_refl _) (by simp; omega) hS (hI.putObj _ hi (by omega) hl rfl) ((World.putObj_heap_other (by omega)).trans hd) (keeps_put hkf (by omega) _)⟩

end Go.Proofs.Ytnpfnbgbodojnab

/-
  A law for a range over a function whose iterator ranges over another one and hands on lists that it makes: as the law for those that hand on what they get, with a word on what is handed on. No program is named here.
-/
namespace Go.Proofs.Ytnpfnbgbodojnab
open Go.RowKit

/-- An iterator's contract, for callers that own what they speak of and hear all that comes; of what is handed on a caller learns how it lies, in blocks that were not there when it last spoke. -/
def SeqFit {α : Type} (F : Fence) (n : Nat) (P : Program) (g : Nat) (lb : Array Value) (encs : α → Array Value) (own : World → Nat → Prop) (n₀ : Nat) (low : Nat → Prop) (fits : Nat → α → World → Prop) (S : List α → Prop) (N : Nat) (w : World) : Prop :=
  ∀ (l : Nat) (J : List α → World → Prop) (W : World), Below w.heap.size w W → OwnFrom W.heap.size J → (∀ pre W1, J pre W1 → OwnSt own W1) → (∀ k, low k → ¬ own W k) →
    (∀ pre x W0 W1, J pre W0 → J pre W1 → fits W0.heap.size x W1 → pre.length < N → YieldAt F (n - 1) P l (encs x) W1 fun e W' => e = .returned (.bool true) ∧ J (pre ++ [x]) W' ∧ KpO own n₀ W1 W' ∧ KeepsFrom W.heap.size W1 W') →
    J [] W →
    CallsIn F n P g (#[.func (.yield l) #[] #[]] ++ lb) W fun e W' => (∃ v, e = .returned v) ∧ ∃ xs, S xs ∧ J xs W'

theorem below_grown0 {A C : World} (h : Below A.heap.size A C) : A.grownBy C none := ⟨h.os, h.tape, h.output, h.size, fun k hk _ => h.block k hk⟩
theorem keeps_below {A C : World} (h : Below A.heap.size A C) : KeepsOthers A C := ⟨h.size, fun k _ hk _ => (h.block k (Array.getElem?_eq_some_iff.1 hk).1).trans hk⟩

variable {F : Fence} {n : Nat} {P : Program}

theorem wpIn_range_fit {α : Type} {g : Operand} {ps : Array Tmp} {assign body : Code} {Q : Exit → Act → World → Prop} {a : Act} {w : World}
    (hro : F.round = none) (h1 : 1 ≤ n) {gf : Nat} {lb : Array Value} (hg : a.eval g = .func (.func gf) #[] lb) (hFg : F.fn gf) (eg : ∀ args w, (callFunc gf args).run P w = .ok (.enter gf args) w)
    {encs : α → Array Value} {own : World → Nat → Prop} {n₀ : Nat} {low : Nat → Prop} {fits : Nat → α → World → Prop} {S : List α → Prop} {N : Nat} {w0 : World} (hseq : SeqFit F (n - 1) P gf lb encs own n₀ low fits S N w0) (hfp : ∀ S x (W : World) (l : Nat) (o o' : Obj), fits S x W → W.heap[l]? = some o → o.isCells = false → fits S x (W.putObj l o'))
    (hb0 : Below w0.heap.size w0 w) (hps : ∀ x, (encs x).size = ps.size) (hn₀ : ∀ k, low k → ¬ own w k) (hlo : n₀ ≤ w.heap.size)
    (I : List α → World → Prop) (hI : OwnFrom w.heap.size I) (hst : ∀ pre W, I pre W → OwnSt own W) (h0 : I [] w) (a₁ : α → World → Act) (wa : α → World → World) (hwa : ∀ x W, Below W.heap.size W (wa x W)) (hfb : ∀ S x W W', fits S x W → Below W.heap.size W W' → fits S x W')
    (hassign : ∀ (l : Nat) (x : α) (W : World) (K : Act → World → Prop), K (a₁ x W) (wa x W) →
      assign.wpIn (F.inRound l) (n - 1 - 1) P (Exit.then K (fun _ _ _ => False)) { tmps := (ps.zip (encs x)).foldl (fun t (p, v) => t.setIfInBounds p v) a.tmps, defers := [] } W)
    (hbody : ∀ (l : Nat) (pre : List α) (x : α) (W0 W V : World), I pre W0 → I pre V → fits W0.heap.size x V → (∃ (k : Nat) (o o' : Obj), (wa x W).heap[k]? = some o ∧ o.isCells = false ∧ V = (wa x W).putObj k o') → pre.length < N → body.wpIn (F.inRound l) (n - 1 - 1) P (postO own n₀ I (pre ++ [x]) V) (a₁ x W) V)
    (hdone : ∀ (D : Nat) (xs : List α) (W : World), w.heap.size ≤ D → D < W.heap.size → S xs → I xs W → W.heap[D]? = some (.deferred (some [])) → KeepsOthers w W → Q .normal { a with defers := { target := .collected D, args := #[] } :: a.defers } W) :
    (Code.rangeFunc g ps assign body).wpIn F n P Q a w := by
  refine wpIn_rangeFunc fun fn hfn => ?_
  rw [hro]
  let rec' : LoopState → Option Code → Loop := fun st pe => { state := st, pending := pe, fn, tmps := a.tmps, params := ps, assign, body, defers := w.heap.size }
  obtain ⟨W1, hW1⟩ : ∃ W1, (w.alloc (.deferred (some []))).alloc (.loop (rec' .ready none)) = W1 := ⟨_, rfl⟩
  have sW1 : W1.heap.size = w.heap.size + 1 + 1 := by rw [← hW1]; simp
  have hL1 : W1.heap[w.heap.size + 1]? = some (.loop (rec' .ready none)) := by
    rw [← hW1]; have := World.alloc_heap_new (w.alloc (.deferred (some []))) (.loop (rec' .ready none)); rwa [World.size_alloc] at this
  have hD1 : W1.heap[w.heap.size]? = some (.deferred (some [])) := by
    rw [← hW1]; exact (Below.heap_alloc _ _ _ (by simp)).trans (World.alloc_heap_new w _)
  have hI1 : I [] W1 := by rw [← hW1]; exact hI.alloc _ (hI.alloc _ h0)
  have hk1 : KeepsOthers w W1 := by rw [← hW1]; exact (KeepsOthers.alloc _ _).trans (KeepsOthers.alloc _ _)
  have hb1 : Below w0.heap.size w0 W1 := by
    rw [← hW1]; exact hb0.trans ((((Below.refl _ w).alloc (Nat.le_refl _) _).alloc (by simp) _).mono hb0.size)
  have hno : ∀ k, low k → ¬ own W1 k := fun k hk ho => by
    have g1 := (hst [] w h0).2 _ none (World.grownBy_alloc w (.deferred (some [])) none) (fun r e => by cases e)
    have hs2 := hst [] _ (hI.alloc (.deferred (some [])) h0)
    rw [← hW1] at ho
    exact hn₀ k hk (g1 k (hs2.2 _ none (World.grownBy_alloc _ _ none) (fun r e => by cases e) k ho))
  refine ⟨w.heap.size + 1, [{ target := .collected w.heap.size, args := #[] }], W1, { target := .fn (.func gf) lb, args := #[.func (.yield (w.heap.size + 1)) #[] #[]] }, W1, gf,
    #[.func (.yield (w.heap.size + 1)) #[] #[]] ++ lb, W1, ?_, ?_, ?_, ?_, fun _ => h1, ?_⟩
  · rw [← hW1]; exact run_enterLoop_outer _ _ _ _ _
  · simp only [resolve, hg]
    simp [go_sem]
  · intro f' hf'; simp [Target.leads] at hf'; subst hf'; exact hFg
  · simp [invoke, go_sem, eg]
  · -- the three facts that stand beside the caller's own
    let Bk : LoopState → World → Prop := fun st W => W.heap[w.heap.size + 1]? = some (.loop (rec' st none)) ∧ W.heap[w.heap.size]? = some (.deferred (some [])) ∧ KeepsOthers w W
    have bk_own : ∀ (st : LoopState) (A B : World) (row : Option Nat), Bk st A → A.grownBy B row → (∀ r, row = some r → W1.heap.size ≤ r ∧ ∃ o : Obj, A.heap[r]? = some o ∧ o.isCells = false) → Bk st B := fun st A B row hs hg' hr => by
      have no : ∀ k, k < W1.heap.size → some k ≠ row := fun k hk e => by have := (hr k e.symm).1; omega
      refine ⟨(hg'.block _ (Array.getElem?_eq_some_iff.1 hs.1).1 (no _ (by omega))).trans hs.1, (hg'.block _ (Array.getElem?_eq_some_iff.1 hs.2.1).1 (no _ (by omega))).trans hs.2.1, Nat.le_trans hs.2.2.size hg'.size, fun k o hk ho => ?_⟩
      have hA := hs.2.2.same k o hk ho
      exact (hg'.block k (Array.getElem?_eq_some_iff.1 hA).1 (no k (by have := (Array.getElem?_eq_some_iff.1 hk).1; omega))).trans hA
    refine (hseq (w.heap.size + 1) (fun pre W => I pre W ∧ Bk .ready W) W1 hb1
      (fun s A B row hs hg' hr => ⟨hI s A B row hs.1 hg' (fun r e => ⟨by have := (hr r e).1; omega, (hr r e).2⟩), bk_own _ A B row hs.2 hg' hr⟩)
      (fun pre W h => hst pre W h.1) hno ?_ ⟨hI1, hL1, hD1, hk1⟩).mono ?_
    · rintro pre x W0 W ⟨hi0, _⟩ ⟨hi, hl, hd, hkf⟩ hfit hlen
      have hlt : w.heap.size + 1 < W.heap.size := (Array.getElem?_eq_some_iff.1 hl).1
      refine ⟨fn, _, assign, body, run_yield (P := P) (args := encs x) hl (hps x), roundIn_of_wpIn hfn (hassign _ x W _ ?_)⟩
      have ba := hwa x W
      have hkw := hst pre W hi
      have kpa : KpO own n₀ W (wa x W) := hkw.kp (by omega) (below_grown0 ba) (fun r e => by cases e)
      have hia : I pre (wa x W) := hI pre W (wa x W) none hi (below_grown0 ba) (fun r e => by cases e)
      have hla := (ba.block _ hlt).trans hl
      have hda := (ba.block _ (by omega)).trans hd
      have hka := hkf.trans (keeps_below ba)
      have hfa := hfb _ _ _ _ hfit ba
      have fra : KeepsFrom W1.heap.size W (wa x W) := (keeps_below ba).from _
      have hlta := ba.size
      obtain ⟨Wa, hWa⟩ : ∃ Wa, Wa = wa x W := ⟨_, rfl⟩
      rw [← hWa] at ba kpa hia hla hda hka hfa fra hlta ⊢
      refine ⟨_, run_beginRound hla rfl, ?_⟩
      have hl2 : (Wa.putObj (w.heap.size + 1) (.loop (rec' .busy none))).heap[w.heap.size + 1]? = some (.loop (rec' .busy none)) := World.putObj_heap_same (by omega)
      have hi2 : I pre (Wa.putObj (w.heap.size + 1) (.loop (rec' .busy none))) := hI.putObj _ hia (by omega) hla rfl
      have hw2 : KpO own n₀ W (Wa.putObj (w.heap.size + 1) (.loop (rec' .busy none))) := kpa.trans ((hst pre Wa hia).kp (by omega) (grownBy_putObj' Wa _ _) (fun r e => by cases e; exact ⟨by omega, _, hla, rfl⟩))
      refine wpIn_mono (hbody _ pre x W0 W _ hi0 hi2 (hfp _ _ _ _ _ _ hfa hla rfl) ⟨_, _, _, by rw [← hWa]; exact hla, rfl, by rw [← hWa]⟩ hlen) ?_
      rintro e a3 W3 hp
      cases e with
      | normal =>
        obtain ⟨hk3, hkp3, hi3⟩ := hp
        have hl3 := hk3.same _ _ hl2 rfl
        have hd2 : (Wa.putObj (w.heap.size + 1) (.loop (rec' .busy none))).heap[w.heap.size]? = some (.deferred (some [])) := (World.putObj_heap_other (by omega)).trans hda
        have hd3 := hk3.same _ _ hd2 rfl
        have hi4 : I (pre ++ [x]) (W3.putObj (w.heap.size + 1) (.loop (rec' .ready none))) := hI.putObj _ hi3 (by omega) hl3 rfl
        have hlt3 := (Array.getElem?_eq_some_iff.1 hl3).1
        refine ⟨_, _, run_endRound (P := P) none hl3, rfl, ⟨hi4, World.putObj_heap_same hlt3, (World.putObj_heap_other (by omega)).trans hd3, ?_⟩, (hw2.trans hkp3).trans ((hst _ _ hi3).kp (by omega) (grownBy_putObj' W3 _ _) (fun r e => by cases e; exact ⟨by omega, _, hl3, rfl⟩)), ?_⟩
        · exact keeps_put ((keeps_put hka (by omega) _).trans hk3) (by omega) _
        · exact from_trans (from_trans (from_trans fra (from_put (by omega) _)) (hk3.from _)) (from_put (by omega) _)
      | ret => exact hp.elim
      | exit id => exact hp.elim
      | goto t => exact hp.elim
      | panic ch => exact hp.elim
      | outgrown => exact hp.elim
    · rintro e W2 ⟨⟨v, rfl⟩, xs, hS, hi, hl, hd, hkf⟩
      have hlt2 := (Array.getElem?_eq_some_iff.1 hl).1
      exact ⟨none, _, run_endLoop (P := P) hl (by simp [rec']), hdone _ xs _ (Nat.le_refl _) (by simp; omega) hS (hI.putObj _ hi (by omega) hl rfl) ((World.putObj_heap_other (by omega)).trans hd) (keeps_put hkf (by omega) _)⟩

end Go.Proofs.Ytnpfnbgbodojnab

/-
  A law on a region that draws its order, in a round of a loop over a function: operations that only read are taken first; what stands behind them waits for all. No program is named here.
-/
namespace Go.Proofs.Ytnpfnbgbodojnab
open Go.Sort

section
variable {P : Program} {md : Region.Mode} {ops : Array Oper} {C : World → Prop} {n : Nat} {L : Array Bool → Act → World → Prop} {l' m : Nat}

def noDeferB (ops : Array Oper) : Bool := ops.all fun o => match o.op with | .defer _ => false | _ => true
theorem no_defer (h : noDeferB ops = true) {i : Nat} {o : Oper} (ho : ops[i]? = some o) (c : Call) : o.op ≠ .defer c := fun e => by
  have hm : o ∈ ops := Array.mem_of_getElem? ho
  have := (Array.all_eq_true'.1 h) o hm
  rw [e] at this; cases this

theorem anyIn_of_C {Q : Exit → Act → World → Prop} {g : Nat} (hnd : noDeferB ops = true) (hL : ∀ listed a w, L listed a w → wpAnyIn (Fence.wide.inRound l') m P md ops Q g listed a w) :
    ∀ (f : Nat) (listed : Array Bool) (a : Act) (w : World), anyC P md ops C n L f listed a w → wpAnyIn (Fence.wide.inRound l') m P md ops Q (f + g) listed a w
  | 0, listed, a, w, h => by rw [Nat.zero_add]; exact hL _ _ _ h
  | f + 1, listed, a, w, h => by
    rw [show f + 1 + g = (f + g) + 1 by omega]
    refine ⟨fun h0 => absurd h0 h.1, fun i hi => ?_⟩
    rcases (h.2 i hi).2 with ⟨o, ho, hg, u, w', hr, _, hk⟩ | ⟨o, ho, hg, fn, args, hr, hk⟩
    · unfold wpOpIn
      simp only [ho, wanted_none hg, if_true]
      refine ⟨fun _ _ => trivial, ?_⟩
      rw [Oper.semAt_plain _ _ _ (no_defer hnd ho), hr, Oper.uponIn_value]
      exact anyIn_of_C hnd hL f _ _ _ hk
    · unfold wpOpIn
      simp only [ho, wanted_none hg, if_true]
      refine ⟨fun _ _ => trivial, ?_⟩
      rw [Oper.semAt_plain _ _ _ (no_defer hnd ho), hr, Oper.uponIn_enter]
      refine ⟨(fun h => by cases h), (CallsIn.inRound l' (callsIn_wide.2 hk)).mono fun e w'' ⟨u, he, _, hk'⟩ => ?_⟩
      subst he
      exact anyIn_of_C hnd hL f _ _ _ hk'

theorem wpAnyIn_of_seq {F : Fence} {Q' : Exit → Act → World → Prop} : ∀ (l : List Oper) (k : Nat) (listed : Array Bool) (a : Act) (w : World), (∀ j, l[j]? = ops[k + j]?) →
    Region.seqB md ops l.length k listed = true → wpListIn F m P ops Q' l a w → wpAnyIn F m P md ops Q' l.length listed a w
  | [], _, _, _, _, _, hB, h => ⟨by simpa [Region.seqB] using hB, h⟩
  | o :: l, k, listed, a, w, hl, hB, h => by
    have h0 : ops[k]? = some o := by simpa using (hl 0).symm
    simp only [List.length_cons, Region.seqB, Bool.and_eq_true, decide_eq_true_eq] at hB
    refine ⟨fun h1 => (by rw [hB.1] at h1; cases h1), fun i hi => ?_⟩
    rw [hB.1] at hi
    have hik : i = k := by simpa using hi
    subst hik
    have hw : wpOpIn F m P ops Q' i (wpListIn F m P ops Q' l) a w := by unfold wpOpIn; simp only [h0]; exact h
    exact wpOpIn_mono (fun a' w' h' => wpAnyIn_of_seq l (i + 1) _ a' w' (fun j => by have := hl (j + 1); simpa [Nat.add_assoc, Nat.add_comm 1 j] using this) hB.2 h') hw

/-- What stands behind the head. -/
def tailI (F : Fence) (m : Nat) (P : Program) (Q : Exit → Act → World → Prop) (l : List Oper) (n : Nat) (listed : Array Bool) (a : Act) (w : World) : Prop :=
  Region.seqB .any l.toArray (l.length - n) n listed = true ∧ wpListIn F m P l.toArray Q (l.drop n) a w

theorem wpIn_region_mix {id : Nat} {Q : Exit → Act → World → Prop} {a : Act} {w : World} {l : List Oper} (n : Nat) (ks : List Nat) (hm : P.follows .mixedOrders = true) (hB : mixTailB l n ks = true) (hnd : noDeferB l.toArray = true)
    (h : wpQuiet P l.toArray (fun w' => ∃ p : Regrown, w' = grow (redrawn w p.d) p.os) (fun a' => anyC P .any l.toArray (fun w' => ∃ p : Regrown, w' = grow (redrawn w p.d) p.os) n (tailI (Fence.wide.inRound l') m P Q l n) (n - ks.length) (listAll ks (Array.replicate l.length false)) a' w.drew) (ks.filterMap fun k => l[k]?) a) :
    (Code.region id l.toArray true).wpIn (Fence.wide.inRound l') m P Q a w := by
  have hB' := hB
  simp only [mixTailB, Bool.and_eq_true, decide_eq_true_eq] at hB
  obtain ⟨⟨⟨⟨⟨hsel, hn⟩, hkn⟩, hs⟩, hc⟩, hmix⟩ := hB
  have hn' : n < l.toArray.size := by simpa using hn
  have hdl : (l.drop n).length = l.length - n := by simp
  have inv0 : HeadInv .any l.toArray n (Array.replicate l.length false) :=
    ⟨by simp, fun j oj _ hl => (by rw [getD_replicate_false] at hl; cases hl), fun t _ ht => getD_in (by simpa using ht) (getD_replicate_false _ _)⟩
  have H := anyC_lex (P := P) (md := .any) (L := tailI (Fence.wide.inRound l') m P Q l n) hsel hs hc hn' (fun listed a w hL => seqB_ready hL.1) (n - ks.length) w.drew ⟨⟨w.drawn + 1, #[]⟩, by rw [grow_empty]; rfl⟩ ks _ _ a (mix_ops ks _ hmix) inv0 hmix h
  have G := anyIn_of_C (Q := Q) (g := l.length - n) hnd (fun listed a' w' hL => by
    have := wpAnyIn_of_seq (P := P) (md := .any) (ops := l.toArray) (F := Fence.wide.inRound l') (m := m) (Q' := Q) (l.drop n) n listed a' w' (fun j => by simp [List.getElem?_drop]) (by rw [hdl]; exact hL.1) hL.2
    rwa [hdl] at this) _ _ _ _ H
  rw [show ks.length + (n - ks.length) + (l.length - n) = l.toArray.size by simp; omega] at G
  refine wpIn_region_any hm ?_
  simpa using G

end
end Go.Proofs.Ytnpfnbgbodojnab

/-
  The valves at a place, as the program tells them: a function value that hands them on one by one, each with the place behind it.
-/
namespace Go.Proofs.Ytnpfnbgbodojnab
open Go.RowKit Go.Shelf

attribute [local go_sem] Oper.semAt_some


set_option maxRecDepth 100000 in
set_option maxHeartbeats 1000000 in
theorem behind_any (n a b s x : ByteArray) (w : World) :
    Calls Try.prog 73 #[.agg #[.string n, .string a, .string b, .string s], .string x] w fun e w' => e = .returned (.tuple #[.string (behS (n, a, b, s) x), .bool (endB (n, a, b, s) x)]) ∧ w' = w.alloc (.cells #[.string n, .string a, .string b, .string s] 65) := by
  cases h1 : (x.toList == a.toList)
  · cases h2 : (x.toList == b.toList)
    · have e1 : behS (n, a, b, s) x = ⟨#[]⟩ := by simp only [behS, eqB, h1, h2, cond_false]
      have e2 : endB (n, a, b, s) x = false := by simp only [endB, eqB, h1, h2, Bool.or_false]
      rw [e1, e2]
      go_enter Try.func73, Try.ntmps73
      go_wp2
      go_ret2
      exact ⟨rfl, rfl⟩
    · have e1 : behS (n, a, b, s) x = a := by simp only [behS, eqB, h1, h2, cond_false, cond_true]
      have e2 : endB (n, a, b, s) x = true := by simp only [endB, eqB, h1, h2, Bool.or_true]
      rw [e1, e2]
      go_enter Try.func73, Try.ntmps73
      go_wp2
      go_ret2
      exact ⟨rfl, rfl⟩
  · have e1 : behS (n, a, b, s) x = b := by simp only [behS, eqB, h1, cond_true]
    have e2 : endB (n, a, b, s) x = true := by simp only [endB, eqB, h1, Bool.true_or]
    rw [e1, e2]
    go_enter Try.func73, Try.ntmps73
    go_wp2
    go_ret2
    exact ⟨rfl, rfl⟩

set_option maxRecDepth 100000 in
set_option maxHeartbeats 1000000 in
/-- The function value: it has the plant and the place in boxes. -/
theorem valvesAt_any (v0 v1 v2 v3 : Value) (x : ByteArray) (w : World) :
    Calls Try.prog 32 #[.agg #[v0, v1, v2, v3], .string x] w fun e w' => e = .returned (.func (.func 72) #[] #[.pointer (some ⟨w.heap.size, 0, none⟩), .pointer (some ⟨w.heap.size + 1, 0, none⟩)]) ∧
      w' = (w.alloc (.cells #[v0, v1, v2, v3] 28)).alloc (.cells #[.string x] 9) := by
  go_enter Try.func32, Try.ntmps32
  go_wp2
  go_ret
  exact ⟨by simp, rfl⟩

/-- Two texts that are handed on: neither is long. -/
abbrev Two := { s : ByteArray × ByteArray // s.1.size ≤ 8 ∧ s.2.size ≤ 8 }
def two (a b : ByteArray) : Two := if h : a.size ≤ 8 ∧ b.size ≤ 8 then ⟨(a, b), h⟩ else ⟨(⟨#[]⟩, ⟨#[]⟩), by decide⟩
theorem two_of {a b : ByteArray} (ha : a.size ≤ 8) (hb : b.size ≤ 8) : (two a b).1 = (a, b) := by
  unfold two; rw [dif_pos ⟨ha, hb⟩]

/-- The valves that end at a place, of the first k: each one's name, and the place behind it. -/
def vAt (f : Nat → ByteArray × ByteArray × ByteArray × ByteArray) (x : ByteArray) (k : Nat) : List Two := ((List.range k).filter fun i => endB (f i) x).map fun i => two (f i).1 (behS (f i) x)
theorem vAt_yes {f : Nat → ByteArray × ByteArray × ByteArray × ByteArray} {x : ByteArray} {k : Nat} (h : endB (f k) x = true) : vAt f x (k + 1) = vAt f x k ++ [two (f k).1 (behS (f k) x)] := by
  simp [vAt, List.range_succ, List.filter_append, h]
theorem vAt_no {f : Nat → ByteArray × ByteArray × ByteArray × ByteArray} {x : ByteArray} {k : Nat} (h : endB (f k) x = false) : vAt f x (k + 1) = vAt f x k := by
  simp [vAt, List.range_succ, List.filter_append, h]
theorem vAt_len (f : Nat → ByteArray × ByteArray × ByteArray × ByteArray) (x : ByteArray) (k : Nat) : (vAt f x k).length ≤ k := by
  have := List.length_filter_le (fun i => endB (f i) x) (List.range k)
  simp only [vAt, List.length_map]
  simpa using this
theorem vAt_pre (f : Nat → ByteArray × ByteArray × ByteArray × ByteArray) (x : ByteArray) {k n : Nat} (h : k ≤ n) : vAt f x k <+: vAt f x n := by
  induction n with
  | zero => have : k = 0 := by omega
            subst this; exact List.prefix_refl _
  | succ n ih =>
    by_cases e : k = n + 1
    · subst e; exact List.prefix_refl _
    · refine (ih (by omega)).trans ?_
      cases hb : endB (f n) x
      · rw [vAt_no hb]; exact List.prefix_refl _
      · rw [vAt_yes hb]; exact List.prefix_append _ _

/-- What a round must keep: all below n₀, and one box. -/
structure KpV (n₀ b : Nat) (W W' : World) : Prop where
  size : W.heap.size ≤ W'.heap.size
  blk : ∀ k, k < n₀ ∨ k = b → W'.heap[k]? = W.heap[k]?
theorem KpV.refl (n₀ b : Nat) (W : World) : KpV n₀ b W W := ⟨Nat.le_refl _, fun _ _ => rfl⟩
theorem KpV.trans {n₀ b : Nat} {A B C : World} (h : KpV n₀ b A B) (k : KpV n₀ b B C) : KpV n₀ b A C := ⟨Nat.le_trans h.size k.size, fun i hi => (k.blk i hi).trans (h.blk i hi)⟩
theorem KpV.alloc {n₀ b : Nat} {A W : World} (h : KpV n₀ b A W) (hn : n₀ ≤ A.heap.size) (hb : b < A.heap.size) (o : Obj) : KpV n₀ b A (W.alloc o) := by
  have := h.size
  exact ⟨by simp; omega, fun k hk => (Below.heap_alloc W o k (by rcases hk with hk | rfl <;> omega)).trans (h.blk k hk)⟩
theorem KpV.put {n₀ b : Nat} {w : World} (hn : n₀ ≤ w.heap.size) (hb : b < w.heap.size) (W : World) (l : Nat) (o o' : Obj) (hl : w.heap.size ≤ l) (_ : W.heap[l]? = some o) (_ : o.isCells = false) (_ : o.isWalk = false) : KpV n₀ b W (W.putObj l o') :=
  ⟨by simp, fun k hk => World.putObj_heap_other (by rcases hk with hk | rfl <;> omega)⟩

set_option maxRecDepth 100000 in
set_option maxHeartbeats 4000000 in
/-- The closure itself, whatever the body that it hands the valves to, if this keeps what lies below n₀ and the place's box. -/
theorem vals_in (n l b1 b2 n₀ : Nat) (hn : 2 ≤ n) (v3 : Value) (nv : Nat) (f : Nat → ByteArray × ByteArray × ByteArray × ByteArray) (x : ByteArray) (J Jx : List Two → World → Prop) (W : World) (hJ : AbidesFrom W.heap.size J)
    (hY : ∀ pre (y : Two) W1, J pre W1 → pre.length < nv → YieldAt Fence.wide (n - 1) Try.prog l #[.string y.1.1, .string y.1.2] W1 fun e W' =>
      (e = .returned (.bool true) ∧ J (pre ++ [y]) W' ∧ KpV n₀ b2 W1 W') ∨ (e = .returned (.bool false) ∧ Jx (pre ++ [y]) W'))
    (hb1 : W.cell? ⟨b1, 3, none⟩ = some v3) (hb2 : W.cell? ⟨b2, 0, none⟩ = some (.string x)) (h : Lst n₀ W v3 nv 4 (cV f)) (h8 : ∀ i, i < nv → (f i).1.size ≤ 8 ∧ (f i).2.1.size ≤ 8 ∧ (f i).2.2.1.size ≤ 8)
    (hs2 : b2 < W.heap.size) (hn₀ : n₀ ≤ W.heap.size) (h0 : J [] W) :
    CallsIn Fence.wide n Try.prog 72 #[.func (.yield l) #[] #[], .pointer (some ⟨b1, 0, none⟩), .pointer (some ⟨b2, 0, none⟩)] W fun e W' => (∃ v, e = .returned v) ∧
      ((∃ ys, ys = vAt f x nv ∧ J ys W') ∨ (∃ pre, pre <+: vAt f x nv ∧ Jx pre W')) := by
  obtain ⟨oa, cap, rfl, hm, hc⟩ := h
  unfold maxLen at hm
  have HC : Hid _ := hc
  have H8 : Hid _ := h8
  have HY : Hid _ := hY
  have HJ : Hid _ := hJ
  clear hc h8 hY hJ
  refine callsIn_of_wp Try.func72 rfl trivial ?_ rfl
  simp only [Try.ntmps72, List.size_toArray, List.length_cons, List.length_nil, Nat.reduceAdd, Nat.reduceSub, Array.replicate_succ, Array.replicate_zero, List.push_toArray, List.append_toArray, List.nil_append, List.cons_append]
  gi_wp2
  gi_loopw [11] (fun i wr => ∃ k : Nat, k ≤ nv ∧ i = .int .i64 k ∧ Hid (J (vAt f x k) wr) ∧ Hid (KpV n₀ b2 W wr))
    (fun i _ => nv - (intOf i).toNat)
  case atStart => exact ⟨0, Nat.zero_le _, rfl, h0, KpV.refl _ _ _⟩
  case round =>
    obtain ⟨k, hk, rfl, hJs, hkp⟩ := hrel
    by_cases hlt : k < nv
    · obtain ⟨b, off, rfl, hbB, hcell⟩ := HC.out k hlt
      have hsz := hkp.out.size
      have rd : ∀ j, j < 4 → wr.cell? ⟨b, off + k * 4 + j, none⟩ = some (cV f k j) := fun j hj => (World.cell?_of_block (w := W) (a := ⟨b, off + k * 4 + j, none⟩) (hkp.out.blk b (Or.inl hbB))).trans (hcell j hj)
      have e0 : wr.cell? ⟨b, off + k * 4, none⟩ = some (.string (f k).1) := by simpa [cV] using rd 0 (by omega)
      have e1 : wr.cell? ⟨b, off + k * 4 + 1, none⟩ = some (.string (f k).2.1) := by simpa [cV] using rd 1 (by omega)
      have e2 : wr.cell? ⟨b, off + k * 4 + 2, none⟩ = some (.string (f k).2.2.1) := by simpa [cV] using rd 2 (by omega)
      have e3 : wr.cell? ⟨b, off + k * 4 + 3, none⟩ = some (.string (f k).2.2.2) := by simpa [cV] using rd 3 (by omega)
      clear rd hcell
      have ep : wr.cell? ⟨b2, 0, none⟩ = some (.string x) := (World.cell?_of_block (w := W) (a := ⟨b2, 0, none⟩) (hkp.out.blk b2 (Or.inr rfl))).trans hb2
      have ep' := cell_past ep (by omega) (.cells #[.string (f k).1, .string (f k).2.1, .string (f k).2.2.1, .string (f k).2.2.2] 65)
      have hK2 : Hid (KpV n₀ b2 wr ((wr.alloc (.cells #[.string (f k).1, .string (f k).2.1, .string (f k).2.2.1, .string (f k).2.2.2] 65)).alloc (.cells #[.string (f k).1, .string (f k).2.1, .string (f k).2.2.1, .string (f k).2.2.2] 65))) :=
        ((KpV.refl n₀ b2 wr).alloc (by omega) (by omega) _).alloc (by omega) (by omega) _
      have hJ2 : Hid (J (vAt f x k) ((wr.alloc (.cells #[.string (f k).1, .string (f k).2.1, .string (f k).2.2.1, .string (f k).2.2.2] 65)).alloc (.cells #[.string (f k).1, .string (f k).2.1, .string (f k).2.2.1, .string (f k).2.2.2] 65))) :=
        HJ.out _ _ _ none (HJ.out _ _ _ none hJs.out (World.grownBy_alloc _ _ none) (fun r e => by cases e)) (World.grownBy_alloc _ _ none) (fun r e => by cases e)
      have n0 := cell_past (new_cell wr #[.string (f k).1, .string (f k).2.1, .string (f k).2.2.1, .string (f k).2.2.2] 65 0 _ rfl) (by simp) (.cells #[.string (f k).1, .string (f k).2.1, .string (f k).2.2.1, .string (f k).2.2.2] 65)
      simp only [List.getElem_toArray, List.getElem_cons_zero] at n0
      have hbe := behind_any (f k).1 (f k).2.1 (f k).2.2.1 (f k).2.2.2 x
      have HL : Hid (endB (f k) x = false → vAt f x (k + 1) = vAt f x k) := vAt_no
      cases hE : endB ((f k).1, (f k).2.1, (f k).2.2.1, (f k).2.2.2) x
      · rw [hE] at hbe
        have HB : Hid _ := hbe
        clear hbe
        gi_wp2_with (refine ⟨trivial, (fun _ => by omega), ?_⟩; gi_at_call 73; refine (callsIn_wide.2 (HB.out _)).mono ?_; rintro e w' ⟨rfl, rfl⟩)
        refine ⟨fun _ h => (by cases h), ?_⟩
        gi_wp2
        go_roundw
        case rel => exact ⟨k + 1, by omega, by go_num, by show J _ _; rw [HL.out hE]; exact hJ2.out, hkp.out.trans hK2.out⟩
        case measure => simp [intOf]; omega
      · rw [hE] at hbe
        have HB : Hid _ := hbe
        clear hbe
        have hz := H8.out k hlt
        have hbs : (behS (f k) x).size ≤ 8 := by
          unfold behS
          cases eqB x (f k).2.1 <;> cases eqB x (f k).2.2.1 <;> simp only [cond_true, cond_false] <;> first | omega | exact (by decide : (0 : Nat) ≤ 8)
        obtain ⟨fn, tmps, assign, body, hy, hR⟩ := HY.out _ (two (f k).1 (behS (f k) x)) _ hJ2.out (by have := vAt_len f x k; omega)
        rw [two_of hz.1 hbs] at hy
        dsimp only at hy
        gi_wp2_with (refine ⟨trivial, (fun _ => by omega), ?_⟩; gi_at_call 73; refine (callsIn_wide.2 (HB.out _)).mono ?_; rintro e w' ⟨rfl, rfl⟩)
        refine ⟨(fun _ => by omega), hR.mono ?_⟩
        rintro e W3 (⟨rfl, hJ3, hk3⟩ | ⟨rfl, hJx3⟩)
        · gi_wp2
          go_roundw
          case rel => exact ⟨k + 1, by omega, by go_num, by show J _ _; rw [vAt_yes hE]; exact hJ3, hkp.out.trans (hK2.out.trans hk3)⟩
          case measure => simp [intOf]; omega
        · gi_wp2
          refine bodyPost_ret (results_none rfl _ _ _) rfl ?_
          exact ⟨⟨_, rfl⟩, .inr ⟨_, by rw [← vAt_yes hE]; exact vAt_pre f x (by omega), hJx3⟩⟩
    · obtain rfl : k = nv := by omega
      gi_wp2
      go_end0
      exact ⟨⟨_, rfl⟩, .inl ⟨_, rfl, hJs.out⟩⟩

end Go.Proofs.Ytnpfnbgbodojnab

/-
  The valves at a place, as a contract that callers of the iterator take.
-/
namespace Go.Proofs.Ytnpfnbgbodojnab
open Go.RowKit Go.Shelf

/-- At the wide fence a round is a round, wherever it is asked for. -/
theorem round_wide {m m' l' l : Nat} {P : Program} {f : FuncId} {tmps : Array Value} {assign body : Code} {w : World} {R : Ending → World → Prop} (h : RoundIn Fence.wide m P l f tmps assign body w R) : RoundIn (Fence.wide.inRound l') m' P l f tmps assign body w R :=
  ⟨h.1, fun c cs _ => h.2 c cs (by simp [Fence.room, Fence.wide])⟩

theorem vals_seq (n b1 b2 n₀ : Nat) (hn : 2 ≤ n) (v3 : Value) (nv : Nat) (f : Nat → ByteArray × ByteArray × ByteArray × ByteArray) (x : ByteArray) (w : World)
    (hb1 : w.cell? ⟨b1, 3, none⟩ = some v3) (hb2 : w.cell? ⟨b2, 0, none⟩ = some (.string x)) (h : Lst n₀ w v3 nv 4 (cV f)) (h8 : ∀ i, i < nv → (f i).1.size ≤ 8 ∧ (f i).2.1.size ≤ 8 ∧ (f i).2.2.1.size ≤ 8)
    (hs1 : b1 < w.heap.size) (hs2 : b2 < w.heap.size) (hn₀ : n₀ ≤ w.heap.size) :
    SeqStopsK Fence.wide n Try.prog 72 #[.pointer (some ⟨b1, 0, none⟩), .pointer (some ⟨b2, 0, none⟩)] (fun y : Two => #[Value.string y.1.1, Value.string y.1.2]) (KpV n₀ b2) (fun ys => ys = vAt f x nv) (fun pre => pre <+: vAt f x nv) nv w := fun l J Jx W hW hJ _ hY h0 =>
  vals_in n l b1 b2 n₀ hn v3 nv f x J Jx W hJ hY ((hW.cell (p := ⟨b1, 3, none⟩) hs1).trans hb1) ((hW.cell (p := ⟨b2, 0, none⟩) hs2).trans hb2) (h.kept hW hn₀) h8 (Nat.lt_of_lt_of_le hs2 hW.size) (Nat.le_trans hn₀ hW.size) h0

end Go.Proofs.Ytnpfnbgbodojnab

/-
  Marks that loops over functions leave with an activation; what a loop owns by a box and a list.
-/
namespace Go.Proofs.Ytnpfnbgbodojnab
open Go.RowKit Go.Shelf

/-- The marks that loops over functions have left with an activation. -/
structure MarksOk (b : Nat) (W : World) (Ds : List Nat) : Prop where
  once : Ds.Nodup
  all : ∀ D ∈ Ds, b ≤ D ∧ W.heap[D]? = some (.deferred (some []))

def markOf (D : Nat) : Deferred := { target := .collected D, args := #[] }

/-- What a world is when the marks have been taken in. -/
def closeM (W : World) : List Nat → World
  | [] => W
  | D :: Ds => closeM (W.putObj D (.deferred none)) Ds

theorem leaves_marks {F : Fence} {n : Nat} {P : Program} {fn : Func} {tmps : Array Value} {R : Ending → World → Prop} {b : Nat} : ∀ (Ds : List Nat) (W : World), MarksOk b W Ds → LeavesIn F n P fn tmps R [] .returning (closeM W Ds) → LeavesInM F n P fn tmps R (Ds.map markOf) .returning W
  | [], _, _, h => h
  | D :: Ds, W, hm, h => by
    have hn := List.nodup_cons.1 hm.once
    refine ⟨by simp, .inl ⟨D, _, rfl, run_takeDeferred (hm.all D List.mem_cons_self).2, leaves_marks (b := b) Ds _ ⟨hn.2, fun E hE => ?_⟩ h⟩⟩
    have := hm.all E (List.mem_cons_of_mem _ hE)
    exact ⟨this.1, (World.putObj_heap_other (fun e => hn.1 (by rw [← e]; exact hE))).trans this.2⟩

theorem close_own {b base e size : Nat} {v : Value} {k : Nat} {xs : List Value} : ∀ (Ds : List Nat) (W : World), MarksOk b W Ds → W.ownsRow base e size v k xs → (closeM W Ds).ownsRow base e size v k xs
  | [], _, _, h => h
  | D :: Ds, W, hm, h => by
    have hn := List.nodup_cons.1 hm.once
    refine close_own (b := b) Ds _ ⟨hn.2, fun E hE => ?_⟩ (ownsRow_putObj h _ (hm.all D List.mem_cons_self).2 rfl)
    have := hm.all E (List.mem_cons_of_mem _ hE)
    exact ⟨this.1, (World.putObj_heap_other (fun e => hn.1 (by rw [← e]; exact hE))).trans this.2⟩

theorem close_below {b : Nat} {w : World} : ∀ (Ds : List Nat) (W : World), (∀ D ∈ Ds, b ≤ D) → Below b w W → Below b w (closeM W Ds)
  | [], _, _, h => h
  | D :: Ds, W, hm, h => by
    refine close_below Ds _ (fun E hE => hm E (List.mem_cons_of_mem _ hE)) (h.trans ⟨rfl, rfl, rfl, by simp, fun k hk => World.putObj_heap_other ?_⟩)
    have := hm D List.mem_cons_self
    omega

/-- What the search owns: its box, and what its list lies in. -/
def ownR (B : Nat) (X : World) (k : Nat) : Prop := k = B ∨ ∃ v : Value, X.cell? ⟨B, 0, none⟩ = some v ∧ v.ownBlock = some k

theorem ownR_st {B base t e size : Nat} {X : World} {v : Value} {k : Nat} {xs : List Value} (hb : Boxed X B t v) (hr : X.ownsRow base e size v k xs) : OwnSt (ownR B) X := by
  refine ⟨fun k hk => ?_, fun X' row hg hrow k hk => ?_⟩
  · rcases hk with rfl | ⟨u, hu, ho⟩
    · exact hb.lt
    · rw [hb.cell] at hu; cases hu
      exact (hr.lt k ho).2
  · rcases hk with rfl | ⟨u, hu, ho⟩
    · exact .inl rfl
    · have hb' : Boxed X' B t v := hb.kept hg (fun e' => by obtain ⟨o, ho', hc⟩ := hrow B e'.symm; rw [show X.heap[B]? = _ from hb] at ho'; cases ho'; cases hc)
      rw [hb'.cell] at hu; cases hu
      exact .inr ⟨_, hb.cell, ho⟩

theorem own_setOther {W : World} {base e size : Nat} {v : Value} {k : Nat} {xs : List Value} (h : W.ownsRow base e size v k xs) (p : Addr) (x : Value) (hne : some p.block ≠ v.ownBlock) : (W.setCell p x).ownsRow base e size v k xs := by
  refine ⟨h.1, ?_⟩
  rcases h.2 with hn | ⟨g, cap, cur, rfl, hb, hg, rest⟩
  · exact .inl hn
  · exact .inr ⟨g, cap, cur, rfl, hb, (Below.heap_setCell W p x g (fun e => hne (by rw [← e]; rfl))).trans hg, rest⟩

theorem has_any (L : List ByteArray) (y : ByteArray) : hasB L.length (nthB L) y = L.any (fun z => eqB z y) := by
  rw [Bool.eq_iff_iff, any_mem]
  unfold hasB
  rw [List.any_eq_true]
  constructor
  · rintro ⟨i, hi, he⟩
    rw [← (eqB_iff _ _).1 he]
    have := List.mem_range.1 hi
    exact List.mem_of_getElem? (i := i) (by simp [nthB, this])
  · intro h
    obtain ⟨j, hj, e⟩ := List.mem_iff_getElem.1 h
    exact ⟨j, List.mem_range.2 hj, by rw [eqB_iff]; simp [nthB, hj, e]⟩

end Go.Proofs.Ytnpfnbgbodojnab
