/-
  Several texts in one.
-/
import Derived.RangeFuncNested
import Derived.RangeFuncBound
import Derived.RangeFuncLeaves
import Derived.RangeFuncBox
import Derived.Test.YthgnhjkkfhfgmabLo
import Derived.Test.YthgnhjkkfhfgmabM49
import Derived.Laws.EntriesVeiled
import Derived.RangeFuncCalls
import Derived.Shelf.Abstract
import Derived.Shelf.RegionOpen
import Derived.OwnWalkIn
import Derived.TacticsInMore
import Derived.LoopNIn
import Derived.LoopIn
import Derived.Sort.CutIn
import Derived.Test.YthgnhjkkfhfgmabXsr
import Derived.Test.YthgnhjkkfhfgmabChecked
import Derived.WalkKit
import Derived.WalkSpells
import Derived.WalkLawsBesides
import Derived.BigQuiet
import Derived.Lib.Bytealg
import Derived.Lib.UnsafeStr
import Derived.Lib.BufferWrite
import Derived.Laws.MakeOwn
import Derived.Laws.Externs
import Derived.Test.YthgnhjkkfhfgmabHc
import Derived.OrdersIn
import Derived.TacticsIn
/-
  A law for a range over a function whose iterator ranges over another one and hands on what that gives: the iterator's contract speaks of what a caller owns, whatever records of loops come and go beside it. No program is named here.
-/
namespace Go.Proofs.Ythgnhjkkfhfgmab
open Go.RowKit

/-- What a round leaves: all below n₀, and blocks of cells that the caller doesn't own, lie as they lay; what it owns then it owned, or it is new. -/
structure KpO (own : World → Nat → Prop) (n₀ : Nat) (W W' : World) : Prop where
  size : W.heap.size ≤ W'.heap.size
  old : ∀ k, own W' k → own W k ∨ W.heap.size ≤ k
  low : ∀ k, k < n₀ → W'.heap[k]? = W.heap[k]?
  blk : ∀ (k : Nat) (c : Array Value) (t : TypeId) (z : Nat × Nat), W.heap[k]? = some (.cells c t z) → ¬ own W k → W'.heap[k]? = some (.cells c t z)
theorem KpO.refl (own : World → Nat → Prop) (n₀ : Nat) (W : World) : KpO own n₀ W W := ⟨Nat.le_refl _, fun _ h => .inl h, fun _ _ => rfl, fun _ _ _ _ h _ => h⟩
theorem KpO.trans {own : World → Nat → Prop} {n₀ : Nat} {A B C : World} (h : KpO own n₀ A B) (k : KpO own n₀ B C) : KpO own n₀ A C := by
  refine ⟨Nat.le_trans h.size k.size, fun i hi => ?_, fun i hi => (k.low i hi).trans (h.low i hi), fun i c t z hc ho => k.blk i c t z (h.blk i c t z hc ho) (fun hB => ?_)⟩
  · rcases k.old i hi with h1 | h1
    · exact h.old i h1
    · exact .inr (Nat.le_trans h.size h1)
  · rcases h.old i hB with h1 | h1
    · exact ho h1
    · exact absurd (Array.getElem?_eq_some_iff.1 hc).1 (by omega)

/-- What a caller owns is there, and records of loops and new blocks add nothing to it. -/
def OwnSt (own : World → Nat → Prop) (W : World) : Prop :=
  (∀ k, own W k → k < W.heap.size) ∧ ∀ W' row, W.grownBy W' row → (∀ r, row = some r → ∃ o : Obj, W.heap[r]? = some o ∧ o.isCells = false) → ∀ k, own W' k → own W k
theorem OwnSt.kp {own : World → Nat → Prop} {n₀ : Nat} {W W' : World} {row : Option Nat} (h : OwnSt own W) (hn : n₀ ≤ W.heap.size) (hg : W.grownBy W' row) (hr : ∀ r, row = some r → n₀ ≤ r ∧ ∃ o : Obj, W.heap[r]? = some o ∧ o.isCells = false) : KpO own n₀ W W' := by
  refine ⟨hg.size, fun k hk => .inl (h.2 W' row hg (fun r e => (hr r e).2) k hk), fun k hk => hg.block k (by omega) (fun e => by have := (hr k e.symm).1; omega), fun k c t z hc _ => (hg.block k (Array.getElem?_eq_some_iff.1 hc).1 (fun e => ?_)).trans hc⟩
  obtain ⟨o, ho, hn⟩ := (hr k e.symm).2
  rw [hc] at ho
  cases ho; cases hn

/-- An iterator's contract, for callers that own what they speak of and hear all that comes. -/
def SeqOwn {α : Type} (F : Fence) (n : Nat) (P : Program) (g : Nat) (lb : Array Value) (encs : α → Array Value) (own : World → Nat → Prop) (n₀ : Nat) (S : List α → Prop) (N : Nat) (w : World) : Prop :=
  ∀ (l : Nat) (J : List α → World → Prop) (W : World), Below w.heap.size w W → OwnFrom W.heap.size J → (∀ pre W1, J pre W1 → OwnSt own W1) → (∀ k, k < n₀ → ¬ own W k) →
    (∀ pre x W1, J pre W1 → pre.length < N → YieldAt F (n - 1) P l (encs x) W1 fun e W' => e = .returned (.bool true) ∧ J (pre ++ [x]) W' ∧ KpO own n₀ W1 W' ∧ KeepsFrom W.heap.size W1 W') →
    J [] W →
    CallsIn F n P g (#[.func (.yield l) #[] #[]] ++ lb) W fun e W' => (∃ v, e = .returned v) ∧ ∃ xs, S xs ∧ J xs W'

theorem keeps_put {w W : World} {l : Nat} (h : KeepsOthers w W) (hl : w.heap.size ≤ l) (o' : Obj) : KeepsOthers w (W.putObj l o') :=
  ⟨by have := h.size; simpa using this, fun k o hk ho => (World.putObj_heap_other (by have := (Array.getElem?_eq_some_iff.1 hk).1; omega)).trans (h.same k o hk ho)⟩
theorem from_put {W : World} {l B : Nat} (hl : l < B) (o' : Obj) : KeepsFrom B W (W.putObj l o') :=
  ⟨by simp, fun k o hk h0 _ => (World.putObj_heap_other (by omega)).trans h0⟩
theorem from_trans {A B C : World} {b : Nat} (h : KeepsFrom b A B) (k : KeepsFrom b B C) : KeepsFrom b A C :=
  ⟨Nat.le_trans h.size k.size, fun i o hi h0 ho => k.same i o hi (h.same i o hi h0 ho) ho⟩

/-- How a round of such a loop goes on: no way out of it is taken. -/
def postO {α : Type} (own : World → Nat → Prop) (n₀ : Nat) (I : List α → World → Prop) (xs : List α) (W : World) : Exit → Act → World → Prop
  | .normal, _, W' => KeepsOthers W W' ∧ KpO own n₀ W W' ∧ I xs W'
  | _, _, _ => False

variable {F : Fence} {n : Nat} {P : Program}

theorem wpIn_range_own {α : Type} {g : Operand} {ps : Array Tmp} {assign body : Code} {Q : Exit → Act → World → Prop} {a : Act} {w : World}
    (hro : F.round = none) (h1 : 1 ≤ n) {gf : Nat} {lb : Array Value} (hg : a.eval g = .func (.func gf) #[] lb) (hFg : F.fn gf) (eg : ∀ args w, (callFunc gf args).run P w = .ok (.enter gf args) w)
    {encs : α → Array Value} {own : World → Nat → Prop} {n₀ : Nat} {S : List α → Prop} {N : Nat} {w0 : World} (hseq : SeqOwn F (n - 1) P gf lb encs own n₀ S N w0)
    (hb0 : Below w0.heap.size w0 w) (hps : ∀ x, (encs x).size = ps.size) (hn₀ : ∀ k, k < n₀ → ¬ own w k) (hlo : n₀ ≤ w.heap.size)
    (I : List α → World → Prop) (hI : OwnFrom w.heap.size I) (hst : ∀ pre W, I pre W → OwnSt own W) (h0 : I [] w) (a₁ : α → Act)
    (hassign : ∀ (l : Nat) (x : α) (W : World) (K : Act → World → Prop), K (a₁ x) W →
      assign.wpIn (F.inRound l) (n - 1 - 1) P (Exit.then K (fun _ _ _ => False)) { tmps := (ps.zip (encs x)).foldl (fun t (p, v) => t.setIfInBounds p v) a.tmps, defers := [] } W)
    (hbody : ∀ (l : Nat) (pre : List α) (x : α) (W : World), I pre W → pre.length < N → body.wpIn (F.inRound l) (n - 1 - 1) P (postO own n₀ I (pre ++ [x]) W) (a₁ x) W)
    (hdone : ∀ (D : Nat) (xs : List α) (W : World), w.heap.size ≤ D → D < W.heap.size → S xs → I xs W → W.heap[D]? = some (.deferred (some [])) → KeepsOthers w W → Q .normal { a with defers := { target := .collected D, args := #[] } :: a.defers } W) :
    (Code.rangeFunc g ps assign body).wpIn F n P Q a w := by
  refine wpIn_rangeFunc fun fn hfn => ?_
  rw [hro]
  let rec' : LoopState → Option Code → Loop := fun st pe => { state := st, pending := pe, fn, tmps := a.tmps, params := ps, assign, body, defers := w.heap.size }
  obtain ⟨W1, hW1⟩ : ∃ W1, (w.alloc (.deferred (some []))).alloc (.loop (rec' .ready none)) = W1 := ⟨_, rfl⟩
  have sW1 : W1.heap.size = w.heap.size + 1 + 1 := by rw [← hW1]; simp
  have hL1 : W1.heap[w.heap.size + 1]? = some (.loop (rec' .ready none)) := by
    rw [← hW1]; have := World.alloc_heap_new (w.alloc (.deferred (some []))) (.loop (rec' .ready none)); rwa [World.size_alloc] at this
  have hD1 : W1.heap[w.heap.size]? = some (.deferred (some [])) := by
    rw [← hW1]; exact (Below.heap_alloc _ _ _ (by simp)).trans (World.alloc_heap_new w _)
  have hI1 : I [] W1 := by rw [← hW1]; exact hI.alloc _ (hI.alloc _ h0)
  have hk1 : KeepsOthers w W1 := by rw [← hW1]; exact (KeepsOthers.alloc _ _).trans (KeepsOthers.alloc _ _)
  have hb1 : Below w0.heap.size w0 W1 := by
    rw [← hW1]; exact hb0.trans ((((Below.refl _ w).alloc (Nat.le_refl _) _).alloc (by simp) _).mono hb0.size)
  have hno : ∀ k, k < n₀ → ¬ own W1 k := fun k hk ho => by
    have g1 := (hst [] w h0).2 _ none (World.grownBy_alloc w (.deferred (some [])) none) (fun r e => by cases e)
    have hs2 := hst [] _ (hI.alloc (.deferred (some [])) h0)
    rw [← hW1] at ho
    exact hn₀ k hk (g1 k (hs2.2 _ none (World.grownBy_alloc _ _ none) (fun r e => by cases e) k ho))
  refine ⟨w.heap.size + 1, [{ target := .collected w.heap.size, args := #[] }], W1, { target := .fn (.func gf) lb, args := #[.func (.yield (w.heap.size + 1)) #[] #[]] }, W1, gf,
    #[.func (.yield (w.heap.size + 1)) #[] #[]] ++ lb, W1, ?_, ?_, ?_, ?_, fun _ => h1, ?_⟩
  · rw [← hW1]; exact run_enterLoop_outer _ _ _ _ _
  · simp only [resolve, hg]
    simp [go_sem]
  · intro f' hf'; simp [Target.leads] at hf'; subst hf'; exact hFg
  · simp [invoke, go_sem, eg]
  · -- the three facts that stand beside the caller's own
    let Bk : LoopState → World → Prop := fun st W => W.heap[w.heap.size + 1]? = some (.loop (rec' st none)) ∧ W.heap[w.heap.size]? = some (.deferred (some [])) ∧ KeepsOthers w W
    have bk_own : ∀ (st : LoopState) (A B : World) (row : Option Nat), Bk st A → A.grownBy B row → (∀ r, row = some r → W1.heap.size ≤ r ∧ ∃ o : Obj, A.heap[r]? = some o ∧ o.isCells = false) → Bk st B := fun st A B row hs hg' hr => by
      have no : ∀ k, k < W1.heap.size → some k ≠ row := fun k hk e => by have := (hr k e.symm).1; omega
      refine ⟨(hg'.block _ (Array.getElem?_eq_some_iff.1 hs.1).1 (no _ (by omega))).trans hs.1, (hg'.block _ (Array.getElem?_eq_some_iff.1 hs.2.1).1 (no _ (by omega))).trans hs.2.1, Nat.le_trans hs.2.2.size hg'.size, fun k o hk ho => ?_⟩
      have hA := hs.2.2.same k o hk ho
      exact (hg'.block k (Array.getElem?_eq_some_iff.1 hA).1 (no k (by have := (Array.getElem?_eq_some_iff.1 hk).1; omega))).trans hA
    refine (hseq (w.heap.size + 1) (fun pre W => I pre W ∧ Bk .ready W) W1 hb1
      (fun s A B row hs hg' hr => ⟨hI s A B row hs.1 hg' (fun r e => ⟨by have := (hr r e).1; omega, (hr r e).2⟩), bk_own _ A B row hs.2 hg' hr⟩)
      (fun pre W h => hst pre W h.1) hno ?_ ⟨hI1, hL1, hD1, hk1⟩).mono ?_
    · rintro pre x W ⟨hi, hl, hd, hkf⟩ hlen
      have hlt : w.heap.size + 1 < W.heap.size := (Array.getElem?_eq_some_iff.1 hl).1
      refine ⟨fn, _, assign, body, run_yield (P := P) (args := encs x) hl (hps x), roundIn_of_wpIn hfn (hassign _ x W _ ?_)⟩
      refine ⟨_, run_beginRound hl rfl, ?_⟩
      have hl2 : (W.putObj (w.heap.size + 1) (.loop (rec' .busy none))).heap[w.heap.size + 1]? = some (.loop (rec' .busy none)) := World.putObj_heap_same hlt
      have hi2 : I pre (W.putObj (w.heap.size + 1) (.loop (rec' .busy none))) := hI.putObj _ hi (by omega) hl rfl
      have hw2 : KpO own n₀ W (W.putObj (w.heap.size + 1) (.loop (rec' .busy none))) := (hst pre W hi).kp (by omega) (grownBy_putObj' W _ _) (fun r e => by cases e; exact ⟨by omega, _, hl, rfl⟩)
      refine wpIn_mono (hbody _ pre x _ hi2 hlen) ?_
      rintro e a3 W3 hp
      cases e with
      | normal =>
        obtain ⟨hk3, hkp3, hi3⟩ := hp
        have hl3 := hk3.same _ _ hl2 rfl
        have hd2 : (W.putObj (w.heap.size + 1) (.loop (rec' .busy none))).heap[w.heap.size]? = some (.deferred (some [])) := (World.putObj_heap_other (by omega)).trans hd
        have hd3 := hk3.same _ _ hd2 rfl
        have hi4 : I (pre ++ [x]) (W3.putObj (w.heap.size + 1) (.loop (rec' .ready none))) := hI.putObj _ hi3 (by omega) hl3 rfl
        have hlt3 := (Array.getElem?_eq_some_iff.1 hl3).1
        refine ⟨_, _, run_endRound (P := P) none hl3, rfl, ⟨hi4, World.putObj_heap_same hlt3, (World.putObj_heap_other (by omega)).trans hd3, ?_⟩, (hw2.trans hkp3).trans ((hst _ _ hi3).kp (by omega) (grownBy_putObj' W3 _ _) (fun r e => by cases e; exact ⟨by omega, _, hl3, rfl⟩)), ?_⟩
        · exact keeps_put ((keeps_put hkf (by omega) _).trans hk3) (by omega) _
        · exact from_trans (from_trans (from_put (by omega) _) (hk3.from _)) (from_put (by omega) _)
      | ret => exact hp.elim
      | exit id => exact hp.elim
      | goto t => exact hp.elim
      | panic ch => exact hp.elim
      | outgrown => exact hp.elim
    · rintro e W2 ⟨⟨v, rfl⟩, xs, hS, hi, hl, hd, hkf⟩
      have hlt2 := (Array.getElem?_eq_some_iff.1 hl).1
      exact ⟨none, _, run_endLoop (P := P) hl (by simp [rec']), hdone _ xs _ (Nat.le_refl _) (by simp; omega) hS (hI.putObj _ hi (by omega) hl rfl) ((World.putObj_heap_other (by omega)).trans hd) (keeps_put hkf (by omega) _)⟩

end Go.Proofs.Ythgnhjkkfhfgmab

/-
  A law for a range over a function whose iterator ranges over another one and hands on lists that it makes: as the law for those that hand on what they get, with a word on what is handed on. No program is named here.
-/
namespace Go.Proofs.Ythgnhjkkfhfgmab
open Go.RowKit

/-- An iterator's contract, for callers that own what they speak of and hear all that comes; of what is handed on a caller learns how it lies, in blocks that were not there when it last spoke. -/
def SeqFit {α : Type} (F : Fence) (n : Nat) (P : Program) (g : Nat) (lb : Array Value) (encs : α → Array Value) (own : World → Nat → Prop) (n₀ : Nat) (low : Nat → Prop) (fits : Nat → α → World → Prop) (S : List α → Prop) (N : Nat) (w : World) : Prop :=
  ∀ (l : Nat) (J : List α → World → Prop) (W : World), Below w.heap.size w W → OwnFrom W.heap.size J → (∀ pre W1, J pre W1 → OwnSt own W1) → (∀ k, low k → ¬ own W k) →
    (∀ pre x W0 W1, J pre W0 → J pre W1 → fits W0.heap.size x W1 → pre.length < N → YieldAt F (n - 1) P l (encs x) W1 fun e W' => e = .returned (.bool true) ∧ J (pre ++ [x]) W' ∧ KpO own n₀ W1 W' ∧ KeepsFrom W.heap.size W1 W') →
    J [] W →
    CallsIn F n P g (#[.func (.yield l) #[] #[]] ++ lb) W fun e W' => (∃ v, e = .returned v) ∧ ∃ xs, S xs ∧ J xs W'

theorem below_grown0 {A C : World} (h : Below A.heap.size A C) : A.grownBy C none := ⟨h.os, h.tape, h.output, h.size, fun k hk _ => h.block k hk⟩
theorem keeps_below {A C : World} (h : Below A.heap.size A C) : KeepsOthers A C := ⟨h.size, fun k _ hk _ => (h.block k (Array.getElem?_eq_some_iff.1 hk).1).trans hk⟩

variable {F : Fence} {n : Nat} {P : Program}

theorem wpIn_range_fit {α : Type} {g : Operand} {ps : Array Tmp} {assign body : Code} {Q : Exit → Act → World → Prop} {a : Act} {w : World}
    (hro : F.round = none) (h1 : 1 ≤ n) {gf : Nat} {lb : Array Value} (hg : a.eval g = .func (.func gf) #[] lb) (hFg : F.fn gf) (eg : ∀ args w, (callFunc gf args).run P w = .ok (.enter gf args) w)
    {encs : α → Array Value} {own : World → Nat → Prop} {n₀ : Nat} {low : Nat → Prop} {fits : Nat → α → World → Prop} {S : List α → Prop} {N : Nat} {w0 : World} (hseq : SeqFit F (n - 1) P gf lb encs own n₀ low fits S N w0) (hfp : ∀ S x (W : World) (l : Nat) (o o' : Obj), fits S x W → W.heap[l]? = some o → o.isCells = false → fits S x (W.putObj l o'))
    (hb0 : Below w0.heap.size w0 w) (hps : ∀ x, (encs x).size = ps.size) (hn₀ : ∀ k, low k → ¬ own w k) (hlo : n₀ ≤ w.heap.size)
    (I : List α → World → Prop) (hI : OwnFrom w.heap.size I) (hst : ∀ pre W, I pre W → OwnSt own W) (h0 : I [] w) (a₁ : α → World → Act) (wa : α → World → World) (hwa : ∀ x W, Below W.heap.size W (wa x W)) (hfb : ∀ S x W W', fits S x W → Below W.heap.size W W' → fits S x W')
    (hassign : ∀ (l : Nat) (x : α) (W : World) (K : Act → World → Prop), K (a₁ x W) (wa x W) →
      assign.wpIn (F.inRound l) (n - 1 - 1) P (Exit.then K (fun _ _ _ => False)) { tmps := (ps.zip (encs x)).foldl (fun t (p, v) => t.setIfInBounds p v) a.tmps, defers := [] } W)
    (hbody : ∀ (l : Nat) (pre : List α) (x : α) (W0 W V : World), I pre W0 → I pre V → fits W0.heap.size x V → (∃ (k : Nat) (o o' : Obj), (wa x W).heap[k]? = some o ∧ o.isCells = false ∧ V = (wa x W).putObj k o') → pre.length < N → body.wpIn (F.inRound l) (n - 1 - 1) P (postO own n₀ I (pre ++ [x]) V) (a₁ x W) V)
    (hdone : ∀ (D : Nat) (xs : List α) (W : World), w.heap.size ≤ D → D < W.heap.size → S xs → I xs W → W.heap[D]? = some (.deferred (some [])) → KeepsOthers w W → Q .normal { a with defers := { target := .collected D, args := #[] } :: a.defers } W) :
    (Code.rangeFunc g ps assign body).wpIn F n P Q a w := by
  refine wpIn_rangeFunc fun fn hfn => ?_
  rw [hro]
  let rec' : LoopState → Option Code → Loop := fun st pe => { state := st, pending := pe, fn, tmps := a.tmps, params := ps, assign, body, defers := w.heap.size }
  obtain ⟨W1, hW1⟩ : ∃ W1, (w.alloc (.deferred (some []))).alloc (.loop (rec' .ready none)) = W1 := ⟨_, rfl⟩
  have sW1 : W1.heap.size = w.heap.size + 1 + 1 := by rw [← hW1]; simp
  have hL1 : W1.heap[w.heap.size + 1]? = some (.loop (rec' .ready none)) := by
    rw [← hW1]; have := World.alloc_heap_new (w.alloc (.deferred (some []))) (.loop (rec' .ready none)); rwa [World.size_alloc] at this
  have hD1 : W1.heap[w.heap.size]? = some (.deferred (some [])) := by
    rw [← hW1]; exact (Below.heap_alloc _ _ _ (by simp)).trans (World.alloc_heap_new w _)
  have hI1 : I [] W1 := by rw [← hW1]; exact hI.alloc _ (hI.alloc _ h0)
  have hk1 : KeepsOthers w W1 := by rw [← hW1]; exact (KeepsOthers.alloc _ _).trans (KeepsOthers.alloc _ _)
  have hb1 : Below w0.heap.size w0 W1 := by
    rw [← hW1]; exact hb0.trans ((((Below.refl _ w).alloc (Nat.le_refl _) _).alloc (by simp) _).mono hb0.size)
  have hno : ∀ k, low k → ¬ own W1 k := fun k hk ho => by
    have g1 := (hst [] w h0).2 _ none (World.grownBy_alloc w (.deferred (some [])) none) (fun r e => by cases e)
    have hs2 := hst [] _ (hI.alloc (.deferred (some [])) h0)
    rw [← hW1] at ho
    exact hn₀ k hk (g1 k (hs2.2 _ none (World.grownBy_alloc _ _ none) (fun r e => by cases e) k ho))
  refine ⟨w.heap.size + 1, [{ target := .collected w.heap.size, args := #[] }], W1, { target := .fn (.func gf) lb, args := #[.func (.yield (w.heap.size + 1)) #[] #[]] }, W1, gf,
    #[.func (.yield (w.heap.size + 1)) #[] #[]] ++ lb, W1, ?_, ?_, ?_, ?_, fun _ => h1, ?_⟩
  · rw [← hW1]; exact run_enterLoop_outer _ _ _ _ _
  · simp only [resolve, hg]
    simp [go_sem]
  · intro f' hf'; simp [Target.leads] at hf'; subst hf'; exact hFg
  · simp [invoke, go_sem, eg]
  · -- the three facts that stand beside the caller's own
    let Bk : LoopState → World → Prop := fun st W => W.heap[w.heap.size + 1]? = some (.loop (rec' st none)) ∧ W.heap[w.heap.size]? = some (.deferred (some [])) ∧ KeepsOthers w W
    have bk_own : ∀ (st : LoopState) (A B : World) (row : Option Nat), Bk st A → A.grownBy B row → (∀ r, row = some r → W1.heap.size ≤ r ∧ ∃ o : Obj, A.heap[r]? = some o ∧ o.isCells = false) → Bk st B := fun st A B row hs hg' hr => by
      have no : ∀ k, k < W1.heap.size → some k ≠ row := fun k hk e => by have := (hr k e.symm).1; omega
      refine ⟨(hg'.block _ (Array.getElem?_eq_some_iff.1 hs.1).1 (no _ (by omega))).trans hs.1, (hg'.block _ (Array.getElem?_eq_some_iff.1 hs.2.1).1 (no _ (by omega))).trans hs.2.1, Nat.le_trans hs.2.2.size hg'.size, fun k o hk ho => ?_⟩
      have hA := hs.2.2.same k o hk ho
      exact (hg'.block k (Array.getElem?_eq_some_iff.1 hA).1 (no k (by have := (Array.getElem?_eq_some_iff.1 hk).1; omega))).trans hA
    refine (hseq (w.heap.size + 1) (fun pre W => I pre W ∧ Bk .ready W) W1 hb1
      (fun s A B row hs hg' hr => ⟨hI s A B row hs.1 hg' (fun r e => ⟨by have := (hr r e).1; omega, (hr r e).2⟩), bk_own _ A B row hs.2 hg' hr⟩)
      (fun pre W h => hst pre W h.1) hno ?_ ⟨hI1, hL1, hD1, hk1⟩).mono ?_
    · rintro pre x W0 W ⟨hi0, _⟩ ⟨hi, hl, hd, hkf⟩ hfit hlen
      have hlt : w.heap.size + 1 < W.heap.size := (Array.getElem?_eq_some_iff.1 hl).1
      refine ⟨fn, _, assign, body, run_yield (P := P) (args := encs x) hl (hps x), roundIn_of_wpIn hfn (hassign _ x W _ ?_)⟩
      have ba := hwa x W
      have hkw := hst pre W hi
      have kpa : KpO own n₀ W (wa x W) := hkw.kp (by omega) (below_grown0 ba) (fun r e => by cases e)
      have hia : I pre (wa x W) := hI pre W (wa x W) none hi (below_grown0 ba) (fun r e => by cases e)
      have hla := (ba.block _ hlt).trans hl
      have hda := (ba.block _ (by omega)).trans hd
      have hka := hkf.trans (keeps_below ba)
      have hfa := hfb _ _ _ _ hfit ba
      have fra : KeepsFrom W1.heap.size W (wa x W) := (keeps_below ba).from _
      have hlta := ba.size
      obtain ⟨Wa, hWa⟩ : ∃ Wa, Wa = wa x W := ⟨_, rfl⟩
      rw [← hWa] at ba kpa hia hla hda hka hfa fra hlta ⊢
      refine ⟨_, run_beginRound hla rfl, ?_⟩
      have hl2 : (Wa.putObj (w.heap.size + 1) (.loop (rec' .busy none))).heap[w.heap.size + 1]? = some (.loop (rec' .busy none)) := World.putObj_heap_same (by omega)
      have hi2 : I pre (Wa.putObj (w.heap.size + 1) (.loop (rec' .busy none))) := hI.putObj _ hia (by omega) hla rfl
      have hw2 : KpO own n₀ W (Wa.putObj (w.heap.size + 1) (.loop (rec' .busy none))) := kpa.trans ((hst pre Wa hia).kp (by omega) (grownBy_putObj' Wa _ _) (fun r e => by cases e; exact ⟨by omega, _, hla, rfl⟩))
      refine wpIn_mono (hbody _ pre x W0 W _ hi0 hi2 (hfp _ _ _ _ _ _ hfa hla rfl) ⟨_, _, _, by rw [← hWa]; exact hla, rfl, by rw [← hWa]⟩ hlen) ?_
      rintro e a3 W3 hp
      cases e with
      | normal =>
        obtain ⟨hk3, hkp3, hi3⟩ := hp
        have hl3 := hk3.same _ _ hl2 rfl
        have hd2 : (Wa.putObj (w.heap.size + 1) (.loop (rec' .busy none))).heap[w.heap.size]? = some (.deferred (some [])) := (World.putObj_heap_other (by omega)).trans hda
        have hd3 := hk3.same _ _ hd2 rfl
        have hi4 : I (pre ++ [x]) (W3.putObj (w.heap.size + 1) (.loop (rec' .ready none))) := hI.putObj _ hi3 (by omega) hl3 rfl
        have hlt3 := (Array.getElem?_eq_some_iff.1 hl3).1
        refine ⟨_, _, run_endRound (P := P) none hl3, rfl, ⟨hi4, World.putObj_heap_same hlt3, (World.putObj_heap_other (by omega)).trans hd3, ?_⟩, (hw2.trans hkp3).trans ((hst _ _ hi3).kp (by omega) (grownBy_putObj' W3 _ _) (fun r e => by cases e; exact ⟨by omega, _, hl3, rfl⟩)), ?_⟩
        · exact keeps_put ((keeps_put hka (by omega) _).trans hk3) (by omega) _
        · exact from_trans (from_trans (from_trans fra (from_put (by omega) _)) (hk3.from _)) (from_put (by omega) _)
      | ret => exact hp.elim
      | exit id => exact hp.elim
      | goto t => exact hp.elim
      | panic ch => exact hp.elim
      | outgrown => exact hp.elim
    · rintro e W2 ⟨⟨v, rfl⟩, xs, hS, hi, hl, hd, hkf⟩
      have hlt2 := (Array.getElem?_eq_some_iff.1 hl).1
      exact ⟨none, _, run_endLoop (P := P) hl (by simp [rec']), hdone _ xs _ (Nat.le_refl _) (by simp; omega) hS (hI.putObj _ hi (by omega) hl rfl) ((World.putObj_heap_other (by omega)).trans hd) (keeps_put hkf (by omega) _)⟩

end Go.Proofs.Ythgnhjkkfhfgmab

/-
  A law for a range over a function that may be left, whose iterator writes blocks of its own beside what it makes: rounds are counted, what comes in a round hangs on its number alone. No program is named here.
-/
namespace Go.Proofs.Ythgnhjkkfhfgmab
open Go.RowKit

/-- Nothing turned but blocks of T, records of loops from block B on, and what is new. -/
structure ButR (T : Nat → Prop) (B : Nat) (A C : World) : Prop where
  os : C.os = A.os
  tape : C.tape = A.tape
  output : C.output = A.output
  size : A.heap.size ≤ C.heap.size
  block : ∀ b, b < A.heap.size → ¬ T b → ¬ (B ≤ b ∧ ∃ o : Obj, A.heap[b]? = some o ∧ o.isCells = false) → C.heap[b]? = A.heap[b]?
theorem ButR.of_but {T : Nat → Prop} {B : Nat} {A C : World} (h : But T A C) : ButR T B A C := ⟨h.os, h.tape, h.output, h.size, fun b hb hn _ => h.block b hb hn⟩
theorem ButR.of_below {T : Nat → Prop} {B : Nat} {A C : World} (h : Below A.heap.size A C) : ButR T B A C := ⟨h.os, h.tape, h.output, h.size, fun b hb _ _ => h.block b hb⟩
theorem ButR.put {T : Nat → Prop} {B : Nat} {A : World} {l : Nat} {o : Obj} (hl : A.heap[l]? = some o) (ho : o.isCells = false) (hB : B ≤ l) (o' : Obj) : ButR T B A (A.putObj l o') :=
  have g := grownBy_putObj' A l o'
  ⟨g.os, g.tape, g.output, g.size, fun b hb _ hr => g.block b hb (fun e => hr (by cases e; exact ⟨hB, o, hl, ho⟩))⟩

/-- An iterator's contract: so many rounds, each with what its number tells; the caller may leave. -/
def SeqIt (F : Fence) (n : Nat) (P : Program) (g : Nat) (lb : Array Value) (encs : Nat → Array Value) (own : World → Nat → Prop) (n₀ : Nat) (T low : Nat → Prop) (Sx : Nat → Prop) (Fi : Prop) (N : Nat) (w : World) : Prop :=
  ∀ (l : Nat) (J Jx : Nat → World → Prop) (W : World), Below w.heap.size w W →
    (∀ k A C, J k A → But T A C → J k C) → (∀ k A C, Jx k A → But T A C → Jx k C) →
    (∀ k A, J k A → (∀ q, own A q → q < A.heap.size) ∧ ∀ C, But T A C → ∀ q, own C q → own A q) → (∀ q, low q → ¬ own W q) → (∀ k A, J k A → k < N) →
    (∀ k W1, J k W1 → Fi → YieldAt F (n - 1) P l (encs k) W1 fun e W' => (e = .returned (.bool true) ∧ J (k + 1) W' ∧ KpO own n₀ W1 W') ∨ (e = .returned (.bool false) ∧ Jx k W')) →
    J 0 W →
    CallsIn F n P g (#[.func (.yield l) #[] #[]] ++ lb) W fun e W' => (∃ v, e = .returned v) ∧ ((∃ k, Sx k ∧ J k W') ∨ ∃ k, Jx k W')

/-- How a round goes on, or is left. -/
def postL (own : World → Nat → Prop) (n₀ : Nat) (I : Nat → World → Prop) (Ix : Code → Nat → World → Prop) (k : Nat) (W : World) : Exit → Act → World → Prop
  | .normal, _, W' => KeepsOthers W W' ∧ KpO own n₀ W W' ∧ I (k + 1) W'
  | .exit id, _, W' => KeepsOthers W W' ∧ Ix (.exit id) k W'
  | _, _, _ => False

variable {F : Fence} {n : Nat} {P : Program}

theorem wpIn_range_it {g : Operand} {ps : Array Tmp} {assign body : Code} {Q : Exit → Act → World → Prop} {a : Act} {w : World}
    (hro : F.round = none) (h1 : 1 ≤ n) {gf : Nat} {lb : Array Value} (hg : a.eval g = .func (.func gf) #[] lb) (hFg : F.fn gf) (eg : ∀ args w, (callFunc gf args).run P w = .ok (.enter gf args) w)
    {encs : Nat → Array Value} {own : World → Nat → Prop} {n₀ : Nat} {T low : Nat → Prop} {Sx : Nat → Prop} {Fi : Prop} {N : Nat} {w0 : World} (hseq : SeqIt F (n - 1) P gf lb encs own n₀ T low Sx Fi N w0)
    (hb0 : Below w0.heap.size w0 w) (hps : ∀ k, (encs k).size = ps.size) (hno : ∀ q, low q → ¬ own w q) (hlo : n₀ ≤ w.heap.size) (hT : ∀ q, T q → q < w.heap.size)
    (I : Nat → World → Prop) (Ix : Code → Nat → World → Prop) (hI : ∀ k A C, I k A → ButR T w.heap.size A C → I k C) (hIx : ∀ c k A C, Ix c k A → ButR T w.heap.size A C → Ix c k C)
    (hst : ∀ k A, I k A → (∀ q, own A q → q < A.heap.size) ∧ ∀ C, ButR T w.heap.size A C → ∀ q, own C q → own A q) (h0 : I 0 w) (hN : ∀ k A, I k A → k < N)
    (hround : ∀ (l k : Nat) (W : World), I k W → Fi → ∃ (a₁ : Act) (Wa : World), Below W.heap.size W Wa ∧
      (∀ K : Act → World → Prop, K a₁ Wa → assign.wpIn (F.inRound l) (n - 1 - 1) P (Exit.then K (fun _ _ _ => False)) { tmps := (ps.zip (encs k)).foldl (fun t (p, v) => t.setIfInBounds p v) a.tmps, defers := [] } W) ∧
      ∀ V : World, I k V → (∃ (q : Nat) (o o' : Obj), Wa.heap[q]? = some o ∧ o.isCells = false ∧ V = Wa.putObj q o') → body.wpIn (F.inRound l) (n - 1 - 1) P (postL own n₀ I Ix k V) a₁ V)
    (hdone : ∀ (D k : Nat) (W : World), w.heap.size ≤ D → D < W.heap.size → Sx k → I k W → W.heap[D]? = some (.deferred (some [])) → Q .normal { a with defers := { target := .collected D, args := #[] } :: a.defers } W)
    (hstop : ∀ (D : Nat) (c : Code) (k : Nat) (W : World), w.heap.size ≤ D → D < W.heap.size → Ix c k W → W.heap[D]? = some (.deferred (some [])) → c.wpIn F n P Q { a with defers := { target := .collected D, args := #[] } :: a.defers } W) :
    (Code.rangeFunc g ps assign body).wpIn F n P Q a w := by
  refine wpIn_rangeFunc fun fn hfn => ?_
  rw [hro]
  let rec' : LoopState → Option Code → Loop := fun st pe => { state := st, pending := pe, fn, tmps := a.tmps, params := ps, assign, body, defers := w.heap.size }
  obtain ⟨W1, hW1⟩ : ∃ W1, (w.alloc (.deferred (some []))).alloc (.loop (rec' .ready none)) = W1 := ⟨_, rfl⟩
  have hL1 : W1.heap[w.heap.size + 1]? = some (.loop (rec' .ready none)) := by
    rw [← hW1]; have := World.alloc_heap_new (w.alloc (.deferred (some []))) (.loop (rec' .ready none)); rwa [World.size_alloc] at this
  have hD1 : W1.heap[w.heap.size]? = some (.deferred (some [])) := by
    rw [← hW1]; exact (Below.heap_alloc _ _ _ (by simp)).trans (World.alloc_heap_new w _)
  have hw1 : Below w.heap.size w W1 := by
    rw [← hW1]; exact ((Below.refl _ w).alloc (Nat.le_refl _) _).alloc (by simp) _
  have hI1 : I 0 W1 := hI 0 w W1 h0 (.of_below hw1)
  have hb1 : Below w0.heap.size w0 W1 := hb0.trans (hw1.mono hb0.size)
  have hno1 : ∀ q, low q → ¬ own W1 q := fun q hq ho => hno q hq ((hst 0 w h0).2 W1 (.of_below hw1) q ho)
  refine ⟨w.heap.size + 1, [{ target := .collected w.heap.size, args := #[] }], W1, { target := .fn (.func gf) lb, args := #[.func (.yield (w.heap.size + 1)) #[] #[]] }, W1, gf,
    #[.func (.yield (w.heap.size + 1)) #[] #[]] ++ lb, W1, ?_, ?_, ?_, ?_, fun _ => h1, ?_⟩
  · rw [← hW1]; exact run_enterLoop_outer _ _ _ _ _
  · simp only [resolve, hg]
    simp [go_sem]
  · intro f' hf'; simp [Target.leads] at hf'; subst hf'; exact hFg
  · simp [invoke, go_sem, eg]
  · let Bk : LoopState → Option Code → World → Prop := fun st pe W => W.heap[w.heap.size + 1]? = some (.loop (rec' st pe)) ∧ W.heap[w.heap.size]? = some (.deferred (some []))
    have bkT : ∀ (st : LoopState) (pe : Option Code) (A C : World), Bk st pe A → But T A C → Bk st pe C := fun st pe A C h hb =>
      ⟨(hb.block _ (Array.getElem?_eq_some_iff.1 h.1).1 (fun ht => by have := hT _ ht; omega)).trans h.1, (hb.block _ (Array.getElem?_eq_some_iff.1 h.2).1 (fun ht => by have := hT _ ht; omega)).trans h.2⟩
    refine (hseq (w.heap.size + 1) (fun k W => I k W ∧ Bk .ready none W) (fun k W => ∃ c, Ix c k W ∧ Bk .done (some c) W) W1 hb1
      (fun k A C h hb => ⟨hI k A C h.1 (.of_but hb), bkT _ _ A C h.2 hb⟩)
      (fun k A C h hb => by obtain ⟨c, hc, hbk⟩ := h; exact ⟨c, hIx c k A C hc (.of_but hb), bkT _ _ A C hbk hb⟩)
      (fun k A h => ⟨(hst k A h.1).1, fun C hb q hq => (hst k A h.1).2 C (.of_but hb) q hq⟩) hno1 (fun k A h => hN k A h.1) ?_ ⟨hI1, hL1, hD1⟩).mono ?_
    · rintro k W ⟨hi, hl, hd⟩ hfi
      have hlt : w.heap.size + 1 < W.heap.size := (Array.getElem?_eq_some_iff.1 hl).1
      obtain ⟨a₁, Wa, ba, hassign, hbody⟩ := hround (w.heap.size + 1) k W hi hfi
      refine ⟨fn, _, assign, body, run_yield (P := P) (args := encs k) hl (hps k), roundIn_of_wpIn hfn (hassign _ ?_)⟩
      have hs := hst k W hi
      have kpa : KpO own n₀ W Wa := ⟨ba.size, fun q hq => .inl (hs.2 Wa (.of_below ba) q hq), fun q hq => ba.block q (by omega), fun q c t z hc _ => (ba.block q (Array.getElem?_eq_some_iff.1 hc).1).trans hc⟩
      have hia : I k Wa := hI k W Wa hi (.of_below ba)
      have hla := (ba.block _ hlt).trans hl
      have hda := (ba.block _ (by omega)).trans hd
      have sa := ba.size
      have kpp : ∀ (i : Nat) (A : World) (st : LoopState) (pe : Option Code) (o' : Obj), I i A → A.heap[w.heap.size + 1]? = some (.loop (rec' st pe)) → KpO own n₀ A (A.putObj (w.heap.size + 1) o') := fun i A st pe o' hA hlA =>
        ⟨by simp, fun q hq => .inl ((hst i A hA).2 _ (.put hlA rfl (by omega) o') q hq), fun q hq => World.putObj_heap_other (by omega), fun q c t z hc _ => (World.putObj_heap_other (fun e => by first | (subst e; rw [hlA] at hc; cases hc) | (rw [e] at hlA; rw [hlA] at hc; cases hc) | (rw [← e] at hc; rw [hlA] at hc; cases hc))).trans hc⟩
      refine ⟨_, run_beginRound hla rfl, ?_⟩
      have hl2 : (Wa.putObj (w.heap.size + 1) (.loop (rec' .busy none))).heap[w.heap.size + 1]? = some (.loop (rec' .busy none)) := World.putObj_heap_same (by omega)
      have hd2 : (Wa.putObj (w.heap.size + 1) (.loop (rec' .busy none))).heap[w.heap.size]? = some (.deferred (some [])) := (World.putObj_heap_other (by omega)).trans hda
      have hi2 : I k (Wa.putObj (w.heap.size + 1) (.loop (rec' .busy none))) := hI k Wa _ hia (.put hla rfl (by omega) _)
      refine wpIn_mono (hbody _ hi2 ⟨_, _, _, hla, rfl, rfl⟩) ?_
      rintro e a3 W3 hp
      cases e with
      | normal =>
        obtain ⟨hk3, hkp3, hi3⟩ := hp
        have hl3 := hk3.same _ _ hl2 rfl
        have hd3 := hk3.same _ _ hd2 rfl
        have hlt3 := (Array.getElem?_eq_some_iff.1 hl3).1
        refine ⟨_, _, run_endRound (P := P) none hl3, .inl ⟨rfl, ⟨hI (k + 1) W3 _ hi3 (.put hl3 rfl (by omega) _), World.putObj_heap_same hlt3, (World.putObj_heap_other (by omega)).trans hd3⟩, ?_⟩⟩
        exact kpa.trans ((kpp k Wa _ _ _ hia hla).trans (hkp3.trans (kpp (k + 1) W3 _ _ _ hi3 hl3)))
      | exit id =>
        obtain ⟨hk3, hi3⟩ := hp
        have hl3 := hk3.same _ _ hl2 rfl
        have hd3 := hk3.same _ _ hd2 rfl
        have hlt3 := (Array.getElem?_eq_some_iff.1 hl3).1
        exact ⟨_, _, run_endRound (P := P) (some (.exit id)) hl3, .inr ⟨rfl, .exit id, hIx _ k W3 _ hi3 (.put hl3 rfl (by omega) _), World.putObj_heap_same hlt3, (World.putObj_heap_other (by omega)).trans hd3⟩⟩
      | ret => exact hp.elim
      | goto t => exact hp.elim
      | panic ch => exact hp.elim
      | outgrown => exact hp.elim
    · rintro e W2 ⟨⟨v, rfl⟩, ⟨k, hS, hi, hl, hd⟩ | ⟨k, c, hi, hl, hd⟩⟩
      · have hlt2 := (Array.getElem?_eq_some_iff.1 hl).1
        exact ⟨none, _, run_endLoop (P := P) hl (by simp [rec']), hdone _ k _ (Nat.le_refl _) (by simp; omega) hS (hI k W2 _ hi (.put hl rfl (by omega) _)) ((World.putObj_heap_other (by omega)).trans hd)⟩
      · have hlt2 := (Array.getElem?_eq_some_iff.1 hl).1
        exact ⟨some c, _, run_endLoop (P := P) hl (by simp [rec']), hstop _ c k _ (Nat.le_refl _) (by simp; omega) (hIx c k W2 _ hi (.put hl rfl (by omega) _)) ((World.putObj_heap_other (by omega)).trans hd)⟩

end Go.Proofs.Ythgnhjkkfhfgmab

/-
  A law for a range over a function that may be left, whose iterator writes blocks of its own that the rounds read too: what these hold when a round comes is told by its number. No program is named here.
-/
namespace Go.Proofs.Ythgnhjkkfhfgmab
open Go.RowKit

/-- An iterator's contract: so many rounds, each with what its number tells; the caller may leave. -/
def SeqZ (F : Fence) (n : Nat) (P : Program) (g : Nat) (lb : Array Value) (encs : Nat → Array Value) (own : World → Nat → Prop) (n₀ : Nat) (T low : Nat → Prop) (Z Ze : Nat → World → Prop) (N : Nat) (w : World) : Prop :=
  ∀ (l : Nat) (J Jx : Nat → World → Prop) (W : World), Below w.heap.size w W →
    (∀ k A C, J k A → But T A C → J k C) →
    (∀ k A, J k A → (∀ q, own A q → q < A.heap.size) ∧ ∀ C, But T A C → ∀ q, own C q → own A q) → (∀ q, low q → ¬ own W q) → (∀ k A, J k A → k < N) →
    (∀ k W1, J k W1 → Z k W1 → YieldAt F (n - 1) P l (encs k) W1 fun e W' => (e = .returned (.bool true) ∧ J (k + 1) W' ∧ KpO own n₀ W1 W') ∨ (e = .returned (.bool false) ∧ Jx k W')) →
    J 0 W →
    CallsIn F n P g (#[.func (.yield l) #[] #[]] ++ lb) W fun e W' => (∃ v, e = .returned v) ∧ ((∃ k, J k W' ∧ Ze k W') ∨ ∃ k, Jx k W')

variable {F : Fence} {n : Nat} {P : Program}

theorem wpIn_range_z {g : Operand} {ps : Array Tmp} {assign body : Code} {Q : Exit → Act → World → Prop} {a : Act} {w : World}
    (hro : F.round = none) (h1 : 1 ≤ n) {gf : Nat} {lb : Array Value} (hg : a.eval g = .func (.func gf) #[] lb) (hFg : F.fn gf) (eg : ∀ args w, (callFunc gf args).run P w = .ok (.enter gf args) w)
    {encs : Nat → Array Value} {own : World → Nat → Prop} {n₀ : Nat} {T low : Nat → Prop} {Z Ze : Nat → World → Prop} {N : Nat} {w0 : World} (hseq : SeqZ F (n - 1) P gf lb encs own n₀ T low Z Ze N w0)
    (hb0 : Below w0.heap.size w0 w) (hps : ∀ k, (encs k).size = ps.size) (hno : ∀ q, low q → ¬ own w q) (hlo : n₀ ≤ w.heap.size) (hT : ∀ q, T q → q < w.heap.size)
    (I : Nat → World → Prop) (Ix : Code → Nat → World → Prop) (hI : ∀ k A C, I k A → ButR T w.heap.size A C → I k C) (hIx : ∀ c k A C, Ix c k A → ButR (fun _ => False) w.heap.size A C → Ix c k C) (hZ : ∀ k A C, Z k A → ButR (fun _ => False) w.heap.size A C → Z k C) (hZe : ∀ k A C, Ze k A → ButR (fun _ => False) w.heap.size A C → Ze k C)
    (hst : ∀ k A, I k A → (∀ q, own A q → q < A.heap.size) ∧ ∀ C, ButR T w.heap.size A C → ∀ q, own C q → own A q) (h0 : I 0 w) (hN : ∀ k A, I k A → k < N)
    (hround : ∀ (l k : Nat) (W : World), I k W → Z k W → ∃ (a₁ : Act) (Wa : World), Below W.heap.size W Wa ∧
      (∀ K : Act → World → Prop, K a₁ Wa → assign.wpIn (F.inRound l) (n - 1 - 1) P (Exit.then K (fun _ _ _ => False)) { tmps := (ps.zip (encs k)).foldl (fun t (p, v) => t.setIfInBounds p v) a.tmps, defers := [] } W) ∧
      ∀ V : World, I k V → Z k V → (∃ (q : Nat) (o o' : Obj), Wa.heap[q]? = some o ∧ o.isCells = false ∧ V = Wa.putObj q o') → body.wpIn (F.inRound l) (n - 1 - 1) P (postL own n₀ I Ix k V) a₁ V)
    (hdone : ∀ (D k : Nat) (W : World), w.heap.size ≤ D → D < W.heap.size → Ze k W → I k W → W.heap[D]? = some (.deferred (some [])) → Q .normal { a with defers := { target := .collected D, args := #[] } :: a.defers } W)
    (hstop : ∀ (D : Nat) (c : Code) (k : Nat) (W : World), w.heap.size ≤ D → D < W.heap.size → Ix c k W → W.heap[D]? = some (.deferred (some [])) → c.wpIn F n P Q { a with defers := { target := .collected D, args := #[] } :: a.defers } W) :
    (Code.rangeFunc g ps assign body).wpIn F n P Q a w := by
  refine wpIn_rangeFunc fun fn hfn => ?_
  rw [hro]
  let rec' : LoopState → Option Code → Loop := fun st pe => { state := st, pending := pe, fn, tmps := a.tmps, params := ps, assign, body, defers := w.heap.size }
  obtain ⟨W1, hW1⟩ : ∃ W1, (w.alloc (.deferred (some []))).alloc (.loop (rec' .ready none)) = W1 := ⟨_, rfl⟩
  have hL1 : W1.heap[w.heap.size + 1]? = some (.loop (rec' .ready none)) := by
    rw [← hW1]; have := World.alloc_heap_new (w.alloc (.deferred (some []))) (.loop (rec' .ready none)); rwa [World.size_alloc] at this
  have hD1 : W1.heap[w.heap.size]? = some (.deferred (some [])) := by
    rw [← hW1]; exact (Below.heap_alloc _ _ _ (by simp)).trans (World.alloc_heap_new w _)
  have hw1 : Below w.heap.size w W1 := by
    rw [← hW1]; exact ((Below.refl _ w).alloc (Nat.le_refl _) _).alloc (by simp) _
  have hI1 : I 0 W1 := hI 0 w W1 h0 (.of_below hw1)
  have hb1 : Below w0.heap.size w0 W1 := hb0.trans (hw1.mono hb0.size)
  have hno1 : ∀ q, low q → ¬ own W1 q := fun q hq ho => hno q hq ((hst 0 w h0).2 W1 (.of_below hw1) q ho)
  refine ⟨w.heap.size + 1, [{ target := .collected w.heap.size, args := #[] }], W1, { target := .fn (.func gf) lb, args := #[.func (.yield (w.heap.size + 1)) #[] #[]] }, W1, gf,
    #[.func (.yield (w.heap.size + 1)) #[] #[]] ++ lb, W1, ?_, ?_, ?_, ?_, fun _ => h1, ?_⟩
  · rw [← hW1]; exact run_enterLoop_outer _ _ _ _ _
  · simp only [resolve, hg]
    simp [go_sem]
  · intro f' hf'; simp [Target.leads] at hf'; subst hf'; exact hFg
  · simp [invoke, go_sem, eg]
  · let Bk : LoopState → Option Code → World → Prop := fun st pe W => W.heap[w.heap.size + 1]? = some (.loop (rec' st pe)) ∧ W.heap[w.heap.size]? = some (.deferred (some []))
    have bkT : ∀ (st : LoopState) (pe : Option Code) (A C : World), Bk st pe A → But T A C → Bk st pe C := fun st pe A C h hb =>
      ⟨(hb.block _ (Array.getElem?_eq_some_iff.1 h.1).1 (fun ht => by have := hT _ ht; omega)).trans h.1, (hb.block _ (Array.getElem?_eq_some_iff.1 h.2).1 (fun ht => by have := hT _ ht; omega)).trans h.2⟩
    refine (hseq (w.heap.size + 1) (fun k W => I k W ∧ Bk .ready none W) (fun k W => ∃ c, Ix c k W ∧ Bk .done (some c) W) W1 hb1
      (fun k A C h hb => ⟨hI k A C h.1 (.of_but hb), bkT _ _ A C h.2 hb⟩)
      (fun k A h => ⟨(hst k A h.1).1, fun C hb q hq => (hst k A h.1).2 C (.of_but hb) q hq⟩) hno1 (fun k A h => hN k A h.1) ?_ ⟨hI1, hL1, hD1⟩).mono ?_
    · rintro k W ⟨hi, hl, hd⟩ hz
      have hlt : w.heap.size + 1 < W.heap.size := (Array.getElem?_eq_some_iff.1 hl).1
      obtain ⟨a₁, Wa, ba, hassign, hbody⟩ := hround (w.heap.size + 1) k W hi hz
      refine ⟨fn, _, assign, body, run_yield (P := P) (args := encs k) hl (hps k), roundIn_of_wpIn hfn (hassign _ ?_)⟩
      have hs := hst k W hi
      have kpa : KpO own n₀ W Wa := ⟨ba.size, fun q hq => .inl (hs.2 Wa (.of_below ba) q hq), fun q hq => ba.block q (by omega), fun q c t z hc _ => (ba.block q (Array.getElem?_eq_some_iff.1 hc).1).trans hc⟩
      have hia : I k Wa := hI k W Wa hi (.of_below ba)
      have hla := (ba.block _ hlt).trans hl
      have hda := (ba.block _ (by omega)).trans hd
      have sa := ba.size
      have kpp : ∀ (i : Nat) (A : World) (st : LoopState) (pe : Option Code) (o' : Obj), I i A → A.heap[w.heap.size + 1]? = some (.loop (rec' st pe)) → KpO own n₀ A (A.putObj (w.heap.size + 1) o') := fun i A st pe o' hA hlA =>
        ⟨by simp, fun q hq => .inl ((hst i A hA).2 _ (.put hlA rfl (by omega) o') q hq), fun q hq => World.putObj_heap_other (by omega), fun q c t z hc _ => (World.putObj_heap_other (fun e => by first | (subst e; rw [hlA] at hc; cases hc) | (rw [e] at hlA; rw [hlA] at hc; cases hc) | (rw [← e] at hc; rw [hlA] at hc; cases hc))).trans hc⟩
      refine ⟨_, run_beginRound hla rfl, ?_⟩
      have hl2 : (Wa.putObj (w.heap.size + 1) (.loop (rec' .busy none))).heap[w.heap.size + 1]? = some (.loop (rec' .busy none)) := World.putObj_heap_same (by omega)
      have hd2 : (Wa.putObj (w.heap.size + 1) (.loop (rec' .busy none))).heap[w.heap.size]? = some (.deferred (some [])) := (World.putObj_heap_other (by omega)).trans hda
      have hi2 : I k (Wa.putObj (w.heap.size + 1) (.loop (rec' .busy none))) := hI k Wa _ hia (.put hla rfl (by omega) _)
      have hz2 : Z k (Wa.putObj (w.heap.size + 1) (.loop (rec' .busy none))) := hZ k Wa _ (hZ k W Wa hz (.of_below ba)) (.put hla rfl (by omega) _)
      refine wpIn_mono (hbody _ hi2 hz2 ⟨_, _, _, hla, rfl, rfl⟩) ?_
      rintro e a3 W3 hp
      cases e with
      | normal =>
        obtain ⟨hk3, hkp3, hi3⟩ := hp
        have hl3 := hk3.same _ _ hl2 rfl
        have hd3 := hk3.same _ _ hd2 rfl
        have hlt3 := (Array.getElem?_eq_some_iff.1 hl3).1
        refine ⟨_, _, run_endRound (P := P) none hl3, .inl ⟨rfl, ⟨hI (k + 1) W3 _ hi3 (.put hl3 rfl (by omega) _), World.putObj_heap_same hlt3, (World.putObj_heap_other (by omega)).trans hd3⟩, ?_⟩⟩
        exact kpa.trans ((kpp k Wa _ _ _ hia hla).trans (hkp3.trans (kpp (k + 1) W3 _ _ _ hi3 hl3)))
      | exit id =>
        obtain ⟨hk3, hi3⟩ := hp
        have hl3 := hk3.same _ _ hl2 rfl
        have hd3 := hk3.same _ _ hd2 rfl
        have hlt3 := (Array.getElem?_eq_some_iff.1 hl3).1
        exact ⟨_, _, run_endRound (P := P) (some (.exit id)) hl3, .inr ⟨rfl, .exit id, hIx _ k W3 _ hi3 (.put hl3 rfl (by omega) _), World.putObj_heap_same hlt3, (World.putObj_heap_other (by omega)).trans hd3⟩⟩
      | ret => exact hp.elim
      | goto t => exact hp.elim
      | panic ch => exact hp.elim
      | outgrown => exact hp.elim
    · rintro e W2 ⟨⟨v, rfl⟩, ⟨k, ⟨hi, hl, hd⟩, hze⟩ | ⟨k, c, hi, hl, hd⟩⟩
      · have hlt2 := (Array.getElem?_eq_some_iff.1 hl).1
        exact ⟨none, _, run_endLoop (P := P) hl (by simp [rec']), hdone _ k _ (Nat.le_refl _) (by simp; omega) (hZe k W2 _ hze (.put hl rfl (by omega) _)) (hI k W2 _ hi (.put hl rfl (by omega) _)) ((World.putObj_heap_other (by omega)).trans hd)⟩
      · have hlt2 := (Array.getElem?_eq_some_iff.1 hl).1
        exact ⟨some c, _, run_endLoop (P := P) hl (by simp [rec']), hstop _ c k _ (Nat.le_refl _) (by simp; omega) (hIx c k W2 _ hi (.put hl rfl (by omega) _)) ((World.putObj_heap_other (by omega)).trans hd)⟩

end Go.Proofs.Ythgnhjkkfhfgmab

/-
  Contracts of the program's firstThatCan, areAllGone and inTurn.
-/
namespace Go.Proofs.Ythgnhjkkfhfgmab
open Go.RowKit Go.Sort

set_option maxRecDepth 100000 in
set_option maxHeartbeats 8000000 in
theorem first_any {T : List ByteArray} {Bs : List DShareBatch} (hok : BokP (T, Bs)) (B g : Nat) (v : Value) (gone : List ByteArray) (w : World) (h : Lv B w g v (lvL T Bs gone) (freM T Bs gone)) :
    Calls Try.prog 42 #[.pointer (some ⟨g, 0, none⟩)] w fun e w' => ((nxtI Bs gone < 0 ∧ e = .returned (.tuple #[.int .i64 0, .bool false])) ∨ (¬ nxtI Bs gone < 0 ∧ e = .returned (.tuple #[.int .i64 (nxtI Bs gone), .bool true]))) ∧ Below w.heap.size w w' := by
  obtain ⟨ov, kv, hv⟩ := Row.form h.row
  rw [lv_len] at hv
  obtain ⟨n, en⟩ : ∃ n, Bs.length = n := ⟨_, rfl⟩
  have EN : Hid (Bs.length ≤ n ∧ n ≤ Bs.length) := ⟨by omega, by omega⟩
  have hn5 : n ≤ 5 := by have := hok.len; simp only at this; omega
  rw [en] at hv
  subst hv
  obtain ⟨y0, _⟩ := cell_row h.box 0 _ rfl
  have N8 := (bok_things hok).1
  have HL : Hid (Lv B w g (.slice ov n kv) (lvL T Bs gone) (freM T Bs gone)) := h
  have CAN : Hid (∀ q (hq : q < Bs.length) u, Below w.heap.size w u → Calls Try.prog 31 #[.pointer (some ⟨g, 0, none⟩), .int .i64 q] u fun e w' => e = .returned (.bool (freeB Bs gone q)) ∧ Below u.heap.size u w') := fun q hq u hu => by
    have eL := lv_at T gone hq
    have := canGo_any _ g _ _ _ q u (HL.out.below hu) (by rw [lv_len]; exact hq) (by rw [eL]; exact hasM_lt N8 _) (by rw [eL]; exact hasM_lt N8 _) (freM_lt N8 _ _)
    rw [eL, go_can hok hq] at this
    rw [show freeB Bs gone q = (!(hasB gone Bs[q].1) && canB Bs q gone) by unfold freeB; rw [btN_at hq]]
    exact this
  have OK : Hid _ := hok
  clear h en hok
  go_enter Try.func42, Try.ntmps42
  go_wp2_with fail
  go_loopw [10] (fun i wr => ∃ k : Nat, k ≤ n ∧ i = .int .i64 k ∧ Hid (∀ j, j < k → freeB Bs gone j = false) ∧ Hid (Below w.heap.size w wr)) (fun i _ => n - (intOf i).toNat)
  case atStart => exact ⟨0, Nat.zero_le _, rfl, fun _ h => by omega, Below.refl _ _⟩
  case round =>
    obtain ⟨k, hk, rfl, hno, hbel⟩ := hrel
    by_cases hlt : k < n
    case neg =>
      go_wp2_with fail
      have e1 : nxtI Bs gone = -1 := nxt_no fun j hj => hno.out j (by have := EN.out; omega)
      exact bodyPost_ret (v := .tuple #[.int .i64 0, .bool false]) (by simp [results, Try.results42, go_sem]) rfl ⟨.inl ⟨by rw [e1]; omega, rfl⟩, hbel.out⟩
    have hkb : k < Bs.length := by have := EN.out; omega
    cases hf : freeB Bs gone k
    · have C := CAN.out k hkb wr hbel.out
      rw [hf] at C
      have HC : Hid _ := C
      clear C
      go_wp2_with fail
      refine Calls.mono HC.out ?_
      rintro e w1 ⟨rfl, hb1⟩
      go_wp2_with fail
      go_roundw
      case rel => exact ⟨k + 1, by omega, by go_num, fun j hj => by
        by_cases e : j = k
        · subst e; exact hf
        · exact hno.out j (by omega), hbel.out.trans (hb1.mono hbel.out.size)⟩
      case measure => simp [intOf]; omega
    · have C := CAN.out k hkb wr hbel.out
      rw [hf] at C
      have HC : Hid _ := C
      clear C
      go_wp2_with fail
      refine Calls.mono HC.out ?_
      rintro e w1 ⟨rfl, hb1⟩
      go_wp2_with fail
      have e1 : nxtI Bs gone = (k : Int) := nxt_yes hkb hf hno.out
      exact bodyPost_ret (v := .tuple #[.int .i64 k, .bool true]) (by simp [results, Try.results42, go_sem]) rfl ⟨.inr ⟨by rw [e1]; omega, by rw [e1]⟩, hbel.out.trans (hb1.mono hbel.out.size)⟩

set_option maxRecDepth 100000 in
set_option maxHeartbeats 4000000 in
theorem there_any (x y : Nat) (b : Bool) (w : World) : Calls Try.prog 45 #[.agg #[.int .u32 x, .int .u32 y, .bool b]] w fun e w' => e = .returned (.bool (!b)) ∧ Below w.heap.size w w' := by
  cases b
  · go_enter Try.func45, Try.ntmps45
    go_wp2
    go_ret
    exact ⟨rfl, (Below.refl _ _).alloc (Nat.le_refl _) _⟩
  · go_enter Try.func45, Try.ntmps45
    go_wp2
    go_ret
    exact ⟨rfl, (Below.refl _ _).alloc (Nat.le_refl _) _⟩

set_option maxRecDepth 100000 in
set_option maxHeartbeats 4000000 in
theorem thereIdx_any (B : Nat) (v : Value) (L : List (Nat × Nat × Bool)) (w : World) (h : Row w B 74 3 eG v L) :
    Calls Try.prog 62 #[v, .func (.func 45) #[] #[]] w fun e w' => e = .returned (.int .i64 (idxI L (fun p => !p.2.2))) ∧ Below w.heap.size w w' := by
  have hlen := Row.len h
  have HR : Hid (Row w B 74 3 eG v L) := h
  obtain ⟨ov, kv, hv⟩ := Row.form h
  obtain ⟨n, en⟩ : ∃ n, L.length = n := ⟨_, rfl⟩
  have EN : Hid (L.length ≤ n ∧ n ≤ L.length) := ⟨by omega, by omega⟩
  rw [en] at hv hlen
  unfold maxLen at hlen
  rw [hv] at HR
  rw [hv]
  clear h hv en
  go_enter Try.func62, Try.ntmps62
  go_wp2_with fail
  go_loopw [8] (fun i wr => ∃ k : Nat, k ≤ n ∧ i = .int .i64 k ∧ Hid (∀ j (hj : j < L.length), j < k → (!L[j].2.2) = false) ∧ Hid (Below w.heap.size w wr)) (fun i _ => n - (intOf i).toNat)
  case atStart => exact ⟨0, Nat.zero_le _, rfl, fun _ _ h => by omega, Below.refl _ _⟩
  case round =>
    obtain ⟨k, hk, rfl, hno, hbel⟩ := hrel
    by_cases hlt : k < n
    case neg =>
      go_wp2_with fail
      go_ret
      rw [idx_no (fun j hj => hno.out j hj (by have := EN.out; omega))]
      exact ⟨rfl, hbel.out⟩
    have hkL : k < L.length := by have := EN.out; omega
    obtain ⟨r, cap, e', _, _, hc⟩ := Row.cell (Row.below HR.out hbel.out) hkL
    have hov : ov = some ⟨r, 0, none⟩ := by injection e'
    subst hov
    obtain ⟨⟨x, y, b⟩, ep⟩ : ∃ p, L[k] = p := ⟨_, rfl⟩
    have c0 := (hc 0 (by omega)).1
    have c1 := (hc 1 (by omega)).1
    have c2 := (hc 2 (by omega)).1
    rw [ep] at c0 c1 c2
    rw [Nat.add_zero] at c0
    have c0' : wr.cell? ⟨r, k * 3, none⟩ = some (.int .u32 x) := c0
    have c1' : wr.cell? ⟨r, k * 3 + 1, none⟩ = some (.int .u32 y) := c1
    have c2' : wr.cell? ⟨r, k * 3 + 2, none⟩ = some (.bool b) := c2
    have EP : Hid ((!L[k].2.2) = !b) := by show _ = _; rw [ep]
    clear c0 c1 c2 hc ep e'
    go_wp2_with fail
    refine (there_any x y b wr).mono ?_
    rintro e w1 ⟨rfl, hb1⟩
    clear c0' c1' c2'
    cases b
    · go_wp2_with fail
      go_ret
      rw [idx_yes (k := k) hkL EP.out hno.out]
      exact ⟨rfl, hbel.out.trans (hb1.mono hbel.out.size)⟩
    · go_wp2_with fail
      go_roundw
      case rel => exact ⟨k + 1, by omega, by go_num, fun j hj hjk => by
        by_cases e : j = k
        · subst e; exact EP.out
        · exact hno.out j hj (by omega), hbel.out.trans (hb1.mono hbel.out.size)⟩
      case measure => simp [intOf]; omega

theorem idx_anyG (l : List (Nat × Nat × Bool)) (p : Nat × Nat × Bool → Bool) : decide (0 ≤ idxI l p) = l.any p := by
  unfold idxI
  cases e : l.findIdx? p with
  | none =>
    rw [List.findIdx?_eq_none_iff] at e
    have : l.any p = false := List.any_eq_false.2 (fun x hx => by rw [e x hx]; simp)
    rw [this]; decide
  | some i =>
    obtain ⟨hi, h1, _⟩ := List.findIdx?_eq_some_iff_getElem.1 e
    rw [List.any_eq_true.2 ⟨_, List.getElem_mem hi, h1⟩]
    simp
theorem all_lv (T : List ByteArray) (Bs : List DShareBatch) (gone : List ByteArray) : (!((lvL T Bs gone).any fun p => !p.2.2)) = allG Bs gone := by
  unfold lvL allG
  rw [List.any_map]
  rfl

set_option maxRecDepth 100000 in
set_option maxHeartbeats 4000000 in
theorem allGone_any (T : List ByteArray) (Bs : List DShareBatch) (B g : Nat) (v : Value) (gone : List ByteArray) (fr : Nat) (w : World) (h : Lv B w g v (lvL T Bs gone) fr) :
    Calls Try.prog 20 #[.pointer (some ⟨g, 0, none⟩)] w fun e w' => e = .returned (.bool (allG Bs gone)) ∧ Below w.heap.size w w' := by
  rw [← all_lv T Bs gone, ← idx_anyG]
  obtain ⟨X, hX⟩ : ∃ X, X = idxI (lvL T Bs gone) (fun p => !p.2.2) := ⟨_, rfl⟩
  have HI : Hid (Calls Try.prog 62 #[v, .func (.func 45) #[] #[]] w fun e w' => e = .returned (.int .i64 X) ∧ Below w.heap.size w w') := by
    rw [hX]; exact thereIdx_any B v _ w h.row
  rw [← hX]
  clear hX
  have HC : Hid (Calls Try.prog 44 #[v, .func (.func 45) #[] #[]] w fun e w' => e = .returned (.bool (decide (0 ≤ X))) ∧ Below w.heap.size w w') := by
    show Calls _ _ _ _ _
    go_enter Try.func44, Try.ntmps44
    go_wp2_with fail
    refine Calls.mono HI.out ?_
    rintro e w1 ⟨rfl, hb1⟩
    go_wp2_with fail
    go_ret
    exact ⟨rfl, hb1⟩
  obtain ⟨ov, kv, hv⟩ := Row.form h.row
  obtain ⟨n, en⟩ : ∃ n, (lvL T Bs gone).length = n := ⟨_, rfl⟩
  rw [en] at hv
  subst hv
  obtain ⟨y0, _⟩ := cell_row h.box 0 _ rfl
  clear h en HI
  go_enter Try.func20, Try.ntmps20
  go_wp2_with fail
  refine Calls.mono HC.out ?_
  rintro e w1 ⟨rfl, hb1⟩
  go_wp2_with fail
  go_ret
  exact ⟨rfl, hb1⟩

set_option maxRecDepth 100000 in
set_option maxHeartbeats 4000000 in
theorem inTurn_any (p : Value) (hp : ∃ a, p = .pointer (some a)) (w : World) : Calls Try.prog 18 #[p] w fun e w' => e = .returned (.func (.func 41) #[] #[.pointer (some ⟨w.heap.size, 0, none⟩)]) ∧ w' = w.alloc (.cells #[p] 39) := by
  obtain ⟨a, rfl⟩ := hp
  have hmf : ∀ (fn : Fn) (first cap : Array Value) (w : World), (Instr.makeFunc fn first cap).run Try.prog w = .ok (.func fn first cap) w := fun _ _ _ _ => rfl
  go_enter Try.func18, Try.ntmps18
  go_wp2
  go_ret
  exact ⟨rfl, rfl⟩

end Go.Proofs.Ythgnhjkkfhfgmab

/-
  Who goes, told one by one by the program's iterator: what it hands on, what it keeps, and that it may be left.
-/
namespace Go.Proofs.Ythgnhjkkfhfgmab
open Go.RowKit Go.Shelf

attribute [local go_sem] Oper.semAt_some

/-- What is kept, by the rounds. -/
abbrev LvG (T : List ByteArray) (Bs : List DShareBatch) (B g : Nat) (v : Value) (u : World) (k : Nat) : Prop := Lv B u g v (lvL T Bs (gnS Bs k)) (freM T Bs (gnS Bs k))
/-- Somebody can go in round k; nobody can. -/
def Goes (Bs : List DShareBatch) (k : Nat) : Prop := ¬ nxtI Bs (gnS Bs k) < 0
def Ends (Bs : List DShareBatch) (k : Nat) : Prop := nxtI Bs (gnS Bs k) < 0
/-- What the iterator knows between two rounds: k rounds are over, m have gone. -/
structure ItZ (J : Nat → World → Prop) (own : World → Nat → Prop) (T : List ByteArray) (Bs : List DShareBatch) (cb B g : Nat) (v : Value) (X : World) (k m : Nat) : Prop where
  j : J k X
  cbx : X.heap[cb]? = some (.cells #[.pointer (some ⟨g, 0, none⟩)] 39 (0, 0))
  lv : LvG T Bs B g v X m
  no : ∀ q, (q = cb ∨ lvS g v q) → ¬ own X q
section
variable {J : Nat → World → Prop} {own : World → Nat → Prop} {T : List ByteArray} {Bs : List DShareBatch} {cb B g n₀ : Nat} {v : Value} {X Y : World} {k m : Nat}
theorem ItZ.lt (h : ItZ J own T Bs cb B g v X k m) : ∀ q, (q = cb ∨ lvS g v q) → q < X.heap.size := fun q hq => by
  rcases hq with rfl | rfl | hq
  · exact (Array.getElem?_eq_some_iff.1 h.cbx).1
  · exact h.lv.lt
  · exact (World.ownsRow.lt h.lv.row q hq).2
theorem lv_apart {L : List (Nat × Nat × Bool)} {fr : Nat} (h : Lv B X g v L fr) {c : Array Value} (hc : X.heap[cb]? = some (.cells c 39 (0, 0))) : ¬ lvS g v cb := fun e => by
  rcases e with rfl | e
  · have := h.box
    rw [hc] at this
    injection this with h1
    injection h1 with _ h2
    revert h2
    decide
  · obtain ⟨c', hc'⟩ := Row.typed h.row cb e
    rw [hc] at hc'
    injection hc' with h1
    injection h1 with _ h2
    revert h2
    decide
theorem ItZ.yield (h : ItZ J own T Bs cb B g v X k m) (hk : KpO own n₀ X Y) (hj : J (k + 1) Y) : ItZ J own T Bs cb B g v Y (k + 1) m :=
  ⟨hj, hk.blk _ _ _ _ h.cbx (h.no _ (.inl rfl)), ⟨Row.block h.lv.row (fun q hq => by
    obtain ⟨c, hc⟩ := Row.typed h.lv.row q hq
    rw [hc]; exact hk.blk _ _ _ _ hc (h.no q (.inr (.inr hq)))), hk.blk _ _ _ _ h.lv.box (h.no _ (.inr (.inl rfl))), h.lv.low⟩, fun q hq ho => by
    rcases hk.old q ho with h1 | h1
    · exact h.no q hq h1
    · have := h.lt q hq
      omega⟩
theorem ItZ.below (h : ItZ J own T Bs cb B g v X k m) (hb : Below X.heap.size X Y) (hJ : ∀ k A C, J k A → But (lvS g v) A C → J k C) (hst : ∀ k A, J k A → (∀ q, own A q → q < A.heap.size) ∧ ∀ C, But (lvS g v) A C → ∀ q, own C q → own A q) : ItZ J own T Bs cb B g v Y k m :=
  ⟨hJ k X Y h.j (But.of_below hb), (hb.block _ (h.lt cb (.inl rfl))).trans h.cbx, h.lv.below hb, fun q hq ho => h.no q hq ((hst k X h.j).2 Y (But.of_below hb) q ho)⟩
theorem ItZ.go {m' : Nat} (h : ItZ J own T Bs cb B g v X k m) (hb : But (lvS g v) X Y) (hl : LvG T Bs B g v Y m') (hJ : ∀ k A C, J k A → But (lvS g v) A C → J k C) (hst : ∀ k A, J k A → (∀ q, own A q → q < A.heap.size) ∧ ∀ C, But (lvS g v) A C → ∀ q, own C q → own A q) : ItZ J own T Bs cb B g v Y k m' :=
  ⟨hJ k X Y h.j hb, (hb.block _ (h.lt cb (.inl rfl)) (lv_apart h.lv h.cbx)).trans h.cbx, hl, fun q hq ho => h.no q hq ((hst k X h.j).2 Y hb q ho)⟩
end
/-- How many are there yet, read off the memory. -/
def mzV (v : Value) (w : World) : Nat := match v with
  | .slice (some a) n _ => ((List.range n).map fun i => match w.cell? ⟨a.block, i * 3 + 2, none⟩ with
    | some (.bool b) => b
    | _ => false).countP (fun b => !b)
  | _ => 0
theorem mzV_at {B g : Nat} {w : World} {v : Value} {L : List (Nat × Nat × Bool)} {fr : Nat} (h : Lv B w g v L fr) : mzV v w = (L.map (·.2.2)).countP (fun b => !b) := by
  obtain ⟨ov, kv, hv⟩ := Row.form h.row
  cases hL : L with
  | nil =>
    rw [hL] at hv
    rw [hv]
    cases ov <;> rfl
  | cons p L' =>
    rw [← hL]
    obtain ⟨r, cap, hv', _⟩ := h.cell (a := 0) (by rw [hL]; simp)
    rw [hv']
    unfold mzV
    simp only
    congr 1
    apply List.ext_getElem
    · simp
    · intro i h1 h2
      have hi : i < L.length := by simpa using h2
      obtain ⟨r', cap', hv'', _, _, _, _, _, c2, _⟩ := h.cell hi
      rw [hv'] at hv''
      injection hv'' with e1
      injection e1 with e1
      injection e1 with e1
      subst e1
      simp only [List.getElem_map, List.getElem_range]
      rw [c2]
theorem cnt_less {α : Type} {P Q : α → Bool} : ∀ {l : List α}, (∀ x ∈ l, Q x = true → P x = true) → (∃ x ∈ l, P x = true ∧ Q x = false) → l.countP Q < l.countP P
  | [], _, ⟨x, hx, _⟩ => by cases hx
  | y :: l, h, ⟨x, hx, h1, h2⟩ => by
    have le : l.countP Q ≤ l.countP P := List.countP_mono_left (fun z hz => h z (by simp [hz]))
    rw [List.countP_cons, List.countP_cons]
    rcases List.mem_cons.1 hx with rfl | hx
    · rw [h1, h2]; simp; omega
    · have ih := cnt_less (P := P) (Q := Q) (fun z hz => h z (by simp [hz])) ⟨x, hx, h1, h2⟩
      have := h y (by simp)
      cases hq : Q y
      · simp; omega
      · rw [this hq]; simp; omega
theorem lv_cnt (T : List ByteArray) (Bs : List DShareBatch) (gone : List ByteArray) : ((lvL T Bs gone).map (·.2.2)).countP (fun b => !b) = Bs.countP (fun f => !(hasB gone f.1)) := by
  unfold lvL
  rw [List.map_map, List.countP_map]
  rfl
theorem cnt_next {Bs : List DShareBatch} {k : Nat} (h : ¬ nxtI Bs (gnS Bs k) < 0) : Bs.countP (fun f => !(hasB (gnS Bs (k + 1)) f.1)) < Bs.countP (fun f => !(hasB (gnS Bs k) f.1)) := by
  obtain ⟨q, eq, hq, hg, _⟩ := nxt_free h
  refine cnt_less (fun f _ hf => ?_) ⟨Bs[q], List.getElem_mem hq, by rw [hg]; rfl, ?_⟩
  · rw [gnS, hasB_snoc] at hf
    cases e : hasB (gnS Bs k) f.1
    · rfl
    · rw [e] at hf; simp at hf
  · rw [gnS, hasB_snoc, eq, Int.toNat_natCast, btN_at hq, eqB_refl, Bool.or_true]; rfl

set_option maxRecDepth 100000 in
set_option maxHeartbeats 16000000 in
theorem turns_any (n cb g B n₀ N : Nat) (hn : 2 ≤ n) {T : List ByteArray} {Bs : List DShareBatch} (hok : BokP (T, Bs)) (v : Value) (own : World → Nat → Prop) (w : World)
    (hcb : w.heap[cb]? = some (.cells #[.pointer (some ⟨g, 0, none⟩)] 39 (0, 0))) (hlv : LvG T Bs B g v w 0) :
    SeqZ Fence.wide n Try.prog 41 #[.pointer (some ⟨cb, 0, none⟩)] (fun k => #[.int .i64 (nxtI Bs (gnS Bs k))]) own n₀ (lvS g v) (fun q => q = cb ∨ lvS g v q) (fun k u => Vd Bs (k + 1) ∧ LvG T Bs B g v u (k + 1)) (fun k u => (Vd Bs k ∧ Ends Bs k) ∧ LvG T Bs B g v u k) N w := by
  intro l J Jx W hW hJ hst hno hN hY h0
  have lcb : cb < w.heap.size := (Array.getElem?_eq_some_iff.1 hcb).1
  have B0 : Hid (ItZ J own T Bs cb B g v W 0 0) := ⟨h0, (hW.block cb lcb).trans hcb, hlv.below hW, hno⟩
  have HY : Hid _ := hY
  have HJ : Hid _ := hJ
  have HST : Hid _ := hst
  have OK : Hid (BokP (T, Bs)) := hok
  have FIRST : Hid (∀ (m : Nat) (u : World), LvG T Bs B g v u m → Calls Try.prog 42 #[.pointer (some ⟨g, 0, none⟩)] u fun e w' => ((Ends Bs m ∧ e = .returned (.tuple #[.int .i64 0, .bool false])) ∨ (Goes Bs m ∧ e = .returned (.tuple #[.int .i64 (nxtI Bs (gnS Bs m)), .bool true]))) ∧ Below u.heap.size u w') := fun m u hu => first_any OK.out B g v (gnS Bs m) u hu
  have LETGO : Hid (∀ (m : Nat) (u : World), LvG T Bs B g v u m → Goes Bs m → Calls Try.prog 32 #[.pointer (some ⟨g, 0, none⟩), .int .i64 (nxtI Bs (gnS Bs m))] u fun e w' => e = .returned (.tuple #[]) ∧ LvG T Bs B g v w' (m + 1) ∧ But (lvS g v) u w') := fun m u hu hn => by
    obtain ⟨q, eq, hq, hg, _⟩ := nxt_free hn
    have N8 := (bok_things OK.out).1
    have eL := lv_at T (gnS Bs m) hq
    rw [eq]
    refine (letGo_any B g v _ _ q u hu (by rw [lv_len]; exact hq) (by rw [eL]; exact hasM_lt N8 _) (freM_lt N8 _ _)).mono fun e w' ⟨h1, h2, h3⟩ => ⟨h1, ?_, h3⟩
    rw [eL] at h2
    have := Lv.gone OK.out hq hg h2
    show Lv _ _ _ _ _ _
    rw [gnS, eq, Int.toNat_natCast, btN_at hq]
    exact this
  clear hY hJ hst hno hN hlv hcb h0 hW hok lcb
  have x0 := (cell_row B0.out.cbx 0 (.pointer (some ⟨g, 0, none⟩)) rfl).1
  refine callsIn_of_wp Try.func41 rfl trivial ?_ rfl
  simp only [Try.ntmps41, List.size_toArray, List.length_cons, List.length_nil, Nat.reduceAdd, Nat.reduceSub, Array.replicate_succ, Array.replicate_zero, List.push_toArray, List.append_toArray, List.nil_append, List.cons_append]
  gi_upto_region 0 with fail
  refine wpIn_wide.2 ?_
  go_wp2_with fail
  refine Calls.mono (FIRST.out 0 W B0.out.lv) ?_
  rintro e u0 ⟨hcase, hb0⟩
  have I0 : Hid (ItZ J own T Bs cb B g v u0 0 0) := B0.out.below hb0 HJ.out HST.out
  clear hb0 x0
  obtain ⟨ax, ox, rfl, hax⟩ : ∃ (a : Int) (o : Bool), e = .returned (.tuple #[.int .i64 a, .bool o]) ∧ ((o = false ∧ Ends Bs 0) ∨ (o = true ∧ Goes Bs 0 ∧ a = nxtI Bs (gnS Bs 0))) := by
    rcases hcase with ⟨h1, h2⟩ | ⟨h1, h2⟩
    · exact ⟨0, false, h2, .inl ⟨rfl, h1⟩⟩
    · exact ⟨_, true, h2, .inr ⟨rfl, h1, rfl⟩⟩
  have HAX : Hid _ := hax
  clear hcase hax
  go_wp2_with fail
  gi_wp2
  gi_loopw [3, 4] (fun a o wr => ∃ (k : Nat) (ax : Int) (ox : Bool), a = .int .i64 ax ∧ o = .bool ox ∧ Hid ((ox = false ∧ Ends Bs k) ∨ (ox = true ∧ Goes Bs k ∧ ax = nxtI Bs (gnS Bs k))) ∧ Hid (Vd Bs k) ∧ Hid (ItZ J own T Bs cb B g v wr k k)) (fun _ _ wr => mzV v wr)
  case atStart => exact ⟨0, ax, ox, rfl, rfl, HAX, fun j hj => by omega, I0⟩
  case round =>
    obtain ⟨k, ay, oy, rfl, rfl, hay, hvd, HB⟩ := hrel
    cases oy
    · have hneg : Ends Bs k := by
        rcases hay.out with ⟨_, h⟩ | ⟨h, _⟩
        · exact h
        · cases h
      have HNEG : Hid (Ends Bs k) := hneg
      clear hneg hay
      gi_wp2
      go_end0
      exact ⟨⟨_, rfl⟩, .inl ⟨k, HB.out.j, ⟨hvd.out, HNEG.out⟩, HB.out.lv⟩⟩
    · obtain ⟨hpos, rfl⟩ : Goes Bs k ∧ ay = nxtI Bs (gnS Bs k) := by
        rcases hay.out with ⟨h, _⟩ | ⟨_, h⟩
        · cases h
        · exact h
      have HPOS : Hid (Goes Bs k) := hpos
      have CL : Hid _ := LETGO.out k wr HB.out.lv hpos
      clear hpos hay
      have x0 := (cell_row HB.out.cbx 0 (.pointer (some ⟨g, 0, none⟩)) rfl).1
      gi_upto_region 3 with fail
      refine wpIn_wide.2 ?_
      go_wp2_with fail
      refine Calls.mono CL.out ?_
      rintro e W2 ⟨rfl, hl2, hb2⟩
      have I2 : Hid (ItZ J own T Bs cb B g v W2 k (k + 1)) := HB.out.go hb2 hl2 HJ.out HST.out
      have V1 : Hid (Vd Bs (k + 1)) := hvd.out.up HPOS.out
      have M2 : Hid (mzV v W2 < mzV v wr) := by
        show _ < _
        rw [mzV_at hl2, mzV_at HB.out.lv, lv_cnt, lv_cnt]
        exact cnt_next HPOS.out
      clear hl2 hb2 CL x0
      go_wp2_with fail
      have hY := HY.out k W2 I2.out.j ⟨V1.out, I2.out.lv⟩
      obtain ⟨fn, tmps, assign, body, hy, hR⟩ := hY
      gi_wp2
      refine ⟨(fun _ => by omega), hR.mono ?_⟩
      rintro e W3 (⟨rfl, hJ3, hk3⟩ | ⟨rfl, hJx3⟩)
      · have I3 : Hid (ItZ J own T Bs cb B g v W3 (k + 1) (k + 1)) := I2.out.yield hk3 hJ3
        clear hk3 hJ3 hR hy
        have x0 := (cell_row I3.out.cbx 0 (.pointer (some ⟨g, 0, none⟩)) rfl).1
        gi_upto_region 2 with fail
        refine wpIn_wide.2 ?_
        go_wp2_with fail
        refine Calls.mono (FIRST.out (k + 1) W3 I3.out.lv) ?_
        rintro e u4 ⟨hcase, hb4⟩
        have I4 : Hid (ItZ J own T Bs cb B g v u4 (k + 1) (k + 1)) := I3.out.below hb4 HJ.out HST.out
        clear hb4 x0
        obtain ⟨az, oz, rfl, haz⟩ : ∃ (a : Int) (o : Bool), e = .returned (.tuple #[.int .i64 a, .bool o]) ∧ ((o = false ∧ Ends Bs (k + 1)) ∨ (o = true ∧ Goes Bs (k + 1) ∧ a = nxtI Bs (gnS Bs (k + 1)))) := by
          rcases hcase with ⟨h1, h2⟩ | ⟨h1, h2⟩
          · exact ⟨0, false, h2, .inl ⟨rfl, h1⟩⟩
          · exact ⟨_, true, h2, .inr ⟨rfl, h1, rfl⟩⟩
        have HAZ : Hid _ := haz
        clear hcase haz
        go_wp2_with fail
        go_roundw
        case rel => exact ⟨k + 1, az, oz, rfl, rfl, HAZ, V1, I4⟩
        case measure =>
          have h1 := M2.out
          rw [mzV_at I2.out.lv] at h1
          show mzV v u4 < mzV v wr
          rw [mzV_at I4.out.lv]
          exact h1
      · gi_wp2
        exact bodyPost_ret (results_none rfl _ _ _) rfl ⟨⟨_, rfl⟩, .inr ⟨k, hJx3⟩⟩

end Go.Proofs.Ythgnhjkkfhfgmab

/-
  What the loop over those who go keeps in its box: the names so far.
-/
namespace Go.Proofs.Ythgnhjkkfhfgmab
open Go.RowKit

/-- What the loop owns. -/
def ownO (g5 : Nat) : World → Nat → Prop := fun W q => q = g5 ∨ ∃ pv, W.heap[g5]? = some (.cells #[pv] 23 (0, 0)) ∧ pv.ownBlock = some q
structure OrI (U : World) (g5 : Nat) (Tt : Nat → Prop) (l : List ByteArray) (X : World) (pv : Value) : Prop where
  row : Row X U.heap.size 9 1 eS pv l
  b5 : X.heap[g5]? = some (.cells #[pv] 23 (0, 0))
  but : But (fun b => b = g5 ∨ Tt b) U X
theorem rowO_cells {w : World} {B t : Nat} {v : Value} {l : List ByteArray} (h : Row w B t 1 eS v l) {g : Nat} (hg : v.ownBlock = some g) : ∃ cur, w.heap[g]? = some (.cells cur t (0, 0)) := by
  rcases h.2 with ⟨rfl, _⟩ | ⟨g', cap, cur, rfl, _, hgg, _⟩
  · cases hg
  · cases hg; exact ⟨cur, hgg⟩
section
variable {U A C V : World} {g5 n₀ : Nat} {Tt : Nat → Prop} {l l' : List ByteArray} {pv pv' : Value}
theorem OrI.lt (h : OrI U g5 Tt l A pv) {q : Nat} (hq : pv.ownBlock = some q) : U.heap.size ≤ q ∧ q < A.heap.size := World.ownsRow.lt h.row q hq
theorem OrI.own (h : OrI U g5 Tt l A pv) {q : Nat} : ownO g5 A q ↔ q = g5 ∨ pv.ownBlock = some q := by
  constructor
  · rintro (e | ⟨u, hu, ho⟩)
    · exact .inl e
    · rw [h.b5] at hu; cases hu; exact .inr ho
  · rintro (e | ho)
    · exact .inl e
    · exact .inr ⟨pv, h.b5, ho⟩
theorem OrI.butR {T' : Nat → Prop} (h : OrI U g5 Tt l A pv) (h5 : g5 < U.heap.size) (ht : ∀ b, T' b → Tt b ∧ b < U.heap.size) (ne : ¬ Tt g5) (hb : ButR T' U.heap.size A C) : OrI U g5 Tt l C pv := by
  have sA := h.but.size
  refine ⟨Row.block h.row (fun q hq => ?_), ?_, ⟨hb.os.trans h.but.os, hb.tape.trans h.but.tape, hb.output.trans h.but.output, Nat.le_trans sA hb.size, fun b hb1 hn => ?_⟩⟩
  · obtain ⟨cur, hc⟩ := rowO_cells h.row hq
    have hl := h.lt hq
    exact hb.block q hl.2 (fun e => by have := (ht q e).2; omega) (fun hr => by obtain ⟨_, o, ho, hoc⟩ := hr; rw [hc] at ho; cases ho; cases hoc)
  · exact (hb.block g5 (by omega) (fun e => ne (ht _ e).1) (fun hr => by omega)).trans h.b5
  · exact (hb.block b (by omega) (fun e => hn (.inr (ht _ e).1)) (fun hr => by omega)).trans (h.but.block b hb1 hn)
theorem OrI.st (h : OrI U g5 Tt l A pv) (h5 : g5 < U.heap.size) (ht : ∀ b, Tt b → b < U.heap.size) (ne : ¬ Tt g5) : (∀ q, ownO g5 A q → q < A.heap.size) ∧ ∀ C, ButR Tt U.heap.size A C → ∀ q, ownO g5 C q → ownO g5 A q := by
  have sA := h.but.size
  refine ⟨fun q hq => ?_, fun C hb q hq => ?_⟩
  · rcases h.own.1 hq with e | e
    · omega
    · exact (h.lt e).2
  · exact h.own.2 ((h.butR h5 (fun b hb => ⟨hb, ht b hb⟩) ne hb).own.1 hq)
/-- One name more. -/
theorem OrI.push (h : OrI U g5 Tt l V pv) (h5 : g5 < U.heap.size) (hn : n₀ ≤ g5) {V2 V3 : World} (hb : Below V.heap.size V V2) (hg : V2.grownBy V3 pv.ownBlock) (hrow : Row V3 U.heap.size 9 1 eS pv' l') (hbk : pv'.ownBlock = pv.ownBlock ∨ pv'.ownBlock = some V2.heap.size) :
    KeepsOthers V (V3.setCell ⟨g5, 0, none⟩ pv') ∧ KpO (ownO g5) n₀ V (V3.setCell ⟨g5, 0, none⟩ pv') ∧ OrI U g5 Tt l' (V3.setCell ⟨g5, 0, none⟩ pv') pv' := by
  have sB := hb.size
  have sU := h.but.size
  have s3 := hg.size
  obtain ⟨V4, hV⟩ : ∃ V4, V4 = V3.setCell ⟨g5, 0, none⟩ pv' := ⟨_, rfl⟩
  have s4 : V4.heap.size = V3.heap.size := by rw [hV]; simp
  have oth : ∀ q, q ≠ g5 → V4.heap[q]? = V3.heap[q]? := fun q hq => by rw [hV]; exact Below.heap_setCell V3 ⟨g5, 0, none⟩ pv' q hq
  have keep3 : ∀ q, q < V.heap.size → pv.ownBlock ≠ some q → V3.heap[q]? = V.heap[q]? := fun q hq hv => (hg.block q (by omega) (fun e => hv e.symm)).trans (hb.block q hq)
  have keep : ∀ q, q < V.heap.size → q ≠ g5 → pv.ownBlock ≠ some q → V4.heap[q]? = V.heap[q]? := fun q hq h7' hv => (oth q h7').trans (keep3 q hq hv)
  have n5 : pv.ownBlock ≠ some g5 := fun e => by have := h.lt e; omega
  have f5 : V4.heap[g5]? = some (.cells #[pv'] 23 (0, 0)) := by
    rw [hV, set_row ((keep3 g5 (by omega) n5).trans h.b5) 0 pv']; rfl
  have B4 : But (fun b => b = g5 ∨ Tt b) U V4 := by
    rw [hV]
    refine But.set ?_ (.inl rfl) 0 pv'
    exact ⟨hg.os.trans (hb.os.trans h.but.os), hg.tape.trans (hb.tape.trans h.but.tape), hg.output.trans (hb.output.trans h.but.output), by omega, fun q hq hno => (keep3 q (by omega) (fun e => by have := h.lt e; omega)).trans (h.but.block q hq hno)⟩
  rw [← hV]
  clear hV
  have G : OrI U g5 Tt l' V4 pv' := ⟨Row.block hrow (fun q hq => oth q (by have := World.ownsRow.lt hrow q hq; omega)), f5, B4⟩
  refine ⟨⟨by omega, fun k o hk ho => (keep k (Array.getElem?_eq_some_iff.1 hk).1 (fun e => ?_) (fun e => ?_)).trans hk⟩, ⟨by omega, fun q hq => ?_, fun q hq => keep q (by omega) (by omega) (fun e => by have := h.lt e; omega), fun q cc t z hcc ho => (keep q (Array.getElem?_eq_some_iff.1 hcc).1 (fun e => ho (.inl e)) (fun e => ho (h.own.2 (.inr e)))).trans hcc⟩, G⟩
  · subst e; rw [h.b5] at hk; cases hk; cases ho
  · obtain ⟨cur, hcur⟩ := rowO_cells h.row e
    rw [hcur] at hk; cases hk; cases ho
  · rcases G.own.1 hq with e | e
    · exact .inl (.inl e)
    · rcases hbk with e2 | e2
      · exact .inl (h.own.2 (.inr (e2.symm.trans e)))
      · rw [e2] at e; cases e; exact .inr (by omega)
end
/-- What is kept while others are written. -/
theorem Lv.butR {B g N : Nat} {A C : World} {v : Value} {L : List (Nat × Nat × Bool)} {fr : Nat} (h : Lv B A g v L fr) (hb : ButR (fun _ => False) N A C) : Lv B C g v L fr :=
  ⟨Row.block h.row fun q hq => by
    obtain ⟨c, hc⟩ := Row.typed h.row q hq
    exact hb.block q (World.ownsRow.lt h.row q hq).2 (fun e => e) (fun hr => by obtain ⟨_, o, ho, hoc⟩ := hr; rw [hc] at ho; cases ho; cases hoc), (hb.block g h.lt (fun e => e) (fun hr => by obtain ⟨_, o, ho, hoc⟩ := hr; rw [h.box] at ho; cases ho; cases hoc)).trans h.box, h.low⟩

end Go.Proofs.Ythgnhjkkfhfgmab

/-
  A contract of the library's fresh copy of a text.
-/
namespace Go.Proofs.Ythgnhjkkfhfgmab
open Go.RowKit

theorem under172 : Try.prog.underlying 93 = some (.pointer 5) := by kernel_rfl
theorem under135' : Try.prog.underlying 22 = some (.slice 5) := by kernel_rfl
theorem info5c : (Try.prog.info? 5).map (fun i => (i.zero, i.size, i.bytes)) = some (some (.int .u8 0), 1, 1) := by kernel_rfl

set_option maxHeartbeats 4000000 in
set_option maxRecDepth 100000 in
theorem clone_any (s : ByteArray) (w : World) (hlim : s.size ≤ 1048576) :
    Calls Try.prog 43 #[.string s] w fun e w' => e = .returned (.string s) ∧ Below w.heap.size w w' := by
  by_cases h0 : s.size = 0
  · have hs : s = ⟨#[]⟩ := by
      apply ByteArray.ext
      exact Array.eq_empty_of_size_eq_zero h0
    subst hs
    go_enter Try.func43, Try.ntmps43
    go_wp2
    go_ret
    exact ⟨rfl, Below.refl _ _⟩
  · obtain ⟨i0, hi, hz0, hz1, hz2⟩ := info_parts info5c
    have hinfo : (Try.prog.info? 5).map (·.size) = some 1 := by rw [hi]; simp [hz1]
    have hco : Try.prog.cellsOf 5 = 1 := by simp [Program.cellsOf, hi, hz1]
    obtain ⟨M, hM⟩ : ∃ M, M = madeCells (Value.int .u8 0).cells (((s.size : Nat) : Int).toNat * i0.size) := ⟨_, rfl⟩
    have hMs : M.size = s.size := by rw [hM, size_madeCells, hz1]; simp
    have hmk : ∀ W : World, (Instr.makeSlice 22 (.int .i64 (s.size : Int)) (.int .i64 (s.size : Int))).run Try.prog W = .ok (.slice (some ⟨W.heap.size, 0, none⟩) s.size s.size) (W.alloc (.cells M 5)) := fun W => by
      have h := run_make (P := Try.prog) W 22 5 i0 (.int .u8 0) under135' hi hz0 .i64 .i64 (s.size : Int) (s.size : Int) (by omega) (by omega) (by rw [hz2]; omega) (by omega)
      rw [← hM] at h
      simpa using h
    clear hM
    have hcp := Lib.run_copy_row_string (P := Try.prog) (w.alloc (.cells M 5)) 22 9 3 5 w.heap.size 0 s.size s.size s M 5 under135' hinfo (heap_alloc_new w _) (Nat.le_refl _) (by omega)
    obtain ⟨Y, hY⟩ : ∃ Y, Y = (M.toList.take 0 ++ Lib.byteCells s.data.toList ++ M.toList.drop (0 + s.size)).toArray := ⟨_, rfl⟩
    rw [← hY] at hcp
    have hYl : Y.toList = Lib.byteCells s.data.toList := by
      rw [hY, List.toList_toArray, List.take_zero, List.nil_append, List.drop_of_length_le (by rw [Array.length_toList]; omega), List.append_nil]
    have hYs : Y.size = s.size := by rw [← Array.length_toList, hYl, Lib.byteCells_length, ← Lib.size_eq]
    have hgY : ((w.alloc (.cells M 5)).setRow w.heap.size Y).heap[w.heap.size]? = some (.cells Y 5 (0, 0)) := setRow_heap _ _ M _ 5 (0, 0) (heap_alloc_new w _)
    have hne : s.data.toList ≠ [] := fun e => h0 (by rw [Lib.size_eq, e]; rfl)
    have hUS := Lib.run_unsafeString_row (P := Try.prog) ((w.alloc (.cells M 5)).setRow w.heap.size Y) 93 3 9 5 under172 hco w.heap.size Y.size (by unfold World.shape?; rw [hgY]) s.data.toList hne (by rw [← Lib.size_eq]; omega) (by rw [← Lib.size_eq]; omega)
      (fun j x hx => Lib.cells_of_row hgY Y.size j _ (by rw [List.take_of_length_le (by rw [Array.length_toList]; exact Nat.le_refl _), hYl]; simp [Lib.byteCells, hx]))
    rw [← Lib.size_eq] at hUS
    clear hY
    go_enter Try.func43, Try.ntmps43
    go_wp2
    go_ret
    have hb1 : Below w.heap.size w (w.alloc (.cells M 5)) := (Below.refl _ w).alloc (Nat.le_refl _) _
    have hb2 : Below w.heap.size (w.alloc (.cells M 5)) ((w.alloc (.cells M 5)).setRow w.heap.size Y) := ⟨rfl, rfl, rfl, by simp, fun k hk => setRow_other _ _ _ _ (by omega)⟩
    exact ⟨rfl, Lib.below_freeze (hb1.trans hb2) (p := ⟨w.heap.size, 0, none⟩) (Nat.le_refl _) _⟩

set_option maxRecDepth 100000 in
set_option maxHeartbeats 1000000 in
theorem clones_any (s : ByteArray) (w : World) (hlim : s.size ≤ 1048576) :
    Calls Try.prog 19 #[.string s] w fun e w' => e = .returned (.string s) ∧ Below w.heap.size w w' := by
  go_enter Try.func19, Try.ntmps19
  go_wp2_with (go_at_call 43; refine (clone_any _ _ hlim).mono ?_; rintro e w1 ⟨rfl, hb⟩)
  go_ret
  exact ⟨rfl, hb⟩

end Go.Proofs.Ythgnhjkkfhfgmab

/-
  A law on a region that draws its order, in a round of a loop over a function: operations that only read are taken first; what stands behind them waits for all. No program is named here.
-/
namespace Go.Proofs.Ythgnhjkkfhfgmab
open Go.Sort

section
variable {P : Program} {md : Region.Mode} {ops : Array Oper} {C : World → Prop} {n : Nat} {L : Array Bool → Act → World → Prop} {l' m : Nat}

def noDeferB (ops : Array Oper) : Bool := ops.all fun o => match o.op with | .defer _ => false | _ => true
theorem no_defer (h : noDeferB ops = true) {i : Nat} {o : Oper} (ho : ops[i]? = some o) (c : Call) : o.op ≠ .defer c := fun e => by
  have hm : o ∈ ops := Array.mem_of_getElem? ho
  have := (Array.all_eq_true'.1 h) o hm
  rw [e] at this; cases this

theorem anyIn_of_C {Q : Exit → Act → World → Prop} {g : Nat} (hnd : noDeferB ops = true) (hL : ∀ listed a w, L listed a w → wpAnyIn (Fence.wide.inRound l') m P md ops Q g listed a w) :
    ∀ (f : Nat) (listed : Array Bool) (a : Act) (w : World), anyC P md ops C n L f listed a w → wpAnyIn (Fence.wide.inRound l') m P md ops Q (f + g) listed a w
  | 0, listed, a, w, h => by rw [Nat.zero_add]; exact hL _ _ _ h
  | f + 1, listed, a, w, h => by
    rw [show f + 1 + g = (f + g) + 1 by omega]
    refine ⟨fun h0 => absurd h0 h.1, fun i hi => ?_⟩
    rcases (h.2 i hi).2 with ⟨o, ho, hg, u, w', hr, _, hk⟩ | ⟨o, ho, hg, fn, args, hr, hk⟩
    · unfold wpOpIn
      simp only [ho, wanted_none hg, if_true]
      refine ⟨fun _ _ => trivial, ?_⟩
      rw [Oper.semAt_plain _ _ _ (no_defer hnd ho), hr, Oper.uponIn_value]
      exact anyIn_of_C hnd hL f _ _ _ hk
    · unfold wpOpIn
      simp only [ho, wanted_none hg, if_true]
      refine ⟨fun _ _ => trivial, ?_⟩
      rw [Oper.semAt_plain _ _ _ (no_defer hnd ho), hr, Oper.uponIn_enter]
      refine ⟨(fun h => by cases h), (CallsIn.inRound l' (callsIn_wide.2 hk)).mono fun e w'' ⟨u, he, _, hk'⟩ => ?_⟩
      subst he
      exact anyIn_of_C hnd hL f _ _ _ hk'

theorem wpAnyIn_of_seq {F : Fence} {Q' : Exit → Act → World → Prop} : ∀ (l : List Oper) (k : Nat) (listed : Array Bool) (a : Act) (w : World), (∀ j, l[j]? = ops[k + j]?) →
    Region.seqB md ops l.length k listed = true → wpListIn F m P ops Q' l a w → wpAnyIn F m P md ops Q' l.length listed a w
  | [], _, _, _, _, _, hB, h => ⟨by simpa [Region.seqB] using hB, h⟩
  | o :: l, k, listed, a, w, hl, hB, h => by
    have h0 : ops[k]? = some o := by simpa using (hl 0).symm
    simp only [List.length_cons, Region.seqB, Bool.and_eq_true, decide_eq_true_eq] at hB
    refine ⟨fun h1 => (by rw [hB.1] at h1; cases h1), fun i hi => ?_⟩
    rw [hB.1] at hi
    have hik : i = k := by simpa using hi
    subst hik
    have hw : wpOpIn F m P ops Q' i (wpListIn F m P ops Q' l) a w := by unfold wpOpIn; simp only [h0]; exact h
    exact wpOpIn_mono (fun a' w' h' => wpAnyIn_of_seq l (i + 1) _ a' w' (fun j => by have := hl (j + 1); simpa [Nat.add_assoc, Nat.add_comm 1 j] using this) hB.2 h') hw

/-- What stands behind the head. -/
def tailI (F : Fence) (m : Nat) (P : Program) (Q : Exit → Act → World → Prop) (l : List Oper) (n : Nat) (listed : Array Bool) (a : Act) (w : World) : Prop :=
  Region.seqB .any l.toArray (l.length - n) n listed = true ∧ wpListIn F m P l.toArray Q (l.drop n) a w

theorem wpIn_region_mix {id : Nat} {Q : Exit → Act → World → Prop} {a : Act} {w : World} {l : List Oper} (n : Nat) (ks : List Nat) (hm : P.follows .mixedOrders = true) (hB : mixTailB l n ks = true) (hnd : noDeferB l.toArray = true)
    (h : wpQuiet P l.toArray (fun w' => ∃ p : Regrown, w' = grow (redrawn w p.d) p.os) (fun a' => anyC P .any l.toArray (fun w' => ∃ p : Regrown, w' = grow (redrawn w p.d) p.os) n (tailI (Fence.wide.inRound l') m P Q l n) (n - ks.length) (listAll ks (Array.replicate l.length false)) a' w.drew) (ks.filterMap fun k => l[k]?) a) :
    (Code.region id l.toArray true).wpIn (Fence.wide.inRound l') m P Q a w := by
  have hB' := hB
  simp only [mixTailB, Bool.and_eq_true, decide_eq_true_eq] at hB
  obtain ⟨⟨⟨⟨⟨hsel, hn⟩, hkn⟩, hs⟩, hc⟩, hmix⟩ := hB
  have hn' : n < l.toArray.size := by simpa using hn
  have hdl : (l.drop n).length = l.length - n := by simp
  have inv0 : HeadInv .any l.toArray n (Array.replicate l.length false) :=
    ⟨by simp, fun j oj _ hl => (by rw [getD_replicate_false] at hl; cases hl), fun t _ ht => getD_in (by simpa using ht) (getD_replicate_false _ _)⟩
  have H := anyC_lex (P := P) (md := .any) (L := tailI (Fence.wide.inRound l') m P Q l n) hsel hs hc hn' (fun listed a w hL => seqB_ready hL.1) (n - ks.length) w.drew ⟨⟨w.drawn + 1, #[]⟩, by rw [grow_empty]; rfl⟩ ks _ _ a (mix_ops ks _ hmix) inv0 hmix h
  have G := anyIn_of_C (Q := Q) (g := l.length - n) hnd (fun listed a' w' hL => by
    have := wpAnyIn_of_seq (P := P) (md := .any) (ops := l.toArray) (F := Fence.wide.inRound l') (m := m) (Q' := Q) (l.drop n) n listed a' w' (fun j => by simp [List.getElem?_drop]) (by rw [hdl]; exact hL.1) hL.2
    rwa [hdl] at this) _ _ _ _ H
  rw [show ks.length + (n - ks.length) + (l.length - n) = l.toArray.size by simp; omega] at G
  refine wpIn_region_any hm ?_
  simpa using G

end
end Go.Proofs.Ythgnhjkkfhfgmab
