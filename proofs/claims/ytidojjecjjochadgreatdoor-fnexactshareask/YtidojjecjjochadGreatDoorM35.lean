/-
  Several texts in one.
-/
import Derived.Test.YtidojjecjjochadGreatDoorM34
import Derived.Test.YtidojjecjjochadGreatDoorM21
import Derived.Test.YtidojjecjjochadGreatDoorM6
/-
  A law for a range over a function that may be left, whose iterator writes blocks of its own that the rounds read too: what these hold when a round comes is told by its number. No program is named here.
-/
namespace Go.Proofs.YtidojjecjjochadGreatDoor
open Go.RowKit

/-- An iterator's contract: so many rounds, each with what its number tells; the caller may leave. -/
def SeqZ (F : Fence) (n : Nat) (P : Program) (g : Nat) (lb : Array Value) (encs : Nat → Array Value) (own : World → Nat → Prop) (n₀ : Nat) (T low : Nat → Prop) (Z Ze : Nat → World → Prop) (N : Nat) (w : World) : Prop :=
  ∀ (l : Nat) (J Jx : Nat → World → Prop) (W : World), Below w.heap.size w W →
    (∀ k A C, J k A → But T A C → J k C) →
    (∀ k A, J k A → (∀ q, own A q → q < A.heap.size) ∧ ∀ C, But T A C → ∀ q, own C q → own A q) → (∀ q, low q → ¬ own W q) → (∀ k A, J k A → k < N) →
    (∀ k W1, J k W1 → Z k W1 → YieldAt F (n - 1) P l (encs k) W1 fun e W' => (e = .returned (.bool true) ∧ J (k + 1) W' ∧ KpO own n₀ W1 W') ∨ (e = .returned (.bool false) ∧ Jx k W')) →
    J 0 W →
    CallsIn F n P g (#[.func (.yield l) #[] #[]] ++ lb) W fun e W' => (∃ v, e = .returned v) ∧ ((∃ k, J k W' ∧ Ze k W') ∨ ∃ k, Jx k W')

variable {F : Fence} {n : Nat} {P : Program}

theorem wpIn_range_z {g : Operand} {ps : Array Tmp} {assign body : Code} {Q : Exit → Act → World → Prop} {a : Act} {w : World}
    (hro : F.round = none) (h1 : 1 ≤ n) {gf : Nat} {lb : Array Value} (hg : a.eval g = .func (.func gf) #[] lb) (hFg : F.fn gf) (eg : ∀ args w, (callFunc gf args).run P w = .ok (.enter gf args) w)
    {encs : Nat → Array Value} {own : World → Nat → Prop} {n₀ : Nat} {T low : Nat → Prop} {Z Ze : Nat → World → Prop} {N : Nat} {w0 : World} (hseq : SeqZ F (n - 1) P gf lb encs own n₀ T low Z Ze N w0)
    (hb0 : Below w0.heap.size w0 w) (hps : ∀ k, (encs k).size = ps.size) (hno : ∀ q, low q → ¬ own w q) (hlo : n₀ ≤ w.heap.size) (hT : ∀ q, T q → q < w.heap.size)
    (I : Nat → World → Prop) (Ix : Code → Nat → World → Prop) (hI : ∀ k A C, I k A → ButR T w.heap.size A C → I k C) (hIx : ∀ c k A C, Ix c k A → ButR (fun _ => False) w.heap.size A C → Ix c k C) (hZ : ∀ k A C, Z k A → ButR (fun _ => False) w.heap.size A C → Z k C) (hZe : ∀ k A C, Ze k A → ButR (fun _ => False) w.heap.size A C → Ze k C)
    (hst : ∀ k A, I k A → (∀ q, own A q → q < A.heap.size) ∧ ∀ C, ButR T w.heap.size A C → ∀ q, own C q → own A q) (h0 : I 0 w) (hN : ∀ k A, I k A → k < N)
    (hround : ∀ (l k : Nat) (W : World), I k W → Z k W → ∃ (a₁ : Act) (Wa : World), Below W.heap.size W Wa ∧
      (∀ K : Act → World → Prop, K a₁ Wa → assign.wpIn (F.inRound l) (n - 1 - 1) P (Exit.then K (fun _ _ _ => False)) { tmps := (ps.zip (encs k)).foldl (fun t (p, v) => t.setIfInBounds p v) a.tmps, defers := [] } W) ∧
      ∀ V : World, I k V → Z k V → (∃ (q : Nat) (o o' : Obj), Wa.heap[q]? = some o ∧ o.isCells = false ∧ V = Wa.putObj q o') → body.wpIn (F.inRound l) (n - 1 - 1) P (postL own n₀ I Ix k V) a₁ V)
    (hdone : ∀ (D k : Nat) (W : World), w.heap.size ≤ D → D < W.heap.size → Ze k W → I k W → W.heap[D]? = some (.deferred (some [])) → Q .normal { a with defers := { target := .collected D, args := #[] } :: a.defers } W)
    (hstop : ∀ (D : Nat) (c : Code) (k : Nat) (W : World), w.heap.size ≤ D → D < W.heap.size → Ix c k W → W.heap[D]? = some (.deferred (some [])) → c.wpIn F n P Q { a with defers := { target := .collected D, args := #[] } :: a.defers } W) :
    (Code.rangeFunc g ps assign body).wpIn F n P Q a w := by
  refine wpIn_rangeFunc fun fn hfn => ?_
  rw [hro]
  let rec' : LoopState → Option Code → Loop := fun st pe => { state := st, pending := pe, fn, tmps := a.tmps, params := ps, assign, body, defers := w.heap.size }
  obtain ⟨W1, hW1⟩ : ∃ W1, (w.alloc (.deferred (some []))).alloc (.loop (rec' .ready none)) = W1 := ⟨_, rfl⟩
  have hL1 : W1.heap[w.heap.size + 1]? = some (.loop (rec' .ready none)) := by
    rw [← hW1]; have := World.alloc_heap_new (w.alloc (.deferred (some []))) (.loop (rec' .ready none)); rwa [World.size_alloc] at this
  have hD1 : W1.heap[w.heap.size]? = some (.deferred (some [])) := by
    rw [← hW1]; exact (Below.heap_alloc _ _ _ (by simp)).trans (World.alloc_heap_new w _)
  have hw1 : Below w.heap.size w W1 := by
    rw [← hW1]; exact ((Below.refl _ w).alloc (Nat.le_refl _) _).alloc (by simp) _
  have hI1 : I 0 W1 := hI 0 w W1 h0 (.of_below hw1)
  have hb1 : Below w0.heap.size w0 W1 := hb0.trans (hw1.mono hb0.size)
  have hno1 : ∀ q, low q → ¬ own W1 q := fun q hq ho => hno q hq ((hst 0 w h0).2 W1 (.of_below hw1) q ho)
  refine ⟨w.heap.size + 1, [{ target := .collected w.heap.size, args := #[] }], W1, { target := .fn (.func gf) lb, args := #[.func (.yield (w.heap.size + 1)) #[] #[]] }, W1, gf,
    #[.func (.yield (w.heap.size + 1)) #[] #[]] ++ lb, W1, ?_, ?_, ?_, ?_, fun _ => h1, ?_⟩
  · rw [← hW1]; exact run_enterLoop_outer _ _ _ _ _
  · simp only [resolve, hg]
    simp [go_sem]
  · intro f' hf'; simp [Target.leads] at hf'; subst hf'; exact hFg
  · simp [invoke, go_sem, eg]
  · let Bk : LoopState → Option Code → World → Prop := fun st pe W => W.heap[w.heap.size + 1]? = some (.loop (rec' st pe)) ∧ W.heap[w.heap.size]? = some (.deferred (some []))
    have bkT : ∀ (st : LoopState) (pe : Option Code) (A C : World), Bk st pe A → But T A C → Bk st pe C := fun st pe A C h hb =>
      ⟨(hb.block _ (Array.getElem?_eq_some_iff.1 h.1).1 (fun ht => by have := hT _ ht; omega)).trans h.1, (hb.block _ (Array.getElem?_eq_some_iff.1 h.2).1 (fun ht => by have := hT _ ht; omega)).trans h.2⟩
    refine (hseq (w.heap.size + 1) (fun k W => I k W ∧ Bk .ready none W) (fun k W => ∃ c, Ix c k W ∧ Bk .done (some c) W) W1 hb1
      (fun k A C h hb => ⟨hI k A C h.1 (.of_but hb), bkT _ _ A C h.2 hb⟩)
      (fun k A h => ⟨(hst k A h.1).1, fun C hb q hq => (hst k A h.1).2 C (.of_but hb) q hq⟩) hno1 (fun k A h => hN k A h.1) ?_ ⟨hI1, hL1, hD1⟩).mono ?_
    · rintro k W ⟨hi, hl, hd⟩ hz
      have hlt : w.heap.size + 1 < W.heap.size := (Array.getElem?_eq_some_iff.1 hl).1
      obtain ⟨a₁, Wa, ba, hassign, hbody⟩ := hround (w.heap.size + 1) k W hi hz
      refine ⟨fn, _, assign, body, run_yield (P := P) (args := encs k) hl (hps k), roundIn_of_wpIn hfn (hassign _ ?_)⟩
      have hs := hst k W hi
      have kpa : KpO own n₀ W Wa := ⟨ba.size, fun q hq => .inl (hs.2 Wa (.of_below ba) q hq), fun q hq => ba.block q (by omega), fun q c t z hc _ => (ba.block q (Array.getElem?_eq_some_iff.1 hc).1).trans hc⟩
      have hia : I k Wa := hI k W Wa hi (.of_below ba)
      have hla := (ba.block _ hlt).trans hl
      have hda := (ba.block _ (by omega)).trans hd
      have sa := ba.size
      have kpp : ∀ (i : Nat) (A : World) (st : LoopState) (pe : Option Code) (o' : Obj), I i A → A.heap[w.heap.size + 1]? = some (.loop (rec' st pe)) → KpO own n₀ A (A.putObj (w.heap.size + 1) o') := fun i A st pe o' hA hlA =>
        ⟨by simp, fun q hq => .inl ((hst i A hA).2 _ (.put hlA rfl (by omega) o') q hq), fun q hq => World.putObj_heap_other (by omega), fun q c t z hc _ => (World.putObj_heap_other (fun e => by first | (subst e; rw [hlA] at hc; cases hc) | (rw [e] at hlA; rw [hlA] at hc; cases hc) | (rw [← e] at hc; rw [hlA] at hc; cases hc))).trans hc⟩
      refine ⟨_, run_beginRound hla rfl, ?_⟩
      have hl2 : (Wa.putObj (w.heap.size + 1) (.loop (rec' .busy none))).heap[w.heap.size + 1]? = some (.loop (rec' .busy none)) := World.putObj_heap_same (by omega)
      have hd2 : (Wa.putObj (w.heap.size + 1) (.loop (rec' .busy none))).heap[w.heap.size]? = some (.deferred (some [])) := (World.putObj_heap_other (by omega)).trans hda
      have hi2 : I k (Wa.putObj (w.heap.size + 1) (.loop (rec' .busy none))) := hI k Wa _ hia (.put hla rfl (by omega) _)
      have hz2 : Z k (Wa.putObj (w.heap.size + 1) (.loop (rec' .busy none))) := hZ k Wa _ (hZ k W Wa hz (.of_below ba)) (.put hla rfl (by omega) _)
      refine wpIn_mono (hbody _ hi2 hz2 ⟨_, _, _, hla, rfl, rfl⟩) ?_
      rintro e a3 W3 hp
      cases e with
      | normal =>
        obtain ⟨hk3, hkp3, hi3⟩ := hp
        have hl3 := hk3.same _ _ hl2 rfl
        have hd3 := hk3.same _ _ hd2 rfl
        have hlt3 := (Array.getElem?_eq_some_iff.1 hl3).1
        refine ⟨_, _, run_endRound (P := P) none hl3, .inl ⟨rfl, ⟨hI (k + 1) W3 _ hi3 (.put hl3 rfl (by omega) _), World.putObj_heap_same hlt3, (World.putObj_heap_other (by omega)).trans hd3⟩, ?_⟩⟩
        exact kpa.trans ((kpp k Wa _ _ _ hia hla).trans (hkp3.trans (kpp (k + 1) W3 _ _ _ hi3 hl3)))
      | exit id =>
        obtain ⟨hk3, hi3⟩ := hp
        have hl3 := hk3.same _ _ hl2 rfl
        have hd3 := hk3.same _ _ hd2 rfl
        have hlt3 := (Array.getElem?_eq_some_iff.1 hl3).1
        exact ⟨_, _, run_endRound (P := P) (some (.exit id)) hl3, .inr ⟨rfl, .exit id, hIx _ k W3 _ hi3 (.put hl3 rfl (by omega) _), World.putObj_heap_same hlt3, (World.putObj_heap_other (by omega)).trans hd3⟩⟩
      | ret => exact hp.elim
      | goto t => exact hp.elim
      | panic ch => exact hp.elim
      | outgrown => exact hp.elim
    · rintro e W2 ⟨⟨v, rfl⟩, ⟨k, ⟨hi, hl, hd⟩, hze⟩ | ⟨k, c, hi, hl, hd⟩⟩
      · have hlt2 := (Array.getElem?_eq_some_iff.1 hl).1
        exact ⟨none, _, run_endLoop (P := P) hl (by simp [rec']), hdone _ k _ (Nat.le_refl _) (by simp; omega) (hZe k W2 _ hze (.put hl rfl (by omega) _)) (hI k W2 _ hi (.put hl rfl (by omega) _)) ((World.putObj_heap_other (by omega)).trans hd)⟩
      · have hlt2 := (Array.getElem?_eq_some_iff.1 hl).1
        exact ⟨some c, _, run_endLoop (P := P) hl (by simp [rec']), hstop _ c k _ (Nat.le_refl _) (by simp; omega) (hIx c k W2 _ hi (.put hl rfl (by omega) _)) ((World.putObj_heap_other (by omega)).trans hd)⟩

end Go.Proofs.YtidojjecjjochadGreatDoor

/-
  Plain: some things of a book as the bits of a word; who is gone, and what is free.
-/
namespace Go.Proofs.YtidojjecjjochadGreatDoor
open Go.RowKit

/-- The word of the things of a list that pass. -/
def msk : List ByteArray → (ByteArray → Bool) → Nat
  | [], _ => 0
  | y :: T, P => (if P y then 1 else 0) + 2 * msk T P
theorem msk_lt : ∀ (T : List ByteArray) (P : ByteArray → Bool), msk T P < 2 ^ T.length
  | [], _ => by simp [msk]
  | y :: T, P => by
    have := msk_lt T P
    rw [msk, List.length_cons, Nat.pow_succ]
    split <;> omega
theorem msk_congr : ∀ {T : List ByteArray} {P Q : ByteArray → Bool}, (∀ y ∈ T, P y = Q y) → msk T P = msk T Q
  | [], _, _, _ => rfl
  | y :: T, P, Q, h => by
    rw [msk, msk, h y (by simp), msk_congr (fun z hz => h z (by simp [hz]))]
theorem msk_or : ∀ {T : List ByteArray} {P Q : ByteArray → Bool}, (∀ y ∈ T, ¬ (P y = true ∧ Q y = true)) → msk T P + msk T Q = msk T (fun y => P y || Q y)
  | [], _, _, _ => rfl
  | y :: T, P, Q, h => by
    have ih := msk_or (T := T) (P := P) (Q := Q) (fun z hz => h z (by simp [hz]))
    have h0 := h y (by simp)
    rw [msk, msk, msk, ← ih]
    cases hp : P y <;> cases hq : Q y
    · simp; omega
    · simp; omega
    · simp; omega
    · exact absurd ⟨hp, hq⟩ h0
theorem msk_none {T : List ByteArray} {P : ByteArray → Bool} (h : ∀ y ∈ T, P y = false) : msk T P = 0 := by
  induction T with
  | nil => rfl
  | cons y T ih => rw [msk, h y (by simp), ih (fun z hz => h z (by simp [hz]))]; rfl
theorem msk_bit : ∀ {T : List ByteArray} (_ : T.Nodup) {t : Nat} (ht : t < T.length), msk T (fun y => eqB T[t] y) = 2 ^ t
  | [], _, t, ht => absurd ht (Nat.not_lt_zero _)
  | y :: T, nd, 0, _ => by
    obtain ⟨h1, _⟩ := List.nodup_cons.1 nd
    rw [msk, msk_none (fun z hz => ?_)]
    · simp [eqB_refl]
    · cases e : eqB (y :: T)[0] z
      · rfl
      · rw [eqB_iff] at e; exact absurd (show y ∈ T from (show y = z from e) ▸ hz) h1
  | y :: T, nd, t + 1, ht => by
    obtain ⟨h1, h2⟩ := List.nodup_cons.1 nd
    have ht' : t < T.length := by simpa using ht
    have ih := msk_bit h2 ht'
    have e0 : eqB (y :: T)[t + 1] y = false := by
      cases e : eqB (y :: T)[t + 1] y
      · rfl
      · rw [eqB_iff] at e; exact absurd (show y ∈ T from (show T[t] = y from e) ▸ List.getElem_mem ht') h1
    rw [msk, e0]
    have : msk T (fun y_1 => eqB (y :: T)[t + 1] y_1) = 2 ^ t := ih
    rw [this, Nat.pow_succ]
    simp; omega
theorem msk_test : ∀ (T : List ByteArray) (P : ByteArray → Bool) (i : Nat), (msk T P).testBit i = ((T[i]?).map P).getD false
  | [], P, i => by simp [msk]
  | y :: T, P, 0 => by
    rw [msk, Nat.testBit_zero]
    cases hp : P y <;> simp [hp]
  | y :: T, P, i + 1 => by
    rw [msk, Nat.testBit_succ]
    have : ((if P y = true then 1 else 0) + 2 * msk T P) / 2 = msk T P := by split <;> omega
    rw [this, msk_test T P i]
    simp
/-- Is a word within another? -/
theorem msk_clear {T : List ByteArray} (hT : T.length ≤ 8) (P Q : ByteArray → Bool) : (msk T P &&& (4294967295 - msk T Q) = 0) ↔ ∀ y ∈ T, P y = true → Q y = true := by
  have hq : msk T Q < 2 ^ 32 := Nat.lt_of_lt_of_le (msk_lt T Q) (Nat.pow_le_pow_right (by omega) (by omega))
  have e : 4294967295 - msk T Q = 2 ^ 32 - (msk T Q + 1) := by omega
  rw [e]
  constructor
  · intro h y hy hP
    obtain ⟨i, hi, rfl⟩ := List.getElem_of_mem hy
    have := congrArg (fun n => n.testBit i) h
    simp only [Nat.testBit_and, Nat.testBit_two_pow_sub_succ hq, msk_test, Nat.zero_testBit, List.getElem?_eq_getElem hi, Option.map_some, Option.getD_some, hP, Bool.true_and] at this
    have hi8 : i < 32 := by omega
    simpa [hi8] using this
  · intro h
    apply Nat.eq_of_testBit_eq
    intro i
    rw [Nat.testBit_and, Nat.testBit_two_pow_sub_succ hq, msk_test, msk_test, Nat.zero_testBit]
    by_cases hi : i < T.length
    · rw [List.getElem?_eq_getElem hi]
      simp only [Option.map_some, Option.getD_some]
      cases hP : P T[i]
      · rfl
      · rw [h _ (List.getElem_mem hi) hP]; simp
    · rw [List.getElem?_eq_none (by omega)]; rfl

/-- The word of a list of things. -/
def hasM (T l : List ByteArray) : Nat := msk T (fun y => hasB l y)
theorem hasM_lt {T : List ByteArray} (hT : T.length ≤ 8) (l : List ByteArray) : hasM T l < 256 :=
  Nat.lt_of_lt_of_le (msk_lt T _) (show 2 ^ T.length ≤ 2 ^ 8 from Nat.pow_le_pow_right (by omega) hT)
theorem hasM_nil (T : List ByteArray) : hasM T [] = 0 := msk_none (fun _ _ => rfl)
theorem hasB_snoc (l : List ByteArray) (x y : ByteArray) : hasB (l ++ [x]) y = (hasB l y || eqB x y) := by
  simp [hasB, List.any_append]
theorem hasM_snoc {T l : List ByteArray} (nd : T.Nodup) {t : Nat} (ht : t < T.length) (hn : T[t] ∉ l) : hasM T (l ++ [T[t]]) = hasM T l + 2 ^ t := by
  rw [← msk_bit nd ht, hasM, hasM, msk_or]
  · exact msk_congr (fun y _ => hasB_snoc l _ y)
  · rintro y _ ⟨h1, h2⟩
    rw [eqB_iff] at h2
    exact hn (h2 ▸ (hasB_iff l y).1 h1)

/-- Has nobody who is there a thing? -/
def freP (Bs : List DShareBatch) (gone : List ByteArray) (y : ByteArray) : Bool := Bs.all fun f => hasB gone f.1 || !(hasB f.2.1 y)
theorem fre_iff {Bs : List DShareBatch} {gone : List ByteArray} {y : ByteArray} : freP Bs gone y = true ↔ ∀ i (hi : i < Bs.length), hasB gone Bs[i].1 = false → y ∉ Bs[i].2.1 := by
  unfold freP
  rw [List.all_eq_true]
  constructor
  · intro h i hi hg hy
    have := h _ (List.getElem_mem hi)
    rw [hg, (hasB_iff _ _).2 hy] at this
    cases this
  · intro h f hf
    obtain ⟨i, hi, rfl⟩ := List.getElem_of_mem hf
    cases hg : hasB gone Bs[i].1
    · have := h i hi hg
      cases e : hasB Bs[i].2.1 y
      · rfl
      · exact absurd ((hasB_iff _ _).1 e) this
    · rfl
def freM (T : List ByteArray) (Bs : List DShareBatch) (gone : List ByteArray) : Nat := msk T (freP Bs gone)
theorem freM_lt {T : List ByteArray} (hT : T.length ≤ 8) (Bs : List DShareBatch) (gone : List ByteArray) : freM T Bs gone < 256 :=
  Nat.lt_of_lt_of_le (msk_lt T _) (show 2 ^ T.length ≤ 2 ^ 8 from Nat.pow_le_pow_right (by omega) hT)
/-- The sharers, when some are gone. -/
def lvL (T : List ByteArray) (Bs : List DShareBatch) (gone : List ByteArray) : List (Nat × Nat × Bool) := Bs.map fun f => (hasM T f.2.1, hasM T f.2.2, hasB gone f.1)
theorem lv_len (T : List ByteArray) (Bs : List DShareBatch) (gone : List ByteArray) : (lvL T Bs gone).length = Bs.length := by simp [lvL]
theorem lv_at (T : List ByteArray) {Bs : List DShareBatch} (gone : List ByteArray) {i : Nat} (hi : i < Bs.length) : (lvL T Bs gone)[i]'(by simp [lvL]; exact hi) = (hasM T Bs[i].2.1, hasM T Bs[i].2.2, hasB gone Bs[i].1) := by simp [lvL]

section
variable {T : List ByteArray} {Bs : List DShareBatch}
theorem bok_things (h : BokP (T, Bs)) : T.length ≤ 8 ∧ T.Nodup := by
  have h1 := h.things
  rw [ok_iff] at h1
  exact ⟨h1.1, asc_nodup fun i hi => by have := h1.2 i hi; rw [tst, Bool.and_eq_true] at this; exact this.2⟩
theorem bok_lists (h : BokP (T, Bs)) (i : Nat) (hi : i < Bs.length) : (Bs[i].2.1.Nodup ∧ ∀ x ∈ Bs[i].2.1, x ∈ T) ∧ (Bs[i].2.2.Nodup ∧ ∀ x ∈ Bs[i].2.2, x ∈ T) := by
  have := (h.row i hi).bat
  unfold batB at this
  simp only [Bool.and_eq_true] at this
  obtain ⟨n1, s1⟩ := sub_parts this.1.2
  obtain ⟨n2, s2⟩ := sub_parts this.2
  exact ⟨⟨n2, fun x hx => s1 x (s2 x hx)⟩, n1, s1⟩
theorem bok_names (h : BokP (T, Bs)) {i j : Nat} (hi : i < Bs.length) (hj : j < Bs.length) (e : Bs[i].1 = Bs[j].1) : i = j := by
  have asx : ∀ k (hk : k < Bs.length), asO (fun a b : DShareBatch => ltB a.1 b.1) (prevO Bs k) Bs[k] = true := fun k hk => by
    have := (h.row k hk).bat
    unfold batB at this
    simp only [Bool.and_eq_true] at this
    exact this.1.1.2
  have far := asc_far (R := fun a b : DShareBatch => ltB a.1 b.1) (fun h1 h2 => ltB_trans h1 h2) asx
  rcases Nat.lt_trichotomy i j with c | c | c
  · have := far j i hj c; rw [e, ltB_irrefl] at this; cases this
  · exact c
  · have := far i j hi c; rw [e, ltB_irrefl] at this; cases this
theorem bok_apart (h : BokP (T, Bs)) {i j : Nat} (hi : i < Bs.length) (hj : j < Bs.length) {y : ByteArray} (h1 : y ∈ Bs[i].2.1) (h2 : y ∈ Bs[j].2.1) : i = j := by
  rcases Nat.lt_trichotomy i j with c | c | c
  · have := (h.row j hj).sha i c; rw [(share_iff _ _).2 ⟨y, h2, h1⟩] at this; cases this
  · exact c
  · have := (h.row i hi).sha j c; rw [(share_iff _ _).2 ⟨y, h1, h2⟩] at this; cases this
/-- What the program asks of a batch that is there is what the model asks. -/
theorem can_same (h : BokP (T, Bs)) {gone : List ByteArray} {a : Nat} (ha : a < Bs.length) (hg : hasB gone Bs[a].1 = false) : (hasM T Bs[a].2.2 &&& (4294967295 - (freM T Bs gone + hasM T Bs[a].2.1)) = 0) ↔ canB Bs a gone = true := by
  have hT := (bok_things h).1
  have dis : ∀ y ∈ T, ¬ (freP Bs gone y = true ∧ hasB Bs[a].2.1 y = true) := fun y _ ⟨h1, h2⟩ => fre_iff.1 h1 a ha hg ((hasB_iff _ _).1 h2)
  unfold freM hasM
  rw [msk_or dis, msk_clear hT]
  constructor
  · intro hall
    refine can_yes fun i hi => ?_
    unfold inWay
    rw [btN_at hi, btN_at ha]
    by_cases e : i = a
    · simp [e]
    · cases hgi : hasB gone Bs[i].1
      · cases es : shareB Bs[i].2.1 Bs[a].2.2
        · simp
        · obtain ⟨y, y1, y2⟩ := (share_iff _ _).1 es
          have := hall y ((bok_lists h a ha).2.2 y y2) ((hasB_iff _ _).2 y2)
          rw [Bool.or_eq_true] at this
          rcases this with hf | hf
          · exact absurd y1 (fre_iff.1 hf i hi hgi)
          · exact absurd (bok_apart h hi ha y1 ((hasB_iff _ _).1 hf)) e
      · simp
  · intro hc y _ hy
    rw [Bool.or_eq_true]
    by_cases hm : y ∈ Bs[a].2.1
    · exact .inr ((hasB_iff _ _).2 hm)
    · refine .inl (fre_iff.2 fun i hi hgi hyi => ?_)
      have hia : i ≠ a := fun e => hm (by subst e; exact hyi)
      have : inWay Bs a gone i = true := by
        unfold inWay
        rw [btN_at hi, btN_at ha, hgi, (share_iff _ _).2 ⟨y, hyi, (hasB_iff _ _).1 hy⟩]
        simp [hia]
      rw [can_no hi this] at hc
      cases hc
/-- Somebody goes. -/
theorem go_free (h : BokP (T, Bs)) {gone : List ByteArray} {a : Nat} (ha : a < Bs.length) (hg : hasB gone Bs[a].1 = false) : freM T Bs gone + hasM T Bs[a].2.1 = freM T Bs (gone ++ [Bs[a].1]) := by
  have dis : ∀ y ∈ T, ¬ (freP Bs gone y = true ∧ hasB Bs[a].2.1 y = true) := fun y _ ⟨h1, h2⟩ => fre_iff.1 h1 a ha hg ((hasB_iff _ _).1 h2)
  unfold freM hasM
  rw [msk_or dis]
  refine msk_congr fun y _ => ?_
  rw [Bool.eq_iff_iff, Bool.or_eq_true, fre_iff, fre_iff, hasB_iff]
  constructor
  · rintro (h1 | h1) i hi hgi hy
    · rw [hasB_snoc, Bool.or_eq_false_iff] at hgi
      exact h1 i hi hgi.1 hy
    · have := bok_apart h hi ha hy h1
      subst this
      rw [hasB_snoc, eqB_refl, Bool.or_true] at hgi
      cases hgi
  · intro h1
    by_cases hm : y ∈ Bs[a].2.1
    · exact .inr hm
    · refine .inl fun i hi hgi hy => h1 i hi ?_ hy
      rw [hasB_snoc, hgi, Bool.false_or]
      cases e : eqB Bs[a].1 Bs[i].1
      · rfl
      · rw [eqB_iff] at e
        have := bok_names h ha hi e
        subst this
        exact absurd hy hm
theorem go_list (h : BokP (T, Bs)) {gone : List ByteArray} {a : Nat} (ha : a < Bs.length) : (lvL T Bs gone).set a (hasM T Bs[a].2.1, hasM T Bs[a].2.2, true) = lvL T Bs (gone ++ [Bs[a].1]) := by
  apply List.ext_getElem
  · simp [lvL]
  · intro i h1 h2
    have hi : i < Bs.length := by simpa [lvL] using h2
    rw [List.getElem_set]
    by_cases e : a = i
    · subst e
      rw [if_pos rfl, lv_at T _ hi, hasB_snoc, eqB_refl, Bool.or_true]
    · rw [if_neg e, lv_at T _ hi, lv_at T _ hi, hasB_snoc]
      have : eqB Bs[a].1 Bs[i].1 = false := by
        cases c : eqB Bs[a].1 Bs[i].1
        · rfl
        · rw [eqB_iff] at c; exact absurd (bok_names h ha hi c) e
      rw [this, Bool.or_false]
/-- What is free while the sharers are told. -/
theorem free_next (h : BokP (T, Bs)) {k : Nat} (hk : k < Bs.length) : freM T (Bs.take (k + 1)) [] + hasM T Bs[k].2.1 = freM T (Bs.take k) [] := by
  have e0 : ∀ y, freP (Bs.take (k + 1)) [] y = (freP (Bs.take k) [] y && !(hasB Bs[k].2.1 y)) := fun y => by
    unfold freP
    rw [List.take_succ_eq_append_getElem hk, List.all_append]
    simp [hasB]
  have dis : ∀ y ∈ T, ¬ (freP (Bs.take (k + 1)) [] y = true ∧ hasB Bs[k].2.1 y = true) := fun y _ ⟨h1, h2⟩ => by
    rw [e0, h2] at h1; simp at h1
  unfold freM hasM
  rw [msk_or dis]
  refine msk_congr fun y _ => ?_
  rw [e0]
  cases hy : hasB Bs[k].2.1 y
  · simp
  · rw [Bool.or_true]
    refine (fre_iff.2 fun i hi _ hyi => ?_).symm
    rw [List.length_take] at hi
    rw [List.getElem_take] at hyi
    have := bok_apart h (by omega) hk hyi ((hasB_iff _ _).1 hy)
    omega
theorem free_none : freM T (Bs.take 0) [] = hasM T T := by
  unfold freM hasM
  refine msk_congr fun y hy => ?_
  rw [(hasB_iff _ _).2 hy]
  rfl
theorem lv_snoc (k : Nat) (hk : k < Bs.length) : lvL T (Bs.take (k + 1)) [] = lvL T (Bs.take k) [] ++ [(hasM T Bs[k].2.1, hasM T Bs[k].2.2, false)] := by
  unfold lvL
  rw [List.take_succ_eq_append_getElem hk, List.map_append]
  simp [hasB]
end

end Go.Proofs.YtidojjecjjochadGreatDoor

/-
  Some things of a book as the bits of a word: the program's bitsIn.
-/
namespace Go.Proofs.YtidojjecjjochadGreatDoor
open Go.RowKit

theorem idx_at {T : List ByteArray} (nd : T.Nodup) {x : ByteArray} (hx : x ∈ T) : ∃ t : Nat, idxI T (fun f => eqB f x) = (t : Int) ∧ ∃ ht : t < T.length, T[t] = x := by
  obtain ⟨t, ht, rfl⟩ := List.getElem_of_mem hx
  refine ⟨t, idx_yes ht (eqB_refl _) fun j hj hjt => ?_, ht, rfl⟩
  cases e : eqB T[j] T[t]
  · rfl
  · rw [eqB_iff] at e
    exact absurd e (List.pairwise_iff_getElem.1 nd j t hj ht hjt)

set_option maxRecDepth 100000 in
set_option maxHeartbeats 8000000 in
theorem bits_any (S : Nat → Prop) (v va : Value) (l T : List ByteArray) (w : World) (h : AtL S w l v) (hT : AtL S w T va) (n8 : T.length ≤ 8) (nd : T.Nodup) (nl : l.Nodup) (sub : ∀ x ∈ l, x ∈ T) :
    Calls Tryz.prog 131 #[v, va] w fun e w' => e = .returned (.int .u32 (hasM T l : Nat)) ∧ w' = w := by
  obtain ⟨oa, cap, rfl, hn, hc⟩ := h
  obtain ⟨n, en⟩ : ∃ n, l.length = n := ⟨_, rfl⟩
  have EN : Hid (l.length ≤ n ∧ n ≤ l.length) := ⟨by omega, by omega⟩
  rw [en] at hn
  rw [en]
  unfold maxLen at hn
  have HC : Hid _ := hc
  have HI : Hid (∀ x, Calls Tryz.prog 94 #[va, .string x] w fun e w' => e = .returned (.int .i64 (idxI T (fun f => eqB f x))) ∧ w' = w) := fun x => index_any S va T x w hT
  obtain ⟨R, hR⟩ : ∃ R : Int, R = (hasM T l : Nat) := ⟨_, rfl⟩
  have HR : Hid (R = (hasM T l : Nat)) := hR
  rw [← hR]
  have ND : Hid T.Nodup := nd
  have NL : Hid l.Nodup := nl
  have SUB : Hid (∀ x ∈ l, x ∈ T) := sub
  have N8 : Hid (T.length ≤ 8) := n8
  clear hc hT hR en nd nl sub n8
  go_enter Tryz.func131, Tryz.ntmps131
  go_wp2
  go_loop [5, 10] (fun s i => ∃ (k : Nat) (m : Nat), k ≤ n ∧ i = .int .i64 k ∧ s = .int .u32 m ∧ m < 256 ∧ Hid (m = hasM T (l.take k))) (fun _ i => n - (intOf i).toNat)
  case atStart => exact ⟨0, 0, Nat.zero_le _, rfl, rfl, by omega, by show _ = _; rw [List.take_zero, hasM_nil]⟩
  case round =>
    obtain ⟨k, m, hk, rfl, rfl, hm, hsum⟩ := hrel
    by_cases hlt : k < n
    · have hkl : k < l.length := by have := EN.out; omega
      obtain ⟨b, off, rfl, _, cc, hcell, hat⟩ := HC.out k hkl
      rw [width_str] at hcell
      have hcell := hcell 0 (by omega)
      rw [Nat.mul_one, Nat.add_zero] at hcell
      rw [at_str] at hat
      rw [hat.1] at hcell
      obtain ⟨x, ex⟩ : ∃ x, l[k] = x := ⟨_, rfl⟩
      rw [ex] at hcell
      obtain ⟨t, hti, htl, htx⟩ := idx_at ND.out (SUB.out l[k] (List.getElem_mem hkl))
      have hnx : Hid (hasM T (l.take (k + 1)) = m + 2 ^ t ∧ hasM T (l.take (k + 1)) < 256) := by
        refine ⟨?_, hasM_lt N8.out _⟩
        rw [List.take_succ_eq_append_getElem hkl, ← htx, hasM_snoc ND.out htl, hsum.out]
        rw [htx]
        intro hmem
        obtain ⟨j, hj, e⟩ := List.getElem_of_mem hmem
        rw [List.length_take] at hj
        rw [List.getElem_take] at e
        exact absurd e (List.pairwise_iff_getElem.1 NL.out j k (by omega) hkl (by omega))
      rw [ex] at hti
      have HX : Hid (Calls Tryz.prog 94 #[va, .string x] w fun e w' => e = .returned (.int .i64 (t : Int)) ∧ w' = w) := by
        have := HI.out x; rw [hti] at this; exact this
      have ht8 : t < 8 := by have := N8.out; omega
      clear hti htx htl hat ex
      have h8 : t = 0 ∨ t = 1 ∨ t = 2 ∨ t = 3 ∨ t = 4 ∨ t = 5 ∨ t = 6 ∨ t = 7 := by omega
      rcases h8 with rfl | rfl | rfl | rfl | rfl | rfl | rfl | rfl
      all_goals
        obtain ⟨hnb, hnc⟩ := hnx.out
        rw [hnb] at hnc
        have HNB : Hid _ := hnb
        simp only [Nat.reducePow] at hnc
        clear hnb hnx
        go_wp2_with fail
        refine Calls.mono HX.out ?_
        rintro e w1 ⟨rfl, rfl⟩
        go_wp2_with fail
        go_round
        case rel => exact ⟨k + 1, hasM T (l.take (k + 1)), by omega, by go_num, by rw [HNB.out]; go_num, hasM_lt N8.out _, rfl⟩
        case measure => simp [intOf]; omega
    · go_wp2
      go_ret
      have : l.take k = l := List.take_of_length_le (by have := EN.out; omega)
      rw [HR.out, hsum.out, this]
      exact ⟨rfl, rfl⟩

end Go.Proofs.YtidojjecjjochadGreatDoor
