/-
  Several texts in one.
-/
import Derived.Test.YtobchllaopdchacGreatM24
import Derived.Test.YtobchllaopdchacGreatM0
import Derived.StringKeys
import Derived.Maps.Own
import Derived.WideKeyEntry
import Derived.WalkLawsBesides
import Derived.Test.YtobchllaopdchacGreatM23
import Derived.Test.YtobchllaopdchacGreatM17
import Derived.Maps.AppendAt
namespace Go.Proofs.YtobchllaopdchacGreat
open Go.RowKit
def SeqZ (F : Fence) (n : Nat) (P : Program) (g : Nat) (lb : Array Value) (encs : Nat → Array Value) (own : World → Nat → Prop) (n₀ : Nat) (T low : Nat → Prop) (Z Ze : Nat → World → Prop) (N : Nat) (w : World) : Prop :=
  ∀ (l : Nat) (J Jx : Nat → World → Prop) (W : World), Below w.heap.size w W →
    (∀ k A C, J k A → But T A C → J k C) →
    (∀ k A, J k A → (∀ q, own A q → q < A.heap.size) ∧ ∀ C, But T A C → ∀ q, own C q → own A q) → (∀ q, low q → ¬ own W q) → (∀ k A, J k A → k < N) →
    (∀ k W1, J k W1 → Z k W1 → YieldAt F (n - 1) P l (encs k) W1 fun e W' => (e = .returned (.bool true) ∧ J (k + 1) W' ∧ KpO own n₀ W1 W') ∨ (e = .returned (.bool false) ∧ Jx k W')) →
    J 0 W →
    CallsIn F n P g (#[.func (.yield l) #[] #[]] ++ lb) W fun e W' => (∃ v, e = .returned v) ∧ ((∃ k, J k W' ∧ Ze k W') ∨ ∃ k, Jx k W')
variable {F : Fence} {n : Nat} {P : Program}
theorem wpIn_range_z {g : Operand} {ps : Array Tmp} {assign body : Code} {Q : Exit → Act → World → Prop} {a : Act} {w : World}
    (hro : F.round = none) (h1 : 1 ≤ n) {gf : Nat} {lb : Array Value} (hg : a.eval g = .func (.func gf) #[] lb) (hFg : F.fn gf) (eg : ∀ args w, (callFunc gf args).run P w = .ok (.enter gf args) w)
    {encs : Nat → Array Value} {own : World → Nat → Prop} {n₀ : Nat} {T low : Nat → Prop} {Z Ze : Nat → World → Prop} {N : Nat} {w0 : World} (hseq : SeqZ F (n - 1) P gf lb encs own n₀ T low Z Ze N w0)
    (hb0 : Below w0.heap.size w0 w) (hps : ∀ k, (encs k).size = ps.size) (hno : ∀ q, low q → ¬ own w q) (hlo : n₀ ≤ w.heap.size) (hT : ∀ q, T q → q < w.heap.size)
    (I : Nat → World → Prop) (Ix : Code → Nat → World → Prop) (hI : ∀ k A C, I k A → ButR T w.heap.size A C → I k C) (hIx : ∀ c k A C, Ix c k A → ButR (fun _ => False) w.heap.size A C → Ix c k C) (hZ : ∀ k A C, Z k A → ButR (fun _ => False) w.heap.size A C → Z k C) (hZe : ∀ k A C, Ze k A → ButR (fun _ => False) w.heap.size A C → Ze k C)
    (hst : ∀ k A, I k A → (∀ q, own A q → q < A.heap.size) ∧ ∀ C, ButR T w.heap.size A C → ∀ q, own C q → own A q) (h0 : I 0 w) (hN : ∀ k A, I k A → k < N)
    (hround : ∀ (l k : Nat) (W : World), I k W → Z k W → ∃ (a₁ : Act) (Wa : World), Below W.heap.size W Wa ∧
      (∀ K : Act → World → Prop, K a₁ Wa → assign.wpIn (F.inRound l) (n - 1 - 1) P (Exit.then K (fun _ _ _ => False)) { tmps := (ps.zip (encs k)).foldl (fun t (p, v) => t.setIfInBounds p v) a.tmps, defers := [] } W) ∧
      ∀ V : World, I k V → Z k V → (∃ (q : Nat) (o o' : Obj), Wa.heap[q]? = some o ∧ o.isCells = false ∧ V = Wa.putObj q o') → body.wpIn (F.inRound l) (n - 1 - 1) P (postL own n₀ I Ix k V) a₁ V)
    (hdone : ∀ (D k : Nat) (W : World), w.heap.size ≤ D → D < W.heap.size → Ze k W → I k W → W.heap[D]? = some (.deferred (some [])) → Q .normal { a with defers := { target := .collected D, args := #[] } :: a.defers } W)
    (hstop : ∀ (D : Nat) (c : Code) (k : Nat) (W : World), w.heap.size ≤ D → D < W.heap.size → Ix c k W → W.heap[D]? = some (.deferred (some [])) → c.wpIn F n P Q { a with defers := { target := .collected D, args := #[] } :: a.defers } W) :
    (Code.rangeFunc g ps assign body).wpIn F n P Q a w := by
  refine wpIn_rangeFunc fun fn hfn => ?_
  rw [hro]
  let rec' : LoopState → Option Code → Loop := fun st pe => { state := st, pending := pe, fn, tmps := a.tmps, params := ps, assign, body, defers := w.heap.size }
  obtain ⟨W1, hW1⟩ : ∃ W1, (w.alloc (.deferred (some []))).alloc (.loop (rec' .ready none)) = W1 := ⟨_, rfl⟩
  have hL1 : W1.heap[w.heap.size + 1]? = some (.loop (rec' .ready none)) := by
    rw [← hW1]; have := World.alloc_heap_new (w.alloc (.deferred (some []))) (.loop (rec' .ready none)); rwa [World.size_alloc] at this
  have hD1 : W1.heap[w.heap.size]? = some (.deferred (some [])) := by
    rw [← hW1]; exact (Below.heap_alloc _ _ _ (by simp)).trans (World.alloc_heap_new w _)
  have hw1 : Below w.heap.size w W1 := by
    rw [← hW1]; exact ((Below.refl _ w).alloc (Nat.le_refl _) _).alloc (by simp) _
  have hI1 : I 0 W1 := hI 0 w W1 h0 (.of_below hw1)
  have hb1 : Below w0.heap.size w0 W1 := hb0.trans (hw1.mono hb0.size)
  have hno1 : ∀ q, low q → ¬ own W1 q := fun q hq ho => hno q hq ((hst 0 w h0).2 W1 (.of_below hw1) q ho)
  refine ⟨w.heap.size + 1, [{ target := .collected w.heap.size, args := #[] }], W1, { target := .fn (.func gf) lb, args := #[.func (.yield (w.heap.size + 1)) #[] #[]] }, W1, gf,
    #[.func (.yield (w.heap.size + 1)) #[] #[]] ++ lb, W1, ?_, ?_, ?_, ?_, fun _ => h1, ?_⟩
  · rw [← hW1]; exact run_enterLoop_outer _ _ _ _ _
  · simp only [resolve, hg]
    simp [go_sem]
  · intro f' hf'; simp [Target.leads] at hf'; subst hf'; exact hFg
  · simp [invoke, go_sem, eg]
  · let Bk : LoopState → Option Code → World → Prop := fun st pe W => W.heap[w.heap.size + 1]? = some (.loop (rec' st pe)) ∧ W.heap[w.heap.size]? = some (.deferred (some []))
    have bkT : ∀ (st : LoopState) (pe : Option Code) (A C : World), Bk st pe A → But T A C → Bk st pe C := fun st pe A C h hb =>
      ⟨(hb.block _ (Array.getElem?_eq_some_iff.1 h.1).1 (fun ht => by have := hT _ ht; omega)).trans h.1, (hb.block _ (Array.getElem?_eq_some_iff.1 h.2).1 (fun ht => by have := hT _ ht; omega)).trans h.2⟩
    refine (hseq (w.heap.size + 1) (fun k W => I k W ∧ Bk .ready none W) (fun k W => ∃ c, Ix c k W ∧ Bk .done (some c) W) W1 hb1
      (fun k A C h hb => ⟨hI k A C h.1 (.of_but hb), bkT _ _ A C h.2 hb⟩)
      (fun k A h => ⟨(hst k A h.1).1, fun C hb q hq => (hst k A h.1).2 C (.of_but hb) q hq⟩) hno1 (fun k A h => hN k A h.1) ?_ ⟨hI1, hL1, hD1⟩).mono ?_
    · rintro k W ⟨hi, hl, hd⟩ hz
      have hlt : w.heap.size + 1 < W.heap.size := (Array.getElem?_eq_some_iff.1 hl).1
      obtain ⟨a₁, Wa, ba, hassign, hbody⟩ := hround (w.heap.size + 1) k W hi hz
      refine ⟨fn, _, assign, body, run_yield (P := P) (args := encs k) hl (hps k), roundIn_of_wpIn hfn (hassign _ ?_)⟩
      have hs := hst k W hi
      have kpa : KpO own n₀ W Wa := ⟨ba.size, fun q hq => .inl (hs.2 Wa (.of_below ba) q hq), fun q hq => ba.block q (by omega), fun q c t z hc _ => (ba.block q (Array.getElem?_eq_some_iff.1 hc).1).trans hc⟩
      have hia : I k Wa := hI k W Wa hi (.of_below ba)
      have hla := (ba.block _ hlt).trans hl
      have hda := (ba.block _ (by omega)).trans hd
      have sa := ba.size
      have kpp : ∀ (i : Nat) (A : World) (st : LoopState) (pe : Option Code) (o' : Obj), I i A → A.heap[w.heap.size + 1]? = some (.loop (rec' st pe)) → KpO own n₀ A (A.putObj (w.heap.size + 1) o') := fun i A st pe o' hA hlA =>
        ⟨by simp, fun q hq => .inl ((hst i A hA).2 _ (.put hlA rfl (by omega) o') q hq), fun q hq => World.putObj_heap_other (by omega), fun q c t z hc _ => (World.putObj_heap_other (fun e => by first | (subst e; rw [hlA] at hc; cases hc) | (rw [e] at hlA; rw [hlA] at hc; cases hc) | (rw [← e] at hc; rw [hlA] at hc; cases hc))).trans hc⟩
      refine ⟨_, run_beginRound hla rfl, ?_⟩
      have hl2 : (Wa.putObj (w.heap.size + 1) (.loop (rec' .busy none))).heap[w.heap.size + 1]? = some (.loop (rec' .busy none)) := World.putObj_heap_same (by omega)
      have hd2 : (Wa.putObj (w.heap.size + 1) (.loop (rec' .busy none))).heap[w.heap.size]? = some (.deferred (some [])) := (World.putObj_heap_other (by omega)).trans hda
      have hi2 : I k (Wa.putObj (w.heap.size + 1) (.loop (rec' .busy none))) := hI k Wa _ hia (.put hla rfl (by omega) _)
      have hz2 : Z k (Wa.putObj (w.heap.size + 1) (.loop (rec' .busy none))) := hZ k Wa _ (hZ k W Wa hz (.of_below ba)) (.put hla rfl (by omega) _)
      refine wpIn_mono (hbody _ hi2 hz2 ⟨_, _, _, hla, rfl, rfl⟩) ?_
      rintro e a3 W3 hp
      cases e with
      | normal =>
        obtain ⟨hk3, hkp3, hi3⟩ := hp
        have hl3 := hk3.same _ _ hl2 rfl
        have hd3 := hk3.same _ _ hd2 rfl
        have hlt3 := (Array.getElem?_eq_some_iff.1 hl3).1
        refine ⟨_, _, run_endRound (P := P) none hl3, .inl ⟨rfl, ⟨hI (k + 1) W3 _ hi3 (.put hl3 rfl (by omega) _), World.putObj_heap_same hlt3, (World.putObj_heap_other (by omega)).trans hd3⟩, ?_⟩⟩
        exact kpa.trans ((kpp k Wa _ _ _ hia hla).trans (hkp3.trans (kpp (k + 1) W3 _ _ _ hi3 hl3)))
      | exit id =>
        obtain ⟨hk3, hi3⟩ := hp
        have hl3 := hk3.same _ _ hl2 rfl
        have hd3 := hk3.same _ _ hd2 rfl
        have hlt3 := (Array.getElem?_eq_some_iff.1 hl3).1
        exact ⟨_, _, run_endRound (P := P) (some (.exit id)) hl3, .inr ⟨rfl, .exit id, hIx _ k W3 _ hi3 (.put hl3 rfl (by omega) _), World.putObj_heap_same hlt3, (World.putObj_heap_other (by omega)).trans hd3⟩⟩
      | ret => exact hp.elim
      | goto t => exact hp.elim
      | panic ch => exact hp.elim
      | outgrown => exact hp.elim
    · rintro e W2 ⟨⟨v, rfl⟩, ⟨k, ⟨hi, hl, hd⟩, hze⟩ | ⟨k, c, hi, hl, hd⟩⟩
      · have hlt2 := (Array.getElem?_eq_some_iff.1 hl).1
        exact ⟨none, _, run_endLoop (P := P) hl (by simp [rec']), hdone _ k _ (Nat.le_refl _) (by simp; omega) (hZe k W2 _ hze (.put hl rfl (by omega) _)) (hI k W2 _ hi (.put hl rfl (by omega) _)) ((World.putObj_heap_other (by omega)).trans hd)⟩
      · have hlt2 := (Array.getElem?_eq_some_iff.1 hl).1
        exact ⟨some c, _, run_endLoop (P := P) hl (by simp [rec']), hstop _ c k _ (Nat.le_refl _) (by simp; omega) (hIx c k W2 _ hi (.put hl rfl (by omega) _)) ((World.putObj_heap_other (by omega)).trans hd)⟩
end Go.Proofs.YtobchllaopdchacGreat

namespace Go.Proofs.YtobchllaopdchacGreat
open Go.RowKit Go.MapKept
open Go.ChangeMaps (setBlock heap_setBlock_same heap_setBlock_other)
open Go.WideMaps (KeyLaw)
theorem lawStr : KeyLaw Tryz.prog 9 := Go.WideMaps.string_law Tryz.underlying9
theorem zeroNs (w : World) : (zeroValue 3).run Tryz.prog w = .ok (.int .i64 0) w := by kernel_rfl
theorem keyOf_s {x : ByteArray} (hx : x.size ≤ maxLen) : ∃ l, keyOf Tryz.prog 9 (.string x) = some l := by
  refine ⟨.string x.data.toList, ?_⟩
  simp [keyOf, mapKey, Tryz.underlying9, hx]
def Ms (w : World) (b : Nat) (M : ByteArray → Option Nat) : Prop :=
  ∃ es clock, w.heap[b]? = some (.map es clock) ∧ Stamped es clock ∧
    (∀ e ∈ es.toList, ∃ x k, e.key = .string x ∧ x.size ≤ maxLen ∧ M x = some k ∧ e.val = .int .i64 k) ∧
    (∀ x, (∀ e ∈ es.toList, e.key ≠ .string x) → M x = none)
theorem Ms.made (w : World) : Ms (w.alloc (.map #[] 0)) w.heap.size (fun _ => none) :=
  ⟨#[], 0, (MapKept.heap_alloc w _).1, stamped_empty 0, by simp, fun _ _ => rfl⟩
theorem Ms.lt {w : World} {b : Nat} {M : ByteArray → Option Nat} (h : Ms w b M) : b < w.heap.size := by
  obtain ⟨es, clock, hb, _⟩ := h
  exact (Array.getElem?_eq_some_iff.1 hb).1
theorem Ms.of_block {w w' : World} {b : Nat} {M : ByteArray → Option Nat} (h : Ms w b M) (hb : w'.heap[b]? = w.heap[b]?) : Ms w' b M := by
  obtain ⟨es, clock, h1, h2⟩ := h
  exact ⟨es, clock, hb.trans h1, h2⟩
theorem Ms.grown {w w' : World} {b : Nat} {M : ByteArray → Option Nat} {row : Option Nat} (h : Ms w b M) (hg : w.grownBy w' row) (hne : some b ≠ row) : Ms w' b M :=
  h.of_block (hg.block b h.lt hne)
theorem Ms.below {w w' : World} {b B : Nat} {M : ByteArray → Option Nat} (h : Ms w b M) (hb : Below B w w') (hB : b < B) : Ms w' b M :=
  h.of_block (hb.block b hB)
theorem Ms.same {w : World} {b : Nat} {M M' : ByteArray → Option Nat} (h : Ms w b M) (e : ∀ x, M' x = M x) : Ms w b M' := by
  have : M' = M := funext e
  rw [this]; exact h
theorem str_inj {x y : ByteArray} (h : (Value.string x) = .string y) : x = y := by simpa using h
theorem Ms.look_yes {w : World} {b : Nat} {M : ByteArray → Option Nat} (h : Ms w b M) {x : ByteArray} (hx : x.size ≤ maxLen) {k : Nat} (hk : M x = some k) :
    (Instr.lookup 206 (.map (some b)) (.string x) true).run Tryz.prog w = .ok (.tuple #[.int .i64 k, .bool true]) w := by
  obtain ⟨es, clock, hb, hs, hr, hz⟩ := h
  obtain ⟨l, hkey⟩ := keyOf_s hx
  rcases lawStr.find w hkey es.toList (fun e he => by obtain ⟨p, q, h1, h2, h3, _⟩ := hr e he; rw [h1]; exact keyOf_s h2) with ⟨h1, h2⟩ | ⟨j, e0, h1, h2, h3⟩
  · rw [hz x h2] at hk; cases hk
  · obtain ⟨p, q, k1, _, k3, k4⟩ := hr e0 (List.mem_of_getElem? h2)
    obtain rfl := str_inj (k1.symm.trans h3)
    rw [hk] at k3
    cases k3
    simp [Instr.lookup, run_underlying Tryz.underlying206, MapKept.run_getObj_map hb, lawStr.check w _ hkey, h1, k4, Result.andThen]
theorem Ms.look_no {w : World} {b : Nat} {M : ByteArray → Option Nat} (h : Ms w b M) {x : ByteArray} (hx : x.size ≤ maxLen) (hk : M x = none) :
    (Instr.lookup 206 (.map (some b)) (.string x) true).run Tryz.prog w = .ok (.tuple #[.int .i64 0, .bool false]) w := by
  obtain ⟨es, clock, hb, hs, hr, hz⟩ := h
  obtain ⟨l, hkey⟩ := keyOf_s hx
  rcases lawStr.find w hkey es.toList (fun e he => by obtain ⟨p, q, h1, h2, h3, _⟩ := hr e he; rw [h1]; exact keyOf_s h2) with ⟨h1, h2⟩ | ⟨j, e0, h1, h2, h3⟩
  · simp [Instr.lookup, run_underlying Tryz.underlying206, MapKept.run_getObj_map hb, lawStr.check w _ hkey, h1, zeroNs w, Result.andThen]
  · obtain ⟨p, q, k1, _, k3, k4⟩ := hr e0 (List.mem_of_getElem? h2)
    obtain rfl := str_inj (k1.symm.trans h3)
    rw [hk] at k3
    cases k3
def putM (M : ByteArray → Option Nat) (x : ByteArray) (n : Nat) (p : ByteArray) : Option Nat := if p = x then some n else M p
theorem Ms.put {w : World} {b : Nat} {M : ByteArray → Option Nat} (h : Ms w b M) {x : ByteArray} (hx : x.size ≤ maxLen) (hk : M x = none) (n : Nat) :
    ∃ w', (Instr.mapUpdate 206 (.map (some b)) (.string x) (.int .i64 n)).run Tryz.prog w = .ok () w' ∧ Ms w' b (putM M x n) ∧ w.grownBy w' (some b) := by
  obtain ⟨es, clock, hb, hs, hr, hz⟩ := h
  obtain ⟨l, hkey⟩ := keyOf_s hx
  rcases lawStr.find w hkey es.toList (fun e he => by obtain ⟨p, q, h1, h2, h3, _⟩ := hr e he; rw [h1]; exact keyOf_s h2) with ⟨h1, h2⟩ | ⟨j, e0, h1, h2, h3⟩
  · have hpush : (es.push ⟨.string x, .int .i64 n, clock⟩).toList = es.toList ++ [⟨.string x, .int .i64 n, clock⟩] := Array.toList_push
    refine ⟨setBlock w b (.map (es.push ⟨.string x, .int .i64 n, clock⟩) (clock + 1)), ?_, ⟨_, _, heap_setBlock_same hb _, stamped_push hs h2, ?_, ?_⟩, ⟨rfl, rfl, rfl, by simp [setBlock], fun i _ hi => heap_setBlock_other hb _ (fun e => hi (by rw [e]))⟩⟩
    · simp [Instr.mapUpdate, run_underlying Tryz.underlying206, MapKept.run_getObj_map hb, lawStr.check w false hkey, h1, MapKept.run_setObj_map _ hb, Result.andThen, setBlock]
    · intro e he
      rw [hpush] at he
      rcases List.mem_append.1 he with he | he
      · obtain ⟨p, q, k1, k2, k3, k4⟩ := hr e he
        have hne : p ≠ x := fun e1 => h2 e he (by rw [k1, e1])
        exact ⟨p, q, k1, k2, by rw [putM, if_neg hne]; exact k3, k4⟩
      · simp only [List.mem_singleton] at he
        subst he
        exact ⟨x, n, rfl, hx, by rw [putM, if_pos rfl], rfl⟩
    · intro p hne
      have hn : p ≠ x := fun e1 => hne ⟨.string x, .int .i64 n, clock⟩ (by rw [hpush]; simp) (by rw [e1])
      rw [putM, if_neg hn]
      exact hz p (fun e he => hne e (by rw [hpush]; exact List.mem_append.2 (Or.inl he)))
  · obtain ⟨p, q, k1, _, k3, k4⟩ := hr e0 (List.mem_of_getElem? h2)
    obtain rfl := str_inj (k1.symm.trans h3)
    rw [hk] at k3
    cases k3
end Go.Proofs.YtobchllaopdchacGreat

namespace Go.Proofs.YtobchllaopdchacGreat
open Go.RowKit
def Apart (Bs : List DShareBatch) : Prop := ∀ i (hi : i < Bs.length) k (hk : k < i), shareB Bs[i].2.1 (Bs[k]'(by omega)).2.1 = false
def WhoU (Bs : List DShareBatch) (k j : Nat) (M : ByteArray → Option Nat) : Prop :=
  ∀ x t, M x = some t ↔ ∃ h : t < Bs.length, (t < k ∧ x ∈ Bs[t].2.1) ∨ (t = k ∧ x ∈ Bs[t].2.1.take j)
def WhoP (Bs : List DShareBatch) (M : ByteArray → Option Nat) : Prop := ∀ x t, M x = some t ↔ ∃ h : t < Bs.length, x ∈ Bs[t].2.1
theorem share_iff (a b : List ByteArray) : shareB a b = true ↔ ∃ x, x ∈ a ∧ x ∈ b := by
  unfold shareB
  rw [List.any_eq_true]
  constructor
  · rintro ⟨x, h1, h2⟩; exact ⟨x, h1, (hasB_iff _ _).1 h2⟩
  · rintro ⟨x, h1, h2⟩; exact ⟨x, h1, (hasB_iff _ _).2 h2⟩
theorem WhoP.apart {Bs : List DShareBatch} {M : ByteArray → Option Nat} (h : WhoP Bs M) : Apart Bs := fun i hi k hk => by
  cases e : shareB Bs[i].2.1 (Bs[k]'(by omega)).2.1
  · rfl
  · obtain ⟨x, h1, h2⟩ := (share_iff _ _).1 e
    have a := (h x i).2 ⟨hi, h1⟩
    have b := (h x k).2 ⟨by omega, h2⟩
    rw [a] at b
    cases b
    omega
theorem who_zero (Bs : List DShareBatch) : WhoU Bs 0 0 (fun _ => none) := fun x t => by
  constructor
  · intro h; cases h
  · rintro ⟨_, ⟨h, _⟩ | ⟨_, h⟩⟩
    · omega
    · simp at h
theorem who_next {Bs : List DShareBatch} {k : Nat} {M : ByteArray → Option Nat} (hk : k < Bs.length) (h : WhoU Bs k Bs[k].2.1.length M) : WhoU Bs (k + 1) 0 M := fun x t => by
  rw [h x t]
  constructor
  · rintro ⟨ht, ⟨h1, h2⟩ | ⟨h1, h2⟩⟩
    · exact ⟨ht, .inl ⟨by omega, h2⟩⟩
    · subst h1; rw [List.take_length] at h2; exact ⟨ht, .inl ⟨by omega, h2⟩⟩
  · rintro ⟨ht, ⟨h1, h2⟩ | ⟨_, h2⟩⟩
    · by_cases e : t = k
      · subst e; exact ⟨ht, .inr ⟨rfl, by rw [List.take_length]; exact h2⟩⟩
      · exact ⟨ht, .inl ⟨by omega, h2⟩⟩
    · simp at h2
theorem who_all {Bs : List DShareBatch} {k : Nat} {M : ByteArray → Option Nat} (hk : Bs.length ≤ k) (h : WhoU Bs k 0 M) : WhoP Bs M := fun x t => by
  rw [h x t]
  constructor
  · rintro ⟨ht, ⟨_, h2⟩ | ⟨_, h2⟩⟩
    · exact ⟨ht, h2⟩
    · simp at h2
  · rintro ⟨ht, h2⟩; exact ⟨ht, .inl ⟨by omega, h2⟩⟩
theorem who_put {Bs : List DShareBatch} {k j : Nat} {M : ByteArray → Option Nat} (hk : k < Bs.length) (hj : j < Bs[k].2.1.length) (h : WhoU Bs k j M) (hn : M Bs[k].2.1[j] = none) : WhoU Bs k (j + 1) (putM M Bs[k].2.1[j] k) := fun x t => by
  unfold putM
  by_cases e : x = Bs[k].2.1[j]
  · rw [if_pos e]
    constructor
    · intro h1
      cases h1
      refine ⟨hk, .inr ⟨rfl, ?_⟩⟩
      rw [e, List.take_succ_eq_append_getElem hj]
      exact List.mem_append_right _ (List.mem_singleton.2 rfl)
    · rintro ⟨ht, ⟨h1, h2⟩ | ⟨h1, _⟩⟩
      · have := (h x t).2 ⟨ht, .inl ⟨h1, h2⟩⟩
        rw [e, hn] at this
        cases this
      · rw [h1]
  · rw [if_neg e, h x t]
    constructor
    · rintro ⟨ht, h1 | ⟨h1, h2⟩⟩
      · exact ⟨ht, .inl h1⟩
      · subst h1
        refine ⟨ht, .inr ⟨rfl, ?_⟩⟩
        rw [List.take_succ_eq_append_getElem hj]; exact List.mem_append_left _ h2
    · rintro ⟨ht, h1 | ⟨h1, h2⟩⟩
      · exact ⟨ht, .inl h1⟩
      · subst h1
        rw [List.take_succ_eq_append_getElem hj] at h2
        rcases List.mem_append.1 h2 with h2 | h2
        · exact ⟨ht, .inr ⟨rfl, h2⟩⟩
        · exact absurd (List.mem_singleton.1 h2) e
theorem who_twice {Bs : List DShareBatch} {k j t : Nat} {M : ByteArray → Option Nat} (hk : k < Bs.length) (hj : j < Bs[k].2.1.length) (hd : Bs[k].2.1.Nodup) (h : WhoU Bs k j M) (hn : M Bs[k].2.1[j] = some t) : ¬ Apart Bs := fun hA => by
  obtain ⟨ht, ⟨h1, h2⟩ | ⟨h1, h2⟩⟩ := (h _ t).1 hn
  · have := hA k hk t h1
    rw [(share_iff _ _).2 ⟨_, List.getElem_mem hj, h2⟩] at this
    cases this
  · subst h1
    obtain ⟨i, hi, e⟩ := List.getElem_of_mem h2
    rw [List.getElem_take] at e
    have hi' : i < j := by have := hi; simp at this; omega
    have := List.pairwise_iff_getElem.1 hd i j (by omega) hj hi'
    exact this e
set_option maxRecDepth 100000 in
set_option maxHeartbeats 16000000 in
theorem who_any (S : Nat → Prop) (Bs : List DShareBatch) (v0 v1 : Value) (w : World) (h1 : AtL S w Bs v1) (hS : ∀ b, S b → b < w.heap.size) (hd : ∀ x ∈ Bs, x.2.1.Nodup) :
    Calls Tryz.prog 173 #[.agg #[v0, v1]] w fun e w' => ((e = .returned (.tuple #[.map none, .bool false]) ∧ ¬ Apart Bs) ∨ (∃ m M, e = .returned (.tuple #[.map (some m), .bool true]) ∧ Ms w' m M ∧ WhoP Bs M)) ∧ Below w.heap.size w w' := by
  obtain ⟨oa, kb, rfl, hfit, hc⟩ := id h1
  have HC : Hid _ := hc
  have HD : Hid (∀ i (hi : i < Bs.length), Bs[i].2.1.Nodup) := fun i hi => hd _ (List.getElem_mem hi)
  have HS : Hid _ := lt_up hS
  obtain ⟨nb, enb⟩ : ∃ n, Bs.length = n := ⟨_, rfl⟩
  have ENB : Hid (Bs.length ≤ nb ∧ nb ≤ Bs.length) := ⟨by omega, by omega⟩
  rw [enb]
  have hmx : nb ≤ maxLen := by rw [← enb]; exact hfit.1
  unfold maxLen at hmx
  clear h1 hc hfit enb hd
  obtain ⟨W, hW⟩ : ∃ W, W = w.alloc (.cells #[v0, .slice oa nb kb] 34) := ⟨_, rfl⟩
  have EW : Hid (W = w.alloc (.cells #[v0, .slice oa nb kb] 34)) := hW
  have BW : Hid (Below w.heap.size w W) := by rw [hW]; exact (Below.refl _ _).alloc (Nat.le_refl _) _
  have sW : w.heap.size + 1 ≤ W.heap.size := by rw [hW]; simp
  have y1 := fun o => cell_past (show W.cell? ⟨w.heap.size, 1, none⟩ = some (.slice oa nb kb) by rw [hW]; exact box_at _ _ (Below.refl _ _) 1 _ rfl) (by omega) o
  obtain ⟨m, hm⟩ : ∃ m, m = W.heap.size := ⟨_, rfl⟩
  have EM : Hid (m = W.heap.size) := hm
  have hmw : w.heap.size ≤ m := by omega
  clear hW hm
  have hmm := @run_makeMap Tryz.prog
  go_enter Tryz.func173, Tryz.ntmps173
  go_upto_region 1 with fail
  rw [← EW.out]
  go_wp2_with fail
  rw [← EM.out]
  clear y1
  go_loopw [15] (fun i wr => ∃ q : Nat, q ≤ nb ∧ i = .int .i64 q ∧ Hid (∃ M, Ms wr m M ∧ WhoU Bs q 0 M) ∧ Hid (Below w.heap.size w wr)) (fun i _ => nb - (intOf i).toNat)
  case atStart =>
    refine ⟨0, Nat.zero_le _, rfl, ⟨_, ?_, who_zero Bs⟩, BW.out.alloc (by omega) _⟩
    rw [EM.out]
    exact Ms.made W
  case round =>
    obtain ⟨q, hq, rfl, hmp, hbel⟩ := hrel
    by_cases hlt : q < nb
    case neg =>
      go_wp2_with fail
      obtain ⟨M, hM, hw⟩ := hmp.out
      exact bodyPost_ret (v := .tuple #[.map (some m), .bool true]) (by simp [results, Tryz.results173, go_sem]) rfl ⟨.inr ⟨m, M, rfl, hM, who_all (by have := ENB.out; omega) hw⟩, hbel.out⟩
    have hqb : q < Bs.length := by have := ENB.out; omega
    obtain ⟨bb, off, rfl, hbS, cc, hcell, hat⟩ := HC.out q hqb
    have hbb := HS.out w (Below.refl _ _) bb hbS
    rw [width_DShareBatch] at hcell
    obtain ⟨f, ef⟩ : ∃ f, Bs[q] = f := ⟨_, rfl⟩
    rw [at_DShareBatch, ef] at hat
    obtain ⟨nm, has, needs⟩ := f
    have EF : Hid (Bs[q].2.1 = has) := by show _ = _; rw [ef]
    obtain ⟨⟨t0, z0⟩, a1, a2⟩ := hat
    simp only at t0 z0 a1 a2
    obtain ⟨o1, k1, t1, hf1, hc1⟩ := id a1
    obtain ⟨o2, k2, t2, _⟩ := id a2
    obtain ⟨n1, en1⟩ : ∃ n, has.length = n := ⟨_, rfl⟩
    obtain ⟨n2, en2⟩ : ∃ n, needs.length = n := ⟨_, rfl⟩
    have hx1 : n1 ≤ maxLen := by rw [← en1]; exact hf1.1
    unfold maxLen at hx1
    have EN1 : Hid (has.length ≤ n1 ∧ n1 ≤ has.length) := ⟨by omega, by omega⟩
    have HC1 : Hid _ := hc1
    rw [en1] at t1
    rw [en2] at t2
    have bwr := hbel.out
    have e0 : wr.cell? ⟨bb, off + q * 3, none⟩ = some (.string nm) := (bwr.cell (p := ⟨bb, off + q * 3, none⟩) hbb).trans ((by have hq := hcell 0 (by omega); first | exact hq | simpa using hq : w.cell? ⟨bb, off + q * 3, none⟩ = some (cc 0)).trans (by rw [t0]))
    have e1 : wr.cell? ⟨bb, off + q * 3 + 1, none⟩ = some (.slice o1 n1 k1) := (bwr.cell (p := ⟨bb, off + q * 3 + 1, none⟩) hbb).trans ((hcell 1 (by omega)).trans (by rw [t1]))
    have e2 : wr.cell? ⟨bb, off + q * 3 + 2, none⟩ = some (.slice o2 n2 k2) := (bwr.cell (p := ⟨bb, off + q * 3 + 2, none⟩) hbb).trans ((hcell 2 (by omega)).trans (by rw [t2]))
    clear hcell a1 a2 t0 t1 t2 en1 en2 hf1 hc1 ef bwr
    obtain ⟨X, hX⟩ : ∃ X, X = wr.alloc (.cells #[.string nm, .slice o1 n1 k1, .slice o2 n2 k2] 103) := ⟨_, rfl⟩
    have EX : Hid (X = wr.alloc (.cells #[.string nm, .slice o1 n1 k1, .slice o2 n2 k2] 103)) := hX
    have sw := hbel.out.size
    have BX : Hid (Below w.heap.size w X) := by rw [hX]; exact hbel.out.alloc (by omega) _
    have MX : Hid (∃ M, Ms X m M ∧ WhoU Bs q 0 M) := by
      obtain ⟨M, hM, hw⟩ := hmp.out
      exact ⟨M, by rw [hX]; exact hM.of_block (Below.heap_alloc wr _ _ hM.lt), hw⟩
    have r1 : X.cell? ⟨wr.heap.size, 1, none⟩ = some (.slice o1 n1 k1) := by rw [hX]; exact box_at _ _ (Below.refl _ _) 1 _ rfl
    clear hX
    go_upto_region 5 with fail
    rw [← EX.out]
    go_wp2_with fail
    clear e0 e1 e2 r1
    go_loopw [23] (fun i wr => ∃ j : Nat, j ≤ n1 ∧ i = .int .i64 j ∧ Hid (∃ M, Ms wr m M ∧ WhoU Bs q j M) ∧ Hid (Below w.heap.size w wr)) (fun i _ => n1 - (intOf i).toNat)
    case atStart => exact ⟨0, Nat.zero_le _, rfl, MX, BX⟩
    case round =>
      obtain ⟨j, hj, rfl, hmp2, hbel2⟩ := hrel
      by_cases hlj : j < n1
      case neg =>
        go_wp2_with fail
        go_roundw
        case rel =>
          obtain ⟨M, hM, hw⟩ := hmp2.out
          have hj' : j = Bs[q].2.1.length := by rw [EF.out]; have := EN1.out; omega
          rw [hj'] at hw
          exact ⟨q + 1, by omega, by go_num, ⟨M, hM, who_next hqb hw⟩, hbel2⟩
        case measure => simp [intOf]; omega
      have hjb : j < has.length := by have := EN1.out; omega
      have hjq : j < Bs[q].2.1.length := by rw [EF.out]; exact hjb
      obtain ⟨b1, off1, rfl, hbS1, c1, hcl1, hat1⟩ := HC1.out j hjb
      have hbb1 := HS.out w (Below.refl _ _) b1 hbS1
      rw [width_str] at hcl1
      rw [at_str] at hat1
      obtain ⟨x, ex⟩ : ∃ x, has[j] = x := ⟨_, rfl⟩
      rw [ex] at hat1
      obtain ⟨tx, zx⟩ := hat1
      have exq : Hid (Bs[q].2.1[j] = x) := by show _ = _; rw [← ex]; simp only [EF.out]
      have x0 : wr.cell? ⟨b1, off1 + j, none⟩ = some (.string x) := (hbel2.out.cell (p := ⟨b1, off1 + j, none⟩) hbb1).trans ((by have hq := hcl1 0 (by omega); first | exact hq | simpa using hq : w.cell? ⟨b1, off1 + j, none⟩ = some (c1 0)).trans (by rw [tx]))
      clear hcl1 tx ex
      obtain ⟨M, hM, hw⟩ := hmp2.out
      have hML := hM.lt
      have HW : Hid (WhoU Bs q j M) := hw
      have HM : Hid (Ms wr m M) := hM
      clear hw hM
      cases eM : M x with
      | some t =>
        have l0 := HM.out.look_yes zx eM
        have HN : Hid (¬ Apart Bs) := who_twice hqb hjq (HD.out q hqb) HW.out (by rw [exq.out]; exact eM)
        clear eM
        go_wp2_with fail
        exact bodyPost_ret (v := .tuple #[.map none, .bool false]) (by simp [results, Tryz.results173, go_sem]) rfl ⟨.inl ⟨rfl, HN.out⟩, hbel2.out⟩
      | none =>
        have l0 := HM.out.look_no zx eM
        obtain ⟨u, hu, hMu, hg⟩ := HM.out.put zx eM q
        have HU : Hid (∃ M, Ms u m M ∧ WhoU Bs q (j + 1) M) := ⟨_, hMu, by
          have := who_put hqb hjq HW.out (by rw [exq.out]; exact eM)
          rw [exq.out] at this
          exact this⟩
        have BU : Hid (Below w.heap.size w u) := hbel2.out.grown hg (by have := hbel2.out.size; omega) (fun i hi => by cases hi; omega)
        clear eM hMu hg
        go_wp2_with fail
        go_roundw
        case rel => exact ⟨j + 1, by omega, by go_num, HU, BU⟩
        case measure => simp [intOf]; omega
end Go.Proofs.YtobchllaopdchacGreat
