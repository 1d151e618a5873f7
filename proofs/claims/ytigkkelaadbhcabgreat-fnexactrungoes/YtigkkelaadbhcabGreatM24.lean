/-
  Several texts in one.
-/
import Derived.Test.YtigkkelaadbhcabGreatM23
import Derived.Test.YtigkkelaadbhcabGreatM8
import Derived.Test.YtigkkelaadbhcabGreatM1
import Derived.RangeFuncCalls
import Derived.Shelf.Abstract
import Derived.Shelf.RegionOpen
import Derived.OwnWalkIn
import Derived.TacticsInMore
import Derived.LoopNIn
import Derived.LoopIn
import Derived.Sort.CutIn
import Derived.Test.YtigkkelaadbhcabGreatM7
namespace Go.Proofs.YtigkkelaadbhcabGreat
open Go.RowKit
def SeqFitP {α : Type} (F : Fence) (n : Nat) (P : Program) (g : Nat) (lb : Array Value) (encs : α → Array Value) (own : World → Nat → Prop) (n₀ : Nat) (low : Nat → Prop) (fits : Nat → List α → α → World → Prop) (S : List α → Prop) (N : Nat) (w : World) : Prop :=
  ∀ (l : Nat) (J : List α → World → Prop) (W : World), Below w.heap.size w W → OwnFrom W.heap.size J → (∀ pre W1, J pre W1 → OwnSt own W1) → (∀ k, low k → ¬ own W k) →
    (∀ pre x W0 W1, J pre W0 → J pre W1 → fits W0.heap.size pre x W1 → pre.length < N → YieldAt F (n - 1) P l (encs x) W1 fun e W' => e = .returned (.bool true) ∧ J (pre ++ [x]) W' ∧ KpO own n₀ W1 W' ∧ KeepsFrom W.heap.size W1 W') →
    J [] W →
    CallsIn F n P g (#[.func (.yield l) #[] #[]] ++ lb) W fun e W' => (∃ v, e = .returned v) ∧ ∃ xs, S xs ∧ J xs W'
variable {F : Fence} {n : Nat} {P : Program}
theorem wpIn_range_fitp {α : Type} {g : Operand} {ps : Array Tmp} {assign body : Code} {Q : Exit → Act → World → Prop} {a : Act} {w : World}
    (hro : F.round = none) (h1 : 1 ≤ n) {gf : Nat} {lb : Array Value} (hg : a.eval g = .func (.func gf) #[] lb) (hFg : F.fn gf) (eg : ∀ args w, (callFunc gf args).run P w = .ok (.enter gf args) w)
    {encs : α → Array Value} {own : World → Nat → Prop} {n₀ : Nat} {low : Nat → Prop} {fits : Nat → List α → α → World → Prop} {S : List α → Prop} {N : Nat} {w0 : World} (hseq : SeqFitP F (n - 1) P gf lb encs own n₀ low fits S N w0) (hfp : ∀ S pre x (W : World) (l : Nat) (o o' : Obj), fits S pre x W → W.heap[l]? = some o → o.isCells = false → fits S pre x (W.putObj l o'))
    (hb0 : Below w0.heap.size w0 w) (hps : ∀ x, (encs x).size = ps.size) (hn₀ : ∀ k, low k → ¬ own w k) (hlo : n₀ ≤ w.heap.size)
    (I : List α → World → Prop) (hI : OwnFrom w.heap.size I) (hst : ∀ pre W, I pre W → OwnSt own W) (h0 : I [] w) (hfb : ∀ S pre x W W', fits S pre x W → Below W.heap.size W W' → fits S pre x W')
    (hround : ∀ (l : Nat) (pre : List α) (x : α) (W : World), I pre W → pre.length < N → ∃ (a₁ : Act) (Wa : World), Below W.heap.size W Wa ∧
      (∀ K : Act → World → Prop, K a₁ Wa → assign.wpIn (F.inRound l) (n - 1 - 1) P (Exit.then K (fun _ _ _ => False)) { tmps := (ps.zip (encs x)).foldl (fun t (p, v) => t.setIfInBounds p v) a.tmps, defers := [] } W) ∧
      ∀ W0 V : World, I pre W0 → I pre V → fits W0.heap.size pre x V → (∃ (k : Nat) (o o' : Obj), Wa.heap[k]? = some o ∧ o.isCells = false ∧ V = Wa.putObj k o') → body.wpIn (F.inRound l) (n - 1 - 1) P (postO own n₀ I (pre ++ [x]) V) a₁ V)
    (hdone : ∀ (D : Nat) (xs : List α) (W : World), w.heap.size ≤ D → D < W.heap.size → S xs → I xs W → W.heap[D]? = some (.deferred (some [])) → KeepsOthers w W → Q .normal { a with defers := { target := .collected D, args := #[] } :: a.defers } W) :
    (Code.rangeFunc g ps assign body).wpIn F n P Q a w := by
  refine wpIn_rangeFunc fun fn hfn => ?_
  rw [hro]
  let rec' : LoopState → Option Code → Loop := fun st pe => { state := st, pending := pe, fn, tmps := a.tmps, params := ps, assign, body, defers := w.heap.size }
  obtain ⟨W1, hW1⟩ : ∃ W1, (w.alloc (.deferred (some []))).alloc (.loop (rec' .ready none)) = W1 := ⟨_, rfl⟩
  have sW1 : W1.heap.size = w.heap.size + 1 + 1 := by rw [← hW1]; simp
  have hL1 : W1.heap[w.heap.size + 1]? = some (.loop (rec' .ready none)) := by
    rw [← hW1]; have := World.alloc_heap_new (w.alloc (.deferred (some []))) (.loop (rec' .ready none)); rwa [World.size_alloc] at this
  have hD1 : W1.heap[w.heap.size]? = some (.deferred (some [])) := by
    rw [← hW1]; exact (Below.heap_alloc _ _ _ (by simp)).trans (World.alloc_heap_new w _)
  have hI1 : I [] W1 := by rw [← hW1]; exact hI.alloc _ (hI.alloc _ h0)
  have hk1 : KeepsOthers w W1 := by rw [← hW1]; exact (KeepsOthers.alloc _ _).trans (KeepsOthers.alloc _ _)
  have hb1 : Below w0.heap.size w0 W1 := by
    rw [← hW1]; exact hb0.trans ((((Below.refl _ w).alloc (Nat.le_refl _) _).alloc (by simp) _).mono hb0.size)
  have hno : ∀ k, low k → ¬ own W1 k := fun k hk ho => by
    have g1 := (hst [] w h0).2 _ none (World.grownBy_alloc w (.deferred (some [])) none) (fun r e => by cases e)
    have hs2 := hst [] _ (hI.alloc (.deferred (some [])) h0)
    rw [← hW1] at ho
    exact hn₀ k hk (g1 k (hs2.2 _ none (World.grownBy_alloc _ _ none) (fun r e => by cases e) k ho))
  refine ⟨w.heap.size + 1, [{ target := .collected w.heap.size, args := #[] }], W1, { target := .fn (.func gf) lb, args := #[.func (.yield (w.heap.size + 1)) #[] #[]] }, W1, gf,
    #[.func (.yield (w.heap.size + 1)) #[] #[]] ++ lb, W1, ?_, ?_, ?_, ?_, fun _ => h1, ?_⟩
  · rw [← hW1]; exact run_enterLoop_outer _ _ _ _ _
  · simp only [resolve, hg]
    simp [go_sem]
  · intro f' hf'; simp [Target.leads] at hf'; subst hf'; exact hFg
  · simp [invoke, go_sem, eg]
  · -- the three facts that stand beside the caller's own
    let Bk : LoopState → World → Prop := fun st W => W.heap[w.heap.size + 1]? = some (.loop (rec' st none)) ∧ W.heap[w.heap.size]? = some (.deferred (some [])) ∧ KeepsOthers w W
    have bk_own : ∀ (st : LoopState) (A B : World) (row : Option Nat), Bk st A → A.grownBy B row → (∀ r, row = some r → W1.heap.size ≤ r ∧ ∃ o : Obj, A.heap[r]? = some o ∧ o.isCells = false) → Bk st B := fun st A B row hs hg' hr => by
      have no : ∀ k, k < W1.heap.size → some k ≠ row := fun k hk e => by have := (hr k e.symm).1; omega
      refine ⟨(hg'.block _ (Array.getElem?_eq_some_iff.1 hs.1).1 (no _ (by omega))).trans hs.1, (hg'.block _ (Array.getElem?_eq_some_iff.1 hs.2.1).1 (no _ (by omega))).trans hs.2.1, Nat.le_trans hs.2.2.size hg'.size, fun k o hk ho => ?_⟩
      have hA := hs.2.2.same k o hk ho
      exact (hg'.block k (Array.getElem?_eq_some_iff.1 hA).1 (no k (by have := (Array.getElem?_eq_some_iff.1 hk).1; omega))).trans hA
    refine (hseq (w.heap.size + 1) (fun pre W => I pre W ∧ Bk .ready W) W1 hb1
      (fun s A B row hs hg' hr => ⟨hI s A B row hs.1 hg' (fun r e => ⟨by have := (hr r e).1; omega, (hr r e).2⟩), bk_own _ A B row hs.2 hg' hr⟩)
      (fun pre W h => hst pre W h.1) hno ?_ ⟨hI1, hL1, hD1, hk1⟩).mono ?_
    · rintro pre x W0 W ⟨hi0, _⟩ ⟨hi, hl, hd, hkf⟩ hfit hlen
      have hlt : w.heap.size + 1 < W.heap.size := (Array.getElem?_eq_some_iff.1 hl).1
      obtain ⟨a₁, Wa, ba, hassign, hbody⟩ := hround (w.heap.size + 1) pre x W hi hlen
      refine ⟨fn, _, assign, body, run_yield (P := P) (args := encs x) hl (hps x), roundIn_of_wpIn hfn (hassign _ ?_)⟩
      have hkw := hst pre W hi
      have kpa : KpO own n₀ W Wa := hkw.kp (by omega) (below_grown0 ba) (fun r e => by cases e)
      have hia : I pre Wa := hI pre W Wa none hi (below_grown0 ba) (fun r e => by cases e)
      have hla := (ba.block _ hlt).trans hl
      have hda := (ba.block _ (by omega)).trans hd
      have hka := hkf.trans (keeps_below ba)
      have hfa := hfb _ _ _ _ _ hfit ba
      have fra : KeepsFrom W1.heap.size W Wa := (keeps_below ba).from _
      have hlta := ba.size
      refine ⟨_, run_beginRound hla rfl, ?_⟩
      have hl2 : (Wa.putObj (w.heap.size + 1) (.loop (rec' .busy none))).heap[w.heap.size + 1]? = some (.loop (rec' .busy none)) := World.putObj_heap_same (by omega)
      have hi2 : I pre (Wa.putObj (w.heap.size + 1) (.loop (rec' .busy none))) := hI.putObj _ hia (by omega) hla rfl
      have hw2 : KpO own n₀ W (Wa.putObj (w.heap.size + 1) (.loop (rec' .busy none))) := kpa.trans ((hst pre Wa hia).kp (by omega) (grownBy_putObj' Wa _ _) (fun r e => by cases e; exact ⟨by omega, _, hla, rfl⟩))
      refine wpIn_mono (hbody W0 _ hi0 hi2 (hfp _ _ _ _ _ _ _ hfa hla rfl) ⟨_, _, _, hla, rfl, rfl⟩) ?_
      rintro e a3 W3 hp
      cases e with
      | normal =>
        obtain ⟨hk3, hkp3, hi3⟩ := hp
        have hl3 := hk3.same _ _ hl2 rfl
        have hd2 : (Wa.putObj (w.heap.size + 1) (.loop (rec' .busy none))).heap[w.heap.size]? = some (.deferred (some [])) := (World.putObj_heap_other (by omega)).trans hda
        have hd3 := hk3.same _ _ hd2 rfl
        have hi4 : I (pre ++ [x]) (W3.putObj (w.heap.size + 1) (.loop (rec' .ready none))) := hI.putObj _ hi3 (by omega) hl3 rfl
        have hlt3 := (Array.getElem?_eq_some_iff.1 hl3).1
        refine ⟨_, _, run_endRound (P := P) none hl3, rfl, ⟨hi4, World.putObj_heap_same hlt3, (World.putObj_heap_other (by omega)).trans hd3, ?_⟩, (hw2.trans hkp3).trans ((hst _ _ hi3).kp (by omega) (grownBy_putObj' W3 _ _) (fun r e => by cases e; exact ⟨by omega, _, hl3, rfl⟩)), ?_⟩
        · exact keeps_put ((keeps_put hka (by omega) _).trans hk3) (by omega) _
        · exact from_trans (from_trans (from_trans fra (from_put (by omega) _)) (hk3.from _)) (from_put (by omega) _)
      | ret => exact hp.elim
      | exit id => exact hp.elim
      | goto t => exact hp.elim
      | panic ch => exact hp.elim
      | outgrown => exact hp.elim
    · rintro e W2 ⟨⟨v, rfl⟩, xs, hS, hi, hl, hd, hkf⟩
      have hlt2 := (Array.getElem?_eq_some_iff.1 hl).1
      exact ⟨none, _, run_endLoop (P := P) hl (by simp [rec']), hdone _ xs _ (Nat.le_refl _) (by simp; omega) hS (hI.putObj _ hi (by omega) hl rfl) ((World.putObj_heap_other (by omega)).trans hd) (keeps_put hkf (by omega) _)⟩
end Go.Proofs.YtigkkelaadbhcabGreat

namespace Go.Proofs.YtigkkelaadbhcabGreat
open Go.RowKit Go.Shelf
attribute [local go_sem] Oper.semAt_some
def bk (n m : Nat) : List Nat := (List.range m).map fun j => n - 1 - j
theorem bk_len (n m : Nat) : (bk n m).length = m := by simp [bk]
theorem bk_succ (n m : Nat) : bk n (m + 1) = bk n m ++ [n - 1 - m] := by simp [bk, List.range_succ]
def phC (p : DRecPhase) : Value := .agg #[.string p.1, .int .i64 p.2.1, .string p.2.2.1, .string p.2.2.2.1, .int .i64 p.2.2.2.2.1, .int .i64 p.2.2.2.2.2.1, .string p.2.2.2.2.2.2.1, .string p.2.2.2.2.2.2.2]
def phN (r : List DRecPhase) (i : Nat) : DRecPhase := (r[i]?).getD default
theorem phN_at {r : List DRecPhase} {i : Nat} (h : i < r.length) : phN r i = r[i] := by simp [phN, h]
def phV2 (r : List DRecPhase) (i : Nat) : Array Value := #[.int .i64 (i : Int), phC (phN r i)]
theorem but_keeps {g : Nat} {V W : World} {c : Array Value} {t : TypeId} {z : Nat × Nat} (h : But (fun k => k = g) V W) (hg : V.heap[g]? = some (.cells c t z)) : KeepsOthers V W :=
  ⟨h.size, fun k o hk ho => (h.block k (Array.getElem?_eq_some_iff.1 hk).1 (fun e => by subst e; rw [hg] at hk; cases hk; cases ho)).trans hk⟩
theorem but_kpo {g n₀ : Nat} {V W : World} (h : But (fun k => k = g) V W) (hn : n₀ ≤ g) (hV : n₀ ≤ V.heap.size) : KpO (fun _ k => k = g) n₀ V W :=
  ⟨h.size, fun _ h => .inl h, fun k hk => h.block k (by omega) (by omega), fun k c t z hc ho => (h.block k (Array.getElem?_eq_some_iff.1 hc).1 ho).trans hc⟩
theorem but_grown {g : Nat} {U A C : World} {row : Option Nat} (h : But (fun k => k = g) U A) (hg : A.grownBy C row) (hr : ∀ r, row = some r → U.heap.size ≤ r) : But (fun k => k = g) U C :=
  ⟨hg.os.trans h.os, hg.tape.trans h.tape, hg.output.trans h.output, Nat.le_trans h.size hg.size, fun b hb hn => (hg.block b (Nat.lt_of_lt_of_le hb h.size) (fun e => by have := hr b e.symm; omega)).trans (h.block b hb hn)⟩
theorem alloc_at {W : World} (o : Obj) {k : Nat} (h : W.heap.size = k) : (W.alloc o).heap[k]? = some o := by subst h; exact heap_alloc_new W o
theorem alloc_up {W : World} (o : Obj) {k : Nat} {x : Obj} (h : W.heap[k]? = some x) : (W.alloc o).heap[k]? = some x := (Below.heap_alloc W o k (Array.getElem?_eq_some_iff.1 h).1).trans h
theorem ret3 {w : World} {g : Nat} {x0 x1 x2 : Value} {t : TypeId} (h : w.heap[g]? = some (.cells #[x0, x1, x2] t (0, 0))) (a b c : Value) :
    (((w.setCell ⟨g, 0, none⟩ a).setCell ⟨g, 1, none⟩ b).setCell ⟨g, 2, none⟩ c).heap[g]? = some (.cells #[a, b, c] t (0, 0)) ∧ (∀ q, q ≠ g → (((w.setCell ⟨g, 0, none⟩ a).setCell ⟨g, 1, none⟩ b).setCell ⟨g, 2, none⟩ c).heap[q]? = w.heap[q]?) ∧ (((w.setCell ⟨g, 0, none⟩ a).setCell ⟨g, 1, none⟩ b).setCell ⟨g, 2, none⟩ c).heap.size = w.heap.size ∧ Below g w (((w.setCell ⟨g, 0, none⟩ a).setCell ⟨g, 1, none⟩ b).setCell ⟨g, 2, none⟩ c) := by
  refine ⟨?_, ?_, by simp, ?_⟩
  · have := set_row (set_row (set_row h 0 a) 1 b) 2 c
    simpa using this
  · intro q hq
    exact ((Below.heap_setCell _ ⟨g, 2, none⟩ c q hq).trans ((Below.heap_setCell _ ⟨g, 1, none⟩ b q hq).trans (Below.heap_setCell _ ⟨g, 0, none⟩ a q hq)))
  · exact ((((Below.refl _ _).setCell (p := ⟨g, 0, none⟩) (Nat.le_refl _) a).setCell (p := ⟨g, 1, none⟩) (Nat.le_refl _) b).setCell (p := ⟨g, 2, none⟩) (Nat.le_refl _) c)
theorem st_one {g : Nat} {W : World} (h : g < W.heap.size) : OwnSt (fun _ k => k = g) W := ⟨fun k hk => by subst hk; exact h, fun _ _ _ _ _ hk => hk⟩
set_option maxRecDepth 100000 in
set_option maxHeartbeats 1000000 in
theorem back_any (oa : Option Addr) (n cap : Nat) (w : World) :
    Calls Tryz.prog 203 #[.slice oa n cap] w fun e w' => e = .returned (.func (.func 209) #[] #[.pointer (some ⟨w.heap.size, 0, none⟩)]) ∧ w' = w.alloc (.cells #[.slice oa n cap] 49) := by
  have hmf : ∀ (fn : Fn) (first cap : Array Value) (w : World), (Instr.makeFunc fn first cap).run Tryz.prog w = .ok (.func fn first cap) w := fun _ _ _ _ => rfl
  go_enter Tryz.func203, Tryz.ntmps203
  go_wp2
  go_ret
  exact ⟨by simp, rfl⟩
set_option maxRecDepth 100000 in
set_option maxHeartbeats 4000000 in
theorem back_fit (m b1 n₀ : Nat) (hm : 2 ≤ m) (S : Nat → Prop) (oa : Option Addr) (cap n : Nat) (r : List DRecPhase) (own : World → Nat → Prop) (w : World)
    (hb1 : w.heap[b1]? = some (.cells #[.slice oa n cap] 49 (0, 0))) (h : AtL S w r (.slice oa n cap)) (hS : ∀ b, S b → b < n₀) (hn₀ : n₀ ≤ w.heap.size) (hl : r.length = n) (h12 : n ≤ 1000) :
    SeqFitP Fence.wide m Tryz.prog 209 #[.pointer (some ⟨b1, 0, none⟩)] (phV2 r) own n₀ (fun k => k < n₀ ∨ k = b1) (fun _ pre x _ => x = n - 1 - pre.length) (fun ys => ys = bk n n) n w := by
  intro l J W hW hJ hst hno hY h0
  have hc1 := (hW.block b1 (Array.getElem?_eq_some_iff.1 hb1).1).trans hb1
  obtain ⟨oa', cap', hv, _, hc⟩ := h.same (Same.of_below hW (fun b hb => Nat.lt_of_lt_of_le (hS b hb) hn₀))
  rw [hl] at hv
  cases hv
  have HC : Hid _ := hc
  have HY : Hid _ := hY
  have HJ : Hid (OwnFrom W.heap.size J) := hJ
  have HST : Hid (∀ pre W1, J pre W1 → OwnSt own W1) := hst
  have HNO : Hid _ := hno
  have HS : Hid _ := hS
  have HC1 : Hid (W.heap[b1]? = some (.cells #[.slice oa n cap] 49 (0, 0))) := hc1
  have H0 : Hid (J [] W) := h0
  have hn₀' : n₀ ≤ W.heap.size := Nat.le_trans hn₀ hW.size
  have HL : Hid (r.length = n) := hl
  obtain ⟨x1, _⟩ := cell_row hc1 0 (.slice oa n cap) rfl
  clear hY hJ hst hno h hb1 hc hc1 h0 hW hS hl
  refine callsIn_of_wp Tryz.func209 rfl trivial ?_ rfl
  simp only [Tryz.ntmps209, List.size_toArray, List.length_cons, List.length_nil, Nat.reduceAdd, Nat.reduceSub, Array.replicate_succ, Array.replicate_zero, List.push_toArray, List.append_toArray, List.nil_append, List.cons_append]
  gi_wp2
  gi_loopw [3] (fun i wr => ∃ k : Nat, k ≤ n ∧ i = .int .i64 ((k : Int) - 1) ∧ Hid (J (bk n (n - k)) wr) ∧ Hid (KpO own n₀ W wr))
    (fun i _ => (intOf i + 1).toNat)
  case atStart => exact ⟨n, Nat.le_refl _, by go_num, by rw [Nat.sub_self]; exact H0, KpO.refl _ _ _⟩
  case round =>
    obtain ⟨k, hk, rfl, hJs, hkp⟩ := hrel
    clear x1
    have kb1 := hkp.out.blk b1 _ _ _ HC1.out (HNO.out b1 (.inr rfl))
    obtain ⟨x1, _⟩ := cell_row kb1 0 (.slice oa n cap) rfl
    clear kb1
    cases k with
    | succ i =>
      have ei : (((i + 1 : Nat) : Int) - 1) = (i : Int) := by omega
      rw [ei]
      obtain ⟨b, off, rfl, hbS, cc, hcell, hat⟩ := HC.out i (by have := HL.out; omega)
      have hbn := HS.out b hbS
      rw [width_DRecPhase] at hcell
      rw [at_DRecPhase] at hat
      obtain ⟨f, ef⟩ : ∃ f, r[i]'(by have := HL.out; omega) = f := ⟨_, rfl⟩
      have EN : Hid (phN r i = f) := by show _ = _; rw [phN_at (by have := HL.out; omega), ef]
      rw [ef] at hat
      obtain ⟨nm, kd, a, b', n', wi, th, el⟩ := f
      obtain ⟨⟨q0, z0⟩, ⟨q1, _, _⟩, ⟨q2, z2⟩, ⟨q3, z3⟩, ⟨q4, _, _⟩, ⟨q5, _, _⟩, ⟨q6, z6⟩, ⟨q7, z7⟩⟩ := hat
      simp only at q0 q1 q2 q3 q4 q5 q6 q7
      have rd : ∀ j, j < 8 → wr.cell? ⟨b, off + i * 8 + j, none⟩ = some (cc j) := fun j hj => (World.cell?_of_block (w := W) (a := ⟨b, off + i * 8 + j, none⟩) (hkp.out.low b hbn)).trans (hcell j hj)
      have e0 : wr.cell? ⟨b, off + i * 8, none⟩ = some (cc 0) := rd 0 (by omega)
      have e1 : wr.cell? ⟨b, off + i * 8 + 1, none⟩ = some (cc 1) := rd 1 (by omega)
      have e2 : wr.cell? ⟨b, off + i * 8 + 2, none⟩ = some (cc 2) := rd 2 (by omega)
      have e3 : wr.cell? ⟨b, off + i * 8 + 3, none⟩ = some (cc 3) := rd 3 (by omega)
      have e4 : wr.cell? ⟨b, off + i * 8 + 4, none⟩ = some (cc 4) := rd 4 (by omega)
      have e5 : wr.cell? ⟨b, off + i * 8 + 5, none⟩ = some (cc 5) := rd 5 (by omega)
      have e6 : wr.cell? ⟨b, off + i * 8 + 6, none⟩ = some (cc 6) := rd 6 (by omega)
      have e7 : wr.cell? ⟨b, off + i * 8 + 7, none⟩ = some (cc 7) := rd 7 (by omega)
      clear rd hcell z0 z2 z3 z6 z7 hbS hbn ef
      rw [q0] at e0
      rw [q1] at e1
      rw [q2] at e2
      rw [q3] at e3
      rw [q4] at e4
      rw [q5] at e5
      rw [q6] at e6
      rw [q7] at e7
      clear q0 q1 q2 q3 q4 q5 q6 q7
      have hY := HY.out (bk n (n - (i + 1))) i wr wr hJs.out hJs.out (by rw [bk_len]; omega) (by rw [bk_len]; omega)
      unfold phV2 at hY
      rw [EN.out] at hY
      simp only [phC] at hY
      obtain ⟨fn, tmps, assign, body, hy, hR⟩ := hY
      have d1 : decide ((0 : Int) ≤ (i : Int)) = true := by simp
      gi_wp2
      refine ⟨(fun _ => by omega), hR.mono ?_⟩
      rintro e W3 ⟨rfl, hJ3, hk3, _⟩
      gi_wp2
      go_roundw
      case rel => exact ⟨i, by omega, by go_num, by
        show J _ _
        rw [show n - i = n - (i + 1) + 1 by omega, bk_succ, show n - 1 - (n - (i + 1)) = i by omega]; exact hJ3, hkp.out.trans hk3⟩
      case measure => simp [intOf]
    | zero =>
      gi_wp2
      go_end0
      exact ⟨⟨_, rfl⟩, _, rfl, hJs.out⟩
end Go.Proofs.YtigkkelaadbhcabGreat

namespace Go.Proofs.YtigkkelaadbhcabGreat
open Go.RowKit
set_option maxRecDepth 100000 in
set_option maxHeartbeats 4000000 in
theorem endP_any (s : ByteArray) (w : World) : Calls Tryz.prog 176 #[.string s] w fun e w' => e = .returned (.int .i64 (endI s)) ∧ w' = w := by
  unfold endI
  cases h1 : isT s [103, 111, 111, 100]
  · cases h2 : isT s [115, 97, 118, 101, 100]
    · cases h3 : isT s [115, 99, 114, 97, 112, 112, 101, 100]
      · unfold isT at h1 h2 h3
        go_enter Tryz.func176, Tryz.ntmps176
        go_wp2
        go_ret
        exact ⟨rfl, rfl⟩
      · unfold isT at h1 h2 h3
        go_enter Tryz.func176, Tryz.ntmps176
        go_wp2
        go_ret
        exact ⟨rfl, rfl⟩
    · unfold isT at h1 h2
      go_enter Tryz.func176, Tryz.ntmps176
      go_wp2
      go_ret
      exact ⟨rfl, rfl⟩
  · unfold isT at h1
    go_enter Tryz.func176, Tryz.ntmps176
    go_wp2
    go_ret
    exact ⟨rfl, rfl⟩
end Go.Proofs.YtigkkelaadbhcabGreat
