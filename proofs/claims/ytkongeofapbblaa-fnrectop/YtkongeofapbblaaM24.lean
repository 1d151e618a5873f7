/-
  Several texts in one.
-/
import Derived.Test.YtkongeofapbblaaM8
import Derived.Test.YtkongeofapbblaaM23
import Derived.Test.YtkongeofapbblaaM19
import Derived.Test.YtkongeofapbblaaM7
import Derived.Lib.QuietBelow
import Derived.RangeFuncNested
import Derived.RangeFuncBound
import Derived.RangeFuncLeaves
import Derived.RangeFuncBox
/-
  The slots that the law FnRecBound gathers are those of the bound's recipe (plain).
-/
namespace Go.Proofs.Ytkongeofapbblaa
open Go.RowKit

theorem tot_leR {α : Type} [Lay α] {l : List α} {c : Nat} (h : ∀ x ∈ l, Lay.tot x ≤ c) : totL l ≤ l.length + l.length * c := by
  have e : sumTo l l.length = (l.map Lay.tot).sum := by simp [sumTo]
  unfold totL
  rw [e]
  clear e
  induction l with
  | nil => simp
  | cons a l ih =>
    have h1 := h a (by simp)
    have h2 := ih (fun x hx => h x (by simp [hx]))
    simp only [List.map_cons, List.sum_cons, List.length_cons]
    have h3 : (l.length + 1) * c = l.length * c + c := by rw [Nat.add_mul, Nat.one_mul]
    omega
theorem tot_PzL {M : List DRecPhase} (hl : M.length ≤ 14) (h : ∀ x ∈ M, PzL 2000 x) : totL M ≤ 1048576 := by
  have := tot_leR (l := M) (c := 80) (fun x hx => by
    obtain ⟨z1, z2, z3, z4, z5, _⟩ := h x hx
    rw [tot_DRecPhase]
    omega)
  have h2 : M.length * 80 ≤ 14 * 80 := Nat.mul_le_mul_right _ hl
  omega
/-- The slots of a phase that can be come to. -/
noncomputable def uOf (r : List DRecPhase) (x : ByteArray) (p : DRecPhase) : List ByteArray := if rchF 12 r x p.1 = true then (if p.2.1 = 2 then [p.2.2.1, p.2.2.2.1] else [p.2.2.1]) else []
noncomputable def useL (r : List DRecPhase) (x : ByteArray) (k : Nat) : List ByteArray := (r.take k).flatMap (uOf r x)
theorem use_zero (r : List DRecPhase) (x : ByteArray) : useL r x 0 = [] := by simp [useL]
theorem use_succ {r : List DRecPhase} {x : ByteArray} {k : Nat} (hk : k < r.length) : useL r x (k + 1) = useL r x k ++ uOf r x r[k] := by
  unfold useL
  rw [List.take_succ_eq_append_getElem hk, List.flatMap_append]
  simp
theorem u_len (r : List DRecPhase) (x : ByteArray) (p : DRecPhase) : (uOf r x p).length ≤ 2 := by
  unfold uOf
  split
  · split <;> simp
  · simp
theorem use_len (r : List DRecPhase) (x : ByteArray) : ∀ k, k ≤ r.length → (useL r x k).length ≤ 2 * k
  | 0, _ => by rw [use_zero]; simp
  | k + 1, h => by
    have := use_len r x k (by omega)
    have := u_len r x (r[k]'(by omega))
    rw [use_succ (by omega), List.length_append]
    omega
theorem u_mem {r : List DRecPhase} {x y : ByteArray} {p : DRecPhase} : y ∈ uOf r x p ↔ rchF 12 r x p.1 = true ∧ y ∈ ofL p := by
  unfold uOf
  by_cases h : rchF 12 r x p.1 = true
  · rw [if_pos h]
    simp only [h, true_and]
    unfold ofL
    by_cases hk : p.2.1 = 2
    · rw [if_pos hk, if_pos hk]
      constructor
      · intro hy
        simp only [List.mem_cons, List.not_mem_nil, or_false] at hy
        simp only [insR]
        cases c : ltB p.2.2.1 p.2.2.2.1 with
        | true => simpa using hy
        | false =>
          cases d : eqB p.2.2.1 p.2.2.2.1 with
          | true =>
            have e : p.2.2.1 = p.2.2.2.1 := ByteArray.ext (by
              have : p.2.2.1.toList = p.2.2.2.1.toList := by simpa [eqB] using d
              rw [ByteArray.toList_eq, ByteArray.toList_eq] at this
              exact Array.toList_inj.1 this)
            simp only [cond_false, cond_true, List.mem_singleton]
            rcases hy with rfl | rfl
            · rfl
            · exact e.symm
          | false => simp only [cond_false, List.mem_cons, List.not_mem_nil, or_false]; exact hy.symm
      · intro hy
        rcases ins_memX _ _ _ hy with rfl | hy
        · simp
        · simp only [List.mem_singleton] at hy; simp [hy]
    · rw [if_neg hk, if_neg hk]
  · rw [if_neg h]
    simp [h]
theorem use_mem (r : List DRecPhase) (x y : ByteArray) : y ∈ useL r x r.length ↔ ∃ k, ∃ hk : k < r.length, rchF 12 r x r[k].1 = true ∧ y ∈ ofL r[k] := by
  unfold useL
  rw [List.take_length, List.mem_flatMap]
  constructor
  · rintro ⟨p, hp, hy⟩
    obtain ⟨k, hk, rfl⟩ := List.mem_iff_getElem.1 hp
    exact ⟨k, hk, u_mem.1 hy⟩
  · rintro ⟨k, hk, hy⟩
    exact ⟨r[k], List.getElem_mem hk, u_mem.2 hy⟩
theorem use_ok {r : List DRecPhase} (x : ByteArray) (k : Nat) (h : ∀ p ∈ r, PzL 2000 p) : ∀ y ∈ useL r x k, y.size ≤ maxLen := by
  intro y hy
  unfold useL at hy
  obtain ⟨p, hp, hu⟩ := List.mem_flatMap.1 hy
  obtain ⟨z1, z2, z3, _⟩ := h p (List.mem_of_mem_take hp)
  have hm : ∀ s : ByteArray, s.size ≤ 16 → s.size ≤ maxLen := fun s h => by unfold maxLen; omega
  unfold uOf at hu
  split at hu
  · split at hu
    · simp only [List.mem_cons, List.not_mem_nil, or_false] at hu
      rcases hu with rfl | rfl
      · exact hm _ z2
      · exact hm _ z3
    · simp only [List.mem_singleton] at hu
      rw [hu]; exact hm _ z2
  · cases hu
theorem all_sub {a b : List ByteArray} (h : ∀ y ∈ a, y ∈ b) : allT a b = true := by
  unfold allT hasT
  rw [List.all_eq_true]
  intro y hy
  rw [List.any_eq_true]
  exact ⟨y, h y hy, by simp [eqB]⟩
theorem use_all {r : List DRecPhase} (hR : RecP r) (x : ByteArray) : allT (useL r x r.length) (sltF 12 r x) = true ∧ allT (sltF 12 r x) (useL r x r.length) = true := by
  have hd : ∀ k : Nat, atI r x = (k : Int) → r.length ≤ k + 12 := fun k _ => by have := hR.1; omega
  exact ⟨all_sub fun y hy => (slt_mem hR 12 x y hd).2 ((use_mem r x y).1 hy), all_sub fun y hy => (use_mem r x y).2 ((slt_mem hR 12 x y hd).1 hy)⟩
theorem row_pc {S : Nat → Prop} {w : World} {r : List DRecPhase} {b off cap : Nat} {n : Nat} (h : AtL S w r (.slice (some ⟨b, off, none⟩) n cap)) : ∀ k (hk : k < r.length),
    w.cell? ⟨b, off + k * 8, none⟩ = some (.string r[k].1) ∧ w.cell? ⟨b, off + k * 8 + 1, none⟩ = some (.int .i64 r[k].2.1) ∧ w.cell? ⟨b, off + k * 8 + 2, none⟩ = some (.string r[k].2.2.1) ∧ w.cell? ⟨b, off + k * 8 + 3, none⟩ = some (.string r[k].2.2.2.1)
    ∧ w.cell? ⟨b, off + k * 8 + 5, none⟩ = some (.int .i64 r[k].2.2.2.2.2.1) ∧ w.cell? ⟨b, off + k * 8 + 6, none⟩ = some (.string r[k].2.2.2.2.2.2.1) ∧ w.cell? ⟨b, off + k * 8 + 7, none⟩ = some (.string r[k].2.2.2.2.2.2.2) := by
  intro k hk
  obtain ⟨oa, cap', ev, hn, hc⟩ := h
  obtain ⟨b', off', hoo, _, cc, hcell, hat⟩ := hc k hk
  obtain ⟨ho1, _, _⟩ : some (⟨b, off, none⟩ : Addr) = oa ∧ n = r.length ∧ cap = cap' := by simpa using ev
  rw [← ho1] at hoo
  cases hoo
  rw [width_DRecPhase] at hcell
  rw [at_DRecPhase] at hat
  obtain ⟨⟨q0, _⟩, ⟨q1, _⟩, ⟨q2, _⟩, ⟨q3, _⟩, _, ⟨q5, _⟩, ⟨q6, _⟩, ⟨q7, _⟩⟩ := hat
  refine ⟨?_, ?_, ?_, ?_, ?_, ?_, ?_⟩
  · have := hcell 0 (by omega); rw [q0] at this; exact this
  · have := hcell 1 (by omega); rw [q1] at this; exact this
  · have := hcell 2 (by omega); rw [q2] at this; exact this
  · have := hcell 3 (by omega); rw [q3] at this; exact this
  · have := hcell 5 (by omega); rw [q5] at this; exact this
  · have := hcell 6 (by omega); rw [q6] at this; exact this
  · have := hcell 7 (by omega); rw [q7] at this; exact this

end Go.Proofs.Ytkongeofapbblaa

/-
  The laws' own comparing of lists of texts, of two that hold the same.
-/
namespace Go.Proofs.Ytkongeofapbblaa
open Go.RowKit

set_option maxRecDepth 100000 in
set_option maxHeartbeats 4000000 in
theorem wrTexts_any (S S' : Nat → Prop) (l : List ByteArray) (va vb : Value) (w : World) (ha : AtL S w l va) (hb : AtL S' w l vb) (hS : ∀ b, S b → b < w.heap.size) (hS' : ∀ b, S' b → b < w.heap.size) :
    Calls Try.prog 7 #[va, vb] w fun e w' => e = .returned (.bool true) ∧ Below w.heap.size w w' := by
  obtain ⟨oa, ca, rfl, hn, hca⟩ := ha
  obtain ⟨ob, cb, rfl, _, hcb⟩ := hb
  obtain ⟨n, en⟩ : ∃ n, l.length = n := ⟨_, rfl⟩
  rw [en] at hn
  rw [en]
  unfold maxLen at hn
  have HA : Hid _ := hca
  have HB : Hid _ := hcb
  clear hca hcb
  go_enter Try.func7, Try.ntmps7
  go_wp2
  go_loopw [5] (fun i wr => ∃ k : Nat, k ≤ n ∧ i = .int .i64 k ∧ Hid (Below w.heap.size w wr)) (fun i _ => n - (intOf i).toNat)
  case atStart => exact ⟨0, Nat.zero_le _, rfl, Below.refl _ _⟩
  case round =>
    obtain ⟨k, hk, rfl, hbel⟩ := hrel
    have hs := hbel.out.size
    by_cases hlt : k < n
    · obtain ⟨ba, fa, rfl, hba, cc, hxa, hata⟩ := HA.out k (by omega)
      obtain ⟨bb, fb, rfl, hbb, dd, hxb, hatb⟩ := HB.out k (by omega)
      have hba' := hS ba hba
      have hbb' := hS' bb hbb
      rw [width_str] at hxa hxb
      have a0 : wr.cell? ⟨ba, fa + k, none⟩ = some (cc 0) := (hbel.out.cell (p := ⟨ba, fa + k, none⟩) (by show ba < _; omega)).trans (by simpa using hxa 0 (by omega))
      have c0 : wr.cell? ⟨bb, fb + k, none⟩ = some (dd 0) := (hbel.out.cell (p := ⟨bb, fb + k, none⟩) (by show bb < _; omega)).trans (by simpa using hxb 0 (by omega))
      rw [at_str] at hata hatb
      rw [hata.1] at a0
      rw [hatb.1] at c0
      clear hata hatb
      clear hxa hxb
      have qa0 := fun d os => cell_regrown a0 d os
      have qc0 := fun d os => cell_regrown c0 d os
      go_wp2
      refine wp_region_quiet_below (by kernel_rfl) (by kernel_rfl) ?_
      repeat (first | go_big_quiet_step (fail) | quiet_step (fail))
      refine wpQuiet_nil ?_
      intro _ hw'
      obtain ⟨⟨dq, osq⟩, hw''⟩ := hw'
      subst hw''
      go_wp2
      go_roundw
      case rel => exact ⟨k + 1, by omega, by go_num, hbel.out.trans ((below_regrown _ dq osq).mono hs)⟩
      case measure => simp [intOf]; omega
    · go_wp2
      go_ret
      exact ⟨rfl, hbel.out⟩

end Go.Proofs.Ytkongeofapbblaa

/-
  A law for a range over a function whose iterator ranges over another one and hands on what that gives: the iterator's contract speaks of what a caller owns, whatever records of loops come and go beside it. No program is named here.
-/
namespace Go.Proofs.Ytkongeofapbblaa
open Go.RowKit

/-- What a round leaves: all below n₀, and blocks of cells that the caller doesn't own, lie as they lay; what it owns then it owned, or it is new. -/
structure KpO (own : World → Nat → Prop) (n₀ : Nat) (W W' : World) : Prop where
  size : W.heap.size ≤ W'.heap.size
  old : ∀ k, own W' k → own W k ∨ W.heap.size ≤ k
  low : ∀ k, k < n₀ → W'.heap[k]? = W.heap[k]?
  blk : ∀ (k : Nat) (c : Array Value) (t : TypeId) (z : Nat × Nat), W.heap[k]? = some (.cells c t z) → ¬ own W k → W'.heap[k]? = some (.cells c t z)
theorem KpO.refl (own : World → Nat → Prop) (n₀ : Nat) (W : World) : KpO own n₀ W W := ⟨Nat.le_refl _, fun _ h => .inl h, fun _ _ => rfl, fun _ _ _ _ h _ => h⟩
theorem KpO.trans {own : World → Nat → Prop} {n₀ : Nat} {A B C : World} (h : KpO own n₀ A B) (k : KpO own n₀ B C) : KpO own n₀ A C := by
  refine ⟨Nat.le_trans h.size k.size, fun i hi => ?_, fun i hi => (k.low i hi).trans (h.low i hi), fun i c t z hc ho => k.blk i c t z (h.blk i c t z hc ho) (fun hB => ?_)⟩
  · rcases k.old i hi with h1 | h1
    · exact h.old i h1
    · exact .inr (Nat.le_trans h.size h1)
  · rcases h.old i hB with h1 | h1
    · exact ho h1
    · exact absurd (Array.getElem?_eq_some_iff.1 hc).1 (by omega)

/-- What a caller owns is there, and records of loops and new blocks add nothing to it. -/
def OwnSt (own : World → Nat → Prop) (W : World) : Prop :=
  (∀ k, own W k → k < W.heap.size) ∧ ∀ W' row, W.grownBy W' row → (∀ r, row = some r → ∃ o : Obj, W.heap[r]? = some o ∧ o.isCells = false) → ∀ k, own W' k → own W k
theorem OwnSt.kp {own : World → Nat → Prop} {n₀ : Nat} {W W' : World} {row : Option Nat} (h : OwnSt own W) (hn : n₀ ≤ W.heap.size) (hg : W.grownBy W' row) (hr : ∀ r, row = some r → n₀ ≤ r ∧ ∃ o : Obj, W.heap[r]? = some o ∧ o.isCells = false) : KpO own n₀ W W' := by
  refine ⟨hg.size, fun k hk => .inl (h.2 W' row hg (fun r e => (hr r e).2) k hk), fun k hk => hg.block k (by omega) (fun e => by have := (hr k e.symm).1; omega), fun k c t z hc _ => (hg.block k (Array.getElem?_eq_some_iff.1 hc).1 (fun e => ?_)).trans hc⟩
  obtain ⟨o, ho, hn⟩ := (hr k e.symm).2
  rw [hc] at ho
  cases ho; cases hn

/-- An iterator's contract, for callers that own what they speak of and hear all that comes. -/
def SeqOwn {α : Type} (F : Fence) (n : Nat) (P : Program) (g : Nat) (lb : Array Value) (encs : α → Array Value) (own : World → Nat → Prop) (n₀ : Nat) (S : List α → Prop) (N : Nat) (w : World) : Prop :=
  ∀ (l : Nat) (J : List α → World → Prop) (W : World), Below w.heap.size w W → OwnFrom W.heap.size J → (∀ pre W1, J pre W1 → OwnSt own W1) → (∀ k, k < n₀ → ¬ own W k) →
    (∀ pre x W1, J pre W1 → pre.length < N → YieldAt F (n - 1) P l (encs x) W1 fun e W' => e = .returned (.bool true) ∧ J (pre ++ [x]) W' ∧ KpO own n₀ W1 W' ∧ KeepsFrom W.heap.size W1 W') →
    J [] W →
    CallsIn F n P g (#[.func (.yield l) #[] #[]] ++ lb) W fun e W' => (∃ v, e = .returned v) ∧ ∃ xs, S xs ∧ J xs W'

theorem keeps_put {w W : World} {l : Nat} (h : KeepsOthers w W) (hl : w.heap.size ≤ l) (o' : Obj) : KeepsOthers w (W.putObj l o') :=
  ⟨by have := h.size; simpa using this, fun k o hk ho => (World.putObj_heap_other (by have := (Array.getElem?_eq_some_iff.1 hk).1; omega)).trans (h.same k o hk ho)⟩
theorem from_put {W : World} {l B : Nat} (hl : l < B) (o' : Obj) : KeepsFrom B W (W.putObj l o') :=
  ⟨by simp, fun k o hk h0 _ => (World.putObj_heap_other (by omega)).trans h0⟩
theorem from_trans {A B C : World} {b : Nat} (h : KeepsFrom b A B) (k : KeepsFrom b B C) : KeepsFrom b A C :=
  ⟨Nat.le_trans h.size k.size, fun i o hi h0 ho => k.same i o hi (h.same i o hi h0 ho) ho⟩

/-- How a round of such a loop goes on: no way out of it is taken. -/
def postO {α : Type} (own : World → Nat → Prop) (n₀ : Nat) (I : List α → World → Prop) (xs : List α) (W : World) : Exit → Act → World → Prop
  | .normal, _, W' => KeepsOthers W W' ∧ KpO own n₀ W W' ∧ I xs W'
  | _, _, _ => False

variable {F : Fence} {n : Nat} {P : Program}

theorem wpIn_range_own {α : Type} {g : Operand} {ps : Array Tmp} {assign body : Code} {Q : Exit → Act → World → Prop} {a : Act} {w : World}
    (hro : F.round = none) (h1 : 1 ≤ n) {gf : Nat} {lb : Array Value} (hg : a.eval g = .func (.func gf) #[] lb) (hFg : F.fn gf) (eg : ∀ args w, (callFunc gf args).run P w = .ok (.enter gf args) w)
    {encs : α → Array Value} {own : World → Nat → Prop} {n₀ : Nat} {S : List α → Prop} {N : Nat} {w0 : World} (hseq : SeqOwn F (n - 1) P gf lb encs own n₀ S N w0)
    (hb0 : Below w0.heap.size w0 w) (hps : ∀ x, (encs x).size = ps.size) (hn₀ : ∀ k, k < n₀ → ¬ own w k) (hlo : n₀ ≤ w.heap.size)
    (I : List α → World → Prop) (hI : OwnFrom w.heap.size I) (hst : ∀ pre W, I pre W → OwnSt own W) (h0 : I [] w) (a₁ : α → Act)
    (hassign : ∀ (l : Nat) (x : α) (W : World) (K : Act → World → Prop), K (a₁ x) W →
      assign.wpIn (F.inRound l) (n - 1 - 1) P (Exit.then K (fun _ _ _ => False)) { tmps := (ps.zip (encs x)).foldl (fun t (p, v) => t.setIfInBounds p v) a.tmps, defers := [] } W)
    (hbody : ∀ (l : Nat) (pre : List α) (x : α) (W : World), I pre W → pre.length < N → body.wpIn (F.inRound l) (n - 1 - 1) P (postO own n₀ I (pre ++ [x]) W) (a₁ x) W)
    (hdone : ∀ (D : Nat) (xs : List α) (W : World), w.heap.size ≤ D → D < W.heap.size → S xs → I xs W → W.heap[D]? = some (.deferred (some [])) → KeepsOthers w W → Q .normal { a with defers := { target := .collected D, args := #[] } :: a.defers } W) :
    (Code.rangeFunc g ps assign body).wpIn F n P Q a w := by
  refine wpIn_rangeFunc fun fn hfn => ?_
  rw [hro]
  let rec' : LoopState → Option Code → Loop := fun st pe => { state := st, pending := pe, fn, tmps := a.tmps, params := ps, assign, body, defers := w.heap.size }
  obtain ⟨W1, hW1⟩ : ∃ W1, (w.alloc (.deferred (some []))).alloc (.loop (rec' .ready none)) = W1 := ⟨_, rfl⟩
  have sW1 : W1.heap.size = w.heap.size + 1 + 1 := by rw [← hW1]; simp
  have hL1 : W1.heap[w.heap.size + 1]? = some (.loop (rec' .ready none)) := by
    rw [← hW1]; have := World.alloc_heap_new (w.alloc (.deferred (some []))) (.loop (rec' .ready none)); rwa [World.size_alloc] at this
  have hD1 : W1.heap[w.heap.size]? = some (.deferred (some [])) := by
    rw [← hW1]; exact (Below.heap_alloc _ _ _ (by simp)).trans (World.alloc_heap_new w _)
  have hI1 : I [] W1 := by rw [← hW1]; exact hI.alloc _ (hI.alloc _ h0)
  have hk1 : KeepsOthers w W1 := by rw [← hW1]; exact (KeepsOthers.alloc _ _).trans (KeepsOthers.alloc _ _)
  have hb1 : Below w0.heap.size w0 W1 := by
    rw [← hW1]; exact hb0.trans ((((Below.refl _ w).alloc (Nat.le_refl _) _).alloc (by simp) _).mono hb0.size)
  have hno : ∀ k, k < n₀ → ¬ own W1 k := fun k hk ho => by
    have g1 := (hst [] w h0).2 _ none (World.grownBy_alloc w (.deferred (some [])) none) (fun r e => by cases e)
    have hs2 := hst [] _ (hI.alloc (.deferred (some [])) h0)
    rw [← hW1] at ho
    exact hn₀ k hk (g1 k (hs2.2 _ none (World.grownBy_alloc _ _ none) (fun r e => by cases e) k ho))
  refine ⟨w.heap.size + 1, [{ target := .collected w.heap.size, args := #[] }], W1, { target := .fn (.func gf) lb, args := #[.func (.yield (w.heap.size + 1)) #[] #[]] }, W1, gf,
    #[.func (.yield (w.heap.size + 1)) #[] #[]] ++ lb, W1, ?_, ?_, ?_, ?_, fun _ => h1, ?_⟩
  · rw [← hW1]; exact run_enterLoop_outer _ _ _ _ _
  · simp only [resolve, hg]
    simp [go_sem]
  · intro f' hf'; simp [Target.leads] at hf'; subst hf'; exact hFg
  · simp [invoke, go_sem, eg]
  · -- the three facts that stand beside the caller's own
    let Bk : LoopState → World → Prop := fun st W => W.heap[w.heap.size + 1]? = some (.loop (rec' st none)) ∧ W.heap[w.heap.size]? = some (.deferred (some [])) ∧ KeepsOthers w W
    have bk_own : ∀ (st : LoopState) (A B : World) (row : Option Nat), Bk st A → A.grownBy B row → (∀ r, row = some r → W1.heap.size ≤ r ∧ ∃ o : Obj, A.heap[r]? = some o ∧ o.isCells = false) → Bk st B := fun st A B row hs hg' hr => by
      have no : ∀ k, k < W1.heap.size → some k ≠ row := fun k hk e => by have := (hr k e.symm).1; omega
      refine ⟨(hg'.block _ (Array.getElem?_eq_some_iff.1 hs.1).1 (no _ (by omega))).trans hs.1, (hg'.block _ (Array.getElem?_eq_some_iff.1 hs.2.1).1 (no _ (by omega))).trans hs.2.1, Nat.le_trans hs.2.2.size hg'.size, fun k o hk ho => ?_⟩
      have hA := hs.2.2.same k o hk ho
      exact (hg'.block k (Array.getElem?_eq_some_iff.1 hA).1 (no k (by have := (Array.getElem?_eq_some_iff.1 hk).1; omega))).trans hA
    refine (hseq (w.heap.size + 1) (fun pre W => I pre W ∧ Bk .ready W) W1 hb1
      (fun s A B row hs hg' hr => ⟨hI s A B row hs.1 hg' (fun r e => ⟨by have := (hr r e).1; omega, (hr r e).2⟩), bk_own _ A B row hs.2 hg' hr⟩)
      (fun pre W h => hst pre W h.1) hno ?_ ⟨hI1, hL1, hD1, hk1⟩).mono ?_
    · rintro pre x W ⟨hi, hl, hd, hkf⟩ hlen
      have hlt : w.heap.size + 1 < W.heap.size := (Array.getElem?_eq_some_iff.1 hl).1
      refine ⟨fn, _, assign, body, run_yield (P := P) (args := encs x) hl (hps x), roundIn_of_wpIn hfn (hassign _ x W _ ?_)⟩
      refine ⟨_, run_beginRound hl rfl, ?_⟩
      have hl2 : (W.putObj (w.heap.size + 1) (.loop (rec' .busy none))).heap[w.heap.size + 1]? = some (.loop (rec' .busy none)) := World.putObj_heap_same hlt
      have hi2 : I pre (W.putObj (w.heap.size + 1) (.loop (rec' .busy none))) := hI.putObj _ hi (by omega) hl rfl
      have hw2 : KpO own n₀ W (W.putObj (w.heap.size + 1) (.loop (rec' .busy none))) := (hst pre W hi).kp (by omega) (grownBy_putObj' W _ _) (fun r e => by cases e; exact ⟨by omega, _, hl, rfl⟩)
      refine wpIn_mono (hbody _ pre x _ hi2 hlen) ?_
      rintro e a3 W3 hp
      cases e with
      | normal =>
        obtain ⟨hk3, hkp3, hi3⟩ := hp
        have hl3 := hk3.same _ _ hl2 rfl
        have hd2 : (W.putObj (w.heap.size + 1) (.loop (rec' .busy none))).heap[w.heap.size]? = some (.deferred (some [])) := (World.putObj_heap_other (by omega)).trans hd
        have hd3 := hk3.same _ _ hd2 rfl
        have hi4 : I (pre ++ [x]) (W3.putObj (w.heap.size + 1) (.loop (rec' .ready none))) := hI.putObj _ hi3 (by omega) hl3 rfl
        have hlt3 := (Array.getElem?_eq_some_iff.1 hl3).1
        refine ⟨_, _, run_endRound (P := P) none hl3, rfl, ⟨hi4, World.putObj_heap_same hlt3, (World.putObj_heap_other (by omega)).trans hd3, ?_⟩, (hw2.trans hkp3).trans ((hst _ _ hi3).kp (by omega) (grownBy_putObj' W3 _ _) (fun r e => by cases e; exact ⟨by omega, _, hl3, rfl⟩)), ?_⟩
        · exact keeps_put ((keeps_put hkf (by omega) _).trans hk3) (by omega) _
        · exact from_trans (from_trans (from_put (by omega) _) (hk3.from _)) (from_put (by omega) _)
      | ret => exact hp.elim
      | exit id => exact hp.elim
      | goto t => exact hp.elim
      | panic ch => exact hp.elim
      | outgrown => exact hp.elim
    · rintro e W2 ⟨⟨v, rfl⟩, xs, hS, hi, hl, hd, hkf⟩
      have hlt2 := (Array.getElem?_eq_some_iff.1 hl).1
      exact ⟨none, _, run_endLoop (P := P) hl (by simp [rec']), hdone _ xs _ (Nat.le_refl _) (by simp; omega) hS (hI.putObj _ hi (by omega) hl rfl) ((World.putObj_heap_other (by omega)).trans hd) (keeps_put hkf (by omega) _)⟩

end Go.Proofs.Ytkongeofapbblaa
