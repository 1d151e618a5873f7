/-
  Several texts in one.
-/
import Derived.Test.YticojnepejboaacGreatHhA
import Derived.Test.YticojnepejboaacGreatCbm
import Derived.Deep.Cut
import Derived.ArgAppend
namespace Go.Proofs.YticojnepejboaacGreat

/-
  Lists that a call builds, one element behind the other, each with blocks of its own. No program's function is named here.
-/
section
open Go.RowKit

section
variable {α : Type} [Own α]
/-- A list of the call's own, all of it in blocks from T on; its cells are xs. -/
structure Bld (T : Nat) (w : World) (t : TypeId) (v : Value) (l : List α) (xs : List Value) : Prop where
  row : w.ownsRow T t (Lay.width α) v l.length xs
  el : ∃ Ss : Nat → Nat → Prop, (∀ i b, Ss i b → T ≤ b ∧ b < w.heap.size ∧ v.ownBlock ≠ some b) ∧ (∀ i j b, Ss i b → Ss j b → i = j) ∧ ∀ i (hi : i < l.length), ∃ c : Nat → Value, (∀ j, j < Lay.width α → xs[i * Lay.width α + j]? = some (c j)) ∧ Own.On (Ss i) w l[i] c

theorem Bld.nil (T : Nat) (w : World) (t : TypeId) : Bld T w t (.slice none 0 0) ([] : List α) [] :=
  ⟨World.ownsRow_nil _ _ _ _, fun _ _ => False, fun _ _ h => h.elim, fun _ _ _ h => h.elim, fun _ hi => absurd hi (Nat.not_lt_zero _)⟩
theorem ownsRow_kept {w w' : World} {base e size : Nat} {v : Value} {k : Nat} {xs : List Value} (h : w.ownsRow base e size v k xs) (hb : ∀ g, v.ownBlock = some g → w'.heap[g]? = w.heap[g]?) : w'.ownsRow base e size v k xs := by
  refine ⟨h.1, ?_⟩
  rcases h.2 with hn | ⟨g, cap, cur, rfl, h1, hg, rest⟩
  · exact .inl hn
  · exact .inr ⟨g, cap, cur, rfl, h1, (hb g rfl).trans hg, rest⟩
theorem Bld.same {T : Nat} {w w' : World} {t : TypeId} {v : Value} {l : List α} {xs : List Value} (h : Bld T w t v l xs) (hs : ∀ b, T ≤ b → b < w.heap.size → w'.heap[b]? = w.heap[b]?) (hz : w.heap.size ≤ w'.heap.size) : Bld T w' t v l xs := by
  obtain ⟨row, Ss, h1, h2, h3⟩ := h
  refine ⟨ownsRow_kept row (fun g hg => hs g (World.ownsRow.lt row g hg).1 (World.ownsRow.lt row g hg).2), Ss, fun i b hb => ⟨(h1 i b hb).1, by have := (h1 i b hb).2.1; omega, (h1 i b hb).2.2⟩, h2, fun i hi => ?_⟩
  obtain ⟨c, hc, hon⟩ := h3 i hi
  exact ⟨c, hc, Own.on_same hon (fun b hb => hs b (h1 i b hb).1 (h1 i b hb).2.1)⟩
theorem Bld.push {T : Nat} {w u u3 : World} {t : TypeId} {v v' : Value} {l : List α} {xs news : List Value} {x : α} {c : Nat → Value} (h : Bld T w t v l xs) (hT : T ≤ w.heap.size) (hb : Below w.heap.size w u) (hx : Own.On (fun b => w.heap.size ≤ b ∧ b < u.heap.size) u x c)
    (hg : u.grownBy u3 v.ownBlock) (ho : u3.ownsRow T t (Lay.width α) v' (l.length + 1) (xs ++ news)) (hn : ∀ j, j < Lay.width α → news[j]? = some (c j)) (hbk : v'.ownBlock = v.ownBlock ∨ v'.ownBlock = some u.heap.size) : Bld T u3 t v' (l ++ [x]) (xs ++ news) := by
  obtain ⟨row, Ss, h1, h2, h3⟩ := h
  have hs := hb.size
  have hg3 := hg.size
  have low : ∀ b, b < w.heap.size → v.ownBlock ≠ some b → u3.heap[b]? = w.heap[b]? := fun b hlt hne => (hg.block b (by omega) (fun e => hne e.symm)).trans (hb.block b hlt)
  have vlt : ∀ g, v.ownBlock = some g → g < w.heap.size := fun g e => (World.ownsRow.lt row g e).2
  refine ⟨by rw [List.length_append]; exact ho, fun i b => (i = l.length ∧ w.heap.size ≤ b ∧ b < u.heap.size) ∨ (i < l.length ∧ Ss i b), ?_, ?_, ?_⟩
  · rintro i b (⟨_, hb1, hb2⟩ | ⟨_, hb1⟩)
    · refine ⟨by omega, by omega, fun e => ?_⟩
      rcases hbk with e2 | e2
      · have := vlt b (e2.symm.trans e); omega
      · rw [e2] at e; cases e; omega
    · obtain ⟨q1, q2, q3⟩ := h1 i b hb1
      refine ⟨q1, by omega, fun e => ?_⟩
      rcases hbk with e2 | e2
      · exact q3 (e2.symm.trans e)
      · rw [e2] at e; cases e; omega
  · rintro i j b (⟨e1, q1⟩ | ⟨e1, q1⟩) (⟨e2, q2⟩ | ⟨e2, q2⟩)
    · rw [e1, e2]
    · have := (h1 j b q2).2.1; omega
    · have := (h1 i b q1).2.1; omega
    · exact h2 i j b q1 q2
  · intro i hi
    by_cases e : i < l.length
    · obtain ⟨d, hd, hon⟩ := h3 i e
      refine ⟨d, fun j hj => ?_, ?_⟩
      · have hlt : i * Lay.width α + j < xs.length := by
          rw [row.1]
          have : (i + 1) * Lay.width α ≤ l.length * Lay.width α := Nat.mul_le_mul_right _ e
          rw [Nat.add_mul, Nat.one_mul] at this; omega
        rw [List.getElem?_append_left hlt]; exact hd j hj
      · rw [List.getElem_append_left e]
        exact Own.on_up (Own.on_same hon (fun b hb1 => low b (h1 i b hb1).2.1 (h1 i b hb1).2.2)) (fun b hb1 => .inr ⟨e, hb1⟩)
    · have ei : i = l.length := by rw [List.length_append, List.length_singleton] at hi; omega
      subst ei
      refine ⟨c, fun j hj => ?_, ?_⟩
      · rw [List.getElem?_append_right (by rw [row.1]; omega), row.1, Nat.add_sub_cancel_left]; exact hn j hj
      · rw [List.getElem_append_right (Nat.le_refl _)]
        simp only [Nat.sub_self, List.getElem_cons_zero]
        refine Own.on_up (Own.on_same hx (fun b hb1 => hg.block b hb1.2 (fun e => ?_))) (fun b hb1 => .inl ⟨trivial, hb1⟩)
        have := vlt b e.symm; omega
theorem Bld.on {T : Nat} {w : World} {t : TypeId} {v : Value} {l : List α} {xs : List Value} (h : Bld T w t v l xs) : OnL (fun b => T ≤ b ∧ b < w.heap.size) w l v := by
  obtain ⟨row, Ss, h1, h2, h3⟩ := h
  rcases row.2 with ⟨rfl, hn⟩ | ⟨g, cap, cur, rfl, hb, hg, hc, hm', hs, ht⟩
  · exact ⟨none, 0, by rw [hn], ⟨by omega, by omega, fun _ => rfl⟩, .inl (List.eq_nil_of_length_eq_zero hn)⟩
  · refine ⟨some ⟨g, 0, none⟩, cap, rfl, ⟨by omega, hc, fun h => nomatch h⟩, ?_⟩
    cases hl : l with
    | nil => exact .inl rfl
    | cons x0 l0 =>
      rw [← hl]
      refine .inr ⟨g, 0, Ss, cur, t, rfl, fun i => l.getD i x0, fun i hi => by simp [hi], ⟨hg, ⟨hb, (Array.getElem?_eq_some_iff.1 hg).1⟩, fun i b hb1 => ⟨⟨(h1 i b hb1).1, (h1 i b hb1).2.1⟩, fun e => (h1 i b hb1).2.2 (by rw [e]; rfl)⟩, h2, fun i hi => ?_⟩⟩
      obtain ⟨c, hc1, hon⟩ := h3 i hi
      refine ⟨c, fun j hj => ?_, by have : l.getD i x0 = l[i] := (by simp [hi]); rw [this]; exact hon⟩
      have e1 := hc1 j hj
      rw [← ht, List.getElem?_take_of_lt (by have : (i + 1) * Lay.width α ≤ l.length * Lay.width α := Nat.mul_le_mul_right _ hi; rw [Nat.add_mul, Nat.one_mul] at this; omega)] at e1
      rw [Nat.zero_add, ← Array.getElem?_toList]; exact e1
/-- A list whose elements have no blocks. -/
theorem OnL.of_row {w : World} {B : Nat} {t : TypeId} {v : Value} {l : List α} {xs : List Value} {S : Nat → Prop} (row : w.ownsRow B t (Lay.width α) v l.length xs) (hS : ∀ g, v.ownBlock = some g → S g) (h3 : ∀ i (hi : i < l.length), ∃ c : Nat → Value, (∀ j, j < Lay.width α → xs[i * Lay.width α + j]? = some (c j)) ∧ Own.On (fun _ => False) w l[i] c) : OnL S w l v := by
  rcases row.2 with ⟨rfl, hn⟩ | ⟨g, cap, cur, rfl, hb, hg, hc, hm', hs, ht⟩
  · exact ⟨none, 0, by rw [hn], ⟨by omega, by omega, fun _ => rfl⟩, .inl (List.eq_nil_of_length_eq_zero hn)⟩
  · refine ⟨some ⟨g, 0, none⟩, cap, rfl, ⟨by omega, hc, fun h => nomatch h⟩, ?_⟩
    cases hl : l with
    | nil => exact .inl rfl
    | cons x0 l0 =>
      rw [← hl]
      refine .inr ⟨g, 0, fun _ _ => False, cur, t, rfl, fun i => l.getD i x0, fun i hi => by simp [hi], ⟨hg, hS g rfl, fun _ _ h => h.elim, fun _ _ _ h => h.elim, fun i hi => ?_⟩⟩
      obtain ⟨c, hc1, hon⟩ := h3 i hi
      refine ⟨c, fun j hj => ?_, by have : l.getD i x0 = l[i] := (by simp [hi]); rw [this]; exact hon⟩
      have e1 := hc1 j hj
      rw [← ht, List.getElem?_take_of_lt (by have : (i + 1) * Lay.width α ≤ l.length * Lay.width α := Nat.mul_le_mul_right _ hi; rw [Nat.add_mul, Nat.one_mul] at this; omega)] at e1
      rw [Nat.zero_add, ← Array.getElem?_toList]; exact e1
end
theorem ownsRow_size {w : World} {base e size n : Nat} {v : Value} {xs : List Value} (h : w.ownsRow base e size v n xs) : n ≤ maxLen := by
  rcases h.2 with ⟨_, hn⟩ | ⟨g, cap, cur, _, _, _, hc, hm, _⟩
  · omega
  · omega
theorem ownsRow_shape {w : World} {base e size n : Nat} {v : Value} {xs : List Value} (h : w.ownsRow base e size v n xs) : ∃ oa cap, v = .slice oa n cap := by
  rcases h.2 with ⟨rfl, rfl⟩ | ⟨g, cap, cur, rfl, _⟩
  · exact ⟨_, _, rfl⟩
  · exact ⟨_, _, rfl⟩
theorem own_built {base e size k : Nat} {w : World} {c : Array Value} (hb : base ≤ w.heap.size) (hk : k ≤ maxLen) (hc : c.size = k * size) : (w.alloc (.cells c e)).ownsRow base e size (.slice (some ⟨w.heap.size, 0, none⟩) k k) k c.toList :=
  ⟨by simp [hc], .inr ⟨w.heap.size, k, c, rfl, hb, heap_alloc_new w _, Nat.le_refl _, hk, hc, by rw [List.take_of_length_le (by simp [hc])]⟩⟩
theorem own_src {base e size n : Nat} {w : World} {v : Value} {xs : List Value} (h : w.ownsRow base e size v n xs) : Src w v n size xs := by
  refine ⟨h.1, ?_⟩
  rcases h.2 with ⟨rfl, hn⟩ | ⟨g, cap, cur, rfl, hb, hg, hc, hm, hs, ht⟩
  · exact .inl ⟨rfl, hn⟩
  · refine .inr ⟨_, _, rfl, fun j u hj => ?_⟩
    rw [add_at, Nat.zero_add]
    have hjl : j < n * size := by
      have := (List.getElem?_eq_some_iff.1 hj).1
      rw [h.1] at this; exact this
    have : cur.toList[j]? = some u := by
      rw [← ht, List.getElem?_take_of_lt hjl] at hj; exact hj
    have e : cur[j]? = some u := by simpa using this
    simp only [World.cell?, hg, e]; rfl
/-- A round of a loop that appends to a list in a box. -/
theorem But.grown {g : Nat} {w1 u u3 : World} {r : Option Nat} (h : But (fun b => b = g) w1 u) (hg : u.grownBy u3 r) (hr : ∀ q, r = some q → w1.heap.size ≤ q) : But (fun b => b = g) w1 u3 :=
  ⟨hg.os.trans h.os, hg.tape.trans h.tape, hg.output.trans h.output, Nat.le_trans h.size hg.size, fun b hb hn => (hg.block b (Nat.lt_of_lt_of_le hb h.size) (fun e => absurd (hr b e.symm) (by omega))).trans (h.block b hb hn)⟩
theorem But.round {g : Nat} {w1 wr u u3 : World} {r : Option Nat} (h : But (fun b => b = g) w1 wr) (hb : Below wr.heap.size wr u) (hg : u.grownBy u3 r) (hr : ∀ q, r = some q → w1.heap.size ≤ q) (j : Nat) (x : Value) : But (fun b => b = g) w1 (u3.setCell ⟨g, j, none⟩ x) :=
  ((h.trans (But.of_below hb)).grown hg hr).set rfl j x
end

/-
  The model's copies of names and of a want: all in memory of its own.
-/
section
open Go.RowKit

def eS (a : ByteArray) (_ : Nat) : Value := .string a
abbrev OkS (a : ByteArray) : Prop := a.size ≤ maxLen
abbrev OkI (x : Int) : Prop := -9223372036854775808 ≤ x ∧ x ≤ 9223372036854775807
theorem flatS : Flat 1 eS OkS := ⟨rfl, fun h => ⟨fun j hj => by obtain rfl : j = 0 := (by omega); exact h.1, h.2⟩, fun h => ⟨rfl, h⟩, fun _ _ => rfl⟩
def eF (p : DClaimFoe) (j : Nat) : Value := if j = 0 then .string p.1 else .string p.2
theorem flatF : Flat 2 eF (fun p => OkS p.1 ∧ OkS p.2) := ⟨rfl, fun {S w a c} h => by
  rw [at_DClaimFoe] at h
  refine ⟨fun j hj => ?_, h.1.2, h.2.2⟩
  rcases (show j = 0 ∨ j = 1 by omega) with rfl | rfl
  · exact h.1.1
  · exact h.2.1, fun h => at_DClaimFoe.2 ⟨⟨rfl, h.1⟩, rfl, h.2⟩, fun a j => by unfold eF; split <;> rfl⟩
def eU (p : DClaimUse) (j : Nat) : Value := if j = 0 then .string p.1 else if j = 1 then .int .i64 p.2.1 else .int .i64 p.2.2
theorem flatU : Flat 3 eU (fun p => OkS p.1 ∧ OkI p.2.1 ∧ OkI p.2.2) := ⟨rfl, fun {S w a c} h => by
  rw [at_DClaimUse] at h
  refine ⟨fun j hj => ?_, h.1.2, h.2.1.2, h.2.2.2⟩
  rcases (show j = 0 ∨ j = 1 ∨ j = 2 by omega) with rfl | rfl | rfl
  · exact h.1.1
  · exact h.2.1.1
  · exact h.2.2.1, fun h => at_DClaimUse.2 ⟨⟨rfl, h.1⟩, ⟨rfl, h.2.1⟩, rfl, h.2.2⟩, fun a j => by unfold eU; split <;> (try split) <;> rfl⟩
theorem infS : (Tryz.prog.info? 9).map (fun i => (i.zero, i.size, i.bytes)) = some (some (.string ByteArray.empty), 1, 16) := by kernel_rfl
theorem infF : (Tryz.prog.info? 83).map (fun i => (i.zero, i.size, i.bytes)) = some (some (.agg #[.string ByteArray.empty, .string ByteArray.empty]), 2, 32) := by kernel_rfl
theorem infU : (Tryz.prog.info? 106).map (fun i => (i.zero, i.size, i.bytes)) = some (some (.agg #[.string ByteArray.empty, .int .i64 0, .int .i64 0]), 3, 32) := by kernel_rfl
theorem elS : ElT Tryz.prog 24 9 1 16 := by
  obtain ⟨i, h1, h2, h3, h4⟩ := info_parts infS
  exact ⟨by kernel_rfl, ⟨i, _, h1, h2, h3, h4, rfl⟩, by decide⟩
theorem elF : ElT Tryz.prog 29 83 2 32 := by
  obtain ⟨i, h1, h2, h3, h4⟩ := info_parts infF
  exact ⟨by kernel_rfl, ⟨i, _, h1, h2, h3, h4, rfl⟩, by decide⟩
theorem elU : ElT Tryz.prog 46 106 3 32 := by
  obtain ⟨i, h1, h2, h3, h4⟩ := info_parts infU
  exact ⟨by kernel_rfl, ⟨i, _, h1, h2, h3, h4, rfl⟩, by decide⟩
theorem onS_row {w : World} {B : Nat} {t : TypeId} {v : Value} {l : List ByteArray} {S : Nat → Prop} (h : Row w B t 1 eS v l) (hS : ∀ g, v.ownBlock = some g → S g) (hok : ∀ x ∈ l, OkS x) : OnL S w l v :=
  OnL.of_row h hS (fun i hi => ⟨eS l[i], fun j hj => enc_at 1 eS l i hi j hj, show Lay.At _ _ _ _ from ⟨rfl, hok _ (List.getElem_mem hi)⟩⟩)
theorem onF_row {w : World} {B : Nat} {t : TypeId} {v : Value} {l : List DClaimFoe} {S : Nat → Prop} (h : Row w B t 2 eF v l) (hS : ∀ g, v.ownBlock = some g → S g) (hok : ∀ x ∈ l, OkS x.1 ∧ OkS x.2) : OnL S w l v :=
  OnL.of_row h hS (fun i hi => ⟨eF l[i], fun j hj => enc_at 2 eF l i hi j hj, on_DClaimFoe.2 ⟨fun _ => False, fun _ => False, fun _ h => h.elim, fun _ h => h.elim, ⟨rfl, (hok _ (List.getElem_mem hi)).1⟩, ⟨rfl, (hok _ (List.getElem_mem hi)).2⟩⟩⟩)
theorem onU_row {w : World} {B : Nat} {t : TypeId} {v : Value} {l : List DClaimUse} {S : Nat → Prop} (h : Row w B t 3 eU v l) (hS : ∀ g, v.ownBlock = some g → S g) (hok : ∀ x ∈ l, OkS x.1 ∧ OkI x.2.1 ∧ OkI x.2.2) : OnL S w l v :=
  OnL.of_row h hS (fun i hi => ⟨eU l[i], fun j hj => enc_at 3 eU l i hi j hj, on_DClaimUse.2 ⟨fun _ => False, fun _ => False, fun _ h => h.elim, fun _ h => h.elim, ⟨rfl, (hok _ (List.getElem_mem hi)).1⟩, fun _ => False, fun _ => False, fun _ h => h.elim, fun _ h => h.elim, ⟨rfl, (hok _ (List.getElem_mem hi)).2.1⟩, ⟨rfl, (hok _ (List.getElem_mem hi)).2.2⟩⟩⟩)
/-- 5 cells of a box written, one behind the other. -/
theorem ret_5 {w : World} {g : Nat} {x0 x1 x2 x3 x4 : Value} {t : TypeId} (h : w.heap[g]? = some (.cells #[x0, x1, x2, x3, x4] t (0, 0))) (a0 a1 a2 a3 a4 : Value) :
    (((((w.setCell ⟨g, 0, none⟩ a0).setCell ⟨g, 1, none⟩ a1).setCell ⟨g, 2, none⟩ a2).setCell ⟨g, 3, none⟩ a3).setCell ⟨g, 4, none⟩ a4).heap[g]? = some (.cells #[a0, a1, a2, a3, a4] t (0, 0)) ∧ (∀ q, q ≠ g → (((((w.setCell ⟨g, 0, none⟩ a0).setCell ⟨g, 1, none⟩ a1).setCell ⟨g, 2, none⟩ a2).setCell ⟨g, 3, none⟩ a3).setCell ⟨g, 4, none⟩ a4).heap[q]? = w.heap[q]?) ∧ (((((w.setCell ⟨g, 0, none⟩ a0).setCell ⟨g, 1, none⟩ a1).setCell ⟨g, 2, none⟩ a2).setCell ⟨g, 3, none⟩ a3).setCell ⟨g, 4, none⟩ a4).heap.size = w.heap.size ∧ Below g w (((((w.setCell ⟨g, 0, none⟩ a0).setCell ⟨g, 1, none⟩ a1).setCell ⟨g, 2, none⟩ a2).setCell ⟨g, 3, none⟩ a3).setCell ⟨g, 4, none⟩ a4) := by
  refine ⟨?_, ?_, by simp, ?_⟩
  · have := set_row (set_row (set_row (set_row (set_row h 0 a0) 1 a1) 2 a2) 3 a3) 4 a4
    simpa using this
  · intro q hq
    exact ((Below.heap_setCell _ ⟨g, 4, none⟩ a4 q hq).trans ((Below.heap_setCell _ ⟨g, 3, none⟩ a3 q hq).trans ((Below.heap_setCell _ ⟨g, 2, none⟩ a2 q hq).trans ((Below.heap_setCell _ ⟨g, 1, none⟩ a1 q hq).trans (Below.heap_setCell _ ⟨g, 0, none⟩ a0 q hq)))))
  · exact ((((((Below.refl _ _).setCell (p := ⟨g, 0, none⟩) (Nat.le_refl _) a0).setCell (p := ⟨g, 1, none⟩) (Nat.le_refl _) a1).setCell (p := ⟨g, 2, none⟩) (Nat.le_refl _) a2).setCell (p := ⟨g, 3, none⟩) (Nat.le_refl _) a3).setCell (p := ⟨g, 4, none⟩) (Nat.le_refl _) a4)
/-- 6 cells of a box written, one behind the other. -/
theorem ret_6 {w : World} {g : Nat} {x0 x1 x2 x3 x4 x5 : Value} {t : TypeId} (h : w.heap[g]? = some (.cells #[x0, x1, x2, x3, x4, x5] t (0, 0))) (a0 a1 a2 a3 a4 a5 : Value) :
    ((((((w.setCell ⟨g, 0, none⟩ a0).setCell ⟨g, 1, none⟩ a1).setCell ⟨g, 2, none⟩ a2).setCell ⟨g, 3, none⟩ a3).setCell ⟨g, 4, none⟩ a4).setCell ⟨g, 5, none⟩ a5).heap[g]? = some (.cells #[a0, a1, a2, a3, a4, a5] t (0, 0)) ∧ (∀ q, q ≠ g → ((((((w.setCell ⟨g, 0, none⟩ a0).setCell ⟨g, 1, none⟩ a1).setCell ⟨g, 2, none⟩ a2).setCell ⟨g, 3, none⟩ a3).setCell ⟨g, 4, none⟩ a4).setCell ⟨g, 5, none⟩ a5).heap[q]? = w.heap[q]?) ∧ ((((((w.setCell ⟨g, 0, none⟩ a0).setCell ⟨g, 1, none⟩ a1).setCell ⟨g, 2, none⟩ a2).setCell ⟨g, 3, none⟩ a3).setCell ⟨g, 4, none⟩ a4).setCell ⟨g, 5, none⟩ a5).heap.size = w.heap.size ∧ Below g w ((((((w.setCell ⟨g, 0, none⟩ a0).setCell ⟨g, 1, none⟩ a1).setCell ⟨g, 2, none⟩ a2).setCell ⟨g, 3, none⟩ a3).setCell ⟨g, 4, none⟩ a4).setCell ⟨g, 5, none⟩ a5) := by
  refine ⟨?_, ?_, by simp, ?_⟩
  · have := set_row (set_row (set_row (set_row (set_row (set_row h 0 a0) 1 a1) 2 a2) 3 a3) 4 a4) 5 a5
    simpa using this
  · intro q hq
    exact ((Below.heap_setCell _ ⟨g, 5, none⟩ a5 q hq).trans ((Below.heap_setCell _ ⟨g, 4, none⟩ a4 q hq).trans ((Below.heap_setCell _ ⟨g, 3, none⟩ a3 q hq).trans ((Below.heap_setCell _ ⟨g, 2, none⟩ a2 q hq).trans ((Below.heap_setCell _ ⟨g, 1, none⟩ a1 q hq).trans (Below.heap_setCell _ ⟨g, 0, none⟩ a0 q hq))))))
  · exact (((((((Below.refl _ _).setCell (p := ⟨g, 0, none⟩) (Nat.le_refl _) a0).setCell (p := ⟨g, 1, none⟩) (Nat.le_refl _) a1).setCell (p := ⟨g, 2, none⟩) (Nat.le_refl _) a2).setCell (p := ⟨g, 3, none⟩) (Nat.le_refl _) a3).setCell (p := ⟨g, 4, none⟩) (Nat.le_refl _) a4).setCell (p := ⟨g, 5, none⟩) (Nat.le_refl _) a5)

set_option maxRecDepth 100000 in
set_option maxHeartbeats 4000000 in
theorem names21_any (S : Nat → Prop) (v : Value) (l : List ByteArray) (w : World) (h : AtL S w l v) (hl : l.length ≤ 1048576) (hS : ∀ b, S b → b < w.heap.size) :
    Calls Tryz.prog 45 #[v] w fun e w' => ∃ r, e = .returned r ∧ Row w' w.heap.size 9 1 eS r l ∧ Below w.heap.size w w' := by
  have hsr : Hid (Src (w.alloc (.cells #[] 9)) v l.length 1 (enc 1 eS l)) := (flatS.src (h.same (Same.of_below ((Below.refl _ _).alloc (Nat.le_refl _) _) hS)))
  have hr0 : Hid (Row (w.alloc (.cells #[] 9)) w.heap.size 9 1 eS (.slice (some ⟨w.heap.size, 0, none⟩) 0 0) []) := Row.made w _ _ _ (Nat.le_refl _)
  have hbl : Hid (Below w.heap.size w (w.alloc (.cells #[] 9))) := (Below.refl _ _).alloc (Nat.le_refl _) _
  clear h
  go_enter Tryz.func45, Tryz.ntmps45
  go_wp2_with (first
    | (at_builtin; refine wpList_app elS rfl _ _ rfl rfl rfl hr0.out hsr.out (flatS.enc_one l) (by unfold maxLen; simp; omega) (by simp; omega) hbl.out.size ?_; intro v' w1 hown hg hbk))
  go_ret
  refine ⟨v', rfl, ?_, hbl.out.grown hg hbl.out.size (fun p hp => by cases hp; exact Nat.le_refl _)⟩
  have := hown
  rw [List.length_nil, Nat.zero_add, enc_nil, List.nil_append] at this
  exact this

set_option maxRecDepth 100000 in
set_option maxHeartbeats 4000000 in
theorem want21_any (S : Nat → Prop) (a : DClaimWant) (c : Nat → Value) (w : World) (h : Lay.At S w a c) (hS : ∀ b, S b → b < w.heap.size) (hm : Lay.tot a ≤ 1048576) :
    Calls Tryz.prog 46 #[.agg #[c 0, c 1, c 2, c 3, c 4, c 5]] w fun e w' => ∃ g : Nat → Value, e = .returned (.agg #[g 0, g 1, g 2, g 3, g 4, g 5]) ∧ Own.On (fun b => w.heap.size ≤ b ∧ b < w'.heap.size) w' a g ∧ Below w.heap.size w w' := by
  rw [tot_DClaimWant] at hm
  obtain ⟨⟨e0, z0⟩, ⟨e1, z1⟩, H2, H3, H4, H5⟩ := at_DClaimWant.1 h
  clear h
  have hl2 := totL_len a.2.2.1
  have K2 := flatS.ok_all H2
  obtain ⟨o2, k2, e2, _⟩ := id H2
  rw [e2] at H2
  obtain ⟨n2, m2⟩ : ∃ n, a.2.2.1.length = n := ⟨_, rfl⟩
  rw [m2] at H2 e2 hl2
  have hl3 := totL_len a.2.2.2.1
  have K3 := flatU.ok_all H3
  obtain ⟨o3, k3, e3, _⟩ := id H3
  rw [e3] at H3
  obtain ⟨n3, m3⟩ : ∃ n, a.2.2.2.1.length = n := ⟨_, rfl⟩
  rw [m3] at H3 e3 hl3
  have hl4 := totL_len a.2.2.2.2.1
  have K4 := flatS.ok_all H4
  obtain ⟨o4, k4, e4, _⟩ := id H4
  rw [e4] at H4
  obtain ⟨n4, m4⟩ : ∃ n, a.2.2.2.2.1.length = n := ⟨_, rfl⟩
  rw [m4] at H4 e4 hl4
  have hl5 := totL_len a.2.2.2.2.2
  have K5 := flatS.ok_all H5
  obtain ⟨o5, k5, e5, _⟩ := id H5
  rw [e5] at H5
  obtain ⟨n5, m5⟩ : ∃ n, a.2.2.2.2.2.length = n := ⟨_, rfl⟩
  rw [m5] at H5 e5 hl5
  rw [e0, e1, e2, e3, e4, e5]
  clear e0 e1 e2 e3 e4 e5
  have HH2 : Hid (∀ w', Below w.heap.size w w' → AtL S w' a.2.2.1 (.slice o2 n2 k2)) := fun w' hb => H2.same (Same.of_below hb hS)
  have KK2 : Hid _ := K2
  clear H2 K2
  have M2 : Hid (a.2.2.1.length = n2) := m2
  clear m2
  have HH3 : Hid (∀ w', Below w.heap.size w w' → AtL S w' a.2.2.2.1 (.slice o3 n3 k3)) := fun w' hb => H3.same (Same.of_below hb hS)
  have KK3 : Hid _ := K3
  clear H3 K3
  have M3 : Hid (a.2.2.2.1.length = n3) := m3
  clear m3
  have HH4 : Hid (∀ w', Below w.heap.size w w' → AtL S w' a.2.2.2.2.1 (.slice o4 n4 k4)) := fun w' hb => H4.same (Same.of_below hb hS)
  have KK4 : Hid _ := K4
  clear H4 K4
  have M4 : Hid (a.2.2.2.2.1.length = n4) := m4
  clear m4
  have HH5 : Hid (∀ w', Below w.heap.size w w' → AtL S w' a.2.2.2.2.2 (.slice o5 n5 k5)) := fun w' hb => H5.same (Same.of_below hb hS)
  have KK5 : Hid _ := K5
  clear H5 K5
  have M5 : Hid (a.2.2.2.2.2.length = n5) := m5
  clear m5
  have bW : Hid (Below w.heap.size w ((w.alloc (.cells #[.int .i64 a.1, .int .i64 a.2.1, .slice o2 n2 k2, .slice o3 n3 k3, .slice o4 n4 k4, .slice o5 n5 k5] 48)).alloc (.cells #[.int .i64 0, .int .i64 0, .slice none 0 0, .slice none 0 0, .slice none 0 0, .slice none 0 0] 48))) := ((Below.refl _ _).alloc (Nat.le_refl _) _).alloc (by simp) _
  have sW : ((w.alloc (.cells #[.int .i64 a.1, .int .i64 a.2.1, .slice o2 n2 k2, .slice o3 n3 k3, .slice o4 n4 k4, .slice o5 n5 k5] 48)).alloc (.cells #[.int .i64 0, .int .i64 0, .slice none 0 0, .slice none 0 0, .slice none 0 0, .slice none 0 0] 48)).heap.size = w.heap.size + 1 + 1 := by simp
  have hr0 : Hid (Row (((w.alloc (.cells #[.int .i64 a.1, .int .i64 a.2.1, .slice o2 n2 k2, .slice o3 n3 k3, .slice o4 n4 k4, .slice o5 n5 k5] 48)).alloc (.cells #[.int .i64 0, .int .i64 0, .slice none 0 0, .slice none 0 0, .slice none 0 0, .slice none 0 0] 48)).alloc (.cells #[] 106)) (w.heap.size + 1 + 1) 106 3 eU (.slice (some ⟨w.heap.size + 1 + 1, 0, none⟩) 0 0) []) := by have := Row.made ((w.alloc (.cells #[.int .i64 a.1, .int .i64 a.2.1, .slice o2 n2 k2, .slice o3 n3 k3, .slice o4 n4 k4, .slice o5 n5 k5] 48)).alloc (.cells #[.int .i64 0, .int .i64 0, .slice none 0 0, .slice none 0 0, .slice none 0 0, .slice none 0 0] 48)) 106 3 eU (Nat.le_refl _); rw [sW] at this; exact this
  have b1 : Hid (Below w.heap.size w (((w.alloc (.cells #[.int .i64 a.1, .int .i64 a.2.1, .slice o2 n2 k2, .slice o3 n3 k3, .slice o4 n4 k4, .slice o5 n5 k5] 48)).alloc (.cells #[.int .i64 0, .int .i64 0, .slice none 0 0, .slice none 0 0, .slice none 0 0, .slice none 0 0] 48)).alloc (.cells #[] 106))) := bW.out.alloc (by omega) _
  have hsr : Hid (Src (((w.alloc (.cells #[.int .i64 a.1, .int .i64 a.2.1, .slice o2 n2 k2, .slice o3 n3 k3, .slice o4 n4 k4, .slice o5 n5 k5] 48)).alloc (.cells #[.int .i64 0, .int .i64 0, .slice none 0 0, .slice none 0 0, .slice none 0 0, .slice none 0 0] 48)).alloc (.cells #[] 106)) (.slice o3 n3 k3) n3 3 (enc 3 eU a.2.2.2.1)) := by have := flatU.src (HH3.out _ b1.out); rw [M3.out] at this; exact this
  have X0 : Hid (((w.alloc (.cells #[.int .i64 a.1, .int .i64 a.2.1, .slice o2 n2 k2, .slice o3 n3 k3, .slice o4 n4 k4, .slice o5 n5 k5] 48)).alloc (.cells #[.int .i64 0, .int .i64 0, .slice none 0 0, .slice none 0 0, .slice none 0 0, .slice none 0 0] 48)).heap[w.heap.size]? = some (.cells #[.int .i64 a.1, .int .i64 a.2.1, .slice o2 n2 k2, .slice o3 n3 k3, .slice o4 n4 k4, .slice o5 n5 k5] 48 (0, 0))) := (Below.heap_alloc _ _ _ (by simp)).trans (heap_alloc_new w _)
  have Y0 : Hid (((w.alloc (.cells #[.int .i64 a.1, .int .i64 a.2.1, .slice o2 n2 k2, .slice o3 n3 k3, .slice o4 n4 k4, .slice o5 n5 k5] 48)).alloc (.cells #[.int .i64 0, .int .i64 0, .slice none 0 0, .slice none 0 0, .slice none 0 0, .slice none 0 0] 48)).heap[w.heap.size + 1]? = some (.cells #[.int .i64 0, .int .i64 0, .slice none 0 0, .slice none 0 0, .slice none 0 0, .slice none 0 0] 48 (0, 0))) := by have := heap_alloc_new (w.alloc (.cells #[.int .i64 a.1, .int .i64 a.2.1, .slice o2 n2 k2, .slice o3 n3 k3, .slice o4 n4 k4, .slice o5 n5 k5] 48)) (.cells #[.int .i64 0, .int .i64 0, .slice none 0 0, .slice none 0 0, .slice none 0 0, .slice none 0 0] 48); rw [World.size_alloc] at this; exact this
  go_enter Tryz.func46, Tryz.ntmps46
  go_upto_region 2 with (first | (at_builtin; refine wpList_app elU rfl _ _ rfl rfl rfl hr0.out hsr.out (flatU.enc_one _) (by unfold maxLen; simp; omega) (by simp; omega) (by simp) ?_; intro v' u1 hown hg hbk; obtain ⟨p3, q3, rfl⟩ := ownsRow_shape hown; have hx1 : u1.heap[w.heap.size]? = some (.cells #[.int .i64 a.1, .int .i64 a.2.1, .slice o2 n2 k2, .slice o3 n3 k3, .slice o4 n4 k4, .slice o5 n5 k5] 48 (0, 0)) := (hg.block w.heap.size (by simp; omega) (fun e => by have := Option.some.inj (show some w.heap.size = some (w.heap.size + 1 + 1) from e); omega)).trans ((Below.heap_alloc _ _ _ (by simp; omega)).trans X0.out); have hy1 : u1.heap[w.heap.size + 1]? = some (.cells #[.int .i64 0, .int .i64 0, .slice none 0 0, .slice none 0 0, .slice none 0 0, .slice none 0 0] 48 (0, 0)) := (hg.block (w.heap.size + 1) (by simp) (fun e => by have := Option.some.inj (show some (w.heap.size + 1) = some (w.heap.size + 1 + 1) from e); omega)).trans ((Below.heap_alloc _ _ _ (by simp)).trans Y0.out); have zc := (cell_row hx1 3 _ rfl).1; have zf := (cell_row hx1 3 _ rfl).2))
  rw [List.length_nil, Nat.zero_add, enc_nil, List.nil_append] at hown
  have q1 : Hid (Below w.heap.size w u1) := b1.out.grown hg (by simp; omega) (fun p hp => by have := Option.some.inj (show some (w.heap.size + 1 + 1) = some p from hp); omega)
  have su1 : w.heap.size + 1 + 1 ≤ u1.heap.size := by have := hg.size; simp at this; omega
  clear zc zf hbk hr0 hsr X0 Y0 b1 bW
  have hown3 : Row u1 (w.heap.size + 1 + 1) 106 3 eU (.slice p3 n3 q3) a.2.2.2.1 := by show World.ownsRow _ _ _ _ _ _ _; rw [M3.out]; exact hown
  obtain ⟨U1, hU1⟩ : ∃ U, U = u1.setCell ⟨w.heap.size, 3, none⟩ (.slice p3 n3 q3) := ⟨_, rfl⟩
  rw [← hU1]
  have X1 : Hid (U1.heap[w.heap.size]? = some (.cells #[.int .i64 a.1, .int .i64 a.2.1, .slice o2 n2 k2, .slice p3 n3 q3, .slice o4 n4 k4, .slice o5 n5 k5] 48 (0, 0))) := by rw [hU1]; have := set_row hx1 3 (.slice p3 n3 q3); simpa [Hid] using this
  have Y1 : Hid (U1.heap[w.heap.size + 1]? = some (.cells #[.int .i64 0, .int .i64 0, .slice none 0 0, .slice none 0 0, .slice none 0 0, .slice none 0 0] 48 (0, 0))) := by rw [hU1]; exact (Below.heap_setCell _ _ _ _ (by show w.heap.size + 1 ≠ w.heap.size; omega)).trans hy1
  have B1 : Hid (Below w.heap.size w U1) := by rw [hU1]; exact Below.setCell (p := ⟨w.heap.size, 3, none⟩) q1.out (Nat.le_refl _) _
  have sU1 : U1.heap.size = u1.heap.size := by rw [hU1]; simp
  have E3 : Hid (∀ g, (Value.slice p3 n3 q3).ownBlock = some g → w.heap.size + 1 + 1 ≤ g ∧ g < U1.heap.size) := fun g hg => by have := World.ownsRow.lt hown3 g hg; exact ⟨this.1, by omega⟩
  have R3_1 : Hid (Row U1 (w.heap.size + 1 + 1) 106 3 eU (.slice p3 n3 q3) a.2.2.2.1) := by rw [hU1]; exact ownsRow_kept hown3 (fun g hg => Below.heap_setCell _ _ _ _ (by have := (World.ownsRow.lt hown3 g hg).1; show g ≠ w.heap.size; omega))
  clear hU1
  clear hx1 hy1 q1 hown hown3 hg
  obtain ⟨y2, _⟩ := cell_row X1.out 2 _ rfl
  simp only [List.getElem_toArray, List.getElem_cons_zero, List.getElem_cons_succ] at y2
  go_wp2_with fail
  refine (names21_any S _ a.2.2.1 U1 (HH2.out _ B1.out) (by rw [M2.out]; omega) (fun b hb => by have := hS b hb; omega)).mono ?_
  rintro e u2 ⟨r2, rfl, hr2, hb2⟩
  obtain ⟨p2, q2, er2⟩ := ownsRow_shape hr2
  rw [M2.out] at er2
  subst er2
  have su2 := hb2.size
  have hx2 := (hb2.block w.heap.size (by omega)).trans X1.out
  have hy2 := (hb2.block (w.heap.size + 1) (by omega)).trans Y1.out
  have zc := (cell_row hx2 2 _ rfl).1
  have zf := (cell_row hx2 2 _ rfl).2
  simp only [List.getElem_toArray, List.getElem_cons_zero, List.getElem_cons_succ] at zc
  go_upto_region 3 with fail
  clear zc zf y2
  have T3_2 := Row.below R3_1.out hb2
  have bb2 := B1.out.trans (hb2.mono (by omega))
  obtain ⟨U2, hU2⟩ : ∃ U, U = u2.setCell ⟨w.heap.size, 2, none⟩ (.slice p2 n2 q2) := ⟨_, rfl⟩
  rw [← hU2]
  have X2 : Hid (U2.heap[w.heap.size]? = some (.cells #[.int .i64 a.1, .int .i64 a.2.1, .slice p2 n2 q2, .slice p3 n3 q3, .slice o4 n4 k4, .slice o5 n5 k5] 48 (0, 0))) := by rw [hU2]; have := set_row hx2 2 (.slice p2 n2 q2); simpa [Hid] using this
  have Y2 : Hid (U2.heap[w.heap.size + 1]? = some (.cells #[.int .i64 0, .int .i64 0, .slice none 0 0, .slice none 0 0, .slice none 0 0, .slice none 0 0] 48 (0, 0))) := by rw [hU2]; exact (Below.heap_setCell _ _ _ _ (by show w.heap.size + 1 ≠ w.heap.size; omega)).trans hy2
  have B2 : Hid (Below w.heap.size w U2) := by rw [hU2]; exact Below.setCell (p := ⟨w.heap.size, 2, none⟩) bb2 (Nat.le_refl _) _
  have sU2 : U2.heap.size = u2.heap.size := by rw [hU2]; simp
  have E2 : Hid (∀ g, (Value.slice p2 n2 q2).ownBlock = some g → U1.heap.size ≤ g ∧ g < U2.heap.size) := fun g hg => by have := World.ownsRow.lt hr2 g hg; exact ⟨this.1, by omega⟩
  have R3_2 : Hid (Row U2 (w.heap.size + 1 + 1) 106 3 eU (.slice p3 n3 q3) a.2.2.2.1) := by rw [hU2]; exact ownsRow_kept T3_2 (fun g hg => Below.heap_setCell _ _ _ _ (by have := (World.ownsRow.lt T3_2 g hg).1; show g ≠ w.heap.size; omega))
  have R2_2 : Hid (Row U2 (U1.heap.size) 9 1 eS (.slice p2 n2 q2) a.2.2.1) := by rw [hU2]; exact ownsRow_kept hr2 (fun g hg => Below.heap_setCell _ _ _ _ (by have := (World.ownsRow.lt hr2 g hg).1; show g ≠ w.heap.size; omega))
  clear hU2
  clear hx2 hy2 bb2 hb2
  obtain ⟨y4, _⟩ := cell_row X2.out 4 _ rfl
  simp only [List.getElem_toArray, List.getElem_cons_zero, List.getElem_cons_succ] at y4
  go_wp2_with fail
  refine (names21_any S _ a.2.2.2.2.1 U2 (HH4.out _ B2.out) (by rw [M4.out]; omega) (fun b hb => by have := hS b hb; omega)).mono ?_
  rintro e u3 ⟨r4, rfl, hr4, hb3⟩
  obtain ⟨p4, q4, er4⟩ := ownsRow_shape hr4
  rw [M4.out] at er4
  subst er4
  have su3 := hb3.size
  have hx3 := (hb3.block w.heap.size (by omega)).trans X2.out
  have hy3 := (hb3.block (w.heap.size + 1) (by omega)).trans Y2.out
  have zc := (cell_row hx3 4 _ rfl).1
  have zf := (cell_row hx3 4 _ rfl).2
  simp only [List.getElem_toArray, List.getElem_cons_zero, List.getElem_cons_succ] at zc
  go_upto_region 4 with fail
  clear zc zf y4
  have T3_3 := Row.below R3_2.out hb3
  have T2_3 := Row.below R2_2.out hb3
  have bb3 := B2.out.trans (hb3.mono (by omega))
  obtain ⟨U3, hU3⟩ : ∃ U, U = u3.setCell ⟨w.heap.size, 4, none⟩ (.slice p4 n4 q4) := ⟨_, rfl⟩
  rw [← hU3]
  have X3 : Hid (U3.heap[w.heap.size]? = some (.cells #[.int .i64 a.1, .int .i64 a.2.1, .slice p2 n2 q2, .slice p3 n3 q3, .slice p4 n4 q4, .slice o5 n5 k5] 48 (0, 0))) := by rw [hU3]; have := set_row hx3 4 (.slice p4 n4 q4); simpa [Hid] using this
  have Y3 : Hid (U3.heap[w.heap.size + 1]? = some (.cells #[.int .i64 0, .int .i64 0, .slice none 0 0, .slice none 0 0, .slice none 0 0, .slice none 0 0] 48 (0, 0))) := by rw [hU3]; exact (Below.heap_setCell _ _ _ _ (by show w.heap.size + 1 ≠ w.heap.size; omega)).trans hy3
  have B3 : Hid (Below w.heap.size w U3) := by rw [hU3]; exact Below.setCell (p := ⟨w.heap.size, 4, none⟩) bb3 (Nat.le_refl _) _
  have sU3 : U3.heap.size = u3.heap.size := by rw [hU3]; simp
  have E4 : Hid (∀ g, (Value.slice p4 n4 q4).ownBlock = some g → U2.heap.size ≤ g ∧ g < U3.heap.size) := fun g hg => by have := World.ownsRow.lt hr4 g hg; exact ⟨this.1, by omega⟩
  have R3_3 : Hid (Row U3 (w.heap.size + 1 + 1) 106 3 eU (.slice p3 n3 q3) a.2.2.2.1) := by rw [hU3]; exact ownsRow_kept T3_3 (fun g hg => Below.heap_setCell _ _ _ _ (by have := (World.ownsRow.lt T3_3 g hg).1; show g ≠ w.heap.size; omega))
  have R2_3 : Hid (Row U3 (U1.heap.size) 9 1 eS (.slice p2 n2 q2) a.2.2.1) := by rw [hU3]; exact ownsRow_kept T2_3 (fun g hg => Below.heap_setCell _ _ _ _ (by have := (World.ownsRow.lt T2_3 g hg).1; show g ≠ w.heap.size; omega))
  have R4_3 : Hid (Row U3 (U2.heap.size) 9 1 eS (.slice p4 n4 q4) a.2.2.2.2.1) := by rw [hU3]; exact ownsRow_kept hr4 (fun g hg => Below.heap_setCell _ _ _ _ (by have := (World.ownsRow.lt hr4 g hg).1; show g ≠ w.heap.size; omega))
  clear hU3
  clear hx3 hy3 bb3 hb3
  obtain ⟨y5, _⟩ := cell_row X3.out 5 _ rfl
  simp only [List.getElem_toArray, List.getElem_cons_zero, List.getElem_cons_succ] at y5
  go_wp2_with fail
  refine (names21_any S _ a.2.2.2.2.2 U3 (HH5.out _ B3.out) (by rw [M5.out]; omega) (fun b hb => by have := hS b hb; omega)).mono ?_
  rintro e u4 ⟨r5, rfl, hr5, hb4⟩
  obtain ⟨p5, q5, er5⟩ := ownsRow_shape hr5
  rw [M5.out] at er5
  subst er5
  have su4 := hb4.size
  have hx4 := (hb4.block w.heap.size (by omega)).trans X3.out
  have hy4 := (hb4.block (w.heap.size + 1) (by omega)).trans Y3.out
  have zc := (cell_row hx4 5 _ rfl).1
  have zf := (cell_row hx4 5 _ rfl).2
  simp only [List.getElem_toArray, List.getElem_cons_zero, List.getElem_cons_succ] at zc
  go_upto_region 5 with fail
  clear zc zf y5
  have T3_4 := Row.below R3_3.out hb4
  have T2_4 := Row.below R2_3.out hb4
  have T4_4 := Row.below R4_3.out hb4
  have bb4 := B3.out.trans (hb4.mono (by omega))
  obtain ⟨U4, hU4⟩ : ∃ U, U = u4.setCell ⟨w.heap.size, 5, none⟩ (.slice p5 n5 q5) := ⟨_, rfl⟩
  rw [← hU4]
  have X4 : Hid (U4.heap[w.heap.size]? = some (.cells #[.int .i64 a.1, .int .i64 a.2.1, .slice p2 n2 q2, .slice p3 n3 q3, .slice p4 n4 q4, .slice p5 n5 q5] 48 (0, 0))) := by rw [hU4]; have := set_row hx4 5 (.slice p5 n5 q5); simpa [Hid] using this
  have Y4 : Hid (U4.heap[w.heap.size + 1]? = some (.cells #[.int .i64 0, .int .i64 0, .slice none 0 0, .slice none 0 0, .slice none 0 0, .slice none 0 0] 48 (0, 0))) := by rw [hU4]; exact (Below.heap_setCell _ _ _ _ (by show w.heap.size + 1 ≠ w.heap.size; omega)).trans hy4
  have B4 : Hid (Below w.heap.size w U4) := by rw [hU4]; exact Below.setCell (p := ⟨w.heap.size, 5, none⟩) bb4 (Nat.le_refl _) _
  have sU4 : U4.heap.size = u4.heap.size := by rw [hU4]; simp
  have E5 : Hid (∀ g, (Value.slice p5 n5 q5).ownBlock = some g → U3.heap.size ≤ g ∧ g < U4.heap.size) := fun g hg => by have := World.ownsRow.lt hr5 g hg; exact ⟨this.1, by omega⟩
  have R3_4 : Hid (Row U4 (w.heap.size + 1 + 1) 106 3 eU (.slice p3 n3 q3) a.2.2.2.1) := by rw [hU4]; exact ownsRow_kept T3_4 (fun g hg => Below.heap_setCell _ _ _ _ (by have := (World.ownsRow.lt T3_4 g hg).1; show g ≠ w.heap.size; omega))
  have R2_4 : Hid (Row U4 (U1.heap.size) 9 1 eS (.slice p2 n2 q2) a.2.2.1) := by rw [hU4]; exact ownsRow_kept T2_4 (fun g hg => Below.heap_setCell _ _ _ _ (by have := (World.ownsRow.lt T2_4 g hg).1; show g ≠ w.heap.size; omega))
  have R4_4 : Hid (Row U4 (U2.heap.size) 9 1 eS (.slice p4 n4 q4) a.2.2.2.2.1) := by rw [hU4]; exact ownsRow_kept T4_4 (fun g hg => Below.heap_setCell _ _ _ _ (by have := (World.ownsRow.lt T4_4 g hg).1; show g ≠ w.heap.size; omega))
  have R5_4 : Hid (Row U4 (U3.heap.size) 9 1 eS (.slice p5 n5 q5) a.2.2.2.2.2) := by rw [hU4]; exact ownsRow_kept hr5 (fun g hg => Below.heap_setCell _ _ _ _ (by have := (World.ownsRow.lt hr5 g hg).1; show g ≠ w.heap.size; omega))
  clear hU4
  clear hx4 hy4 bb4 hb4
  obtain ⟨y0, _⟩ := cell_row X4.out 0 _ rfl
  obtain ⟨t0, f0⟩ := cell_row Y4.out 0 _ rfl
  obtain ⟨y1, _⟩ := cell_row X4.out 1 _ rfl
  obtain ⟨t1, f1⟩ := cell_row Y4.out 1 _ rfl
  obtain ⟨y2, _⟩ := cell_row X4.out 2 _ rfl
  obtain ⟨t2, f2⟩ := cell_row Y4.out 2 _ rfl
  obtain ⟨y3, _⟩ := cell_row X4.out 3 _ rfl
  obtain ⟨t3, f3⟩ := cell_row Y4.out 3 _ rfl
  obtain ⟨y4, _⟩ := cell_row X4.out 4 _ rfl
  obtain ⟨t4, f4⟩ := cell_row Y4.out 4 _ rfl
  obtain ⟨y5, _⟩ := cell_row X4.out 5 _ rfl
  obtain ⟨t5, f5⟩ := cell_row Y4.out 5 _ rfl
  simp only [List.getElem_toArray, List.getElem_cons_zero, List.getElem_cons_succ] at y0 t0 y1 t1 y2 t2 y3 t3 y4 t4 y5 t5
  obtain ⟨F0, F1, F2, F3⟩ := ret_6 Y4.out (.int .i64 a.1) (.int .i64 a.2.1) (.slice p2 n2 q2) (.slice p3 n3 q3) (.slice p4 n4 q4) (.slice p5 n5 q5)
  have g0 := (cell_row F0 0 _ rfl).1
  have g1 := (cell_row F0 1 _ rfl).1
  have g2 := (cell_row F0 2 _ rfl).1
  have g3 := (cell_row F0 3 _ rfl).1
  have g4 := (cell_row F0 4 _ rfl).1
  have g5 := (cell_row F0 5 _ rfl).1
  simp only [List.getElem_toArray, List.getElem_cons_zero, List.getElem_cons_succ] at g0 g1 g2 g3 g4 g5
  have V3 : Hid (Row ((((((U4.setCell ⟨w.heap.size + 1, 0, none⟩ (.int .i64 a.1)).setCell ⟨w.heap.size + 1, 1, none⟩ (.int .i64 a.2.1)).setCell ⟨w.heap.size + 1, 2, none⟩ (.slice p2 n2 q2)).setCell ⟨w.heap.size + 1, 3, none⟩ (.slice p3 n3 q3)).setCell ⟨w.heap.size + 1, 4, none⟩ (.slice p4 n4 q4)).setCell ⟨w.heap.size + 1, 5, none⟩ (.slice p5 n5 q5)) (w.heap.size + 1 + 1) 106 3 eU (.slice p3 n3 q3) a.2.2.2.1) := ownsRow_kept R3_4.out (fun g hg => F1 g (by have := (World.ownsRow.lt R3_4.out g hg).1; omega))
  have D3 := World.ownsRow.lt R3_4.out
  have V2 : Hid (Row ((((((U4.setCell ⟨w.heap.size + 1, 0, none⟩ (.int .i64 a.1)).setCell ⟨w.heap.size + 1, 1, none⟩ (.int .i64 a.2.1)).setCell ⟨w.heap.size + 1, 2, none⟩ (.slice p2 n2 q2)).setCell ⟨w.heap.size + 1, 3, none⟩ (.slice p3 n3 q3)).setCell ⟨w.heap.size + 1, 4, none⟩ (.slice p4 n4 q4)).setCell ⟨w.heap.size + 1, 5, none⟩ (.slice p5 n5 q5)) (U1.heap.size) 9 1 eS (.slice p2 n2 q2) a.2.2.1) := ownsRow_kept R2_4.out (fun g hg => F1 g (by have := (World.ownsRow.lt R2_4.out g hg).1; omega))
  have D2 := World.ownsRow.lt R2_4.out
  have V4 : Hid (Row ((((((U4.setCell ⟨w.heap.size + 1, 0, none⟩ (.int .i64 a.1)).setCell ⟨w.heap.size + 1, 1, none⟩ (.int .i64 a.2.1)).setCell ⟨w.heap.size + 1, 2, none⟩ (.slice p2 n2 q2)).setCell ⟨w.heap.size + 1, 3, none⟩ (.slice p3 n3 q3)).setCell ⟨w.heap.size + 1, 4, none⟩ (.slice p4 n4 q4)).setCell ⟨w.heap.size + 1, 5, none⟩ (.slice p5 n5 q5)) (U2.heap.size) 9 1 eS (.slice p4 n4 q4) a.2.2.2.2.1) := ownsRow_kept R4_4.out (fun g hg => F1 g (by have := (World.ownsRow.lt R4_4.out g hg).1; omega))
  have D4 := World.ownsRow.lt R4_4.out
  have V5 : Hid (Row ((((((U4.setCell ⟨w.heap.size + 1, 0, none⟩ (.int .i64 a.1)).setCell ⟨w.heap.size + 1, 1, none⟩ (.int .i64 a.2.1)).setCell ⟨w.heap.size + 1, 2, none⟩ (.slice p2 n2 q2)).setCell ⟨w.heap.size + 1, 3, none⟩ (.slice p3 n3 q3)).setCell ⟨w.heap.size + 1, 4, none⟩ (.slice p4 n4 q4)).setCell ⟨w.heap.size + 1, 5, none⟩ (.slice p5 n5 q5)) (U3.heap.size) 9 1 eS (.slice p5 n5 q5) a.2.2.2.2.2) := ownsRow_kept R5_4.out (fun g hg => F1 g (by have := (World.ownsRow.lt R5_4.out g hg).1; omega))
  have D5 := World.ownsRow.lt R5_4.out
  have BF : Hid (Below w.heap.size w ((((((U4.setCell ⟨w.heap.size + 1, 0, none⟩ (.int .i64 a.1)).setCell ⟨w.heap.size + 1, 1, none⟩ (.int .i64 a.2.1)).setCell ⟨w.heap.size + 1, 2, none⟩ (.slice p2 n2 q2)).setCell ⟨w.heap.size + 1, 3, none⟩ (.slice p3 n3 q3)).setCell ⟨w.heap.size + 1, 4, none⟩ (.slice p4 n4 q4)).setCell ⟨w.heap.size + 1, 5, none⟩ (.slice p5 n5 q5))) := B4.out.trans (F3.mono (by omega))
  go_wp2_with fail
  exact bodyPost_ret (v := .agg #[.int .i64 a.1, .int .i64 a.2.1, .slice p2 n2 q2, .slice p3 n3 q3, .slice p4 n4 q4, .slice p5 n5 q5]) (by simp [results, Tryz.results46, go_sem, g0, g1, g2, g3, g4, g5]) rfl ⟨cs [.int .i64 a.1, .int .i64 a.2.1, .slice p2 n2 q2, .slice p3 n3 q3, .slice p4 n4 q4, .slice p5 n5 q5], rfl, on_DClaimWant.2 ⟨fun _ => False, fun b => w.heap.size ≤ b ∧ b < ((((((U4.setCell ⟨w.heap.size + 1, 0, none⟩ (.int .i64 a.1)).setCell ⟨w.heap.size + 1, 1, none⟩ (.int .i64 a.2.1)).setCell ⟨w.heap.size + 1, 2, none⟩ (.slice p2 n2 q2)).setCell ⟨w.heap.size + 1, 3, none⟩ (.slice p3 n3 q3)).setCell ⟨w.heap.size + 1, 4, none⟩ (.slice p4 n4 q4)).setCell ⟨w.heap.size + 1, 5, none⟩ (.slice p5 n5 q5)).heap.size, fun _ h => h.elim, fun b hb => hb, ⟨rfl, z0⟩, fun _ => False, fun b => w.heap.size ≤ b ∧ b < ((((((U4.setCell ⟨w.heap.size + 1, 0, none⟩ (.int .i64 a.1)).setCell ⟨w.heap.size + 1, 1, none⟩ (.int .i64 a.2.1)).setCell ⟨w.heap.size + 1, 2, none⟩ (.slice p2 n2 q2)).setCell ⟨w.heap.size + 1, 3, none⟩ (.slice p3 n3 q3)).setCell ⟨w.heap.size + 1, 4, none⟩ (.slice p4 n4 q4)).setCell ⟨w.heap.size + 1, 5, none⟩ (.slice p5 n5 q5)).heap.size, fun _ h => h.elim, fun b hb => hb, ⟨rfl, z1⟩, fun b => U1.heap.size ≤ b ∧ b < U2.heap.size, fun b => (w.heap.size + 1 + 1 ≤ b ∧ b < U1.heap.size) ∨ (U2.heap.size ≤ b ∧ b < U4.heap.size), fun b hb => ⟨⟨by omega, by rw [F2]; omega⟩, by omega⟩, fun b hb => ⟨by omega, by rw [F2]; omega⟩, onS_row V2.out (fun g hg => ⟨(E2.out g hg).1, (E2.out g hg).2⟩) KK2.out, fun b => w.heap.size + 1 + 1 ≤ b ∧ b < U1.heap.size, fun b => U2.heap.size ≤ b ∧ b < U4.heap.size, fun b hb => ⟨.inl hb, by omega⟩, fun b hb => .inr hb, onU_row V3.out (fun g hg => ⟨(E3.out g hg).1, (E3.out g hg).2⟩) KK3.out, fun b => U2.heap.size ≤ b ∧ b < U3.heap.size, fun b => U3.heap.size ≤ b ∧ b < U4.heap.size, fun b hb => ⟨by omega, by omega⟩, fun b hb => ⟨by omega, by omega⟩, onS_row V4.out (fun g hg => ⟨(E4.out g hg).1, (E4.out g hg).2⟩) KK4.out, onS_row V5.out (fun g hg => ⟨(E5.out g hg).1, (E5.out g hg).2⟩) KK5.out⟩, BF.out⟩
end

/-
  Append to a new empty list: only new memory is made.
-/
section
open Go.RowKit

theorem app_new {P : Program} {t e : TypeId} {size bytes m g B : Nat} {w : World} {sv : Value} {news : List Value} (T : ElT P t e size bytes) (hown : w.ownsRow B e size (.slice (some ⟨g, 0, none⟩) 0 0) 0 []) (hB : B ≤ w.heap.size) (hsrc : Src w sv m size news) (h63 : m ≤ maxLen) (hbytes : m * bytes ≤ 140737488355328) (ty : TypeId) :
    ∃ v' w', (Builtin.append_ #[t, t] ty #[.slice (some ⟨g, 0, none⟩) 0 0, sv]).run P w = .ok v' w' ∧ w'.ownsRow B e size v' m news ∧ Below w.heap.size w w' := by
  obtain ⟨i, z, hi, hz, h2, h3, h4⟩ := T.info
  rcases hsrc with ⟨hl, ⟨rfl, rfl⟩ | ⟨ad, c, rfl, hc⟩⟩
  · have hn : news = [] := List.eq_nil_of_length_eq_zero (by simpa using hl)
    subst hn
    exact ⟨_, w, run_append_owned_none (P := P) (w := w) B t ty e i size T.ht hi _ 0 [] hown, hown, Below.refl _ _⟩
  · by_cases h0 : m = 0
    · subst h0
      have hn : news = [] := List.eq_nil_of_length_eq_zero (by simpa using hl)
      subst hn
      refine ⟨.slice (some ⟨g, 0, none⟩) 0 0, w, ?_, hown, Below.refl _ _⟩
      simp [Builtin.append_, run_underlying T.ht, sizeOf, typeInfo, hi, storeCells, loadCells, Builtin.lenOf, Builtin.firstCells, loadCellsFrom]
    · obtain ⟨v', w', hr, q1, q2⟩ := run_append_arg_grows (P := P) (w := w) t ty e i z size bytes T.ht hi hz h2 h3 h4 T.pos ⟨g, 0, none⟩ 0 0 [] (by simp) (fun j u h => by simp at h) ad m c news hl hc (by omega) (by omega) (by simpa using hbytes)
      refine ⟨v', w', hr, ?_, ?_⟩
      · rw [Nat.zero_add, List.nil_append] at q1; exact Go.Joins.ownsRow_le q1 hB
      · exact ⟨q2.os, q2.tape, q2.output, q2.size, fun b hb => q2.block b hb (fun e => by cases e)⟩
theorem exec_app_new {P : Program} {t e : TypeId} {size bytes m g B : Nat} {w : World} {sv : Value} {news : List Value} {o : Oper} {a : Act} (T : ElT P t e size bytes) (s x : Operand) (ho : o.op = .call { callee := .builtin .append, args := #[s, x], argTypes := #[t, t] }) (hs : a.eval s = .slice (some ⟨g, 0, none⟩) 0 0) (hx : a.eval x = sv) (hown : w.ownsRow B e size (.slice (some ⟨g, 0, none⟩) 0 0) 0 []) (hB : B ≤ w.heap.size) (hsrc : Src w sv m size news) (h63 : m ≤ maxLen) (hbytes : m * bytes ≤ 140737488355328) :
    ∃ v' w', (execOp a.eval o).run P w = .ok (.value v') w' ∧ w'.ownsRow B e size v' m news ∧ Below w.heap.size w w' := by
  obtain ⟨v', w', hr, q1, q2⟩ := app_new (P := P) T hown hB hsrc h63 hbytes o.type
  refine ⟨v', w', ?_, q1, q2⟩
  unfold execOp
  simp only [ho, resolve, invoke, builtin, Sem.run_bind, Sem.run_pure, Result.andThen_ok, List.map_toArray, List.map_cons, List.map_nil, hs, hx, hr]
end

/-
  A law on a region that draws its order: operations that only make new memory, calls among them, in whatever order; what is known of an operation's value may speak of the values that it waits for. No program is named here.
-/
section
open Go.RowKit Go.Sort

/-- An operation: its place, its destination, whom it waits for, what is known of its value beside theirs. -/
structure Gv where
  i : Nat
  d : Nat
  uses : List Nat
  F : World → (Nat → Value) → Prop
def Gv.g (m : Gv) : Gn := ⟨m.i, m.d, m.uses, fun _ _ => True⟩
def vals (a : Act) (k : Nat) : Value := a.eval (.tmp k)
def updV (f : Nat → Value) (d : Nat) (u : Value) (k : Nat) : Value := if k = d then u else f k

section
variable {P : Program} {md : Region.Mode} {ops : Array Oper}
def StepV (P : Program) (W : World) (a0 : Act) (M : List Gv) (nd : Gv) (o : Oper) : Prop :=
  ∀ (b : Act) (w : World), AgreeG (M.map Gv.g) b a0 → Below W.heap.size W w → (∀ m ∈ M, m.i ∈ nd.uses → m.F w (vals b)) →
    (∃ u w', (execOp b.eval o).run P w = .ok (.value u) w' ∧ nd.F w' (updV (vals b) nd.d u) ∧ Below w.heap.size w w') ∨
    (∃ fn args, (execOp b.eval o).run P w = .ok (.enter fn args) w ∧ Calls P fn args w fun e w' => ∃ u, e = .returned u ∧ nd.F w' (updV (vals b) nd.d u) ∧ Below w.heap.size w w')
/-- What a node's fact speaks of: its own value, and those that it waits for. -/
def SeesV (M : List Gv) (m : Gv) : Prop := ∀ (w w' : World) (f f' : Nat → Value), Below w.heap.size w w' → f' m.d = f m.d → (∀ m' ∈ M, m'.i ∈ m.uses → f' m'.d = f m'.d) → m.F w f → m.F w' f'

theorem growV_any {C : World → Prop} {n : Nat} {L : Array Bool → Act → World → Prop} {W : World} {a0 : Act} {M : List Gv} {fin : Array Bool} (hop : ∀ m ∈ M, ∃ o, ops[m.i]? = some o ∧ o.guard = none ∧ o.dst = some m.d ∧ m.i < n ∧ StepV P W a0 M m o)
    (hst : ∀ m ∈ M, SeesV M m) (hi : ∀ m ∈ M, ∀ m' ∈ M, m.i = m'.i → m = m') (hdd : ∀ m ∈ M, ∀ m' ∈ M, m.d = m'.d → m.i = m'.i) (hd : ∀ m ∈ M, m.d < a0.tmps.size) (hfin : ∀ m ∈ M, fin.getD m.i false = true)
    (hC : ∀ w, Below W.heap.size W w → C w)
    (K : ∀ (v : Nat → Value) (w : World), Below W.heap.size W w → (∀ m ∈ M, m.F w v) → L fin (putG a0 (M.map Gv.g) v) w) :
    ∀ (f : Nat) (listed : Array Bool) (a : Act) (w : World), roomG md ops (M.map fun m => (m.i, m.uses)) fin f listed = true → Below W.heap.size W w → AgreeG (M.map Gv.g) a a0 →
      (∀ m ∈ M, listed.getD m.i false = true → m.F w (vals a) ∧ ∀ u ∈ m.uses, listed.getD u false = true) → anyH P md ops C n L f listed a w := by
  intro f
  induction f with
  | zero =>
    intro listed a w hr hb hA ho
    simp only [roomG, decide_eq_true_eq] at hr
    subst hr
    show L listed a w
    rw [hA.all (fun m hm => by obtain ⟨m', hm', rfl⟩ := List.mem_map.1 hm; exact hd m' hm')]
    exact K _ w hb (fun m hm => (ho m hm (hfin m hm)).1)
  | succ f ih =>
    intro listed a w hr hb hA ho
    simp only [roomG, Bool.and_eq_true, Bool.not_eq_true', List.all_eq_true] at hr
    obtain ⟨hne, hall⟩ := hr
    refine ⟨fun e => by rw [e] at hne; simp at hne, fun i hready => ?_⟩
    obtain ⟨⟨hin, hus⟩, hnext⟩ := hall i hready
    obtain ⟨p, hp, hpi⟩ := List.any_eq_true.1 hin
    obtain ⟨nd, hnd, rfl⟩ := List.mem_map.1 hp
    have hni : nd.i = i := by simpa using hpi
    subst hni
    have hnl : listed.getD nd.i false = false := by
      have h := (mem_ready.1 hready).1
      by_cases hj : nd.i < listed.size
      · simpa [Array.getD, hj] using h
      · simp [Array.getD, hj] at h
    obtain ⟨o, h1, h2, h3, h4, hstep⟩ := hop nd hnd
    have hw : Region.wanted o (yielded ops a.tmps) = true := wanted_none h2 _
    have hul : ∀ u ∈ nd.uses, listed.getD u false = true := fun u hu => by
      have h5 := hus _ hp
      simp only [Bool.or_eq_true, Bool.not_eq_true', beq_eq_false_iff_ne, ne_eq, List.all_eq_true] at h5
      rcases h5 with h5 | h5
      · exact absurd trivial h5
      · exact h5 u hu
    have hu : ∀ m ∈ M, m.i ∈ nd.uses → m.F w (vals a) := fun m hm hmu => (ho m hm (hul _ hmu)).1
    have next : ∀ u w', nd.F w' (updV (vals a) nd.d u) → Below w.heap.size w w' → C w' ∧ anyH P md ops C n L f (listed.setIfInBounds nd.i true) (a.put o.dst u) w' := fun u w' hF hbw => by
      have hb' : Below W.heap.size W w' := hb.trans (hbw.mono hb.size)
      refine ⟨hC w' hb', ?_⟩
      rw [h3]
      have hg : nd.g ∈ M.map Gv.g := List.mem_map.2 ⟨nd, hnd, rfl⟩
      have ev : vals (a.put (some nd.d) u) = updV (vals a) nd.d u := by
        funext k
        unfold vals updV
        by_cases e : k = nd.d
        · rw [if_pos e, e]; exact eval_at (by rw [hA.size]; exact hd nd hnd)
        · rw [if_neg e]; exact eval_ne e
      refine ih _ _ _ hnext hb' ⟨(put_size _ _ _).trans hA.size, hA.defers, fun k hk => (eval_ne (Ne.symm (hk nd.g hg))).trans (hA.off k hk)⟩ (fun m hm hl => ?_)
      rw [ev]
      by_cases e : m = nd
      · subst e
        refine ⟨hF, fun u' hu' => ?_⟩
        by_cases e2 : u' = m.i
        · subst e2; exact hl
        · rw [getD_set_ne false (Ne.symm e2)]; exact hul u' hu'
      · have hne' : m.i ≠ nd.i := fun h => e (hi m hm nd hnd h)
        rw [getD_set_ne false (Ne.symm hne')] at hl
        obtain ⟨q1, q2⟩ := ho m hm hl
        have hdn : ∀ m' ∈ M, listed.getD m'.i false = true → updV (vals a) nd.d u m'.d = vals a m'.d := fun m' hm' hl' => by
          unfold updV
          rw [if_neg]
          intro h
          have := hdd m' hm' nd hnd h
          rw [this, hnl] at hl'; cases hl'
        refine ⟨hst m hm w w' _ _ hbw (hdn m hm hl) (fun m' hm' hu' => hdn m' hm' (q2 _ hu')) q1, fun u' hu' => ?_⟩
        have h6 := q2 u' hu'
        by_cases e2 : u' = nd.i
        · subst e2; rw [hnl] at h6; cases h6
        · rw [getD_set_ne false (Ne.symm e2)]; exact h6
    refine ⟨h4, ?_⟩
    rcases hstep a w hA hb hu with ⟨u, w', hrun, hF, hbw⟩ | ⟨fn, args, hrun, hcall⟩
    · exact ⟨o, h1, .inl ⟨hw, u, w', hrun, next u w' hF hbw⟩⟩
    · exact ⟨o, h1, .inr (.inl ⟨hw, fn, args, hrun, hcall.mono fun e w' ⟨u, he, hF, hbw⟩ => ⟨u, he, next u w' hF hbw⟩⟩)⟩
end

section
variable {P : Program}
theorem growV_all {C : World → Prop} {n f : Nat} {L : Array Bool → Act → World → Prop} {W : World} {a : Act} {listed : Array Bool} {l : List Oper} (M : List Gv) (hB : growB l (M.map fun m => (m.i, m.d, m.uses)) n f listed = true) (hsz : (M.map fun m => m.d).all (fun d => decide (d < a.tmps.size)) = true)
    (hst : ∀ m ∈ M, SeesV M m) (hS : ∀ m ∈ M, ∃ o, l.toArray[m.i]? = some o ∧ StepV P W a M m o) (hC : ∀ w, Below W.heap.size W w → C w)
    (K : ∀ (v : Nat → Value) (w : World), Below W.heap.size W w → (∀ m ∈ M, m.F w v) → L (finG (M.map Gv.g) listed) (putG a (M.map Gv.g) v) w) : anyH P .any l.toArray C n L f listed a W := by
  simp only [growB, Bool.and_eq_true, decide_eq_true_eq] at hB
  obtain ⟨⟨⟨h1, h2⟩, h3⟩, h4⟩ := hB
  have ef : finI (M.map fun m => (m.i, m.d, m.uses)) listed = finG (M.map Gv.g) listed := by
    rw [finG_eq, List.map_map]; rfl
  rw [ef] at h1 h2
  rw [List.map_map] at h1
  rw [List.map_map] at h3 h4
  have at_ : ∀ m ∈ M, listed.getD m.i false = false ∧ (finG (M.map Gv.g) listed).getD m.i false = true ∧ m.i < n ∧ ∃ o, l[m.i]? = some o ∧ o.guard = none ∧ o.dst = some m.d := fun m hm => by
    have h5 := List.all_eq_true.1 h2 _ (List.mem_map.2 ⟨m, hm, rfl⟩)
    simp only [Bool.and_eq_true, Bool.not_eq_true', decide_eq_true_eq] at h5
    obtain ⟨⟨⟨q1, q2⟩, q3⟩, q4⟩ := h5
    refine ⟨q1, q2, q3, ?_⟩
    cases ho : l[m.i]? with
    | none => rw [ho] at q4; cases q4
    | some o =>
      rw [ho] at q4
      simp only [Bool.and_eq_true, Option.isNone_iff_eq_none, decide_eq_true_eq] at q4
      exact ⟨o, rfl, q4⟩
  refine growV_any (P := P) (md := .any) (ops := l.toArray) (C := C) (n := n) (L := L) (W := W) (a0 := a) (M := M) (fin := finG (M.map Gv.g) listed) (fun m hm => ?_) hst (fun m hm m' hm' e => nodup_inj h3 m hm m' hm' e) (fun m hm m' hm' e => by rw [nodup_inj h4 m hm m' hm' e]) (fun m hm => ?_) (fun m hm => (at_ m hm).2.1) hC K f listed a W h1 (Below.refl _ _) ⟨rfl, rfl, fun _ _ => rfl⟩ (fun m hm hl => by rw [(at_ m hm).1] at hl; cases hl)
  · obtain ⟨_, _, q3, o, q4, q5, q6⟩ := at_ m hm
    have e : l.toArray[m.i]? = some o := by simpa using q4
    obtain ⟨o', e', st⟩ := hS m hm
    obtain rfl := Option.some.inj (e.symm.trans e')
    exact ⟨o, e, q5, q6, q3, st⟩
  · have := List.all_eq_true.1 hsz m.d (List.mem_map.2 ⟨m, hm, rfl⟩)
    simpa using this
end
end

/-
  Laws on a region that draws its order, step by step, in a class of worlds: operations that are not wanted. No program is named here.
-/
section
open Go.Sort

section
variable {P : Program}
theorem takeHX {C : World → Prop} {Q : Exit → Act → World → Prop} {l : List Oper} {n f : Nat} {listed : Array Bool} {i d : Nat} {oi : Oper} {a : Act} {w : World} (hi : l.toArray[i]? = some oi ∧ oi.dst = some d) (hB : takeB l n listed i = true) (hw : Region.wanted oi (yielded l.toArray a.tmps) = false) (hC : C w)
    (h : anyH P .any l.toArray C n (tailC P Q l n) f (listed.setIfInBounds i true) (a.put (some d) undef) w) : anyH P .any l.toArray C n (tailC P Q l n) (f + 1) listed a w := by
  obtain ⟨h1, h2⟩ := hi
  simp only [takeB, Bool.and_eq_true, decide_eq_true_eq] at hB
  obtain ⟨⟨⟨⟨⟨⟨⟨hsel, hn⟩, hin⟩, hs⟩, hc⟩, hr⟩, hf⟩, hv⟩ := hB
  have hr' : i ∈ Region.ready .any l.toArray listed := by simpa using hr
  refine anyH_first h1 hsel hs hc (by simpa using hn) hin (fun listed a w hL => seqB_ready hL.1) f listed a w hC (inv_of hv) (fun k hk => by rw [getD_replicate_false] at hk; cases hk) (Region.free_spec h1 hf) hr' (.inr ⟨hw, rfl⟩) ?_
  rw [h2]; exact h
end
end

end Go.Proofs.YticojnepejboaacGreat
