/-
  Several texts in one.
-/
import Derived.Test.YtndacfockllehaaGreatM16
import Derived.Test.YtndacfockllehaaGreatM12
import Derived.Test.YtndacfockllehaaGreatM18
import Derived.Test.YtndacfockllehaaGreatBjm
import Derived.Test.YtndacfockllehaaGreatM15
import Derived.Test.YtndacfockllehaaGreatVb
/-
  Lists that a call builds, one element behind the other, each with blocks of its own. No program's function is named here.
-/
namespace Go.Proofs.YtndacfockllehaaGreat
open Go.RowKit

section
variable {α : Type} [Own α]
/-- A list of the call's own, all of it in blocks from T on; its cells are xs. -/
structure Bld (T : Nat) (w : World) (t : TypeId) (v : Value) (l : List α) (xs : List Value) : Prop where
  row : w.ownsRow T t (Lay.width α) v l.length xs
  el : ∃ Ss : Nat → Nat → Prop, (∀ i b, Ss i b → T ≤ b ∧ b < w.heap.size ∧ v.ownBlock ≠ some b) ∧ (∀ i j b, Ss i b → Ss j b → i = j) ∧ ∀ i (hi : i < l.length), ∃ c : Nat → Value, (∀ j, j < Lay.width α → xs[i * Lay.width α + j]? = some (c j)) ∧ Own.On (Ss i) w l[i] c

theorem Bld.nil (T : Nat) (w : World) (t : TypeId) : Bld T w t (.slice none 0 0) ([] : List α) [] :=
  ⟨World.ownsRow_nil _ _ _ _, fun _ _ => False, fun _ _ h => h.elim, fun _ _ _ h => h.elim, fun _ hi => absurd hi (Nat.not_lt_zero _)⟩
theorem ownsRow_kept {w w' : World} {base e size : Nat} {v : Value} {k : Nat} {xs : List Value} (h : w.ownsRow base e size v k xs) (hb : ∀ g, v.ownBlock = some g → w'.heap[g]? = w.heap[g]?) : w'.ownsRow base e size v k xs := by
  refine ⟨h.1, ?_⟩
  rcases h.2 with hn | ⟨g, cap, cur, rfl, h1, hg, rest⟩
  · exact .inl hn
  · exact .inr ⟨g, cap, cur, rfl, h1, (hb g rfl).trans hg, rest⟩
theorem Bld.same {T : Nat} {w w' : World} {t : TypeId} {v : Value} {l : List α} {xs : List Value} (h : Bld T w t v l xs) (hs : ∀ b, T ≤ b → b < w.heap.size → w'.heap[b]? = w.heap[b]?) (hz : w.heap.size ≤ w'.heap.size) : Bld T w' t v l xs := by
  obtain ⟨row, Ss, h1, h2, h3⟩ := h
  refine ⟨ownsRow_kept row (fun g hg => hs g (World.ownsRow.lt row g hg).1 (World.ownsRow.lt row g hg).2), Ss, fun i b hb => ⟨(h1 i b hb).1, by have := (h1 i b hb).2.1; omega, (h1 i b hb).2.2⟩, h2, fun i hi => ?_⟩
  obtain ⟨c, hc, hon⟩ := h3 i hi
  exact ⟨c, hc, Own.on_same hon (fun b hb => hs b (h1 i b hb).1 (h1 i b hb).2.1)⟩
theorem Bld.push {T : Nat} {w u u3 : World} {t : TypeId} {v v' : Value} {l : List α} {xs news : List Value} {x : α} {c : Nat → Value} (h : Bld T w t v l xs) (hT : T ≤ w.heap.size) (hb : Below w.heap.size w u) (hx : Own.On (fun b => w.heap.size ≤ b ∧ b < u.heap.size) u x c)
    (hg : u.grownBy u3 v.ownBlock) (ho : u3.ownsRow T t (Lay.width α) v' (l.length + 1) (xs ++ news)) (hn : ∀ j, j < Lay.width α → news[j]? = some (c j)) (hbk : v'.ownBlock = v.ownBlock ∨ v'.ownBlock = some u.heap.size) : Bld T u3 t v' (l ++ [x]) (xs ++ news) := by
  obtain ⟨row, Ss, h1, h2, h3⟩ := h
  have hs := hb.size
  have hg3 := hg.size
  have low : ∀ b, b < w.heap.size → v.ownBlock ≠ some b → u3.heap[b]? = w.heap[b]? := fun b hlt hne => (hg.block b (by omega) (fun e => hne e.symm)).trans (hb.block b hlt)
  have vlt : ∀ g, v.ownBlock = some g → g < w.heap.size := fun g e => (World.ownsRow.lt row g e).2
  refine ⟨by rw [List.length_append]; exact ho, fun i b => (i = l.length ∧ w.heap.size ≤ b ∧ b < u.heap.size) ∨ (i < l.length ∧ Ss i b), ?_, ?_, ?_⟩
  · rintro i b (⟨_, hb1, hb2⟩ | ⟨_, hb1⟩)
    · refine ⟨by omega, by omega, fun e => ?_⟩
      rcases hbk with e2 | e2
      · have := vlt b (e2.symm.trans e); omega
      · rw [e2] at e; cases e; omega
    · obtain ⟨q1, q2, q3⟩ := h1 i b hb1
      refine ⟨q1, by omega, fun e => ?_⟩
      rcases hbk with e2 | e2
      · exact q3 (e2.symm.trans e)
      · rw [e2] at e; cases e; omega
  · rintro i j b (⟨e1, q1⟩ | ⟨e1, q1⟩) (⟨e2, q2⟩ | ⟨e2, q2⟩)
    · rw [e1, e2]
    · have := (h1 j b q2).2.1; omega
    · have := (h1 i b q1).2.1; omega
    · exact h2 i j b q1 q2
  · intro i hi
    by_cases e : i < l.length
    · obtain ⟨d, hd, hon⟩ := h3 i e
      refine ⟨d, fun j hj => ?_, ?_⟩
      · have hlt : i * Lay.width α + j < xs.length := by
          rw [row.1]
          have : (i + 1) * Lay.width α ≤ l.length * Lay.width α := Nat.mul_le_mul_right _ e
          rw [Nat.add_mul, Nat.one_mul] at this; omega
        rw [List.getElem?_append_left hlt]; exact hd j hj
      · rw [List.getElem_append_left e]
        exact Own.on_up (Own.on_same hon (fun b hb1 => low b (h1 i b hb1).2.1 (h1 i b hb1).2.2)) (fun b hb1 => .inr ⟨e, hb1⟩)
    · have ei : i = l.length := by rw [List.length_append, List.length_singleton] at hi; omega
      subst ei
      refine ⟨c, fun j hj => ?_, ?_⟩
      · rw [List.getElem?_append_right (by rw [row.1]; omega), row.1, Nat.add_sub_cancel_left]; exact hn j hj
      · rw [List.getElem_append_right (Nat.le_refl _)]
        simp only [Nat.sub_self, List.getElem_cons_zero]
        refine Own.on_up (Own.on_same hx (fun b hb1 => hg.block b hb1.2 (fun e => ?_))) (fun b hb1 => .inl ⟨trivial, hb1⟩)
        have := vlt b e.symm; omega
theorem Bld.on {T : Nat} {w : World} {t : TypeId} {v : Value} {l : List α} {xs : List Value} (h : Bld T w t v l xs) : OnL (fun b => T ≤ b ∧ b < w.heap.size) w l v := by
  obtain ⟨row, Ss, h1, h2, h3⟩ := h
  rcases row.2 with ⟨rfl, hn⟩ | ⟨g, cap, cur, rfl, hb, hg, hc, hm', hs, ht⟩
  · exact ⟨none, 0, by rw [hn], ⟨by omega, by omega, fun _ => rfl⟩, .inl (List.eq_nil_of_length_eq_zero hn)⟩
  · refine ⟨some ⟨g, 0, none⟩, cap, rfl, ⟨by omega, hc, fun h => nomatch h⟩, ?_⟩
    cases hl : l with
    | nil => exact .inl rfl
    | cons x0 l0 =>
      rw [← hl]
      refine .inr ⟨g, 0, Ss, cur, t, rfl, fun i => l.getD i x0, fun i hi => by simp [hi], ⟨hg, ⟨hb, (Array.getElem?_eq_some_iff.1 hg).1⟩, fun i b hb1 => ⟨⟨(h1 i b hb1).1, (h1 i b hb1).2.1⟩, fun e => (h1 i b hb1).2.2 (by rw [e]; rfl)⟩, h2, fun i hi => ?_⟩⟩
      obtain ⟨c, hc1, hon⟩ := h3 i hi
      refine ⟨c, fun j hj => ?_, by have : l.getD i x0 = l[i] := (by simp [hi]); rw [this]; exact hon⟩
      have e1 := hc1 j hj
      rw [← ht, List.getElem?_take_of_lt (by have : (i + 1) * Lay.width α ≤ l.length * Lay.width α := Nat.mul_le_mul_right _ hi; rw [Nat.add_mul, Nat.one_mul] at this; omega)] at e1
      rw [Nat.zero_add, ← Array.getElem?_toList]; exact e1
/-- A list whose elements have no blocks. -/
theorem OnL.of_row {w : World} {B : Nat} {t : TypeId} {v : Value} {l : List α} {xs : List Value} {S : Nat → Prop} (row : w.ownsRow B t (Lay.width α) v l.length xs) (hS : ∀ g, v.ownBlock = some g → S g) (h3 : ∀ i (hi : i < l.length), ∃ c : Nat → Value, (∀ j, j < Lay.width α → xs[i * Lay.width α + j]? = some (c j)) ∧ Own.On (fun _ => False) w l[i] c) : OnL S w l v := by
  rcases row.2 with ⟨rfl, hn⟩ | ⟨g, cap, cur, rfl, hb, hg, hc, hm', hs, ht⟩
  · exact ⟨none, 0, by rw [hn], ⟨by omega, by omega, fun _ => rfl⟩, .inl (List.eq_nil_of_length_eq_zero hn)⟩
  · refine ⟨some ⟨g, 0, none⟩, cap, rfl, ⟨by omega, hc, fun h => nomatch h⟩, ?_⟩
    cases hl : l with
    | nil => exact .inl rfl
    | cons x0 l0 =>
      rw [← hl]
      refine .inr ⟨g, 0, fun _ _ => False, cur, t, rfl, fun i => l.getD i x0, fun i hi => by simp [hi], ⟨hg, hS g rfl, fun _ _ h => h.elim, fun _ _ _ h => h.elim, fun i hi => ?_⟩⟩
      obtain ⟨c, hc1, hon⟩ := h3 i hi
      refine ⟨c, fun j hj => ?_, by have : l.getD i x0 = l[i] := (by simp [hi]); rw [this]; exact hon⟩
      have e1 := hc1 j hj
      rw [← ht, List.getElem?_take_of_lt (by have : (i + 1) * Lay.width α ≤ l.length * Lay.width α := Nat.mul_le_mul_right _ hi; rw [Nat.add_mul, Nat.one_mul] at this; omega)] at e1
      rw [Nat.zero_add, ← Array.getElem?_toList]; exact e1
end
theorem ownsRow_size {w : World} {base e size n : Nat} {v : Value} {xs : List Value} (h : w.ownsRow base e size v n xs) : n ≤ maxLen := by
  rcases h.2 with ⟨_, hn⟩ | ⟨g, cap, cur, _, _, _, hc, hm, _⟩
  · omega
  · omega
theorem ownsRow_shape {w : World} {base e size n : Nat} {v : Value} {xs : List Value} (h : w.ownsRow base e size v n xs) : ∃ oa cap, v = .slice oa n cap := by
  rcases h.2 with ⟨rfl, rfl⟩ | ⟨g, cap, cur, rfl, _⟩
  · exact ⟨_, _, rfl⟩
  · exact ⟨_, _, rfl⟩
theorem own_built {base e size k : Nat} {w : World} {c : Array Value} (hb : base ≤ w.heap.size) (hk : k ≤ maxLen) (hc : c.size = k * size) : (w.alloc (.cells c e)).ownsRow base e size (.slice (some ⟨w.heap.size, 0, none⟩) k k) k c.toList :=
  ⟨by simp [hc], .inr ⟨w.heap.size, k, c, rfl, hb, heap_alloc_new w _, Nat.le_refl _, hk, hc, by rw [List.take_of_length_le (by simp [hc])]⟩⟩
theorem own_src {base e size n : Nat} {w : World} {v : Value} {xs : List Value} (h : w.ownsRow base e size v n xs) : Src w v n size xs := by
  refine ⟨h.1, ?_⟩
  rcases h.2 with ⟨rfl, hn⟩ | ⟨g, cap, cur, rfl, hb, hg, hc, hm, hs, ht⟩
  · exact .inl ⟨rfl, hn⟩
  · refine .inr ⟨_, _, rfl, fun j u hj => ?_⟩
    rw [add_at, Nat.zero_add]
    have hjl : j < n * size := by
      have := (List.getElem?_eq_some_iff.1 hj).1
      rw [h.1] at this; exact this
    have : cur.toList[j]? = some u := by
      rw [← ht, List.getElem?_take_of_lt hjl] at hj; exact hj
    have e : cur[j]? = some u := by simpa using this
    simp only [World.cell?, hg, e]; rfl
/-- A round of a loop that appends to a list in a box. -/
theorem But.grown {g : Nat} {w1 u u3 : World} {r : Option Nat} (h : But (fun b => b = g) w1 u) (hg : u.grownBy u3 r) (hr : ∀ q, r = some q → w1.heap.size ≤ q) : But (fun b => b = g) w1 u3 :=
  ⟨hg.os.trans h.os, hg.tape.trans h.tape, hg.output.trans h.output, Nat.le_trans h.size hg.size, fun b hb hn => (hg.block b (Nat.lt_of_lt_of_le hb h.size) (fun e => absurd (hr b e.symm) (by omega))).trans (h.block b hb hn)⟩
theorem But.round {g : Nat} {w1 wr u u3 : World} {r : Option Nat} (h : But (fun b => b = g) w1 wr) (hb : Below wr.heap.size wr u) (hg : u.grownBy u3 r) (hr : ∀ q, r = some q → w1.heap.size ≤ q) (j : Nat) (x : Value) : But (fun b => b = g) w1 (u3.setCell ⟨g, j, none⟩ x) :=
  ((h.trans (But.of_below hb)).grown hg hr).set rfl j x

end Go.Proofs.YtndacfockllehaaGreat

/-
  A list that is built, one element behind the other, in a cell of a box, in rounds of a range over a function: what a round keeps. No program is named here.
-/
namespace Go.Proofs.YtndacfockllehaaGreat
open Go.RowKit

/-- What such a loop owns: the box, and the row of its cell j. -/
def ownG (gx j : Nat) (tb : TypeId) : World → Nat → Prop := fun W k => k = gx ∨ ∃ (c : Array Value) (v : Value), W.heap[gx]? = some (.cells c tb (0, 0)) ∧ c[j]? = some v ∧ v.ownBlock = some k
structure Grw (U : World) (gx : Nat) (bf : Value → Array Value) (tb t : TypeId) (sz n : Nat) (xs : List Value) (X : World) (v : Value) : Prop where
  row : X.ownsRow U.heap.size t sz v n xs
  box : X.heap[gx]? = some (.cells (bf v) tb (0, 0))
  but : But (fun b => b = gx) U X

variable {U A B V ua u8 : World} {gx j n₀ sz n n' : Nat} {bf : Value → Array Value} {tb t : TypeId} {xs xs' : List Value} {v v' : Value}
theorem row_cells {w : World} {base e size k : Nat} (h : w.ownsRow base e size v k xs) {g : Nat} (hg : v.ownBlock = some g) : ∃ cur, w.heap[g]? = some (.cells cur e (0, 0)) := by
  rcases h.2 with ⟨rfl, _⟩ | ⟨g', cap, cur, rfl, _, hgg, _⟩
  · cases hg
  · cases hg; exact ⟨cur, hgg⟩
theorem Grw.grown (h : Grw U gx bf tb t sz n xs A v) {row : Option Nat} (hg : A.grownBy B row) (hr : ∀ r, row = some r → U.heap.size ≤ r ∧ ∃ o : Obj, A.heap[r]? = some o ∧ o.isCells = false) : Grw U gx bf tb t sz n xs B v := by
  have ne : ∀ (k : Nat) (c : Array Value) (s : TypeId) (z : Nat × Nat), A.heap[k]? = some (.cells c s z) → some k ≠ row := fun k c s z hk e => by
    obtain ⟨o, ho, hc⟩ := (hr k e.symm).2
    rw [hk] at ho; cases ho; cases hc
  refine ⟨ownsRow_kept h.row (fun g hg' => ?_), (hg.block gx (Array.getElem?_eq_some_iff.1 h.box).1 (ne _ _ _ _ h.box)).trans h.box, ⟨hg.os.trans h.but.os, hg.tape.trans h.but.tape, hg.output.trans h.but.output, Nat.le_trans h.but.size hg.size, fun b hb hn => (hg.block b (Nat.lt_of_lt_of_le hb h.but.size) (fun e => by have := (hr b e.symm).1; omega)).trans (h.but.block b hb hn)⟩⟩
  obtain ⟨cur, hc⟩ := row_cells h.row hg'
  exact hg.block g (Array.getElem?_eq_some_iff.1 hc).1 (ne _ _ _ _ hc)
theorem Grw.own (h : Grw U gx bf tb t sz n xs A v) (hj : (bf v)[j]? = some v) {k : Nat} : ownG gx j tb A k ↔ k = gx ∨ v.ownBlock = some k := by
  constructor
  · rintro (rfl | ⟨c, u, hc, hu, ho⟩)
    · exact .inl rfl
    · rw [h.box] at hc
      cases hc
      rw [hj] at hu
      cases hu
      exact .inr ho
  · rintro (rfl | ho)
    · exact .inl rfl
    · exact .inr ⟨_, _, h.box, hj, ho⟩
theorem Grw.st (h : Grw U gx bf tb t sz n xs A v) (hj : (bf v)[j]? = some v) : OwnSt (ownG gx j tb) A := by
  refine ⟨fun k hk => ?_, fun W' row hg hr k hk => ?_⟩
  · rcases (h.own hj).1 hk with rfl | ho
    · exact (Array.getElem?_eq_some_iff.1 h.box).1
    · exact (World.ownsRow.lt h.row k ho).2
  · have hb : W'.heap[gx]? = some (.cells (bf v) tb (0, 0)) := (hg.block gx (Array.getElem?_eq_some_iff.1 h.box).1 (fun e => by
      obtain ⟨o, ho, hc⟩ := hr gx e.symm
      rw [h.box] at ho; cases ho; cases hc)).trans h.box
    rcases hk with rfl | ⟨c, u, hc, hu, ho⟩
    · exact .inl rfl
    · rw [hb] at hc
      cases hc
      rw [hj] at hu
      cases hu
      exact (h.own hj).2 (.inr ho)
theorem Grw.step (h : Grw U gx bf tb t sz n xs V v) (hj : (bf v)[j]? = some v) (hset : (bf v).setIfInBounds j v' = bf v') (hj' : (bf v')[j]? = some v') (hgU : gx < U.heap.size) (hn₀ : n₀ ≤ gx) (BA : Below V.heap.size V ua) (hgr : ua.grownBy u8 v.ownBlock)
    (hbk : v'.ownBlock = v.ownBlock ∨ v'.ownBlock = some ua.heap.size) (hown : u8.ownsRow U.heap.size t sz v' n' xs') :
    KeepsOthers V (u8.setCell ⟨gx, j, none⟩ v') ∧ KpO (ownG gx j tb) n₀ V (u8.setCell ⟨gx, j, none⟩ v') ∧ Grw U gx bf tb t sz n' xs' (u8.setCell ⟨gx, j, none⟩ v') v' := by
  have sB := BA.size
  have sU := h.but.size
  have s8 := hgr.size
  have sF : (u8.setCell ⟨gx, j, none⟩ v').heap.size = u8.heap.size := by simp [World.setCell]
  have low : ∀ g, v.ownBlock = some g → U.heap.size ≤ g ∧ g < V.heap.size := fun g hg => World.ownsRow.lt h.row g hg
  have keep : ∀ k, k < V.heap.size → k ≠ gx → v.ownBlock ≠ some k → (u8.setCell ⟨gx, j, none⟩ v').heap[k]? = V.heap[k]? := fun k hk hg hv => (Below.heap_setCell u8 ⟨gx, j, none⟩ v' k hg).trans ((hgr.block k (by omega) (fun e => hv e.symm)).trans (BA.block k hk))
  have hg8 : u8.heap[gx]? = some (.cells (bf v) tb (0, 0)) := (hgr.block gx (by omega) (fun e => by have := (low gx e.symm).1; omega)).trans ((BA.block gx (by omega)).trans h.box)
  have hF : (u8.setCell ⟨gx, j, none⟩ v').heap[gx]? = some (.cells (bf v') tb (0, 0)) := by rw [set_row hg8 j v', hset]
  have G : Grw U gx bf tb t sz n' xs' (u8.setCell ⟨gx, j, none⟩ v') v' := ⟨ownsRow_kept hown (fun g hg => Below.heap_setCell _ _ _ _ (by have := (World.ownsRow.lt hown g hg).1; show g ≠ gx; omega)), hF,
    ((h.but.trans (But.of_below BA)).grown hgr (fun q hq => (low q hq).1)).set rfl j v'⟩
  refine ⟨⟨by omega, fun k o hk ho => ?_⟩, ⟨by omega, fun k hk => ?_, fun k hk => keep k (by omega) (by omega) (fun e => by have := (low k e).1; omega), fun k c s z hc ho => ?_⟩, G⟩
  · refine (keep k (Array.getElem?_eq_some_iff.1 hk).1 (fun e => ?_) (fun e => ?_)).trans hk
    · subst e; rw [h.box] at hk; cases hk; cases ho
    · obtain ⟨cur, hcur⟩ := row_cells h.row e
      rw [hcur] at hk; cases hk; cases ho
  · rcases (G.own hj').1 hk with rfl | e
    · exact .inl (.inl rfl)
    · rcases hbk with e2 | e2
      · exact .inl ((h.own hj).2 (.inr (e2.symm.trans e)))
      · rw [e2] at e; cases e; exact .inr (by omega)
  · exact (keep k (Array.getElem?_eq_some_iff.1 hc).1 (fun e => ho (.inl e)) (fun e => ho ((h.own hj).2 (.inr e)))).trans hc

end Go.Proofs.YtndacfockllehaaGreat
