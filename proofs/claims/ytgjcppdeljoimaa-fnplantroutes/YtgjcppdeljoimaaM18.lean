/-
  Several texts in one.
-/
import Derived.Test.YtgjcppdeljoimaaM13
import Derived.Test.YtgjcppdeljoimaaM14
import Derived.Deep.CutBlock
namespace Go.Proofs.Ytgjcppdeljoimaa
open Go.RowKit Go.Sort
structure Es (R P Q : Nat) (w : World) (ob : Option Addr) (n cb : Nat) (f : Nat → Int) (v0 v1 v2 v3 : Value) (X : PlL) (c : Int) (u : World) : Prop where
  rd : ∃ q, q ≤ c ∧ Rd R u ob n cb q f
  bt : But (fun b => b = R) w u
  bx : u.heap[P]? = some (.cells #[v0, v1, v2, v3] 28 (0, 0))
  bq : u.heap[Q]? = some (.cells #[.slice none 0 0, .slice none 0 0, .slice none 0 0, .slice none 0 0] 28 (0, 0))
  pl : PlR w.heap.size u v0 v1 v2 v3 X
  ok : PlL.OkN 20 X
  low : R < w.heap.size ∧ w.heap.size ≤ P ∧ w.heap.size ≤ Q ∧ P ≠ Q
section
variable {R P Q : Nat} {w : World} {ob : Option Addr} {n cb : Nat} {f : Nat → Int} {v0 v1 v2 v3 v' : Value} {X : PlL} {c : Int} {u u' : World}
theorem Es.size (h : Es R P Q w ob n cb f v0 v1 v2 v3 X c u) : w.heap.size ≤ u.heap.size ∧ P < u.heap.size ∧ Q < u.heap.size := ⟨h.bt.size, (Array.getElem?_eq_some_iff.1 h.bx).1, (Array.getElem?_eq_some_iff.1 h.bq).1⟩
theorem row_ne {α : Type} {B : Nat} {t t' : TypeId} {k : Nat} {e : α → Nat → Value} {v : Value} {l : List α} {cs : Array Value} (hr : Row u B t k e v l) (hb : u.heap[P]? = some (.cells cs t' (0, 0))) (ht : t ≠ t') (q : Nat) (hq : v.ownBlock = some q) : q ≠ P := fun e' => by
  obtain ⟨cur, hc⟩ := Row.typed hr q hq
  rw [e', hb] at hc
  injection hc with hc
  injection hc with _ h2 _
  exact ht h2.symm
theorem Es.turn (h : Es R P Q w ob n cb f v0 v1 v2 v3 X c u) {ow : Option Nat} (hg : u.grownBy u' ow) (how : ∀ q, ow = some q → w.heap.size ≤ q ∧ q ≠ P ∧ q ≠ Q) :
    (∃ q, q ≤ c ∧ Rd R u' ob n cb q f) ∧ But (fun b => b = R) w u' ∧ u'.heap[P]? = some (.cells #[v0, v1, v2, v3] 28 (0, 0)) ∧ u'.heap[Q]? = some (.cells #[.slice none 0 0, .slice none 0 0, .slice none 0 0, .slice none 0 0] 28 (0, 0)) := by
  have hl := h.low
  obtain ⟨hs, hs1, hs2⟩ := h.size
  obtain ⟨q, hq, hrd⟩ := h.rd
  exact ⟨⟨q, hq, hrd.but fun b hb => hg.block b (by omega) (fun e => by have := how _ e.symm; omega)⟩,
    ⟨hg.os.trans h.bt.os, hg.tape.trans h.bt.tape, hg.output.trans h.bt.output, Nat.le_trans hs hg.size, fun q hq hno => (hg.block q (by omega) (fun e => by have := how _ e.symm; omega)).trans (h.bt.block q hq hno)⟩,
    (hg.block P hs1 (fun e => (how _ e.symm).2.1 rfl)).trans h.bx, (hg.block Q hs2 (fun e => (how _ e.symm).2.2 rfl)).trans h.bq⟩
theorem row_keep {α β : Type} {B : Nat} {t t' : TypeId} {k k' : Nat} {e : α → Nat → Value} {e' : β → Nat → Value} {v v' : Value} {l : List α} {l' : List β} (hrow : Row u B t k e v l) (hch : Row u B t' k' e' v' l') (ht : t ≠ t') (hg : u.grownBy u' v'.ownBlock) : Row u' B t k e v l := Row.block hrow fun g hg' => by
  have h1 := World.ownsRow.lt hrow g hg'
  refine hg.block g h1.2 (fun e2 => ?_)
  rcases Row.apart hrow hch ht with h2 | h2
  · rw [hg'] at h2; cases h2
  · exact h2 (hg'.trans e2)
theorem Es.but {c' : Int} (h : Es R P Q w ob n cb f v0 v1 v2 v3 X c u) (hb : But (fun b => b = R) u u') (hr : ∃ q, q ≤ c' ∧ Rd R u' ob n cb q f) : Es R P Q w ob n cb f v0 v1 v2 v3 X c' u' := by
  have hl := h.low
  obtain ⟨hs, hs1, hs2⟩ := h.size
  refine ⟨hr, h.bt.trans hb, (hb.block P hs1 (fun e => by have e' : P = R := e; omega)).trans h.bx, (hb.block Q hs2 (fun e => by have e' : Q = R := e; omega)).trans h.bq, h.pl.block fun g hg hlt => hb.block g hlt (fun e => ?_), h.ok, hl⟩
  have e' : g = R := e
  omega
theorem Es.below (h : Es R P Q w ob n cb f v0 v1 v2 v3 X c u) (hb : Below u.heap.size u u') : Es R P Q w ob n cb f v0 v1 v2 v3 X c u' := by
  have hl := h.low
  obtain ⟨hs, hs1, hs2⟩ := h.size
  obtain ⟨q, hq, hr⟩ := h.rd
  exact ⟨⟨q, hq, hr.but fun b hb' => hb.block b (by omega)⟩, h.bt.trans (But.of_below hb), (hb.block P hs1).trans h.bx, (hb.block Q hs2).trans h.bq, h.pl.below hb, h.ok, hl⟩
theorem Es.up {c' : Int} (h : Es R P Q w ob n cb f v0 v1 v2 v3 X c u) (hc : c ≤ c') : Es R P Q w ob n cb f v0 v1 v2 v3 X c' u := by
  obtain ⟨q, hq, hr⟩ := h.rd
  exact ⟨⟨q, by omega, hr⟩, h.bt, h.bx, h.bq, h.pl, h.ok, h.low⟩
theorem pick_es (h : Es R P Q w ob n cb f v0 v1 v2 v3 X c u) (hc : c ≤ 80000) (m : Int) (hm : 1 ≤ m) (hm2 : m ≤ 1000) :
    Calls Try.prog 28 #[.pointer (some ⟨R, 0, none⟩), .int .i64 m] u fun e u' => ∃ x, e = .returned (.int .i64 x) ∧ 0 ≤ x ∧ x < m ∧ Es R P Q w ob n cb f v0 v1 v2 v3 X (c + 1) u' ∧ But (fun b => b = R) u u' := by
  obtain ⟨q, hq, hr⟩ := h.rd
  refine (pick_rd R ob n cb f q m u hr (by omega) hm hm2).mono ?_
  rintro e u' ⟨x, rfl, h0, h1, p', hp', hrd, hbt⟩
  exact ⟨x, rfl, h0, h1, h.but hbt.out ⟨p', by omega, hrd.out⟩, hbt.out⟩
theorem of_es (h : Es R P Q w ob n cb f v0 v1 v2 v3 X c u) (hc : c ≤ 80000) (S : Nat → Prop) (l : List ByteArray) (v : Value) (hat : AtL S u l v) (hS : ∀ b, S b → b < u.heap.size ∧ b ≠ R) (h1 : 1 ≤ l.length) (h2 : l.length ≤ 1000) :
    Calls Try.prog 45 #[.pointer (some ⟨R, 0, none⟩), v] u fun e u' => ∃ s, s ∈ l ∧ e = .returned (.string s) ∧ Es R P Q w ob n cb f v0 v1 v2 v3 X (c + 1) u' ∧ But (fun b => b = R) u u' := by
  obtain ⟨q, hq, hr⟩ := h.rd
  refine (of_rd R ob n cb f q S l v u hr (by omega) hat hS h1 h2).mono ?_
  rintro e u' ⟨s, hs, rfl, p', hp', hrd, hbt⟩
  exact ⟨s, hs, rfl, h.but hbt.out ⟨p', by omega, hrd.out⟩, hbt.out⟩
theorem Es.growS {y : ByteArray} (h : Es R P Q w ob n cb f v0 v1 v2 v3 X c u) (hg : u.grownBy u' v0.ownBlock) (hr : Row u' w.heap.size 9 1 e1S v' (X.ss ++ [y])) (hy : y.size ≤ maxLen) (hn : X.ss.length < 20) :
    Es R P Q w ob n cb f v' v1 v2 v3 { X with ss := X.ss ++ [y] } c (u'.setCell ⟨P, 0, none⟩ v') := by
  have hl := h.low
  obtain ⟨⟨q, hq, hrd⟩, hbt, hbx, hbq⟩ := h.turn hg (fun q hq => ⟨(World.ownsRow.lt h.pl.s q hq).1, row_ne h.pl.s h.bx (by decide) q hq, row_ne h.pl.s h.bq (by decide) q hq⟩)
  have oth : ∀ q, q ≠ P → (u'.setCell ⟨P, 0, none⟩ v').heap[q]? = u'.heap[q]? := fun q hq => Below.heap_setCell _ _ _ _ hq
  exact ⟨⟨q, hq, hrd.but fun b hb => oth b (by omega)⟩, ⟨hbt.os, hbt.tape, hbt.output, by simpa using hbt.size, fun b hb hno => (oth b (by omega)).trans (hbt.block b hb hno)⟩, by rw [set_row hbx 0 v']; rfl, (oth Q (fun e => hl.2.2.2 e.symm)).trans hbq, ⟨(Row.block hr (fun g hg' => oth g (row_ne hr hbx (by decide) g hg'))), (Row.block (row_keep h.pl.f h.pl.s (by decide) hg) (fun g hg' => oth g (row_ne (row_keep h.pl.f h.pl.s (by decide) hg) hbx (by decide) g hg'))), (Row.block (row_keep h.pl.p h.pl.s (by decide) hg) (fun g hg' => oth g (row_ne (row_keep h.pl.p h.pl.s (by decide) hg) hbx (by decide) g hg'))), (Row.block (row_keep h.pl.v h.pl.s (by decide) hg) (fun g hg' => oth g (row_ne (row_keep h.pl.v h.pl.s (by decide) hg) hbx (by decide) g hg')))⟩, ⟨(by show (X.ss ++ [y]).length ≤ 20; simp; omega), h.ok.nf, h.ok.np, h.ok.nv, (fun s hs' => (List.mem_append.1 hs').elim (h.ok.s s) (fun h1 => by rw [List.mem_singleton.1 h1]; exact hy)), h.ok.f, h.ok.p, h.ok.v⟩, hl⟩
theorem Es.growF {y : ByteArray × ByteArray} (h : Es R P Q w ob n cb f v0 v1 v2 v3 X c u) (hg : u.grownBy u' v1.ownBlock) (hr : Row u' w.heap.size 81 2 e2F v' (X.ff ++ [y])) (hy : y.1.size ≤ maxLen ∧ y.2.size ≤ maxLen) (hn : X.ff.length < 20) :
    Es R P Q w ob n cb f v0 v' v2 v3 { X with ff := X.ff ++ [y] } c (u'.setCell ⟨P, 1, none⟩ v') := by
  have hl := h.low
  obtain ⟨⟨q, hq, hrd⟩, hbt, hbx, hbq⟩ := h.turn hg (fun q hq => ⟨(World.ownsRow.lt h.pl.f q hq).1, row_ne h.pl.f h.bx (by decide) q hq, row_ne h.pl.f h.bq (by decide) q hq⟩)
  have oth : ∀ q, q ≠ P → (u'.setCell ⟨P, 1, none⟩ v').heap[q]? = u'.heap[q]? := fun q hq => Below.heap_setCell _ _ _ _ hq
  exact ⟨⟨q, hq, hrd.but fun b hb => oth b (by omega)⟩, ⟨hbt.os, hbt.tape, hbt.output, by simpa using hbt.size, fun b hb hno => (oth b (by omega)).trans (hbt.block b hb hno)⟩, by rw [set_row hbx 1 v']; rfl, (oth Q (fun e => hl.2.2.2 e.symm)).trans hbq, ⟨(Row.block (row_keep h.pl.s h.pl.f (by decide) hg) (fun g hg' => oth g (row_ne (row_keep h.pl.s h.pl.f (by decide) hg) hbx (by decide) g hg'))), (Row.block hr (fun g hg' => oth g (row_ne hr hbx (by decide) g hg'))), (Row.block (row_keep h.pl.p h.pl.f (by decide) hg) (fun g hg' => oth g (row_ne (row_keep h.pl.p h.pl.f (by decide) hg) hbx (by decide) g hg'))), (Row.block (row_keep h.pl.v h.pl.f (by decide) hg) (fun g hg' => oth g (row_ne (row_keep h.pl.v h.pl.f (by decide) hg) hbx (by decide) g hg')))⟩, ⟨h.ok.ns, (by show (X.ff ++ [y]).length ≤ 20; simp; omega), h.ok.np, h.ok.nv, h.ok.s, (fun s hs' => (List.mem_append.1 hs').elim (h.ok.f s) (fun h1 => by rw [List.mem_singleton.1 h1]; exact hy)), h.ok.p, h.ok.v⟩, hl⟩
theorem Es.growP {y : P3} (h : Es R P Q w ob n cb f v0 v1 v2 v3 X c u) (hg : u.grownBy u' v2.ownBlock) (hr : Row u' w.heap.size 63 3 e3P v' (X.pp ++ [y])) (hy : TxP y) (hn : X.pp.length < 20) :
    Es R P Q w ob n cb f v0 v1 v' v3 { X with pp := X.pp ++ [y] } c (u'.setCell ⟨P, 2, none⟩ v') := by
  have hl := h.low
  obtain ⟨⟨q, hq, hrd⟩, hbt, hbx, hbq⟩ := h.turn hg (fun q hq => ⟨(World.ownsRow.lt h.pl.p q hq).1, row_ne h.pl.p h.bx (by decide) q hq, row_ne h.pl.p h.bq (by decide) q hq⟩)
  have oth : ∀ q, q ≠ P → (u'.setCell ⟨P, 2, none⟩ v').heap[q]? = u'.heap[q]? := fun q hq => Below.heap_setCell _ _ _ _ hq
  exact ⟨⟨q, hq, hrd.but fun b hb => oth b (by omega)⟩, ⟨hbt.os, hbt.tape, hbt.output, by simpa using hbt.size, fun b hb hno => (oth b (by omega)).trans (hbt.block b hb hno)⟩, by rw [set_row hbx 2 v']; rfl, (oth Q (fun e => hl.2.2.2 e.symm)).trans hbq, ⟨(Row.block (row_keep h.pl.s h.pl.p (by decide) hg) (fun g hg' => oth g (row_ne (row_keep h.pl.s h.pl.p (by decide) hg) hbx (by decide) g hg'))), (Row.block (row_keep h.pl.f h.pl.p (by decide) hg) (fun g hg' => oth g (row_ne (row_keep h.pl.f h.pl.p (by decide) hg) hbx (by decide) g hg'))), (Row.block hr (fun g hg' => oth g (row_ne hr hbx (by decide) g hg'))), (Row.block (row_keep h.pl.v h.pl.p (by decide) hg) (fun g hg' => oth g (row_ne (row_keep h.pl.v h.pl.p (by decide) hg) hbx (by decide) g hg')))⟩, ⟨h.ok.ns, h.ok.nf, (by show (X.pp ++ [y]).length ≤ 20; simp; omega), h.ok.nv, h.ok.s, h.ok.f, (fun s hs' => (List.mem_append.1 hs').elim (h.ok.p s) (fun h1 => by rw [List.mem_singleton.1 h1]; exact hy)), h.ok.v⟩, hl⟩
theorem Es.growV {y : V4} (h : Es R P Q w ob n cb f v0 v1 v2 v3 X c u) (hg : u.grownBy u' v3.ownBlock) (hr : Row u' w.heap.size 53 4 e4V v' (X.vv ++ [y])) (hy : TxV y) (hn : X.vv.length < 20) :
    Es R P Q w ob n cb f v0 v1 v2 v' { X with vv := X.vv ++ [y] } c (u'.setCell ⟨P, 3, none⟩ v') := by
  have hl := h.low
  obtain ⟨⟨q, hq, hrd⟩, hbt, hbx, hbq⟩ := h.turn hg (fun q hq => ⟨(World.ownsRow.lt h.pl.v q hq).1, row_ne h.pl.v h.bx (by decide) q hq, row_ne h.pl.v h.bq (by decide) q hq⟩)
  have oth : ∀ q, q ≠ P → (u'.setCell ⟨P, 3, none⟩ v').heap[q]? = u'.heap[q]? := fun q hq => Below.heap_setCell _ _ _ _ hq
  exact ⟨⟨q, hq, hrd.but fun b hb => oth b (by omega)⟩, ⟨hbt.os, hbt.tape, hbt.output, by simpa using hbt.size, fun b hb hno => (oth b (by omega)).trans (hbt.block b hb hno)⟩, by rw [set_row hbx 3 v']; rfl, (oth Q (fun e => hl.2.2.2 e.symm)).trans hbq, ⟨(Row.block (row_keep h.pl.s h.pl.v (by decide) hg) (fun g hg' => oth g (row_ne (row_keep h.pl.s h.pl.v (by decide) hg) hbx (by decide) g hg'))), (Row.block (row_keep h.pl.f h.pl.v (by decide) hg) (fun g hg' => oth g (row_ne (row_keep h.pl.f h.pl.v (by decide) hg) hbx (by decide) g hg'))), (Row.block (row_keep h.pl.p h.pl.v (by decide) hg) (fun g hg' => oth g (row_ne (row_keep h.pl.p h.pl.v (by decide) hg) hbx (by decide) g hg'))), (Row.block hr (fun g hg' => oth g (row_ne hr hbx (by decide) g hg')))⟩, ⟨h.ok.ns, h.ok.nf, h.ok.np, (by show (X.vv ++ [y]).length ≤ 20; simp; omega), h.ok.s, h.ok.f, h.ok.p, (fun s hs' => (List.mem_append.1 hs').elim (h.ok.v s) (fun h1 => by rw [List.mem_singleton.1 h1]; exact hy))⟩, hl⟩
theorem Es.putP {g m cap i j : Nat} {x : Value} {y : P3} (h : Es R P Q w ob n cb f v0 v1 (.slice (some ⟨g, 0, none⟩) m cap) v3 X c u) (hm : X.pp.length = m) (hi : i < X.pp.length) (hj : j < 3) (he : ∀ q, q < 3 → e3P y q = if q = j then x else e3P X.pp[i] q) (hy : TxP y) :
    Es R P Q w ob n cb f v0 v1 (.slice (some ⟨g, 0, none⟩) m cap) v3 { X with pp := X.pp.set i y } c (u.setCell ⟨g, i * 3 + j, none⟩ x) := by
  subst hm
  have hl := h.low
  obtain ⟨hr', hg⟩ := Row.put h.pl.p hi hj x y he
  have hr : Row (u.setCell ⟨g, i * 3 + j, none⟩ x) w.heap.size 63 3 e3P (.slice (some ⟨g, 0, none⟩) X.pp.length cap) (X.pp.set i y) := by
    show World.ownsRow _ _ _ _ _ _ _
    exact hr'
  obtain ⟨hrd, hbt, hbx, hbq⟩ := h.turn hg (fun q hq => ⟨(World.ownsRow.lt h.pl.p q hq).1, row_ne h.pl.p h.bx (by decide) q hq, row_ne h.pl.p h.bq (by decide) q hq⟩)
  exact ⟨hrd, hbt, hbx, hbq, ⟨(row_keep h.pl.s h.pl.p (by decide) hg), (row_keep h.pl.f h.pl.p (by decide) hg), hr, (row_keep h.pl.v h.pl.p (by decide) hg)⟩, ⟨h.ok.ns, h.ok.nf, (by show (X.pp.set i y).length ≤ 20; rw [List.length_set]; exact h.ok.np), h.ok.nv, h.ok.s, h.ok.f, (fun s hs' => (List.mem_or_eq_of_mem_set hs').elim (h.ok.p s) (fun h1 => by rw [h1]; exact hy)), h.ok.v⟩, hl⟩
theorem Es.putV {g m cap i j : Nat} {x : Value} {y : V4} (h : Es R P Q w ob n cb f v0 v1 v2 (.slice (some ⟨g, 0, none⟩) m cap) X c u) (hm : X.vv.length = m) (hi : i < X.vv.length) (hj : j < 4) (he : ∀ q, q < 4 → e4V y q = if q = j then x else e4V X.vv[i] q) (hy : TxV y) :
    Es R P Q w ob n cb f v0 v1 v2 (.slice (some ⟨g, 0, none⟩) m cap) { X with vv := X.vv.set i y } c (u.setCell ⟨g, i * 4 + j, none⟩ x) := by
  subst hm
  have hl := h.low
  obtain ⟨hr', hg⟩ := Row.put h.pl.v hi hj x y he
  have hr : Row (u.setCell ⟨g, i * 4 + j, none⟩ x) w.heap.size 53 4 e4V (.slice (some ⟨g, 0, none⟩) X.vv.length cap) (X.vv.set i y) := by
    show World.ownsRow _ _ _ _ _ _ _
    exact hr'
  obtain ⟨hrd, hbt, hbx, hbq⟩ := h.turn hg (fun q hq => ⟨(World.ownsRow.lt h.pl.v q hq).1, row_ne h.pl.v h.bx (by decide) q hq, row_ne h.pl.v h.bq (by decide) q hq⟩)
  exact ⟨hrd, hbt, hbx, hbq, ⟨(row_keep h.pl.s h.pl.v (by decide) hg), (row_keep h.pl.f h.pl.v (by decide) hg), (row_keep h.pl.p h.pl.v (by decide) hg), hr⟩, ⟨h.ok.ns, h.ok.nf, h.ok.np, (by show (X.vv.set i y).length ≤ 20; rw [List.length_set]; exact h.ok.nv), h.ok.s, h.ok.f, h.ok.p, (fun s hs' => (List.mem_or_eq_of_mem_set hs').elim (h.ok.v s) (fun h1 => by rw [h1]; exact hy))⟩, hl⟩
end
end Go.Proofs.Ytgjcppdeljoimaa

namespace Go.Proofs.Ytgjcppdeljoimaa
open Go.RowKit Go.Sort
def regIn (k : Nat) : Code → Option Code
  | .region i ops d => if Nat.beq i k then some (.region i ops d) else none
  | .block _ c => regIn k c
  | .seq a b => match regIn k a with
    | some x => some x
    | none => regIn k b
  | .cond _ a b => match regIn k a with
    | some x => some x
    | none => regIn k b
  | .loop c => regIn k c
  | _ => none
def reg (k : Nat) (F : Func) : Code := match F.body with
  | some c => (regIn k c).getD .skip
  | none => .skip
theorem wp_then {P : Program} {s : Code} {Q : Exit → Act → World → Prop} {a : Act} {w : World} (h : s.wp P (Exit.then (fun a w => Q .normal a w) Q) a w) : s.wp P Q a w := wp_mono h (fun e a w hq => by cases e <;> exact hq)
theorem len221 {xs : List Value} (h : xs.length = 221) : ∃ g : Nat → Value, xs = [g 0, g 1, g 2, g 3, g 4, g 5, g 6, g 7, g 8, g 9, g 10, g 11, g 12, g 13, g 14, g 15, g 16, g 17, g 18, g 19, g 20, g 21, g 22, g 23, g 24, g 25, g 26, g 27, g 28, g 29, g 30, g 31, g 32, g 33, g 34, g 35, g 36, g 37, g 38, g 39, g 40, g 41, g 42, g 43, g 44, g 45, g 46, g 47, g 48, g 49, g 50, g 51, g 52, g 53, g 54, g 55, g 56, g 57, g 58, g 59, g 60, g 61, g 62, g 63, g 64, g 65, g 66, g 67, g 68, g 69, g 70, g 71, g 72, g 73, g 74, g 75, g 76, g 77, g 78, g 79, g 80, g 81, g 82, g 83, g 84, g 85, g 86, g 87, g 88, g 89, g 90, g 91, g 92, g 93, g 94, g 95, g 96, g 97, g 98, g 99, g 100, g 101, g 102, g 103, g 104, g 105, g 106, g 107, g 108, g 109, g 110, g 111, g 112, g 113, g 114, g 115, g 116, g 117, g 118, g 119, g 120, g 121, g 122, g 123, g 124, g 125, g 126, g 127, g 128, g 129, g 130, g 131, g 132, g 133, g 134, g 135, g 136, g 137, g 138, g 139, g 140, g 141, g 142, g 143, g 144, g 145, g 146, g 147, g 148, g 149, g 150, g 151, g 152, g 153, g 154, g 155, g 156, g 157, g 158, g 159, g 160, g 161, g 162, g 163, g 164, g 165, g 166, g 167, g 168, g 169, g 170, g 171, g 172, g 173, g 174, g 175, g 176, g 177, g 178, g 179, g 180, g 181, g 182, g 183, g 184, g 185, g 186, g 187, g 188, g 189, g 190, g 191, g 192, g 193, g 194, g 195, g 196, g 197, g 198, g 199, g 200, g 201, g 202, g 203, g 204, g 205, g 206, g 207, g 208, g 209, g 210, g 211, g 212, g 213, g 214, g 215, g 216, g 217, g 218, g 219, g 220] := by
  refine ⟨fun i => xs.getD i (.bool false), ?_⟩
  have e : xs = (List.range xs.length).map (fun i => xs.getD i (.bool false)) := by
    refine List.ext_getElem (by simp) (fun i h1 h2 => ?_)
    simp [List.getD_eq_getElem?_getD, List.getElem?_eq_getElem h1]
  rw [h] at e
  exact e.trans rfl
theorem src_cells (t : TypeId) (K : Nat) (cs : List Value) (hcs : cs.length = K) (w : World) : Src (w.alloc (.cells cs.toArray t)) (.slice (some ⟨w.heap.size, 0, none⟩) 1 1) 1 K cs := by
  refine ⟨by omega, .inr ⟨_, _, rfl, fun j u hj => ?_⟩⟩
  have h := (cell_row (heap_alloc_new w (.cells cs.toArray t)) j u (by simpa using hj)).1
  have e : Addr.add ⟨w.heap.size, 0, none⟩ j = ⟨w.heap.size, j, none⟩ := by cases j <;> simp [Addr.add]
  rw [e]
  exact h
def SpoP (R : Nat) (ob : Option Addr) (n cb : Nat) (f : Nat → Int) (c : Int) (w : World) (e : Ending) (w' : World) : Prop := ∃ u0 u1 u2 u3 X q, e = .returned (.agg #[u0, u1, u2, u3]) ∧ PlR w.heap.size w' u0 u1 u2 u3 X ∧ PlL.OkN 20 X ∧ q ≤ c ∧ Rd R w' ob n cb q f ∧ But (fun b => b = R) w w'
def Est (R P Q : Nat) (w : World) (ob : Option Addr) (n cb : Nat) (f : Nat → Int) (c : Int) (u : World) : Prop := ∃ v0 v1 v2 v3 X, Es R P Q w ob n cb f v0 v1 v2 v3 X c u
end Go.Proofs.Ytgjcppdeljoimaa
