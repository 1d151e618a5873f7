/-
  Several texts in one.
-/
import Derived.Test.YtgjcppdeljoimaaM30
import Derived.Test.YtgjcppdeljoimaaVb
import Derived.Laws.MakeOwn
import Derived.Laws.ResultCell
import Derived.WalkKit
import Derived.WalkSpells
import Derived.WalkLawsBesides
import Derived.BigQuiet
import Derived.Deep.QuietTactic
import Derived.Deep.RegionWith
namespace Go.Proofs.Ytgjcppdeljoimaa
open Go.RowKit
def Blk (B : Nat) (w : World) (g t m : Nat) : Prop := g < B ∧ ∃ c, w.heap[g]? = some (.cells c t (0, 0)) ∧ c.size = m
theorem Blk.kept {B B' : Nat} {w w' : World} {g t m : Nat} (h : Blk B w g t m) (hb : Below B' w w') (hB : B ≤ B') : Blk B w' g t m := by
  obtain ⟨h1, c, h2, h3⟩ := h
  exact ⟨h1, c, (hb.block g (by omega)).trans h2, h3⟩
theorem Blk.set {B : Nat} {w : World} {g t m : Nat} (h : Blk B w g t m) (p : Addr) (x : Value) (hne : p.block ≠ g) : Blk B (w.setCell p x) g t m := by
  obtain ⟨h1, c, h2, h3⟩ := h
  exact ⟨h1, c, (Below.heap_setCell w p x g (fun e => hne e.symm)).trans h2, h3⟩
theorem Blk.up {B B' : Nat} {w : World} {g t m : Nat} (h : Blk B w g t m) (hB : B ≤ B') : Blk B' w g t m := by
  obtain ⟨h1, h2⟩ := h
  exact ⟨by omega, h2⟩
end Go.Proofs.Ytgjcppdeljoimaa

namespace Go.Proofs.Ytgjcppdeljoimaa
open Go.RowKit
theorem Lst.set {B : Nat} {w : World} {g n m k : Nat} {c : Nat → Nat → Value} (h : Lst B w (.slice (some ⟨g, 0, none⟩) n m) n k c) (p : Addr) (x : Value) (hne : p.block ≠ g) : Lst B (w.setCell p x) (.slice (some ⟨g, 0, none⟩) n m) n k c := by
  obtain ⟨oa, cap, hv, hn, hc⟩ := h
  cases hv
  refine ⟨_, _, rfl, hn, fun i hi => ?_⟩
  obtain ⟨b, off, e, h2, h3⟩ := hc i hi
  cases e
  exact ⟨g, 0, rfl, h2, fun j hj => (World.cell?_of_block (w := w) (a := ⟨g, 0 + i * k + j, none⟩) (Below.heap_setCell w p x g (fun e => hne e.symm))).trans (h3 j hj)⟩
theorem Lst.up {B B' : Nat} {w : World} {v : Value} {n k : Nat} {c : Nat → Nat → Value} (h : Lst B w v n k c) (hB : B ≤ B') : Lst B' w v n k c := by
  obtain ⟨oa, cap, hv, hn, hc⟩ := h
  refine ⟨oa, cap, hv, hn, fun i hi => ?_⟩
  obtain ⟨b, off, h1, h2, h3⟩ := hc i hi
  exact ⟨b, off, h1, by omega, h3⟩
theorem slice_lst {B : Nat} {w : World} {v : Value} {n k : Nat} {c : Nat → Nat → Value} (h : Lst B w v n k c) : ∃ oa cap, v = .slice oa n cap := by
  obtain ⟨oa, cap, hv, _⟩ := h; exact ⟨oa, cap, hv⟩
structure PBlk (A B : Nat) (w : World) (g0 g1 g2 g3 : Nat) (D : PD) : Prop where
  a : A ≤ g0 ∧ A ≤ g1 ∧ A ≤ g2 ∧ A ≤ g3
  s : Blk B w g0 9 D.ns
  f : Blk B w g1 81 (D.nf * 2)
  p : Blk B w g2 63 (D.np * 3)
  v : Blk B w g3 53 (D.nv * 4)
end Go.Proofs.Ytgjcppdeljoimaa

namespace Go.Proofs.Ytgjcppdeljoimaa
open Go.RowKit
structure Outs (L H : Nat) (w w' : World) : Prop where
  bel : Below L w w'
  out : ∀ k, H ≤ k → k < w.heap.size → w'.heap[k]? = w.heap[k]?
  blk : ∀ (g t m : Nat), (∃ c : Array Value, w.heap[g]? = some (.cells c t (0, 0)) ∧ c.size = m) → ∃ c : Array Value, w'.heap[g]? = some (.cells c t (0, 0)) ∧ c.size = m
theorem Outs.refl (L H : Nat) (w : World) : Outs L H w w := ⟨Below.refl _ _, fun _ _ _ => rfl, fun _ _ _ h => h⟩
theorem Outs.trans {L H : Nat} {a b c : World} (h : Outs L H a b) (k : Outs L H b c) : Outs L H a c :=
  ⟨h.bel.trans k.bel, fun i hi hs => (k.out i hi (Nat.lt_of_lt_of_le hs h.bel.size)).trans (h.out i hi hs), fun g t m hh => k.blk g t m (h.blk g t m hh)⟩
theorem Outs.of_below {L H : Nat} {w w' : World} (h : Below w.heap.size w w') (hL : L ≤ w.heap.size) : Outs L H w w' :=
  ⟨h.mono hL, fun k _ hs => h.block k hs, fun g _ _ ⟨c, hc, hs⟩ => ⟨c, (h.block g (Array.getElem?_eq_some_iff.1 hc).1).trans hc, hs⟩⟩
theorem Outs.set {L H : Nat} {a w : World} (h : Outs L H a w) {g : Nat} (hL : L ≤ g) (hH : g < H) (i : Nat) (x : Value) : Outs L H a (w.setCell ⟨g, i, none⟩ x) := by
  refine h.trans ⟨(Below.refl _ w).setCell (p := ⟨g, i, none⟩) hL x, fun k hk _ => Below.heap_setCell w _ x k (by show k ≠ g; omega), fun g' t m ⟨c, hc, hs⟩ => ?_⟩
  by_cases e : g' = g
  · subst e; exact ⟨_, set_row hc i x, by simpa using hs⟩
  · exact ⟨c, (Below.heap_setCell w _ x g' (by show g' ≠ g; exact e)).trans hc, hs⟩
def dgF : Nat → Int → ByteArray → ByteArray
  | 0, _, t => t
  | n + 1, k, t => if 0 < k then dgF n (k / 10) (⟨#[UInt8.ofNat (48 + k % 10).toNat]⟩ ++ t) else t
def mkT (k : Int) : ByteArray := ⟨#[109]⟩ ++ dgF 20 k ⟨#[]⟩
def mkF (k0 : Int) (i : Nat) : ByteArray := mkT (k0 + i)
end Go.Proofs.Ytgjcppdeljoimaa

namespace Go.Proofs.Ytgjcppdeljoimaa
open Go.RowKit
theorem PD.All.sz {D : PD} (h : D.All) : D.Sz := ⟨h.s, h.p, fun i hi => ⟨(h.v i hi).1, (h.v i hi).2.2.2⟩⟩
end Go.Proofs.Ytgjcppdeljoimaa
