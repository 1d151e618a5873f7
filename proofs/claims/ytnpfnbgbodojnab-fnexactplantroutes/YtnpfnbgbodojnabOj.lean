/-
  Lists of ways that are read while others grow beside them.
-/
import Derived.Test.YtnpfnbgbodojnabOb
namespace Go.Proofs.Ytnpfnbgbodojnab
open Go.RowKit

theorem underR : Try.prog.underlying 31 = some (.slice 34) := by kernel_rfl
theorem infoR : (Try.prog.info? 34).map (fun i => (i.zero, i.size, i.bytes)) = some (some (.agg #[.slice none 0 0, .slice none 0 0]), 2, 48) := by kernel_rfl
theorem cells_two (w : World) (a b : Value) (t : TypeId) (j : Nat) (u : Value) (h : [a, b][j]? = some u) : (w.alloc (.cells #[a, b] t)).cell? ((⟨w.heap.size, 0, none⟩ : Addr).add j) = some u := by
  rw [add_at, Nat.zero_add]
  have : (#[a, b] : Array Value)[j]? = some u := by simpa using h
  simp only [World.cell?, heap_alloc_new, this]; rfl

/-- Two lists lie apart. -/
def apV (u v : Value) : Prop := ∀ k, u.ownBlock = some k → v.ownBlock ≠ some k
theorem apV.symm {u v : Value} (h : apV u v) : apV v u := fun k h1 h2 => h k h2 h1
theorem apV.moved {u u' v : Value} {w : World} {B T size n : Nat} {xs : List Value} (h : apV u v) (hu : u'.ownBlock = u.ownBlock ∨ u'.ownBlock = some w.heap.size) (hv : w.ownsRow B T size v n xs) : apV u' v := fun k h1 h2 => by
  rcases hu with e | e
  · exact h k (e ▸ h1) h2
  · rw [e] at h1
    simp at h1
    have := (hv.lt k h2).2
    omega
theorem apV.fresh {u v : Value} {w w' : World} {B B' T T' size size' n n' : Nat} {xs xs' : List Value} (hu : w'.ownsRow B T size u n xs) (hB : w.heap.size ≤ B) (hv : w.ownsRow B' T' size' v n' xs') : apV u v := fun k h1 h2 => by
  have a1 := (hu.lt k h1).1
  have a2 := (hv.lt k h2).2
  omega
theorem own_beside {B T size n : Nat} {w w' : World} {u v : Value} {xs : List Value} (h : w.ownsRow B T size v n xs) (hg : w.grownBy w' u.ownBlock) (ha : apV u v) : w'.ownsRow B T size v n xs :=
  own_keep h (fun k hk => hg.block k (h.lt k hk).2 (fun e => ha k e.symm hk))

def RowN (B : Nat) (w : World) (u : Value) (l : List ByteArray) (g : Nat) : Prop := RowG B w u l g ∨ (l = [] ∧ u = .slice none 0 0)
theorem RowN.same {B : Nat} {w w' : World} {u : Value} {l : List ByteArray} {g : Nat} (h : RowN B w u l g) (e : g < w.heap.size → w'.heap[g]? = w.heap[g]?) : RowN B w' u l g := by
  rcases h with h | h
  · exact .inl (h.same (e h.lt))
  · exact .inr h
theorem RowN.le {B B' : Nat} {w : World} {u : Value} {l : List ByteArray} {g : Nat} (h : RowN B w u l g) (hB : B' ≤ B) : RowN B' w u l g := by
  rcases h with h | h
  · exact .inl (h.le hB)
  · exact .inr h
theorem RowN.lst {B : Nat} {w : World} {u : Value} {l : List ByteArray} {g : Nat} (h : RowN B w u l g) (hm : l.length ≤ 1048576) : Lst w.heap.size w u l.length 1 (cS (nthB l)) := by
  rcases h with h | ⟨rfl, rfl⟩
  · exact h.lst hm
  · exact ⟨none, 0, rfl, Nat.zero_le _, fun i hi => by simp at hi⟩

/-- A list of ways to read, in memory of the call's own; a way of no valve may have none of its second list. -/
structure RtsL (B : Nat) (w : World) (v : Value) (Z : List RR) : Prop where
  own : w.ownsRow B 34 2 v Z.length (celZ Z)
  row : ∀ z ∈ Z, RowG B w z.u z.r.1 z.g ∧ RowN B w z.v z.r.2 z.h
theorem RtsO.toL {B : Nat} {w : World} {v : Value} {Z : List RR} (h : RtsO B w v Z) : RtsL B w v Z := ⟨h.own, fun z hz => ⟨(h.row z hz).p, .inl (h.row z hz).q⟩⟩
theorem RtsL.below {B : Nat} {w w' : World} {v : Value} {Z : List RR} (h : RtsL B w v Z) (hb : Below w.heap.size w w') : RtsL B w' v Z :=
  ⟨own_belowR h.own hb, fun z hz => ⟨(h.row z hz).1.below hb, (h.row z hz).2.same (fun hl => hb.block _ hl)⟩⟩
theorem RtsL.le {B B' : Nat} {w : World} {v : Value} {Z : List RR} (h : RtsL B w v Z) (hB : B' ≤ B) : RtsL B' w v Z :=
  ⟨own_leR h.own hB, fun z hz => ⟨(h.row z hz).1.le hB, (h.row z hz).2.le hB⟩⟩
theorem RowN.grown {B B' T size n : Nat} {w w' : World} {v u : Value} {xs : List Value} {l : List ByteArray} {g : Nat} (h : RowN B w u l g) (ho : w.ownsRow B' T size v n xs) (hT : T ≠ 9) (hg : w.grownBy w' v.ownBlock) : RowN B w' u l g := by
  rcases h with h | h
  · exact .inl (h.same (hg.block _ h.lt (h.apart ho hT)))
  · exact .inr h
theorem RtsL.beside {B B' n : Nat} {w w' : World} {u v : Value} {Z : List RR} {xs : List Value} (h : RtsL B w v Z) (hu : w.ownsRow B' 34 2 u n xs) (hg : w.grownBy w' u.ownBlock) (ha : apV u v) : RtsL B w' v Z :=
  ⟨own_beside h.own hg ha, fun z hz => ⟨(h.row z hz).1.same (hg.block _ (h.row z hz).1.lt ((h.row z hz).1.apart hu typeR)), (h.row z hz).2.grown hu typeR hg⟩⟩
theorem RtsO.beside {B B' n : Nat} {w w' : World} {u v : Value} {Z : List RR} {xs : List Value} (h : RtsO B w v Z) (hu : w.ownsRow B' 34 2 u n xs) (hg : w.grownBy w' u.ownBlock) (ha : apV u v) : RtsO B w' v Z :=
  ⟨own_beside h.own hg ha, fun z hz => (h.row z hz).grown hu typeR hg, h.nod⟩
theorem RtsL.push {B : Nat} {w w' : World} {v v' : Value} {Z : List RR} {z : RR} (h : RtsL B w v Z) (hr : RowG B w z.u z.r.1 z.g ∧ RowN B w z.v z.r.2 z.h)
    (ho : w'.ownsRow B 34 2 v' (Z.length + 1) (celZ Z ++ [z.u, z.v])) (hg : w.grownBy w' v.ownBlock) : RtsL B w' v' (Z ++ [z]) := by
  refine ⟨?_, fun x hx => ?_⟩
  · rw [List.length_append]
    have : celZ (Z ++ [z]) = celZ Z ++ [z.u, z.v] := by simp [celZ]
    rw [this]; exact ho
  · have go : ∀ y : RR, (RowG B w y.u y.r.1 y.g ∧ RowN B w y.v y.r.2 y.h) → RowG B w' y.u y.r.1 y.g ∧ RowN B w' y.v y.r.2 y.h := fun y hy => ⟨hy.1.same (hg.block _ hy.1.lt (hy.1.apart h.own typeR)), hy.2.grown h.own typeR hg⟩
    rcases List.mem_append.1 hx with h1 | h1
    · exact go x (h.row x h1)
    · simp at h1; subst h1; exact go x hr
theorem RtsL.read {B : Nat} {w : World} {v : Value} {Z : List RR} (h : RtsL B w v Z) (hn : Z.length ≤ 1048576) (hl : ∀ z ∈ Z, z.r.1.length ≤ 1048576 ∧ z.r.2.length ≤ 1048576) : RtsR w.heap.size w v Z :=
  ⟨own_lstZ h.own hn, fun z hz => ⟨(h.row z hz).1.lst (hl z hz).1, (h.row z hz).2.lst (hl z hz).2⟩, fun z hz n c e => by
    rcases (h.row z hz).2 with ⟨_, _, e', _⟩ | ⟨_, e'⟩
    · rw [e'] at e; cases e
    · rw [e'] at e; cases e; rfl⟩
theorem RtsL.nil (B : Nat) (w : World) : RtsL B w (.slice none 0 0) [] := (RtsO.nil B w).toL
theorem RtsR.slices {B : Nat} {w : World} {v : Value} {Z : List RR} (h : RtsR B w v Z) {z : RR} (hz : z ∈ Z) : ∃ o c o' c', z.u = .slice o z.r.1.length c ∧ z.v = .slice o' z.r.2.length c' := by
  obtain ⟨o, c, e⟩ := slice_lst (h.row z hz).1
  obtain ⟨o', c', e'⟩ := slice_lst (h.row z hz).2
  exact ⟨o, c, o', c', e, e'⟩

end Go.Proofs.Ytnpfnbgbodojnab
