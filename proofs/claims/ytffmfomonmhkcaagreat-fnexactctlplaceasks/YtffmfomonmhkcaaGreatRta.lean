/-
  A contract of the library's sort of texts, on a list of the call's own.
-/
import Derived.Test.YtffmfomonmhkcaaGreatM27
import Derived.Test.YtffmfomonmhkcaaGreatRva
import Derived.Test.YtffmfomonmhkcaaGreatShelf
import Derived.Sort.OwnSorted
namespace Go.Proofs.YtffmfomonmhkcaaGreat
open Go.RowKit

def toL (b : ByteArray) : List UInt8 := b.data.toList
def ofL (l : List UInt8) : ByteArray := ⟨l.toArray⟩
theorem of_to (b : ByteArray) : ofL (toL b) = b := rfl
theorem to_of (l : List UInt8) : toL (ofL l) = l := by simp [toL, ofL]
/-- Texts, sorted. -/
def sortL (L : List ByteArray) : List ByteArray := ((L.map toL).mergeSort fun x y => decide (x ≤ y)).map ofL
theorem sort_len (L : List ByteArray) : (sortL L).length = L.length := by simp [sortL]
theorem sort_mem (L : List ByteArray) (y : ByteArray) : y ∈ sortL L ↔ y ∈ L := by
  unfold sortL
  rw [List.mem_map]
  constructor
  · rintro ⟨l, hl, rfl⟩
    obtain ⟨b, hb, rfl⟩ := List.mem_map.1 ((List.mergeSort_perm _ _).mem_iff.1 hl)
    rw [of_to]; exact hb
  · intro hy
    exact ⟨toL y, (List.mergeSort_perm _ _).mem_iff.2 (List.mem_map.2 ⟨y, hy, rfl⟩), of_to y⟩
theorem sort_asc {L : List ByteArray} (h : L.Nodup) : AscL (sortL L) := by
  have h1 : ((L.map toL).mergeSort fun x y => decide (x ≤ y)).Pairwise fun a b => decide (a ≤ b) = true :=
    List.pairwise_mergeSort (fun a b c h1 h2 => by simp at *; exact List.le_trans h1 h2) (fun a b => by simp; exact List.le_total a b) _
  have h2 : ((L.map toL).mergeSort fun x y => decide (x ≤ y)).Nodup := (List.mergeSort_perm _ _).nodup_iff.2 (by
    refine List.pairwise_map.2 (h.imp fun {a b} hab e => hab ?_)
    rw [← of_to a, ← of_to b, e])
  unfold AscL sortL
  refine List.pairwise_map.2 ((h1.and h2).imp fun {a b} hab => ?_)
  rw [ltB_iff, ByteArray.toList_eq, ByteArray.toList_eq]
  show toL (ofL a) < toL (ofL b)
  rw [to_of, to_of]
  rcases List.le_iff_lt_or_eq.1 (of_decide_eq_true hab.1) with h | h
  · exact h
  · exact absurd h hab.2

theorem sort_any (base : Nat) (v : Value) (L : List ByteArray) (w : World) (h : w.ownsRow base 9 1 v L.length (L.map .string)) (hne : 0 < L.length) (hl : L.length ≤ 1048576) (hbase : base ≤ w.heap.size) :
    Calls Tryz.prog 95 #[v] w fun e w' => e = .returned (.tuple #[]) ∧ w'.ownsRow base 9 1 v (sortL L).length ((sortL L).map .string) ∧ Below base w w' := by
  rcases h.2 with ⟨_, e⟩ | ⟨g, cap, cur, rfl, hb, hg, hc, hm', hs, ht⟩
  · omega
  · have hss : (L.map toL).length = L.length := by simp
    have henc : L.map Value.string = (L.map toL).map encStr := by
      rw [List.map_map]
      apply List.map_congr_left
      intro b _
      rfl
    have hH : Sort.Holds encStr w g 0 (L.map toL).toArray := holds_of_block hg (by rw [hss, ← henc, ← ht, Nat.mul_one])
    have C := Tryz.slices_Sort_string g 0 cap (L.map toL) w hH (Array.getElem?_eq_some_iff.1 hg).1 (by rw [hss]; omega)
    rw [hss] at C
    refine C.mono ?_
    rintro e w' ⟨rfl, n, os, rfl⟩
    refine ⟨rfl, ?_, ?_⟩
    · have := ownsRow_sorted (w := w) (base := base) (g := g) (cap := cap) (n := n) (e := 9) (os := os) (cur := cur) (ss := L.map toL) (ts := (L.map toL).mergeSort fun x y => decide (x ≤ y)) (by simp) hb hg (by rw [hss]; exact hc) hm' hs
      rw [hss] at this
      have e1 : ((L.map toL).mergeSort fun x y => decide (x ≤ y)).map encStr = (sortL L).map Value.string := by
        unfold sortL
        rw [List.map_map]
        rfl
      rw [e1] at this
      rw [sort_len]; exact this
    · exact (Below.refl base w).grown (grownBy_sorted _) hbase (fun q hq => by cases hq; exact hb)

end Go.Proofs.YtffmfomonmhkcaaGreat
