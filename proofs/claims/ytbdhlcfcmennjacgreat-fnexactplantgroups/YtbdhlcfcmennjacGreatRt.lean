/-
  Contracts of the library's sort of texts, on a list of the call's own, and of the program's group of a place.
-/
import Derived.Test.YtbdhlcfcmennjacGreatRq
import Derived.Test.YtbdhlcfcmennjacGreatRx
import Derived.Test.YtbdhlcfcmennjacGreatFr
import Derived.Test.YtbdhlcfcmennjacGreatShelf
import Derived.Sort.OwnSorted
namespace Go.Proofs.YtbdhlcfcmennjacGreat
open Go.RowKit

def toL (b : ByteArray) : List UInt8 := b.data.toList
def ofL (l : List UInt8) : ByteArray := ⟨l.toArray⟩
theorem of_to (b : ByteArray) : ofL (toL b) = b := rfl
theorem to_of (l : List UInt8) : toL (ofL l) = l := by simp [toL, ofL]
/-- Texts, sorted. -/
def sortL (L : List ByteArray) : List ByteArray := ((L.map toL).mergeSort fun x y => decide (x ≤ y)).map ofL
theorem sort_len (L : List ByteArray) : (sortL L).length = L.length := by simp [sortL]
theorem sort_mem (L : List ByteArray) (y : ByteArray) : y ∈ sortL L ↔ y ∈ L := by
  unfold sortL
  rw [List.mem_map]
  constructor
  · rintro ⟨l, hl, rfl⟩
    obtain ⟨b, hb, rfl⟩ := List.mem_map.1 ((List.mergeSort_perm _ _).mem_iff.1 hl)
    rw [of_to]; exact hb
  · intro hy
    exact ⟨toL y, (List.mergeSort_perm _ _).mem_iff.2 (List.mem_map.2 ⟨y, hy, rfl⟩), of_to y⟩
theorem sort_asc {L : List ByteArray} (h : L.Nodup) : AscL (sortL L) := by
  have h1 : ((L.map toL).mergeSort fun x y => decide (x ≤ y)).Pairwise fun a b => decide (a ≤ b) = true :=
    List.pairwise_mergeSort (fun a b c h1 h2 => by simp at *; exact List.le_trans h1 h2) (fun a b => by simp; exact List.le_total a b) _
  have h2 : ((L.map toL).mergeSort fun x y => decide (x ≤ y)).Nodup := (List.mergeSort_perm _ _).nodup_iff.2 (by
    refine List.pairwise_map.2 (h.imp fun {a b} hab e => hab ?_)
    rw [← of_to a, ← of_to b, e])
  unfold AscL sortL
  refine List.pairwise_map.2 ((h1.and h2).imp fun {a b} hab => ?_)
  rw [ltB_iff, ByteArray.toList_eq, ByteArray.toList_eq]
  show toL (ofL a) < toL (ofL b)
  rw [to_of, to_of]
  rcases List.le_iff_lt_or_eq.1 (of_decide_eq_true hab.1) with h | h
  · exact h
  · exact absurd h hab.2

theorem sort_any (base : Nat) (v : Value) (L : List ByteArray) (w : World) (h : w.ownsRow base 9 1 v L.length (L.map .string)) (hne : 0 < L.length) (hl : L.length ≤ 1048576) (hbase : base ≤ w.heap.size) :
    Calls Tryz.prog 64 #[v] w fun e w' => e = .returned (.tuple #[]) ∧ w'.ownsRow base 9 1 v (sortL L).length ((sortL L).map .string) ∧ Below base w w' := by
  rcases h.2 with ⟨_, e⟩ | ⟨g, cap, cur, rfl, hb, hg, hc, hm', hs, ht⟩
  · omega
  · have hss : (L.map toL).length = L.length := by simp
    have henc : L.map Value.string = (L.map toL).map encStr := by
      rw [List.map_map]
      apply List.map_congr_left
      intro b _
      rfl
    have hH : Sort.Holds encStr w g 0 (L.map toL).toArray := holds_of_block hg (by rw [hss, ← henc, ← ht, Nat.mul_one])
    have C := Tryz.slices_Sort_string g 0 cap (L.map toL) w hH (Array.getElem?_eq_some_iff.1 hg).1 (by rw [hss]; omega)
    rw [hss] at C
    refine C.mono ?_
    rintro e w' ⟨rfl, n, os, rfl⟩
    refine ⟨rfl, ?_, ?_⟩
    · have := ownsRow_sorted (w := w) (base := base) (g := g) (cap := cap) (n := n) (e := 9) (os := os) (cur := cur) (ss := L.map toL) (ts := (L.map toL).mergeSort fun x y => decide (x ≤ y)) (by simp) hb hg (by rw [hss]; exact hc) hm' hs
      rw [hss] at this
      have e1 : ((L.map toL).mergeSort fun x y => decide (x ≤ y)).map encStr = (sortL L).map Value.string := by
        unfold sortL
        rw [List.map_map]
        rfl
      rw [e1] at this
      rw [sort_len]; exact this
    · exact (Below.refl base w).grown (grownBy_sorted _) hbase (fun q hq => by cases hq; exact hb)

theorem rch_size {n : Nat} {f : Nat → ByteArray × ByteArray × ByteArray × ByteArray} {x y : ByteArray} (h : Rch n f x y) (hx : x.size ≤ 8) (h8 : ∀ i, i < n → (f i).1.size ≤ 8 ∧ (f i).2.1.size ≤ 8 ∧ (f i).2.2.1.size ≤ 8) : y.size ≤ 8 := by
  cases h with
  | start => exact hx
  | @step u _ _ hz =>
    obtain ⟨i, hi, rfl⟩ := List.mem_map.1 hz
    have hz8 := h8 i (List.mem_range.1 (List.mem_filter.1 hi).1)
    unfold behS
    cases eqB u (f i).2.1 <;> cases eqB u (f i).2.2.1 <;> simp only [cond_true, cond_false] <;> first | omega | exact (by decide : (0 : Nat) ≤ 8)

set_option maxRecDepth 100000 in
set_option maxHeartbeats 4000000 in
theorem groupOf_any (n₀ : Nat) (v0 v1 v2 v3 : Value) (nv : Nat) (f : Nat → ByteArray × ByteArray × ByteArray × ByteArray) (x : ByteArray) (w : World) (h : Lst n₀ w v3 nv 4 (cV f)) (hn₀ : n₀ ≤ w.heap.size) (h8 : ∀ i, i < nv → (f i).1.size ≤ 8 ∧ (f i).2.1.size ≤ 8 ∧ (f i).2.2.1.size ≤ 8) (hnv : nv ≤ 18) (hx : x.size ≤ 8) :
    Calls Tryz.prog 33 #[.agg #[v0, v1, v2, v3], .string x] w fun e w' => ∃ v L S, e = .returned v ∧ Good nv f x L ∧ AscL S ∧ (∀ y, y ∈ S ↔ y ∈ L) ∧ S.length ≤ 37 ∧ w'.ownsRow w.heap.size 9 1 v S.length (S.map .string) ∧ Below w.heap.size w w' := by
  have hmf : ∀ (fn : Fn) (first cap : Array Value) (w : World), (Instr.makeFunc fn first cap).run Tryz.prog w = .ok (.func fn first cap) w := fun _ _ _ _ => rfl
  have k0 : Hid (Below (w.heap.size + 1) (w.alloc (.cells #[v0, v1, v2, v3] 36)) (w.alloc (.cells #[v0, v1, v2, v3] 36))) := Below.refl _ _
  have HL : Hid (Lst n₀ (w.alloc (.cells #[v0, v1, v2, v3] 36)) v3 nv 4 (cV f)) := h.kept (below_end k0.out) hn₀
  have H8 : Hid _ := h8
  clear h h8
  go_enter Tryz.func33, Tryz.ntmps33
  go_wp2_with fail
  refine (reached_any n₀ v0 v1 v2 v3 nv f x _ HL.out (by simp; omega) H8.out hnv).mono ?_; rintro e w1 ⟨u1, L, rfl, hG, hLl, ho1, hb1⟩
  have HG : Hid (Good nv f x L) := hG
  have k1 : Hid (Below (w.heap.size + 1) (w.alloc (.cells #[v0, v1, v2, v3] 36)) w1) := below_of k0.out hb1
  have O1 := own_lst ho1 (by omega)
  have hsz : ∀ i, i < L.length → (nthB L i).size ≤ 1048576 := fun i hi => by
    have := rch_size (hG.only _ (List.mem_of_getElem? (nth_at hi))) hx H8.out
    omega
  have HSZ : Hid _ := hsz
  have hpos : 0 < L.length := List.length_pos_of_mem hG.here
  clear hG ho1 hb1 hsz
  go_wp2_with fail
  refine (freshI_any w1.heap.size _ L w1 O1 (Nat.le_refl _) (by omega) HSZ.out).mono ?_; rintro e w2 ⟨u2, rfl, ho2, hb2⟩
  have s1 : w.heap.size + 1 ≤ w1.heap.size := by have := k1.out.size; simpa using this
  have s2 : w1.heap.size ≤ w2.heap.size := hb2.size
  have k2 : Hid (Below (w.heap.size + 1) (w.alloc (.cells #[v0, v1, v2, v3] 36)) w2) := below_of k1.out hb2
  have O2 : Hid (w2.ownsRow w1.heap.size 9 1 u2 L.length (L.map .string)) := ho2
  clear O1 ho2 hb2
  go_wp2_with fail
  refine (sort_any w1.heap.size u2 L w2 O2.out hpos (by omega) s2).mono ?_; rintro e w3 ⟨rfl, ho3, hb3⟩
  have O3 : Hid (w3.ownsRow w1.heap.size 9 1 u2 (sortL L).length ((sortL L).map .string)) := ho3
  have k3 : Hid (Below (w.heap.size + 1) (w.alloc (.cells #[v0, v1, v2, v3] 36)) w3) := k2.out.trans (hb3.mono s1)
  clear ho3 hb3
  go_wp2_with fail
  go_ret
  exact ⟨u2, L, sortL L, rfl, HG.out, sort_asc HG.out.once, sort_mem L, by rw [sort_len]; exact hLl, own_leR O3.out (by omega), below_end k3.out⟩

end Go.Proofs.YtbdhlcfcmennjacGreat
