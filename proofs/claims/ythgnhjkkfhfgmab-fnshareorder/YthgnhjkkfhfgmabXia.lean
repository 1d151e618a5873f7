/-
  Rows of texts of a call of its own, and what an insertion among texts that ascend is, where there is no plant.
-/
import Derived.Test.YthgnhjkkfhfgmabPq
import Derived.Test.YthgnhjkkfhfgmabHi
import Derived.Deep.Cut
namespace Go.Proofs.Ythgnhjkkfhfgmab
open Go.RowKit

theorem less_decX : ∀ x y : List UInt8, Op.bytesLess x y = decide (x < y)
  | [], [] => by simp [Op.bytesLess]
  | _ :: _, [] => by simp [Op.bytesLess]
  | [], _ :: _ => by simp [Op.bytesLess]
  | a :: x, b :: y => by
    have ih := less_decX x y
    unfold Op.bytesLess
    rw [ih]
    by_cases h1 : a < b <;> by_cases h2 : a = b <;> by_cases h3 : x < y <;> simp [List.cons_lt_cons_iff, h1, h2, h3]
theorem ltB_iff (a b : ByteArray) : ltB a b = true ↔ a.toList < b.toList := by simp [ltB, less_decX]
theorem eqB_iff (a b : ByteArray) : eqB a b = true ↔ a = b := by
  unfold eqB
  rw [beq_iff_eq, ByteArray.toList_eq, ByteArray.toList_eq]
  constructor
  · intro h; exact ByteArray.ext (Array.toList_inj.1 h)
  · intro h; rw [h]
theorem ltB_trans {a b c : ByteArray} (h1 : ltB a b = true) (h2 : ltB b c = true) : ltB a c = true := by
  rw [ltB_iff] at *; exact List.lt_trans h1 h2
theorem ltB_irrefl (a : ByteArray) : ltB a a = false := by
  cases h : ltB a a
  · rfl
  · exact absurd ((ltB_iff _ _).1 h) (List.lt_irrefl _)
def insR : List ByteArray → ByteArray → List ByteArray
  | [], x => [x]
  | y :: l, x => bif ltB y x then y :: insR l x else bif eqB y x then y :: l else x :: y :: l
theorem insR_len : ∀ (l : List ByteArray) (x : ByteArray), (insR l x).length ≤ l.length + 1
  | [], _ => by simp [insR]
  | y :: l, x => by
    have := insR_len l x
    unfold insR
    cases ltB y x
    · cases eqB y x <;> simp
    · simpa using this
def nthB (l : List ByteArray) (i : Nat) : ByteArray := l.getD i ⟨#[]⟩
theorem own_belowR {B : Nat} {w w' : World} {e size : Nat} {v : Value} {n : Nat} {xs : List Value} (h : w.ownsRow B e size v n xs) (hb : Below w.heap.size w w') : w'.ownsRow B e size v n xs := by
  refine ⟨h.1, ?_⟩
  rcases h.2 with hn | ⟨g, cap, cur, hv, hbg, hg, rest⟩
  · exact Or.inl hn
  · exact Or.inr ⟨g, cap, cur, hv, hbg, (hb.block g (Array.getElem?_eq_some_iff.1 hg).1).trans hg, rest⟩
theorem own_leR {B B' : Nat} {w : World} {e size : Nat} {v : Value} {n : Nat} {xs : List Value} (h : w.ownsRow B e size v n xs) (hb : B' ≤ B) : w.ownsRow B' e size v n xs := by
  refine ⟨h.1, ?_⟩
  rcases h.2 with hn | ⟨g, cap, cur, hv, hbg, rest⟩
  · exact Or.inl hn
  · exact Or.inr ⟨g, cap, cur, hv, by omega, rest⟩
theorem insR_eq : ∀ (l : List ByteArray) (k : Nat) (x : ByteArray), k < l.length → (∀ j, j < k → ltB (nthB l j) x = true) → eqB (nthB l k) x = true → insR l x = l
  | [], _, _, h, _, _ => by simp at h
  | y :: l, 0, x, _, _, h => by
    have h' : eqB y x = true := h
    have : ltB y x = false := by rw [(eqB_iff _ _).1 h']; exact ltB_irrefl x
    unfold insR
    rw [this, h']; rfl
  | y :: l, k + 1, x, hk, ha, h => by
    have h0 : ltB y x = true := ha 0 (by omega)
    unfold insR
    rw [h0, cond_true, insR_eq l k x (by simpa using hk) (fun j hj => ha (j + 1) (by omega)) h]
theorem insR_new : ∀ (l : List ByteArray) (k : Nat) (x : ByteArray), k ≤ l.length → (∀ j, j < k → ltB (nthB l j) x = true) → (k < l.length → ltB (nthB l k) x = false ∧ eqB (nthB l k) x = false) → insR l x = l.take k ++ [x] ++ l.drop k
  | [], k, x, hk, _, _ => by
    have : k = 0 := by simpa using hk
    subst this; rfl
  | y :: l, 0, x, _, _, h => by
    obtain ⟨h1, h2⟩ := h (by simp)
    have h1' : ltB y x = false := h1
    have h2' : eqB y x = false := h2
    unfold insR
    rw [h1', h2']; rfl
  | y :: l, k + 1, x, hk, ha, h => by
    have h0 : ltB y x = true := ha 0 (by omega)
    unfold insR
    rw [h0, cond_true, insR_new l k x (by simpa using hk) (fun j hj => ha (j + 1) (by omega)) (fun hk' => h (by simpa using hk'))]
    rfl
theorem underS : Try.prog.underlying 23 = some (.slice 9) := by kernel_rfl
theorem infoS : (Try.prog.info? 9).map (fun i => (i.zero, i.size, i.bytes)) = some (some (.string ByteArray.empty), 1, 16) := by kernel_rfl
theorem elSX : ElT Try.prog 23 9 1 16 := by
  obtain ⟨i0, hi, hz0, hz1, hz2⟩ := info_parts infoS
  exact ⟨underS, ⟨i0, _, hi, hz0, hz1, hz2, rfl⟩, by decide⟩
theorem own_cells {B : Nat} {w : World} {g cap : Nat} {l : List ByteArray} (h : w.ownsRow B 9 1 (.slice (some ⟨g, 0, none⟩) l.length cap) l.length (l.map .string)) : l.length ≤ cap ∧ ∀ i, i < l.length → w.cell? ⟨g, i, none⟩ = some (.string (nthB l i)) := by
  rcases h.2 with ⟨e, _⟩ | ⟨g', cap', cur, e, hb, hg, hc, hm', hs, ht⟩
  · cases e
  · cases e
    refine ⟨hc, fun i hi => ?_⟩
    have e1 : cur.toList[i]? = (l.map Value.string)[i]? := by
      rw [← ht, Nat.mul_one, List.getElem?_take_of_lt hi]
    have e2 : cur[i]? = some (.string (nthB l i)) := by
      rw [← Array.getElem?_toList, e1]
      simp [nthB, hi]
    exact (cell_row hg _ _ e2).1
theorem nth_at {l : List ByteArray} {i : Nat} (h : i < l.length) : l[i]? = some (nthB l i) := by simp [nthB, h]
theorem src_take {w : World} {g cap n k : Nat} {l : List ByteArray} (hn : l.length = n) (hk : k ≤ n) (hc : ∀ i, i < n → w.cell? ⟨g, i, none⟩ = some (.string (nthB l i))) : Src w (.slice (some ⟨g, 0, none⟩) k cap) k 1 ((l.take k).map .string) := by
  refine ⟨by simp; omega, .inr ⟨_, _, rfl, fun j u hj => ?_⟩⟩
  rw [add_at, Nat.zero_add]
  rw [List.getElem?_map, Option.map_eq_some_iff] at hj
  obtain ⟨y, hy, rfl⟩ := hj
  have hjk : j < k := by
    have := (List.getElem?_eq_some_iff.1 hy).1
    simp at this; omega
  rw [List.getElem?_take_of_lt hjk, nth_at (by omega)] at hy
  cases hy
  exact hc j (by omega)
theorem src_drop {w : World} {g cap n k : Nat} {l : List ByteArray} (hn : l.length = n) (hk : k ≤ n) (hcap : n ≤ cap) (hc : ∀ i, i < n → w.cell? ⟨g, i, none⟩ = some (.string (nthB l i))) : Src w (.slice (if cap = k then some ⟨g, 0, none⟩ else some ⟨g, k, none⟩) (n - k) (cap - k)) (n - k) 1 ((l.drop k).map .string) := by
  refine Src.tail (by simp; omega) (fun h => by omega) (fun _ j u hj => ?_)
  rw [add_at]
  rw [List.getElem?_map, Option.map_eq_some_iff] at hj
  obtain ⟨y, hy, rfl⟩ := hj
  rw [List.getElem?_drop] at hy
  have hjk : k + j < l.length := (List.getElem?_eq_some_iff.1 hy).1
  rw [nth_at hjk] at hy
  cases hy
  exact hc (k + j) (by omega)

end Go.Proofs.Ythgnhjkkfhfgmab
