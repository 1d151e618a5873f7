/-
  Several texts in one.
-/
import Derived.Test.YtigkkelaadbhcabGreatM7
import Derived.Test.YtigkkelaadbhcabGreatM9
import Derived.Deep.Cut
import Derived.Test.YtigkkelaadbhcabGreatM8
import Derived.Lib.Bytealg
import Derived.Lib.Strings
import Derived.Deep.RegionWith
namespace Go.Proofs.YtigkkelaadbhcabGreat
open Go.RowKit
theorem less_decX : ∀ x y : List UInt8, Op.bytesLess x y = decide (x < y)
  | [], [] => by simp [Op.bytesLess]
  | _ :: _, [] => by simp [Op.bytesLess]
  | [], _ :: _ => by simp [Op.bytesLess]
  | a :: x, b :: y => by
    have ih := less_decX x y
    unfold Op.bytesLess
    rw [ih]
    by_cases h1 : a < b <;> by_cases h2 : a = b <;> by_cases h3 : x < y <;> simp [List.cons_lt_cons_iff, h1, h2, h3]
theorem ltB_iff (a b : ByteArray) : ltB a b = true ↔ a.toList < b.toList := by simp [ltB, less_decX]
theorem eqB_iff (a b : ByteArray) : eqB a b = true ↔ a = b := by
  unfold eqB
  rw [beq_iff_eq, ByteArray.toList_eq, ByteArray.toList_eq]
  constructor
  · intro h; exact ByteArray.ext (Array.toList_inj.1 h)
  · intro h; rw [h]
theorem ltB_trans {a b c : ByteArray} (h1 : ltB a b = true) (h2 : ltB b c = true) : ltB a c = true := by
  rw [ltB_iff] at *; exact List.lt_trans h1 h2
theorem ltB_irrefl (a : ByteArray) : ltB a a = false := by
  cases h : ltB a a
  · rfl
  · exact absurd ((ltB_iff _ _).1 h) (List.lt_irrefl _)
def insR : List ByteArray → ByteArray → List ByteArray
  | [], x => [x]
  | y :: l, x => bif ltB y x then y :: insR l x else bif eqB y x then y :: l else x :: y :: l
theorem insR_len : ∀ (l : List ByteArray) (x : ByteArray), (insR l x).length ≤ l.length + 1
  | [], _ => by simp [insR]
  | y :: l, x => by
    have := insR_len l x
    unfold insR
    cases ltB y x
    · cases eqB y x <;> simp
    · simpa using this
def nthB (l : List ByteArray) (i : Nat) : ByteArray := l.getD i ⟨#[]⟩
theorem own_belowR {B : Nat} {w w' : World} {e size : Nat} {v : Value} {n : Nat} {xs : List Value} (h : w.ownsRow B e size v n xs) (hb : Below w.heap.size w w') : w'.ownsRow B e size v n xs := by
  refine ⟨h.1, ?_⟩
  rcases h.2 with hn | ⟨g, cap, cur, hv, hbg, hg, rest⟩
  · exact Or.inl hn
  · exact Or.inr ⟨g, cap, cur, hv, hbg, (hb.block g (Array.getElem?_eq_some_iff.1 hg).1).trans hg, rest⟩
theorem own_leR {B B' : Nat} {w : World} {e size : Nat} {v : Value} {n : Nat} {xs : List Value} (h : w.ownsRow B e size v n xs) (hb : B' ≤ B) : w.ownsRow B' e size v n xs := by
  refine ⟨h.1, ?_⟩
  rcases h.2 with hn | ⟨g, cap, cur, hv, hbg, rest⟩
  · exact Or.inl hn
  · exact Or.inr ⟨g, cap, cur, hv, by omega, rest⟩
theorem insR_eq : ∀ (l : List ByteArray) (k : Nat) (x : ByteArray), k < l.length → (∀ j, j < k → ltB (nthB l j) x = true) → eqB (nthB l k) x = true → insR l x = l
  | [], _, _, h, _, _ => by simp at h
  | y :: l, 0, x, _, _, h => by
    have h' : eqB y x = true := h
    have : ltB y x = false := by rw [(eqB_iff _ _).1 h']; exact ltB_irrefl x
    unfold insR
    rw [this, h']; rfl
  | y :: l, k + 1, x, hk, ha, h => by
    have h0 : ltB y x = true := ha 0 (by omega)
    unfold insR
    rw [h0, cond_true, insR_eq l k x (by simpa using hk) (fun j hj => ha (j + 1) (by omega)) h]
theorem insR_new : ∀ (l : List ByteArray) (k : Nat) (x : ByteArray), k ≤ l.length → (∀ j, j < k → ltB (nthB l j) x = true) → (k < l.length → ltB (nthB l k) x = false ∧ eqB (nthB l k) x = false) → insR l x = l.take k ++ [x] ++ l.drop k
  | [], k, x, hk, _, _ => by
    have : k = 0 := by simpa using hk
    subst this; rfl
  | y :: l, 0, x, _, _, h => by
    obtain ⟨h1, h2⟩ := h (by simp)
    have h1' : ltB y x = false := h1
    have h2' : eqB y x = false := h2
    unfold insR
    rw [h1', h2']; rfl
  | y :: l, k + 1, x, hk, ha, h => by
    have h0 : ltB y x = true := ha 0 (by omega)
    unfold insR
    rw [h0, cond_true, insR_new l k x (by simpa using hk) (fun j hj => ha (j + 1) (by omega)) (fun hk' => h (by simpa using hk'))]
    rfl
theorem underS : Tryz.prog.underlying 22 = some (.slice 9) := by kernel_rfl
theorem infoS : (Tryz.prog.info? 9).map (fun i => (i.zero, i.size, i.bytes)) = some (some (.string ByteArray.empty), 1, 16) := by kernel_rfl
theorem elSX : ElT Tryz.prog 22 9 1 16 := by
  obtain ⟨i0, hi, hz0, hz1, hz2⟩ := info_parts infoS
  exact ⟨underS, ⟨i0, _, hi, hz0, hz1, hz2, rfl⟩, by decide⟩
theorem own_cells {B : Nat} {w : World} {g cap : Nat} {l : List ByteArray} (h : w.ownsRow B 9 1 (.slice (some ⟨g, 0, none⟩) l.length cap) l.length (l.map .string)) : l.length ≤ cap ∧ ∀ i, i < l.length → w.cell? ⟨g, i, none⟩ = some (.string (nthB l i)) := by
  rcases h.2 with ⟨e, _⟩ | ⟨g', cap', cur, e, hb, hg, hc, hm', hs, ht⟩
  · cases e
  · cases e
    refine ⟨hc, fun i hi => ?_⟩
    have e1 : cur.toList[i]? = (l.map Value.string)[i]? := by
      rw [← ht, Nat.mul_one, List.getElem?_take_of_lt hi]
    have e2 : cur[i]? = some (.string (nthB l i)) := by
      rw [← Array.getElem?_toList, e1]
      simp [nthB, hi]
    exact (cell_row hg _ _ e2).1
theorem nth_at {l : List ByteArray} {i : Nat} (h : i < l.length) : l[i]? = some (nthB l i) := by simp [nthB, h]
theorem src_take {w : World} {g cap n k : Nat} {l : List ByteArray} (hn : l.length = n) (hk : k ≤ n) (hc : ∀ i, i < n → w.cell? ⟨g, i, none⟩ = some (.string (nthB l i))) : Src w (.slice (some ⟨g, 0, none⟩) k cap) k 1 ((l.take k).map .string) := by
  refine ⟨by simp; omega, .inr ⟨_, _, rfl, fun j u hj => ?_⟩⟩
  rw [add_at, Nat.zero_add]
  rw [List.getElem?_map, Option.map_eq_some_iff] at hj
  obtain ⟨y, hy, rfl⟩ := hj
  have hjk : j < k := by
    have := (List.getElem?_eq_some_iff.1 hy).1
    simp at this; omega
  rw [List.getElem?_take_of_lt hjk, nth_at (by omega)] at hy
  cases hy
  exact hc j (by omega)
theorem src_drop {w : World} {g cap n k : Nat} {l : List ByteArray} (hn : l.length = n) (hk : k ≤ n) (hcap : n ≤ cap) (hc : ∀ i, i < n → w.cell? ⟨g, i, none⟩ = some (.string (nthB l i))) : Src w (.slice (if cap = k then some ⟨g, 0, none⟩ else some ⟨g, k, none⟩) (n - k) (cap - k)) (n - k) 1 ((l.drop k).map .string) := by
  refine Src.tail (by simp; omega) (fun h => by omega) (fun _ j u hj => ?_)
  rw [add_at]
  rw [List.getElem?_map, Option.map_eq_some_iff] at hj
  obtain ⟨y, hy, rfl⟩ := hj
  rw [List.getElem?_drop] at hy
  have hjk : k + j < l.length := (List.getElem?_eq_some_iff.1 hy).1
  rw [nth_at hjk] at hy
  cases hy
  exact hc (k + j) (by omega)
end Go.Proofs.YtigkkelaadbhcabGreat

namespace Go.Proofs.YtigkkelaadbhcabGreat
open Go.RowKit
theorem own_one {base : Nat} {w : World} {x : ByteArray} (hb : base ≤ w.heap.size) : (w.alloc (.cells #[.string x] 9)).ownsRow base 9 1 (.slice (some ⟨w.heap.size, 0, none⟩) [x].length 1) [x].length ([x].map .string) :=
  ⟨by simp, .inr ⟨w.heap.size, 1, #[.string x], rfl, hb, heap_alloc_new w _, Nat.le_refl _, by decide, rfl, rfl⟩⟩
theorem own_nil {base : Nat} {w : World} (hb : base ≤ w.heap.size) : (w.alloc (.cells #[] 9)).ownsRow base 9 1 (.slice (some ⟨w.heap.size, 0, none⟩) 0 0) 0 [] :=
  ⟨by simp, .inr ⟨w.heap.size, 0, #[], rfl, hb, heap_alloc_new w _, Nat.le_refl _, by decide, rfl, rfl⟩⟩
def RdB (w : World) (v : Value) (b : List ByteArray) : Prop := ∃ o c, v = .slice o b.length c ∧ ∀ i, i < b.length → ∃ g, o = some ⟨g, 0, none⟩ ∧ g < w.heap.size ∧ w.cell? ⟨g, i, none⟩ = some (.string (nthB b i))
theorem RdB.of {base : Nat} {w : World} {v : Value} {b : List ByteArray} (h : w.ownsRow base 9 1 v b.length (b.map .string)) : RdB w v b := by
  rcases id h.2 with ⟨e, hn⟩ | ⟨g, cap, cur, e, rest⟩
  · exact ⟨none, 0, by rw [hn]; exact e, fun i hi => by omega⟩
  · subst e
    exact ⟨_, cap, rfl, fun i hi => ⟨g, rfl, (Array.getElem?_eq_some_iff.1 rest.2.1).1, (own_cells h).2 i hi⟩⟩
theorem RdB.kept {w w' : World} {v : Value} {b : List ByteArray} (h : RdB w v b) (hb : Below w.heap.size w w') : RdB w' v b := by
  obtain ⟨o, c, e, hx⟩ := h
  refine ⟨o, c, e, fun i hi => ?_⟩
  obtain ⟨g, h1, h2, h3⟩ := hx i hi
  exact ⟨g, h1, Nat.lt_of_lt_of_le h2 hb.size, (hb.cell h2).trans h3⟩
def bothL (a b : List ByteArray) : List ByteArray := b.foldl insR a
theorem both_take (a b : List ByteArray) {k : Nat} (h : k < b.length) : bothL a (b.take (k + 1)) = insR (bothL a (b.take k)) (nthB b k) := by
  unfold bothL
  rw [List.take_add_one, List.getElem?_eq_getElem h, List.foldl_append]
  simp [nthB, h]
theorem both_len : ∀ (b a : List ByteArray), (bothL a b).length ≤ a.length + b.length
  | [], a => by simp [bothL]
  | x :: b, a => by
    have h1 := both_len b (insR a x)
    have h2 := insR_len a x
    have e : bothL a (x :: b) = bothL (insR a x) b := rfl
    rw [e, List.length_cons]; omega
def ofL (p : DRecPhase) : List ByteArray := if p.2.1 = 2 then insR [p.2.2.1] p.2.2.2.1 else [p.2.2.1]
theorem of_len (p : DRecPhase) : (ofL p).length ≤ 2 := by
  unfold ofL
  split
  · exact Nat.le_trans (insR_len _ _) (by simp)
  · simp
def sltF : Nat → List DRecPhase → ByteArray → List ByteArray
  | 0, _, _ => []
  | n + 1, r, x => if atI r x < 0 then [] else bothL (bothL (ofL (phX r x)) (sltF n r (phX r x).2.2.2.2.2.2.1)) (sltF n r (phX r x).2.2.2.2.2.2.2)
theorem slt_len (r : List DRecPhase) : ∀ (n : Nat) (x : ByteArray), (sltF n r x).length + 2 ≤ 2 * 2 ^ n
  | 0, x => by simp [sltF]
  | n + 1, x => by
    have h1 := slt_len r n (phX r x).2.2.2.2.2.2.1
    have h2 := slt_len r n (phX r x).2.2.2.2.2.2.2
    have h3 := both_len (sltF n r (phX r x).2.2.2.2.2.2.1) (ofL (phX r x))
    have h4 := both_len (sltF n r (phX r x).2.2.2.2.2.2.2) (bothL (ofL (phX r x)) (sltF n r (phX r x).2.2.2.2.2.2.1))
    have h5 := of_len (phX r x)
    have h6 : 2 * 2 ^ (n + 1) = 2 * (2 * 2 ^ n) := by rw [Nat.pow_succ]; omega
    have h7 : 1 ≤ 2 ^ n := Nat.one_le_two_pow
    unfold sltF
    split
    · simp; omega
    · omega
theorem slt_small (r : List DRecPhase) {n : Nat} (hn : n ≤ 12) (x : ByteArray) : (sltF n r x).length ≤ 8192 := by
  have h1 := slt_len r n x
  have h2 : 2 ^ n ≤ 2 ^ 12 := Nat.pow_le_pow_right (by omega) hn
  have h3 : (2 : Nat) ^ 12 = 4096 := by decide
  omega
end Go.Proofs.YtigkkelaadbhcabGreat

namespace Go.Proofs.YtigkkelaadbhcabGreat
open Go.RowKit
noncomputable def slL (r : List DRecPhase) (x : ByteArray) : List ByteArray := if recB r = true then sltF 12 r x else []
theorem ins_memX : ∀ (l : List ByteArray) (x y : ByteArray), y ∈ insR l x → y = x ∨ y ∈ l
  | [], x, y, h => by simp [insR] at h; exact Or.inl h
  | z :: l, x, y, h => by
    unfold insR at h
    cases h1 : ltB z x
    · cases h2 : eqB z x
      · simp [h1, h2] at h
        rcases h with h | h | h
        · exact Or.inl h
        · exact Or.inr (by simp [h])
        · exact Or.inr (by simp [h])
      · simp [h1, h2] at h
        rcases h with h | h
        · exact Or.inr (by simp [h])
        · exact Or.inr (by simp [h])
    · simp [h1] at h
      rcases h with h | h
      · exact Or.inr (by simp [h])
      · rcases ins_memX l x y h with h | h
        · exact Or.inl h
        · exact Or.inr (by simp [h])
theorem both_mem : ∀ (b a : List ByteArray) (y : ByteArray), y ∈ bothL a b → y ∈ a ∨ y ∈ b
  | [], a, y, h => Or.inl h
  | x :: b, a, y, h => by
    rcases both_mem b (insR a x) y h with h | h
    · rcases ins_memX a x y h with h | h
      · exact Or.inr (by simp [h])
      · exact Or.inl h
    · exact Or.inr (by simp [h])
theorem name_le {s : ByteArray} (h : nameB s = true) : s.size ≤ 8 := by
  unfold nameB at h
  simp only [Bool.and_eq_true, decide_eq_true_eq] at h
  exact h.1.2
theorem ph_args {p : DRecPhase} (h : phaseB p = true) : nameB p.2.2.1 = true ∧ (p.2.1 = 2 → nameB p.2.2.2.1 = true) := by
  refine ⟨(ph_name h).2.2.2, fun e => ?_⟩
  simp only [phaseB, Bool.and_eq_true] at h
  have ha := h.1.1.2
  unfold argsB at ha
  rw [if_neg (by omega), if_pos e] at ha
  simp only [Bool.and_eq_true] at ha
  exact ha.1.1.2
theorem slt_names {r : List DRecPhase} (h : RecP r) : ∀ (n : Nat) (x y : ByteArray), y ∈ sltF n r x → y.size ≤ 8
  | 0, x, y, hy => by simp [sltF] at hy
  | n + 1, x, y, hy => by
    rcases at_cases r x with e | ⟨k, hk, e, _⟩
    · simp [sltF, e] at hy
    · have hx : ¬ (atI r x < 0) := by omega
      have hp := ph_args (step_of h hk).1
      rw [← ph_at hk e] at hp
      simp only [sltF, if_neg hx] at hy
      rcases both_mem _ _ y hy with hy | hy
      · rcases both_mem _ _ y hy with hy | hy
        · unfold ofL at hy
          split at hy
          case isTrue c =>
            rcases ins_memX _ _ y hy with hy | hy
            · rw [hy]; exact name_le (hp.2 c)
            · simp at hy; rw [hy]; exact name_le hp.1
          case isFalse c => simp at hy; rw [hy]; exact name_le hp.1
        · exact slt_names h n _ y hy
      · exact slt_names h n _ y hy
theorem at_rowX {base : Nat} {w : World} {v : Value} {l : List ByteArray} (h : w.ownsRow base 9 1 v l.length (l.map .string)) (hz : ∀ x ∈ l, x.size ≤ maxLen) (hl : l.length ≤ 8192) : AtL (fun b => base ≤ b ∧ b < w.heap.size) w l v := by
  rcases id h.2 with ⟨e, hn⟩ | ⟨g, cap, cur, e, hb, hg, hc, hm, _, _⟩
  · have hl0 : l = [] := List.eq_nil_of_length_eq_zero hn
    subst hl0
    exact ⟨none, 0, e, ⟨by unfold maxLen; simp, Nat.le_refl _, fun _ => rfl⟩, fun i hi => by simp at hi⟩
  · subst e
    refine ⟨_, cap, rfl, ⟨by unfold maxLen; omega, hc, fun h => nomatch h⟩, fun i hi => ⟨g, 0, rfl, ⟨hb, (Array.getElem?_eq_some_iff.1 hg).1⟩, fun _ => .string l[i], fun j hj => ?_, ?_⟩⟩
    · rw [width_str] at hj ⊢
      have ej : j = 0 := by omega
      subst ej
      have := (own_cells h).2 i hi
      rw [Nat.zero_add, Nat.mul_one, Nat.add_zero, this]
      simp [nthB, hi]
    · rw [at_str]
      exact ⟨rfl, hz _ (List.getElem_mem hi)⟩
end Go.Proofs.YtigkkelaadbhcabGreat

namespace Go.Proofs.YtigkkelaadbhcabGreat
theorem at_self {r : List DRecPhase} (h : RecP r) {i : Nat} (hi : i < r.length) : atI r r[i].1 = (i : Int) := by
  have := h.2 i hi
  simp only [stepB, Bool.and_eq_true, beq_iff_eq] at this
  exact this.1.1.2
theorem later_of {r : List DRecPhase} (h : RecP r) {i : Nat} (hi : i < r.length) : (∀ j : Nat, atI r r[i].2.2.2.2.2.2.1 = (j : Int) → i < j) ∧ (∀ j : Nat, atI r r[i].2.2.2.2.2.2.2 = (j : Int) → i < j) :=
  ⟨fun j hj => go_next h (step_of h hi).2.1 j hj, fun j hj => go_next h (step_of h hi).2.2 j hj⟩
end Go.Proofs.YtigkkelaadbhcabGreat

namespace Go.Proofs.YtigkkelaadbhcabGreat
open Go.RowKit
theorem ltB_asymm {a b : ByteArray} (h : ltB a b = true) : ltB b a = false := by
  cases c : ltB b a
  · rfl
  · have := ltB_trans h c; rw [ltB_irrefl] at this; cases this
def AscL (l : List ByteArray) : Prop := l.Pairwise fun a b => ltB a b = true
theorem AscL.nodup {l : List ByteArray} (h : AscL l) : l.Nodup := by
  refine h.imp fun {a b} hab e => ?_
  rw [e, ltB_irrefl] at hab; cases hab
theorem ltB_tri {a b : ByteArray} (h1 : ltB a b = false) (h2 : eqB a b = false) : ltB b a = true := by
  rw [ltB_iff]
  have n1 : ¬ a.toList < b.toList := fun h => by rw [(ltB_iff _ _).2 h] at h1; cases h1
  have n2 : a.toList ≠ b.toList := fun h => by
    have : eqB a b = true := by unfold eqB; rw [h]; simp
    rw [this] at h2; cases h2
  rcases List.le_iff_lt_or_eq.1 (List.not_lt.1 n1) with h | h
  · exact h
  · exact absurd h.symm n2
theorem ins_mem : ∀ (l : List ByteArray) (x y : ByteArray), y ∈ insR l x ↔ y ∈ l ∨ y = x
  | [], x, y => by simp [insR]
  | z :: l, x, y => by
    have ih := ins_mem l x y
    unfold insR
    cases h1 : ltB z x
    · cases h2 : eqB z x
      · simp only [cond_false, List.mem_cons]
        constructor
        · rintro (h | h | h)
          · exact .inr h
          · exact .inl (.inl h)
          · exact .inl (.inr h)
        · rintro ((h | h) | h)
          · exact .inr (.inl h)
          · exact .inr (.inr h)
          · exact .inl h
      · simp only [cond_false, cond_true, List.mem_cons]
        have := (eqB_iff _ _).1 h2
        constructor
        · exact .inl
        · rintro (h | h)
          · exact h
          · exact .inl (by rw [h, this])
    · simp only [cond_true, List.mem_cons, ih, or_assoc]
theorem ins_asc : ∀ (l : List ByteArray) (x : ByteArray), AscL l → AscL (insR l x)
  | [], x, _ => List.pairwise_singleton _ _
  | z :: l, x, h => by
    obtain ⟨hz, hl⟩ := List.pairwise_cons.1 h
    have ih := ins_asc l x hl
    unfold insR
    cases h1 : ltB z x
    · cases h2 : eqB z x
      · simp only [cond_false]
        have hxz := ltB_tri h1 h2
        refine List.pairwise_cons.2 ⟨fun y hy => ?_, h⟩
        rcases List.mem_cons.1 hy with rfl | hy
        · exact hxz
        · exact ltB_trans hxz (hz y hy)
      · exact h
    · simp only [cond_true]
      refine List.pairwise_cons.2 ⟨fun y hy => ?_, ih⟩
      rcases (ins_mem _ _ _).1 hy with hy | rfl
      · exact hz y hy
      · exact h1
theorem asc_unique : ∀ (l m : List ByteArray), AscL l → AscL m → (∀ y, y ∈ l ↔ y ∈ m) → l = m
  | [], [], _, _, _ => rfl
  | [], b :: m, _, _, h => absurd ((h b).2 List.mem_cons_self) (by simp)
  | a :: l, [], _, _, h => absurd ((h a).1 List.mem_cons_self) (by simp)
  | a :: l, b :: m, hl, hm, h => by
    obtain ⟨ha, hl'⟩ := List.pairwise_cons.1 hl
    obtain ⟨hb, hm'⟩ := List.pairwise_cons.1 hm
    have e : a = b := by
      rcases List.mem_cons.1 ((h a).1 List.mem_cons_self) with e | h1
      · exact e
      · rcases List.mem_cons.1 ((h b).2 List.mem_cons_self) with e | h2
        · exact e.symm
        · have := ltB_asymm (hb a h1)
          rw [ha b h2] at this; cases this
    subst e
    have na : a ∉ l := (List.nodup_cons.1 (AscL.nodup hl)).1
    have nb : a ∉ m := (List.nodup_cons.1 (AscL.nodup hm)).1
    rw [asc_unique l m hl' hm' (fun y => ?_)]
    have := h y
    simp only [List.mem_cons] at this
    constructor
    · intro hy
      rcases this.1 (.inr hy) with e | h'
      · rw [e] at hy; exact absurd hy na
      · exact h'
    · intro hy
      rcases this.2 (.inr hy) with e | h'
      · rw [e] at hy; exact absurd hy nb
      · exact h'
theorem both_memI : ∀ (b a : List ByteArray) (y : ByteArray), y ∈ bothL a b ↔ y ∈ a ∨ y ∈ b
  | [], a, y => by simp [bothL]
  | x :: b, a, y => by
    have e : bothL a (x :: b) = bothL (insR a x) b := rfl
    rw [e, both_memI b (insR a x) y, ins_mem, List.mem_cons]
    constructor
    · rintro ((h | h) | h)
      · exact .inl h
      · exact .inr (.inl h)
      · exact .inr (.inr h)
    · rintro (h | h | h)
      · exact .inl (.inl h)
      · exact .inl (.inr h)
      · exact .inr h
theorem both_asc : ∀ (b a : List ByteArray), AscL a → AscL (bothL a b)
  | [], _, h => h
  | x :: b, a, h => both_asc b (insR a x) (ins_asc a x h)
theorem of_asc (p : DRecPhase) : AscL (ofL p) := by
  unfold ofL
  split
  · exact ins_asc _ _ (List.pairwise_singleton _ _)
  · exact List.pairwise_singleton _ _
def ownL (kd : Int) (a b : ByteArray) : List ByteArray := if kd = 2 then [a, b] else [a]
theorem own_mem (p : DRecPhase) (y : ByteArray) : y ∈ ownL p.2.1 p.2.2.1 p.2.2.2.1 ↔ y ∈ ofL p := by
  unfold ownL ofL
  split
  · rw [ins_mem]; simp
  · simp
theorem slt_asc (r : List DRecPhase) : ∀ (n : Nat) (x : ByteArray), AscL (sltF n r x)
  | 0, x => List.Pairwise.nil
  | n + 1, x => by
    unfold sltF
    split
    · exact List.Pairwise.nil
    · exact both_asc _ _ (both_asc _ _ (of_asc _))
theorem slt_fuel {r : List DRecPhase} (h : RecP r) : ∀ (n m : Nat) (x : ByteArray), (∀ k : Nat, atI r x = (k : Int) → r.length ≤ k + n) → (∀ k : Nat, atI r x = (k : Int) → r.length ≤ k + m) → sltF n r x = sltF m r x
  | 0, m, x, h1, h2 => by
    rcases at_cases r x with e | ⟨k, hk, e, _⟩
    · cases m with
      | zero => rfl
      | succ m => simp [sltF, e]
    · have := h1 k e; omega
  | n + 1, 0, x, h1, h2 => by
    rcases at_cases r x with e | ⟨k, hk, e, _⟩
    · simp [sltF, e]
    · have := h2 k e; omega
  | n + 1, m + 1, x, h1, h2 => by
    rcases at_cases r x with e | ⟨k, hk, e, _⟩
    · simp [sltF, e]
    · have hx : ¬ (atI r x < 0) := by omega
      simp only [sltF, if_neg hx]
      have hs := step_of h hk
      rw [← ph_at hk e] at hs
      have g1 := h1 k e
      have g2 := h2 k e
      rw [slt_fuel h n m _ (fun j hj => by have := go_next h hs.2.1 j hj; omega) (fun j hj => by have := go_next h hs.2.1 j hj; omega),
        slt_fuel h n m _ (fun j hj => by have := go_next h hs.2.2 j hj; omega) (fun j hj => by have := go_next h hs.2.2 j hj; omega)]
theorem slt_none {r : List DRecPhase} {x : ByteArray} (e : atI r x = -1) (n : Nat) : sltF n r x = [] := by
  cases n with
  | zero => rfl
  | succ n => simp [sltF, e]
theorem slt_succ {r : List DRecPhase} {x : ByteArray} (n : Nat) (h : ¬ (atI r x < 0)) : sltF (n + 1) r x = bothL (bothL (ofL (phX r x)) (sltF n r (phX r x).2.2.2.2.2.2.1)) (sltF n r (phX r x).2.2.2.2.2.2.2) := by simp only [sltF, if_neg h]
theorem slt_at {r : List DRecPhase} (h : RecP r) {x : ByteArray} {k : Nat} (hk : k < r.length) (e : atI r x = (k : Int)) (n : Nat) : sltF (n + 1) r x = sltF (n + 1) r r[k].1 := by
  have e2 := at_self h hk
  rw [slt_succ n (by omega), slt_succ n (by omega), ph_at hk e, ph_at hk e2]
theorem slt_step {r : List DRecPhase} (h : RecP r) {i : Nat} (hi : i < r.length) : sltF 12 r r[i].1 = bothL (bothL (sltF 12 r r[i].2.2.2.2.2.2.1) (sltF 12 r r[i].2.2.2.2.2.2.2)) (ownL r[i].2.1 r[i].2.2.1 r[i].2.2.2.1) := by
  have e := at_self h hi
  have hx : ¬ (atI r r[i].1 < 0) := by omega
  have hs := step_of h hi
  have h12 := h.1.2
  have e1 := slt_succ 11 hx
  rw [ph_at hi e] at e1
  refine e1.trans ?_
  rw [slt_fuel h 11 12 _ (fun j hj => by have := go_next h hs.2.1 j hj; omega) (fun j _ => by omega), slt_fuel h 11 12 _ (fun j hj => by have := go_next h hs.2.2 j hj; omega) (fun j _ => by omega)]
  refine asc_unique _ _ (both_asc _ _ (both_asc _ _ (of_asc _))) (both_asc _ _ (both_asc _ _ (slt_asc r 12 _))) (fun y => ?_)
  rw [both_memI, both_memI, both_memI, both_memI, own_mem]
  constructor
  · rintro ((h | h) | h)
    · exact .inr h
    · exact .inl (.inl h)
    · exact .inl (.inr h)
  · rintro ((h | h) | h)
    · exact .inl (.inr h)
    · exact .inr h
    · exact .inl (.inl h)
theorem asc_mono {l : List ByteArray} (h : AscL l) (x : ByteArray) : ∀ p q (hq : q < l.length) (hpq : p ≤ q), ltB l[q] x = true → ltB (l[p]'(by omega)) x = true := fun p q hq hpq hx => by
  by_cases e : p = q
  · subst e; exact hx
  · exact ltB_trans ((List.pairwise_iff_getElem.1 h) p q (by omega) hq (by omega)) hx
theorem kind_of {p : DRecPhase} (h : phaseB p = true) : p.2.1 = 1 ∨ p.2.1 = 2 ∨ p.2.1 = 3 ∨ p.2.1 = 4 ∨ p.2.1 = 5 := by
  simp only [phaseB, Bool.and_eq_true] at h
  have ha := h.1.1.2
  unfold argsB at ha
  repeat' split at ha
  all_goals (first | omega | (cases ha))
theorem nth_is {l : List ByteArray} {i : Nat} (h : i < l.length) : nthB l i = l[i] := by simp [nthB, h]
end Go.Proofs.YtigkkelaadbhcabGreat

namespace Go.Proofs.YtigkkelaadbhcabGreat
open Go.RowKit
def cmpB (a b : ByteArray) : Int := Lib.compareBytes a.data.toList b.data.toList
theorem cmp_list : ∀ a b : List UInt8, (Lib.compareBytes a b < 0 ↔ Op.bytesLess a b = true) ∧ (Lib.compareBytes a b = 0 ↔ a = b)
  | [], [] => by simp [Lib.compareBytes, Op.bytesLess]
  | [], _ :: _ => by simp [Lib.compareBytes, Op.bytesLess]
  | _ :: _, [] => by simp [Lib.compareBytes, Op.bytesLess]
  | x :: a, y :: b => by
    obtain ⟨h1, h2⟩ := cmp_list a b
    unfold Lib.compareBytes Op.bytesLess
    by_cases hxy : x = y
    · subst hxy
      have hlt : ¬ x < x := UInt8.lt_irrefl x
      simp [hlt, h1, h2]
    · by_cases hlt : x < y
      · simp [hlt, hxy]
      · have hgt : y < x := UInt8.lt_of_le_of_ne (UInt8.not_lt.1 hlt) (Ne.symm hxy)
        simp [hlt, hgt, hxy]
theorem cmpB_lt (a b : ByteArray) : cmpB a b < 0 ↔ ltB a b = true := by
  rw [cmpB, ltB, ByteArray.toList_eq, ByteArray.toList_eq]; exact (cmp_list _ _).1
theorem cmpB_eq (a b : ByteArray) : cmpB a b = 0 ↔ eqB a b = true := by
  rw [cmpB, eqB, ByteArray.toList_eq, ByteArray.toList_eq, beq_iff_eq]; exact (cmp_list _ _).2
theorem cmpB_ge (a b : ByteArray) : decide (0 ≤ cmpB a b) = !ltB a b := by
  rw [Bool.eq_iff_iff]
  have := cmpB_lt a b
  cases h : ltB a b <;> simp [h] at this ⊢ <;> omega
set_option maxRecDepth 100000 in
set_option maxHeartbeats 1000000 in
theorem cmpS0_any (a b : ByteArray) (w : World) : Calls Tryz.prog 192 #[.string a, .string b] w fun e w' => e = .returned (.int .i64 (cmpB a b)) ∧ w' = w := by
  go_enter Tryz.func192, Tryz.ntmps192
  go_wp2
  rw [run_callFunc_extern Tryz.func205 (by kernel_rfl) (by kernel_rfl) (by kernel_rfl) (e := Extern.BytealgCompare.compare) (by kernel_rfl), Lib.run_compareString]
  simp only [Result.andThen]
  rw [Oper.upon_value]
  go_wp2
  go_ret
  exact ⟨rfl, rfl⟩
set_option maxRecDepth 100000 in
set_option maxHeartbeats 1000000 in
theorem cmpS_any (a b : ByteArray) (w : World) : Calls Tryz.prog 164 #[.string a, .string b] w fun e w' => e = .returned (.int .i64 (cmpB a b)) ∧ w' = w := by
  go_enter Tryz.func164, Tryz.ntmps164
  go_wp2_with (go_at_call 192; refine (cmpS0_any _ _ _).mono ?_; rintro e w1 ⟨rfl, rfl⟩)
  go_ret
  exact ⟨rfl, rfl⟩
theorem eqB_comm (a b : ByteArray) : eqB a b = eqB b a := by
  simp only [eqB]; rw [Bool.eq_iff_iff, beq_iff_eq, beq_iff_eq]; exact eq_comm
end Go.Proofs.YtigkkelaadbhcabGreat
