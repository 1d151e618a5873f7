/-
  Several texts in one.
-/
import Derived.Test.YtobchllaopdchaaM8
import Derived.Test.YtobchllaopdchaaM2
import Derived.Test.YtobchllaopdchaaHq
import Derived.Lib.Bytealg
import Derived.Lib.Strings
import Derived.Deep.RegionWith
namespace Go.Proofs.Ytobchllaopdchaa
open Go.RowKit
theorem ltB_asymm {a b : ByteArray} (h : ltB a b = true) : ltB b a = false := by
  cases c : ltB b a
  · rfl
  · have := ltB_trans h c; rw [ltB_irrefl] at this; cases this
def AscL (l : List ByteArray) : Prop := l.Pairwise fun a b => ltB a b = true
theorem AscL.nodup {l : List ByteArray} (h : AscL l) : l.Nodup := by
  refine h.imp fun {a b} hab e => ?_
  rw [e, ltB_irrefl] at hab; cases hab
theorem ltB_tri {a b : ByteArray} (h1 : ltB a b = false) (h2 : eqB a b = false) : ltB b a = true := by
  rw [ltB_iff]
  have n1 : ¬ a.toList < b.toList := fun h => by rw [(ltB_iff _ _).2 h] at h1; cases h1
  have n2 : a.toList ≠ b.toList := fun h => by
    have : eqB a b = true := by unfold eqB; rw [h]; simp
    rw [this] at h2; cases h2
  rcases List.le_iff_lt_or_eq.1 (List.not_lt.1 n1) with h | h
  · exact h
  · exact absurd h.symm n2
theorem ins_mem : ∀ (l : List ByteArray) (x y : ByteArray), y ∈ insR l x ↔ y ∈ l ∨ y = x
  | [], x, y => by simp [insR]
  | z :: l, x, y => by
    have ih := ins_mem l x y
    unfold insR
    cases h1 : ltB z x
    · cases h2 : eqB z x
      · simp only [cond_false, List.mem_cons]
        constructor
        · rintro (h | h | h)
          · exact .inr h
          · exact .inl (.inl h)
          · exact .inl (.inr h)
        · rintro ((h | h) | h)
          · exact .inr (.inl h)
          · exact .inr (.inr h)
          · exact .inl h
      · simp only [cond_false, cond_true, List.mem_cons]
        have := (eqB_iff _ _).1 h2
        constructor
        · exact .inl
        · rintro (h | h)
          · exact h
          · exact .inl (by rw [h, this])
    · simp only [cond_true, List.mem_cons, ih, or_assoc]
theorem ins_asc : ∀ (l : List ByteArray) (x : ByteArray), AscL l → AscL (insR l x)
  | [], x, _ => List.pairwise_singleton _ _
  | z :: l, x, h => by
    obtain ⟨hz, hl⟩ := List.pairwise_cons.1 h
    have ih := ins_asc l x hl
    unfold insR
    cases h1 : ltB z x
    · cases h2 : eqB z x
      · simp only [cond_false]
        have hxz := ltB_tri h1 h2
        refine List.pairwise_cons.2 ⟨fun y hy => ?_, h⟩
        rcases List.mem_cons.1 hy with rfl | hy
        · exact hxz
        · exact ltB_trans hxz (hz y hy)
      · exact h
    · simp only [cond_true]
      refine List.pairwise_cons.2 ⟨fun y hy => ?_, ih⟩
      rcases (ins_mem _ _ _).1 hy with hy | rfl
      · exact hz y hy
      · exact h1
theorem asc_unique : ∀ (l m : List ByteArray), AscL l → AscL m → (∀ y, y ∈ l ↔ y ∈ m) → l = m
  | [], [], _, _, _ => rfl
  | [], b :: m, _, _, h => absurd ((h b).2 List.mem_cons_self) (by simp)
  | a :: l, [], _, _, h => absurd ((h a).1 List.mem_cons_self) (by simp)
  | a :: l, b :: m, hl, hm, h => by
    obtain ⟨ha, hl'⟩ := List.pairwise_cons.1 hl
    obtain ⟨hb, hm'⟩ := List.pairwise_cons.1 hm
    have e : a = b := by
      rcases List.mem_cons.1 ((h a).1 List.mem_cons_self) with e | h1
      · exact e
      · rcases List.mem_cons.1 ((h b).2 List.mem_cons_self) with e | h2
        · exact e.symm
        · have := ltB_asymm (hb a h1)
          rw [ha b h2] at this; cases this
    subst e
    have na : a ∉ l := (List.nodup_cons.1 (AscL.nodup hl)).1
    have nb : a ∉ m := (List.nodup_cons.1 (AscL.nodup hm)).1
    rw [asc_unique l m hl' hm' (fun y => ?_)]
    have := h y
    simp only [List.mem_cons] at this
    constructor
    · intro hy
      rcases this.1 (.inr hy) with e | h'
      · rw [e] at hy; exact absurd hy na
      · exact h'
    · intro hy
      rcases this.2 (.inr hy) with e | h'
      · rw [e] at hy; exact absurd hy nb
      · exact h'
theorem both_memI : ∀ (b a : List ByteArray) (y : ByteArray), y ∈ bothL a b ↔ y ∈ a ∨ y ∈ b
  | [], a, y => by simp [bothL]
  | x :: b, a, y => by
    have e : bothL a (x :: b) = bothL (insR a x) b := rfl
    rw [e, both_memI b (insR a x) y, ins_mem, List.mem_cons]
    constructor
    · rintro ((h | h) | h)
      · exact .inl h
      · exact .inr (.inl h)
      · exact .inr (.inr h)
    · rintro (h | h | h)
      · exact .inl (.inl h)
      · exact .inl (.inr h)
      · exact .inr h
theorem both_asc : ∀ (b a : List ByteArray), AscL a → AscL (bothL a b)
  | [], _, h => h
  | x :: b, a, h => both_asc b (insR a x) (ins_asc a x h)
theorem of_asc (p : DRecPhase) : AscL (ofL p) := by
  unfold ofL
  split
  · exact ins_asc _ _ (List.pairwise_singleton _ _)
  · exact List.pairwise_singleton _ _
def ownL (kd : Int) (a b : ByteArray) : List ByteArray := if kd = 2 then [a, b] else [a]
theorem own_mem (p : DRecPhase) (y : ByteArray) : y ∈ ownL p.2.1 p.2.2.1 p.2.2.2.1 ↔ y ∈ ofL p := by
  unfold ownL ofL
  split
  · rw [ins_mem]; simp
  · simp
theorem slt_asc (r : List DRecPhase) : ∀ (n : Nat) (x : ByteArray), AscL (sltF n r x)
  | 0, x => List.Pairwise.nil
  | n + 1, x => by
    unfold sltF
    split
    · exact List.Pairwise.nil
    · exact both_asc _ _ (both_asc _ _ (of_asc _))
theorem slt_fuel {r : List DRecPhase} (h : RecP r) : ∀ (n m : Nat) (x : ByteArray), (∀ k : Nat, atI r x = (k : Int) → r.length ≤ k + n) → (∀ k : Nat, atI r x = (k : Int) → r.length ≤ k + m) → sltF n r x = sltF m r x
  | 0, m, x, h1, h2 => by
    rcases at_cases r x with e | ⟨k, hk, e, _⟩
    · cases m with
      | zero => rfl
      | succ m => simp [sltF, e]
    · have := h1 k e; omega
  | n + 1, 0, x, h1, h2 => by
    rcases at_cases r x with e | ⟨k, hk, e, _⟩
    · simp [sltF, e]
    · have := h2 k e; omega
  | n + 1, m + 1, x, h1, h2 => by
    rcases at_cases r x with e | ⟨k, hk, e, _⟩
    · simp [sltF, e]
    · have hx : ¬ (atI r x < 0) := by omega
      simp only [sltF, if_neg hx]
      have hs := step_of h hk
      rw [← ph_at hk e] at hs
      have g1 := h1 k e
      have g2 := h2 k e
      rw [slt_fuel h n m _ (fun j hj => by have := go_next h hs.2.1 j hj; omega) (fun j hj => by have := go_next h hs.2.1 j hj; omega),
        slt_fuel h n m _ (fun j hj => by have := go_next h hs.2.2 j hj; omega) (fun j hj => by have := go_next h hs.2.2 j hj; omega)]
theorem slt_none {r : List DRecPhase} {x : ByteArray} (e : atI r x = -1) (n : Nat) : sltF n r x = [] := by
  cases n with
  | zero => rfl
  | succ n => simp [sltF, e]
theorem slt_succ {r : List DRecPhase} {x : ByteArray} (n : Nat) (h : ¬ (atI r x < 0)) : sltF (n + 1) r x = bothL (bothL (ofL (phX r x)) (sltF n r (phX r x).2.2.2.2.2.2.1)) (sltF n r (phX r x).2.2.2.2.2.2.2) := by simp only [sltF, if_neg h]
theorem slt_at {r : List DRecPhase} (h : RecP r) {x : ByteArray} {k : Nat} (hk : k < r.length) (e : atI r x = (k : Int)) (n : Nat) : sltF (n + 1) r x = sltF (n + 1) r r[k].1 := by
  have e2 := at_self h hk
  rw [slt_succ n (by omega), slt_succ n (by omega), ph_at hk e, ph_at hk e2]
theorem slt_step {r : List DRecPhase} (h : RecP r) {i : Nat} (hi : i < r.length) : sltF 12 r r[i].1 = bothL (bothL (sltF 12 r r[i].2.2.2.2.2.2.1) (sltF 12 r r[i].2.2.2.2.2.2.2)) (ownL r[i].2.1 r[i].2.2.1 r[i].2.2.2.1) := by
  have e := at_self h hi
  have hx : ¬ (atI r r[i].1 < 0) := by omega
  have hs := step_of h hi
  have h12 := h.1.2
  have e1 := slt_succ 11 hx
  rw [ph_at hi e] at e1
  refine e1.trans ?_
  rw [slt_fuel h 11 12 _ (fun j hj => by have := go_next h hs.2.1 j hj; omega) (fun j _ => by omega), slt_fuel h 11 12 _ (fun j hj => by have := go_next h hs.2.2 j hj; omega) (fun j _ => by omega)]
  refine asc_unique _ _ (both_asc _ _ (both_asc _ _ (of_asc _))) (both_asc _ _ (both_asc _ _ (slt_asc r 12 _))) (fun y => ?_)
  rw [both_memI, both_memI, both_memI, both_memI, own_mem]
  constructor
  · rintro ((h | h) | h)
    · exact .inr h
    · exact .inl (.inl h)
    · exact .inl (.inr h)
  · rintro ((h | h) | h)
    · exact .inl (.inr h)
    · exact .inr h
    · exact .inl (.inl h)
theorem asc_mono {l : List ByteArray} (h : AscL l) (x : ByteArray) : ∀ p q (hq : q < l.length) (hpq : p ≤ q), ltB l[q] x = true → ltB (l[p]'(by omega)) x = true := fun p q hq hpq hx => by
  by_cases e : p = q
  · subst e; exact hx
  · exact ltB_trans ((List.pairwise_iff_getElem.1 h) p q (by omega) hq (by omega)) hx
theorem kind_of {p : DRecPhase} (h : phaseB p = true) : p.2.1 = 1 ∨ p.2.1 = 2 ∨ p.2.1 = 3 ∨ p.2.1 = 4 ∨ p.2.1 = 5 := by
  simp only [phaseB, Bool.and_eq_true] at h
  have ha := h.1.1.2
  unfold argsB at ha
  repeat' split at ha
  all_goals (first | omega | (cases ha))
theorem nth_is {l : List ByteArray} {i : Nat} (h : i < l.length) : nthB l i = l[i] := by simp [nthB, h]
end Go.Proofs.Ytobchllaopdchaa

namespace Go.Proofs.Ytobchllaopdchaa
open Go.RowKit
def cmpB (a b : ByteArray) : Int := Lib.compareBytes a.data.toList b.data.toList
theorem cmp_list : ∀ a b : List UInt8, (Lib.compareBytes a b < 0 ↔ Op.bytesLess a b = true) ∧ (Lib.compareBytes a b = 0 ↔ a = b)
  | [], [] => by simp [Lib.compareBytes, Op.bytesLess]
  | [], _ :: _ => by simp [Lib.compareBytes, Op.bytesLess]
  | _ :: _, [] => by simp [Lib.compareBytes, Op.bytesLess]
  | x :: a, y :: b => by
    obtain ⟨h1, h2⟩ := cmp_list a b
    unfold Lib.compareBytes Op.bytesLess
    by_cases hxy : x = y
    · subst hxy
      have hlt : ¬ x < x := UInt8.lt_irrefl x
      simp [hlt, h1, h2]
    · by_cases hlt : x < y
      · simp [hlt, hxy]
      · have hgt : y < x := UInt8.lt_of_le_of_ne (UInt8.not_lt.1 hlt) (Ne.symm hxy)
        simp [hlt, hgt, hxy]
theorem cmpB_lt (a b : ByteArray) : cmpB a b < 0 ↔ ltB a b = true := by
  rw [cmpB, ltB, ByteArray.toList_eq, ByteArray.toList_eq]; exact (cmp_list _ _).1
theorem cmpB_eq (a b : ByteArray) : cmpB a b = 0 ↔ eqB a b = true := by
  rw [cmpB, eqB, ByteArray.toList_eq, ByteArray.toList_eq, beq_iff_eq]; exact (cmp_list _ _).2
set_option maxRecDepth 100000 in
set_option maxHeartbeats 1000000 in
theorem cmpS0_any (a b : ByteArray) (w : World) : Calls Try.prog 78 #[.string a, .string b] w fun e w' => e = .returned (.int .i64 (cmpB a b)) ∧ w' = w := by
  go_enter Try.func78, Try.ntmps78
  go_wp2
  rw [run_callFunc_extern Try.func82 (by kernel_rfl) (by kernel_rfl) (by kernel_rfl) (e := Extern.BytealgCompare.compare) (by kernel_rfl), Lib.run_compareString]
  simp only [Result.andThen]
  rw [Oper.upon_value]
  go_wp2
  go_ret
  exact ⟨rfl, rfl⟩
set_option maxRecDepth 100000 in
set_option maxHeartbeats 1000000 in
theorem cmpS_any (a b : ByteArray) (w : World) : Calls Try.prog 63 #[.string a, .string b] w fun e w' => e = .returned (.int .i64 (cmpB a b)) ∧ w' = w := by
  go_enter Try.func63, Try.ntmps63
  go_wp2_with (go_at_call 78; refine (cmpS0_any _ _ _).mono ?_; rintro e w1 ⟨rfl, rfl⟩)
  go_ret
  exact ⟨rfl, rfl⟩
end Go.Proofs.Ytobchllaopdchaa
