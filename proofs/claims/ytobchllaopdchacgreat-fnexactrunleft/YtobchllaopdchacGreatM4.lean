/-
  Several texts in one.
-/
import Derived.Test.YtobchllaopdchacGreatM3
import Derived.Test.YtobchllaopdchacGreatM0
import Derived.Test.YtobchllaopdchacGreatM2
import Derived.Lib.Bytealg
import Derived.Lib.Strings
import Derived.Deep.RegionWith
import Derived.Lib.SmallJoins
import Derived.Maps.AppendAt
import Derived.Test.YtobchllaopdchacGreatChecked
import Derived.WalkKit
import Derived.WalkSpells
import Derived.WalkLawsBesides
import Derived.BigQuiet
import Derived.Lib.UnsafeStr
import Derived.Lib.BufferWrite
import Derived.Laws.MakeOwn
import Derived.Laws.Externs
namespace Go.Proofs.YtobchllaopdchacGreat
open Go.RowKit
theorem ltB_asymm {a b : ByteArray} (h : ltB a b = true) : ltB b a = false := by
  cases c : ltB b a
  · rfl
  · have := ltB_trans h c; rw [ltB_irrefl] at this; cases this
def AscL (l : List ByteArray) : Prop := l.Pairwise fun a b => ltB a b = true
theorem AscL.nodup {l : List ByteArray} (h : AscL l) : l.Nodup := by
  refine h.imp fun {a b} hab e => ?_
  rw [e, ltB_irrefl] at hab; cases hab
theorem ltB_tri {a b : ByteArray} (h1 : ltB a b = false) (h2 : eqB a b = false) : ltB b a = true := by
  rw [ltB_iff]
  have n1 : ¬ a.toList < b.toList := fun h => by rw [(ltB_iff _ _).2 h] at h1; cases h1
  have n2 : a.toList ≠ b.toList := fun h => by
    have : eqB a b = true := by unfold eqB; rw [h]; simp
    rw [this] at h2; cases h2
  rcases List.le_iff_lt_or_eq.1 (List.not_lt.1 n1) with h | h
  · exact h
  · exact absurd h.symm n2
theorem ins_mem : ∀ (l : List ByteArray) (x y : ByteArray), y ∈ insR l x ↔ y ∈ l ∨ y = x
  | [], x, y => by simp [insR]
  | z :: l, x, y => by
    have ih := ins_mem l x y
    unfold insR
    cases h1 : ltB z x
    · cases h2 : eqB z x
      · simp only [cond_false, List.mem_cons]
        constructor
        · rintro (h | h | h)
          · exact .inr h
          · exact .inl (.inl h)
          · exact .inl (.inr h)
        · rintro ((h | h) | h)
          · exact .inr (.inl h)
          · exact .inr (.inr h)
          · exact .inl h
      · simp only [cond_false, cond_true, List.mem_cons]
        have := (eqB_iff _ _).1 h2
        constructor
        · exact .inl
        · rintro (h | h)
          · exact h
          · exact .inl (by rw [h, this])
    · simp only [cond_true, List.mem_cons, ih, or_assoc]
theorem ins_asc : ∀ (l : List ByteArray) (x : ByteArray), AscL l → AscL (insR l x)
  | [], x, _ => List.pairwise_singleton _ _
  | z :: l, x, h => by
    obtain ⟨hz, hl⟩ := List.pairwise_cons.1 h
    have ih := ins_asc l x hl
    unfold insR
    cases h1 : ltB z x
    · cases h2 : eqB z x
      · simp only [cond_false]
        have hxz := ltB_tri h1 h2
        refine List.pairwise_cons.2 ⟨fun y hy => ?_, h⟩
        rcases List.mem_cons.1 hy with rfl | hy
        · exact hxz
        · exact ltB_trans hxz (hz y hy)
      · exact h
    · simp only [cond_true]
      refine List.pairwise_cons.2 ⟨fun y hy => ?_, ih⟩
      rcases (ins_mem _ _ _).1 hy with hy | rfl
      · exact hz y hy
      · exact h1
theorem asc_unique : ∀ (l m : List ByteArray), AscL l → AscL m → (∀ y, y ∈ l ↔ y ∈ m) → l = m
  | [], [], _, _, _ => rfl
  | [], b :: m, _, _, h => absurd ((h b).2 List.mem_cons_self) (by simp)
  | a :: l, [], _, _, h => absurd ((h a).1 List.mem_cons_self) (by simp)
  | a :: l, b :: m, hl, hm, h => by
    obtain ⟨ha, hl'⟩ := List.pairwise_cons.1 hl
    obtain ⟨hb, hm'⟩ := List.pairwise_cons.1 hm
    have e : a = b := by
      rcases List.mem_cons.1 ((h a).1 List.mem_cons_self) with e | h1
      · exact e
      · rcases List.mem_cons.1 ((h b).2 List.mem_cons_self) with e | h2
        · exact e.symm
        · have := ltB_asymm (hb a h1)
          rw [ha b h2] at this; cases this
    subst e
    have na : a ∉ l := (List.nodup_cons.1 (AscL.nodup hl)).1
    have nb : a ∉ m := (List.nodup_cons.1 (AscL.nodup hm)).1
    rw [asc_unique l m hl' hm' (fun y => ?_)]
    have := h y
    simp only [List.mem_cons] at this
    constructor
    · intro hy
      rcases this.1 (.inr hy) with e | h'
      · rw [e] at hy; exact absurd hy na
      · exact h'
    · intro hy
      rcases this.2 (.inr hy) with e | h'
      · rw [e] at hy; exact absurd hy nb
      · exact h'
theorem both_memI : ∀ (b a : List ByteArray) (y : ByteArray), y ∈ bothL a b ↔ y ∈ a ∨ y ∈ b
  | [], a, y => by simp [bothL]
  | x :: b, a, y => by
    have e : bothL a (x :: b) = bothL (insR a x) b := rfl
    rw [e, both_memI b (insR a x) y, ins_mem, List.mem_cons]
    constructor
    · rintro ((h | h) | h)
      · exact .inl h
      · exact .inr (.inl h)
      · exact .inr (.inr h)
    · rintro (h | h | h)
      · exact .inl (.inl h)
      · exact .inl (.inr h)
      · exact .inr h
theorem both_asc : ∀ (b a : List ByteArray), AscL a → AscL (bothL a b)
  | [], _, h => h
  | x :: b, a, h => both_asc b (insR a x) (ins_asc a x h)
theorem of_asc (p : DRecPhase) : AscL (ofL p) := by
  unfold ofL
  split
  · exact ins_asc _ _ (List.pairwise_singleton _ _)
  · exact List.pairwise_singleton _ _
def ownL (kd : Int) (a b : ByteArray) : List ByteArray := if kd = 2 then [a, b] else [a]
theorem own_mem (p : DRecPhase) (y : ByteArray) : y ∈ ownL p.2.1 p.2.2.1 p.2.2.2.1 ↔ y ∈ ofL p := by
  unfold ownL ofL
  split
  · rw [ins_mem]; simp
  · simp
theorem slt_asc (r : List DRecPhase) : ∀ (n : Nat) (x : ByteArray), AscL (sltF n r x)
  | 0, x => List.Pairwise.nil
  | n + 1, x => by
    unfold sltF
    split
    · exact List.Pairwise.nil
    · exact both_asc _ _ (both_asc _ _ (of_asc _))
theorem slt_fuel {r : List DRecPhase} (h : RecP r) : ∀ (n m : Nat) (x : ByteArray), (∀ k : Nat, atI r x = (k : Int) → r.length ≤ k + n) → (∀ k : Nat, atI r x = (k : Int) → r.length ≤ k + m) → sltF n r x = sltF m r x
  | 0, m, x, h1, h2 => by
    rcases at_cases r x with e | ⟨k, hk, e, _⟩
    · cases m with
      | zero => rfl
      | succ m => simp [sltF, e]
    · have := h1 k e; omega
  | n + 1, 0, x, h1, h2 => by
    rcases at_cases r x with e | ⟨k, hk, e, _⟩
    · simp [sltF, e]
    · have := h2 k e; omega
  | n + 1, m + 1, x, h1, h2 => by
    rcases at_cases r x with e | ⟨k, hk, e, _⟩
    · simp [sltF, e]
    · have hx : ¬ (atI r x < 0) := by omega
      simp only [sltF, if_neg hx]
      have hs := step_of h hk
      rw [← ph_at hk e] at hs
      have g1 := h1 k e
      have g2 := h2 k e
      rw [slt_fuel h n m _ (fun j hj => by have := go_next h hs.2.1 j hj; omega) (fun j hj => by have := go_next h hs.2.1 j hj; omega),
        slt_fuel h n m _ (fun j hj => by have := go_next h hs.2.2 j hj; omega) (fun j hj => by have := go_next h hs.2.2 j hj; omega)]
theorem slt_none {r : List DRecPhase} {x : ByteArray} (e : atI r x = -1) (n : Nat) : sltF n r x = [] := by
  cases n with
  | zero => rfl
  | succ n => simp [sltF, e]
theorem slt_succ {r : List DRecPhase} {x : ByteArray} (n : Nat) (h : ¬ (atI r x < 0)) : sltF (n + 1) r x = bothL (bothL (ofL (phX r x)) (sltF n r (phX r x).2.2.2.2.2.2.1)) (sltF n r (phX r x).2.2.2.2.2.2.2) := by simp only [sltF, if_neg h]
theorem slt_at {r : List DRecPhase} (h : RecP r) {x : ByteArray} {k : Nat} (hk : k < r.length) (e : atI r x = (k : Int)) (n : Nat) : sltF (n + 1) r x = sltF (n + 1) r r[k].1 := by
  have e2 := at_self h hk
  rw [slt_succ n (by omega), slt_succ n (by omega), ph_at hk e, ph_at hk e2]
theorem slt_step {r : List DRecPhase} (h : RecP r) {i : Nat} (hi : i < r.length) : sltF 12 r r[i].1 = bothL (bothL (sltF 12 r r[i].2.2.2.2.2.2.1) (sltF 12 r r[i].2.2.2.2.2.2.2)) (ownL r[i].2.1 r[i].2.2.1 r[i].2.2.2.1) := by
  have e := at_self h hi
  have hx : ¬ (atI r r[i].1 < 0) := by omega
  have hs := step_of h hi
  have h12 := h.1.2
  have e1 := slt_succ 11 hx
  rw [ph_at hi e] at e1
  refine e1.trans ?_
  rw [slt_fuel h 11 12 _ (fun j hj => by have := go_next h hs.2.1 j hj; omega) (fun j _ => by omega), slt_fuel h 11 12 _ (fun j hj => by have := go_next h hs.2.2 j hj; omega) (fun j _ => by omega)]
  refine asc_unique _ _ (both_asc _ _ (both_asc _ _ (of_asc _))) (both_asc _ _ (both_asc _ _ (slt_asc r 12 _))) (fun y => ?_)
  rw [both_memI, both_memI, both_memI, both_memI, own_mem]
  constructor
  · rintro ((h | h) | h)
    · exact .inr h
    · exact .inl (.inl h)
    · exact .inl (.inr h)
  · rintro ((h | h) | h)
    · exact .inl (.inr h)
    · exact .inr h
    · exact .inl (.inl h)
theorem asc_mono {l : List ByteArray} (h : AscL l) (x : ByteArray) : ∀ p q (hq : q < l.length) (hpq : p ≤ q), ltB l[q] x = true → ltB (l[p]'(by omega)) x = true := fun p q hq hpq hx => by
  by_cases e : p = q
  · subst e; exact hx
  · exact ltB_trans ((List.pairwise_iff_getElem.1 h) p q (by omega) hq (by omega)) hx
theorem kind_of {p : DRecPhase} (h : phaseB p = true) : p.2.1 = 1 ∨ p.2.1 = 2 ∨ p.2.1 = 3 ∨ p.2.1 = 4 ∨ p.2.1 = 5 := by
  simp only [phaseB, Bool.and_eq_true] at h
  have ha := h.1.1.2
  unfold argsB at ha
  repeat' split at ha
  all_goals (first | omega | (cases ha))
theorem nth_is {l : List ByteArray} {i : Nat} (h : i < l.length) : nthB l i = l[i] := by simp [nthB, h]
end Go.Proofs.YtobchllaopdchacGreat

namespace Go.Proofs.YtobchllaopdchacGreat
open Go.RowKit
def cmpB (a b : ByteArray) : Int := Lib.compareBytes a.data.toList b.data.toList
theorem cmp_list : ∀ a b : List UInt8, (Lib.compareBytes a b < 0 ↔ Op.bytesLess a b = true) ∧ (Lib.compareBytes a b = 0 ↔ a = b)
  | [], [] => by simp [Lib.compareBytes, Op.bytesLess]
  | [], _ :: _ => by simp [Lib.compareBytes, Op.bytesLess]
  | _ :: _, [] => by simp [Lib.compareBytes, Op.bytesLess]
  | x :: a, y :: b => by
    obtain ⟨h1, h2⟩ := cmp_list a b
    unfold Lib.compareBytes Op.bytesLess
    by_cases hxy : x = y
    · subst hxy
      have hlt : ¬ x < x := UInt8.lt_irrefl x
      simp [hlt, h1, h2]
    · by_cases hlt : x < y
      · simp [hlt, hxy]
      · have hgt : y < x := UInt8.lt_of_le_of_ne (UInt8.not_lt.1 hlt) (Ne.symm hxy)
        simp [hlt, hgt, hxy]
theorem cmpB_lt (a b : ByteArray) : cmpB a b < 0 ↔ ltB a b = true := by
  rw [cmpB, ltB, ByteArray.toList_eq, ByteArray.toList_eq]; exact (cmp_list _ _).1
theorem cmpB_eq (a b : ByteArray) : cmpB a b = 0 ↔ eqB a b = true := by
  rw [cmpB, eqB, ByteArray.toList_eq, ByteArray.toList_eq, beq_iff_eq]; exact (cmp_list _ _).2
theorem cmpB_ge (a b : ByteArray) : decide (0 ≤ cmpB a b) = !ltB a b := by
  rw [Bool.eq_iff_iff]
  have := cmpB_lt a b
  cases h : ltB a b <;> simp [h] at this ⊢ <;> omega
set_option maxRecDepth 100000 in
set_option maxHeartbeats 1000000 in
theorem cmpS0_any (a b : ByteArray) (w : World) : Calls Tryz.prog 193 #[.string a, .string b] w fun e w' => e = .returned (.int .i64 (cmpB a b)) ∧ w' = w := by
  go_enter Tryz.func193, Tryz.ntmps193
  go_wp2
  rw [run_callFunc_extern Tryz.func205 (by kernel_rfl) (by kernel_rfl) (by kernel_rfl) (e := Extern.BytealgCompare.compare) (by kernel_rfl), Lib.run_compareString]
  simp only [Result.andThen]
  rw [Oper.upon_value]
  go_wp2
  go_ret
  exact ⟨rfl, rfl⟩
set_option maxRecDepth 100000 in
set_option maxHeartbeats 1000000 in
theorem cmpS_any (a b : ByteArray) (w : World) : Calls Tryz.prog 164 #[.string a, .string b] w fun e w' => e = .returned (.int .i64 (cmpB a b)) ∧ w' = w := by
  go_enter Tryz.func164, Tryz.ntmps164
  go_wp2_with (go_at_call 193; refine (cmpS0_any _ _ _).mono ?_; rintro e w1 ⟨rfl, rfl⟩)
  go_ret
  exact ⟨rfl, rfl⟩
theorem eqB_comm (a b : ByteArray) : eqB a b = eqB b a := by
  simp only [eqB]; rw [Bool.eq_iff_iff, beq_iff_eq, beq_iff_eq]; exact eq_comm
end Go.Proofs.YtobchllaopdchacGreat

namespace Go.Proofs.YtobchllaopdchacGreat
open Go.RowKit
structure But (S : Nat → Prop) (w w' : World) : Prop where
  os : w'.os = w.os
  tape : w'.tape = w.tape
  output : w'.output = w.output
  size : w.heap.size ≤ w'.heap.size
  block : ∀ b, b < w.heap.size → ¬ S b → w'.heap[b]? = w.heap[b]?
theorem But.refl (S : Nat → Prop) (w : World) : But S w w := ⟨rfl, rfl, rfl, Nat.le_refl _, fun _ _ _ => rfl⟩
theorem But.trans {S : Nat → Prop} {a b c : World} (h : But S a b) (k : But S b c) : But S a c :=
  ⟨k.os.trans h.os, k.tape.trans h.tape, k.output.trans h.output, Nat.le_trans h.size k.size, fun i hi hn => (k.block i (Nat.lt_of_lt_of_le hi h.size) hn).trans (h.block i hi hn)⟩
theorem But.of_below {S : Nat → Prop} {w w' : World} (h : Below w.heap.size w w') : But S w w' := ⟨h.os, h.tape, h.output, h.size, fun b hb _ => h.block b hb⟩
theorem But.up {S S' : Nat → Prop} {w w' : World} (h : But S w w') (e : ∀ b, S b → S' b) : But S' w w' := ⟨h.os, h.tape, h.output, h.size, fun b hb hn => h.block b hb (fun hs => hn (e b hs))⟩
theorem But.below {S : Nat → Prop} {B : Nat} {w w' : World} (h : But S w w') (hS : ∀ b, S b → B ≤ b) (hB : B ≤ w.heap.size) : Below B w w' := ⟨h.os, h.tape, h.output, h.size, fun b hb => h.block b (by omega) (fun hs => by have := hS b hs; omega)⟩
theorem But.of_low {S : Nat → Prop} {B : Nat} {w w' : World} (h : Below B w w') (hB : ∀ b, b < w.heap.size → ¬ S b → w'.heap[b]? = w.heap[b]?) : But S w w' := ⟨h.os, h.tape, h.output, h.size, hB⟩
theorem But.set {S : Nat → Prop} {a w : World} (h : But S a w) {g : Nat} (hg : S g) (i : Nat) (x : Value) : But S a (w.setCell ⟨g, i, none⟩ x) := by
  have hb := (Below.refl g w).setCell (p := ⟨g, i, none⟩) (Nat.le_refl _) x
  exact h.trans (But.of_low hb (fun b _ hn => Below.heap_setCell w _ x b (fun e => hn (by have : b = g := e; rw [this]; exact hg))))
theorem But.same {S T : Nat → Prop} {w w' : World} (h : But S w w') (hT : ∀ b, T b → b < w.heap.size ∧ ¬ S b) : Same T w w' := fun b hb => h.block b (hT b hb).1 (hT b hb).2
def dgO : Nat → Int → ByteArray → ByteArray
  | 0, _, t => t
  | n + 1, k, t => if 0 < k then dgO n (k / 10) (⟨#[UInt8.ofNat (48 + k % 10).toNat]⟩ ++ t) else t
def mkO (k : Int) : ByteArray := ⟨#[109]⟩ ++ dgO 20 k ⟨#[]⟩
class Own (α : Type) extends Lay α where
  On : (Nat → Prop) → World → α → (Nat → Value) → Prop
  cnt : α → Nat
  mkD : Int → α → α
  on_at : ∀ {S : Nat → Prop} {w : World} {a : α} {c : Nat → Value}, On S w a c → Lay.At S w a c
  on_same : ∀ {S : Nat → Prop} {w w' : World} {a : α} {c : Nat → Value}, On S w a c → Same S w w' → On S w' a c
  on_up : ∀ {S S' : Nat → Prop} {w : World} {a : α} {c : Nat → Value}, On S w a c → (∀ b, S b → S' b) → On S' w a c
  on_ext : ∀ {S : Nat → Prop} {w : World} {a : α} {c c' : Nat → Value}, On S w a c → (∀ j, j < width → c' j = c j) → On S w a c'
instance : Own ByteArray where
  On := fun S w a c => Lay.At S w a c
  cnt := fun _ => 1
  mkD := fun k _ => mkO k
  on_at := fun h => h
  on_same := fun h e => Lay.same h e
  on_up := fun h e => Lay.up h e
  on_ext := fun h e => Lay.ext h e
instance : Own Int where
  On := fun S w a c => Lay.At S w a c
  cnt := fun _ => 1
  mkD := fun k _ => k
  on_at := fun h => h
  on_same := fun h e => Lay.same h e
  on_up := fun h e => Lay.up h e
  on_ext := fun h e => Lay.ext h e
instance {α β : Type} [Own α] [Own β] : Own (α × β) where
  On := fun S w a c => ∃ S1 S2 : Nat → Prop, (∀ b, S1 b → S b ∧ ¬ S2 b) ∧ (∀ b, S2 b → S b) ∧ Own.On S1 w a.1 c ∧ Own.On S2 w a.2 (fun j => c (Lay.width α + j))
  cnt := fun a => Own.cnt a.1 + Own.cnt a.2
  mkD := fun k a => (Own.mkD k a.1, Own.mkD (k + Own.cnt a.1) a.2)
  on_at := fun ⟨_, _, h1, h2, ha, hb⟩ => ⟨Lay.up (Own.on_at ha) (fun b hb => (h1 b hb).1), Lay.up (Own.on_at hb) h2⟩
  on_same := fun ⟨S1, S2, h1, h2, ha, hb⟩ e => ⟨S1, S2, h1, h2, Own.on_same ha (fun b hb => e b (h1 b hb).1), Own.on_same hb (fun b hb => e b (h2 b hb))⟩
  on_up := fun ⟨S1, S2, h1, h2, ha, hb⟩ e => ⟨S1, S2, fun b hb => ⟨e b (h1 b hb).1, (h1 b hb).2⟩, fun b hb => e b (h2 b hb), ha, hb⟩
  on_ext := fun ⟨S1, S2, h1, h2, ha, hb⟩ e => ⟨S1, S2, h1, h2, Own.on_ext ha (fun j hj => e j (by show j < Lay.width _ + Lay.width _; omega)), Own.on_ext hb (fun j hj => e _ (by show _ < Lay.width _ + Lay.width _; omega))⟩
structure Els {α : Type} [Own α] (S : Nat → Prop) (w : World) (g off : Nat) (Ss : Nat → Nat → Prop) (cur : Array Value) (t : TypeId) (n : Nat) (f : Nat → α) : Prop where
  row : w.heap[g]? = some (.cells cur t (0, 0))
  own : S g
  sub : ∀ i b, Ss i b → S b ∧ b ≠ g
  dis : ∀ i j b, Ss i b → Ss j b → i = j
  el : ∀ i, i < n → ∃ c : Nat → Value, (∀ j, j < Lay.width α → cur[off + i * Lay.width α + j]? = some (c j)) ∧ Own.On (Ss i) w (f i) c
def OnL {α : Type} [Own α] (S : Nat → Prop) (w : World) (l : List α) (v : Value) : Prop :=
  ∃ oa cap, v = .slice oa l.length cap ∧ (l.length ≤ maxLen ∧ l.length ≤ cap ∧ Hid (oa = none → cap = 0)) ∧ (l = [] ∨ ∃ g off Ss cur t, oa = some ⟨g, off, none⟩ ∧ ∃ f : Nat → α, (∀ i (h : i < l.length), f i = l[i]) ∧ Els S w g off Ss cur t l.length f)
section
variable {α : Type} [Own α]
theorem Els.same {S : Nat → Prop} {w w' : World} {g off : Nat} {Ss : Nat → Nat → Prop} {cur : Array Value} {t : TypeId} {n : Nat} {f : Nat → α} (h : Els S w g off Ss cur t n f) (e : Same S w w') : Els S w' g off Ss cur t n f :=
  ⟨(e g h.own).trans h.row, h.own, h.sub, h.dis, fun i hi => by
    obtain ⟨c, h1, h2⟩ := h.el i hi
    exact ⟨c, h1, Own.on_same h2 (fun b hb => e b (h.sub i b hb).1)⟩⟩
theorem Els.up {S S' : Nat → Prop} {w : World} {g off : Nat} {Ss : Nat → Nat → Prop} {cur : Array Value} {t : TypeId} {n : Nat} {f : Nat → α} (h : Els S w g off Ss cur t n f) (e : ∀ b, S b → S' b) : Els S' w g off Ss cur t n f :=
  ⟨h.row, e g h.own, fun i b hb => ⟨e b (h.sub i b hb).1, (h.sub i b hb).2⟩, h.dis, h.el⟩
theorem OnL.same {S : Nat → Prop} {w w' : World} {l : List α} {v : Value} (h : OnL S w l v) (e : Same S w w') : OnL S w' l v := by
  obtain ⟨oa, cap, hv, hn, h⟩ := h
  refine ⟨oa, cap, hv, hn, h.imp id ?_⟩
  rintro ⟨g, off, Ss, cur, t, ho, f, hf, h⟩
  exact ⟨g, off, Ss, cur, t, ho, f, hf, h.same e⟩
theorem OnL.up {S S' : Nat → Prop} {w : World} {l : List α} {v : Value} (h : OnL S w l v) (e : ∀ b, S b → S' b) : OnL S' w l v := by
  obtain ⟨oa, cap, hv, hn, h⟩ := h
  refine ⟨oa, cap, hv, hn, h.imp id ?_⟩
  rintro ⟨g, off, Ss, cur, t, ho, f, hf, h⟩
  exact ⟨g, off, Ss, cur, t, ho, f, hf, h.up e⟩
theorem OnL.at_ {S : Nat → Prop} {w : World} {l : List α} {v : Value} (h : OnL S w l v) : AtL S w l v := by
  obtain ⟨oa, cap, hv, hn, h⟩ := h
  refine ⟨oa, cap, hv, hn, fun i hi => ?_⟩
  rcases h with h | ⟨g, off, Ss, cur, t, ho, f, hf, h⟩
  · subst h; exact absurd hi (Nat.not_lt_zero _)
  · obtain ⟨c, h1, h2⟩ := h.el i hi
    refine ⟨g, off, ho, h.own, c, fun j hj => (cell_row h.row _ _ (h1 j hj)).1, ?_⟩
    rw [← hf i hi]
    exact Lay.up (Own.on_at h2) (fun b hb => (h.sub i b hb).1)
def cntTo (l : List α) (k : Nat) : Nat := ((l.take k).map Own.cnt).sum
def cntL (l : List α) : Nat := cntTo l l.length
def mkL : Int → List α → List α
  | _, [] => []
  | k, x :: l => Own.mkD k x :: mkL (k + Own.cnt x) l
end
instance {α : Type} [Own α] : Own (List α) where
  On := fun S w l c => OnL S w l (c 0)
  cnt := cntL
  mkD := mkL
  on_at := fun h => OnL.at_ h
  on_same := fun h e => OnL.same h e
  on_up := fun h e => OnL.up h e
  on_ext := fun h e => by rw [e 0 (Nat.zero_lt_one)]; exact h
end Go.Proofs.YtobchllaopdchacGreat

namespace Go.Proofs.YtobchllaopdchacGreat
open Go.RowKit
section
variable {α : Type}
def enc (k : Nat) (e : α → Nat → Value) (l : List α) : List Value := l.flatMap fun a => (List.range k).map (e a)
theorem enc_nil (k : Nat) (e : α → Nat → Value) : enc k e [] = [] := rfl
theorem enc_cons (k : Nat) (e : α → Nat → Value) (a : α) (l : List α) : enc k e (a :: l) = (List.range k).map (e a) ++ enc k e l := by simp [enc]
theorem enc_append (k : Nat) (e : α → Nat → Value) (l m : List α) : enc k e (l ++ m) = enc k e l ++ enc k e m := by simp [enc]
theorem enc_at (k : Nat) (e : α → Nat → Value) : ∀ (l : List α) (i : Nat) (h : i < l.length) (j : Nat), j < k → (enc k e l)[i * k + j]? = some (e l[i] j)
  | [], i, h, _, _ => absurd h (Nat.not_lt_zero _)
  | a :: l, 0, h, j, hj => by
    rw [enc_cons, Nat.zero_mul, Nat.zero_add, List.getElem?_append_left (by simpa using hj)]
    simp [hj]
  | a :: l, i + 1, h, j, hj => by
    rw [enc_cons, List.getElem?_append_right (by simp [Nat.add_mul]; omega)]
    have e1 : (i + 1) * k + j - ((List.range k).map (e a)).length = i * k + j := by simp [Nat.add_mul]; omega
    rw [e1, enc_at k e l i (by simpa using h) j hj]
    simp
theorem enc_take (k : Nat) (e : α → Nat → Value) : ∀ (l : List α) (i : Nat), (enc k e l).take (i * k) = enc k e (l.take i)
  | [], i => by simp [enc]
  | a :: l, 0 => by simp [enc]
  | a :: l, i + 1 => by
    rw [enc_cons, List.take_succ_cons, enc_cons, List.take_append]
    have e1 : (i + 1) * k - ((List.range k).map (e a)).length = i * k := by simp [Nat.add_mul]
    rw [e1, enc_take k e l i, List.take_of_length_le (by simp [Nat.add_mul])]
theorem enc_drop (k : Nat) (e : α → Nat → Value) : ∀ (l : List α) (i : Nat), (enc k e l).drop (i * k) = enc k e (l.drop i)
  | [], i => by simp [enc]
  | a :: l, 0 => by simp [enc]
  | a :: l, i + 1 => by
    rw [enc_cons, List.drop_succ_cons, List.drop_append]
    have e1 : (i + 1) * k - ((List.range k).map (e a)).length = i * k := by simp [Nat.add_mul]
    rw [e1, enc_drop k e l i, List.drop_of_length_le (by simp [Nat.add_mul]), List.nil_append]
theorem enc_mem {k : Nat} {e : α → Nat → Value} {l : List α} {u : Value} (h : u ∈ enc k e l) : ∃ a ∈ l, ∃ j, j < k ∧ u = e a j := by
  simp only [enc, List.mem_flatMap, List.mem_map, List.mem_range] at h
  obtain ⟨a, ha, j, hj, rfl⟩ := h
  exact ⟨a, ha, j, hj, rfl⟩
theorem enc_set (k : Nat) (e : α → Nat → Value) : ∀ (l : List α) (i : Nat) (h : i < l.length) (j : Nat), j < k → ∀ (u : Value) (a' : α), (∀ q, q < k → e a' q = if q = j then u else e l[i] q) → (enc k e l).set (i * k + j) u = enc k e (l.set i a')
  | [], i, h, _, _, _, _, _ => absurd h (Nat.not_lt_zero _)
  | a :: l, 0, h, j, hj, u, a', he => by
    rw [List.set_cons_zero, enc_cons, enc_cons, Nat.zero_mul, Nat.zero_add, List.set_append_left _ _ (by simpa using hj)]
    congr 1
    apply List.ext_getElem
    · simp
    · intro q h1 h2
      have hq : q < k := by simpa using h2
      simp only [List.getElem_set, List.getElem_map, List.getElem_range]
      rw [he q hq]
      by_cases e1 : j = q
      · rw [if_pos e1, if_pos e1.symm]
      · rw [if_neg e1, if_neg (fun h => e1 h.symm)]; rfl
  | a :: l, i + 1, h, j, hj, u, a', he => by
    rw [List.set_cons_succ, enc_cons, enc_cons, List.set_append_right _ _ (by simp [Nat.add_mul]; omega)]
    have e1 : (i + 1) * k + j - ((List.range k).map (e a)).length = i * k + j := by simp [Nat.add_mul]; omega
    rw [e1, enc_set k e l i (by simpa using h) j hj u a' (by simpa using he)]
abbrev Row (w : World) (B : Nat) (t : TypeId) (k : Nat) (e : α → Nat → Value) (v : Value) (l : List α) : Prop := w.ownsRow B t k v l.length (enc k e l)
theorem Row.nil (w : World) (B : Nat) (t : TypeId) (k : Nat) (e : α → Nat → Value) : Row w B t k e (.slice none 0 0) [] := World.ownsRow_nil w B t k
theorem Row.made (w : World) {B : Nat} (t : TypeId) (k : Nat) (e : α → Nat → Value) (hB : B ≤ w.heap.size) : Row (w.alloc (.cells #[] t)) B t k e (.slice (some ⟨w.heap.size, 0, none⟩) 0 0) [] := World.ownsRow_made w #[] 0 hB (Nat.zero_le _) (by simp)
theorem Row.low {w : World} {B B' : Nat} {t : TypeId} {k : Nat} {e : α → Nat → Value} {v : Value} {l : List α} (h : Row w B t k e v l) (hB : B' ≤ B) : Row w B' t k e v l := Go.Joins.ownsRow_le h hB
theorem Row.len {w : World} {B : Nat} {t : TypeId} {k : Nat} {e : α → Nat → Value} {v : Value} {l : List α} (h : Row w B t k e v l) : l.length ≤ maxLen := by
  rcases h.2 with ⟨_, hn⟩ | ⟨g, cap, cur, _, _, _, hc, hm, _⟩
  · omega
  · omega
theorem Row.block {w w' : World} {B : Nat} {t : TypeId} {k : Nat} {e : α → Nat → Value} {v : Value} {l : List α} (h : Row w B t k e v l) (hb : ∀ g, v.ownBlock = some g → w'.heap[g]? = w.heap[g]?) : Row w' B t k e v l := by
  refine ⟨h.1, ?_⟩
  rcases h.2 with hn | ⟨g, cap, cur, hv, hbg, hg, rest⟩
  · exact Or.inl hn
  · exact Or.inr ⟨g, cap, cur, hv, hbg, (hb g (by rw [hv]; rfl)).trans hg, rest⟩
theorem Row.form {w : World} {B : Nat} {t : TypeId} {k : Nat} {e : α → Nat → Value} {v : Value} {l : List α} (h : Row w B t k e v l) : ∃ oa cap, v = .slice oa l.length cap := by
  rcases h.2 with ⟨hv, hn⟩ | ⟨g, cap, cur, hv, _⟩
  · exact ⟨none, 0, by rw [hv, hn]⟩
  · exact ⟨_, cap, hv⟩
theorem Row.below {w w' : World} {B : Nat} {t : TypeId} {k : Nat} {e : α → Nat → Value} {v : Value} {l : List α} (h : Row w B t k e v l) (hb : Below w.heap.size w w') : Row w' B t k e v l :=
  Row.block h (fun g hg => hb.block g (World.ownsRow.lt h g hg).2)
theorem Row.typed {w : World} {B : Nat} {t : TypeId} {k : Nat} {e : α → Nat → Value} {v : Value} {l : List α} (h : Row w B t k e v l) (g : Nat) (hg : v.ownBlock = some g) : ∃ cur, w.heap[g]? = some (.cells cur t (0, 0)) := by
  rcases h.2 with ⟨rfl, _⟩ | ⟨g', cap, cur, rfl, _, hgg, _⟩
  · cases hg
  · cases hg; exact ⟨cur, hgg⟩
theorem Row.apart {β : Type} {w : World} {B B' : Nat} {t t' : TypeId} {k k' : Nat} {e : α → Nat → Value} {e' : β → Nat → Value} {v v' : Value} {l : List α} {l' : List β} (h : Row w B t k e v l) (h' : Row w B' t' k' e' v' l') (ht : t ≠ t') : v.ownBlock = none ∨ v.ownBlock ≠ v'.ownBlock := by
  cases hv : v.ownBlock with
  | none => exact .inl rfl
  | some g =>
    refine .inr fun e => ?_
    obtain ⟨c, hc⟩ := Row.typed h g hv
    obtain ⟨c', hc'⟩ := Row.typed h' g e.symm
    rw [hc] at hc'
    exact ht (by injection hc' with h1; injection h1)
theorem Row.cell {w : World} {B : Nat} {t : TypeId} {k : Nat} {e : α → Nat → Value} {v : Value} {l : List α} (h : Row w B t k e v l) {i : Nat} (hi : i < l.length) : ∃ g cap, v = .slice (some ⟨g, 0, none⟩) l.length cap ∧ B ≤ g ∧ g < w.heap.size ∧ ∀ j, j < k → w.cell? ⟨g, i * k + j, none⟩ = some (e l[i] j) ∧ w.frozen? ⟨g, i * k + j, none⟩ = false := by
  rcases h.2 with ⟨_, hn⟩ | ⟨g, cap, cur, rfl, hb, hg, hc, hm', hs, ht⟩
  · omega
  · refine ⟨g, cap, rfl, hb, (Array.getElem?_eq_some_iff.1 hg).1, fun j hj => cell_row hg _ _ ?_⟩
    have e1 := enc_at k e l i hi j hj
    rw [← ht, List.getElem?_take_of_lt (by have : (i + 1) * k ≤ l.length * k := Nat.mul_le_mul_right _ hi; rw [Nat.add_mul, Nat.one_mul] at this; omega)] at e1
    rw [← Array.getElem?_toList]; exact e1
theorem Row.put {w : World} {B : Nat} {t : TypeId} {k : Nat} {e : α → Nat → Value} {g cap : Nat} {l : List α} (h : Row w B t k e (.slice (some ⟨g, 0, none⟩) l.length cap) l) {i : Nat} (hi : i < l.length) {j : Nat} (hj : j < k) (u : Value) (a' : α) (he : ∀ q, q < k → e a' q = if q = j then u else e l[i] q) :
    Row (w.setCell ⟨g, i * k + j, none⟩ u) B t k e (.slice (some ⟨g, 0, none⟩) l.length cap) (l.set i a') ∧ w.grownBy (w.setCell ⟨g, i * k + j, none⟩ u) (some g) := by
  obtain ⟨h1, h2⟩ := World.ownsRow.stored h (i * k + j) u
  rw [enc_set k e l i hi j hj u a' he] at h1
  refine ⟨?_, h2⟩
  show World.ownsRow _ _ _ _ _ _ _
  rw [List.length_set]; exact h1
end
theorem Row.at_ {α β : Type} [Lay β] {w : World} {B : Nat} {t : TypeId} {k : Nat} {e : α → Nat → Value} {v : Value} {l : List α} (h : Row w B t k e v l) (d : α → β) (hk : Lay.width β = k) {S : Nat → Prop} (hS : ∀ g, v.ownBlock = some g → S g) (hat : ∀ x ∈ l, Lay.At S w (d x) (e x)) : AtL S w (l.map d) v := by
  have hlen := Row.len h
  rcases h.2 with ⟨rfl, hn⟩ | ⟨g, cap, cur, rfl, hb, hg, hc, hm', hs, ht⟩
  · have : l = [] := List.eq_nil_of_length_eq_zero hn
    subst this
    exact ⟨none, 0, rfl, ⟨Nat.zero_le _, Nat.le_refl _, fun _ => rfl⟩, fun i hi => absurd hi (Nat.not_lt_zero _)⟩
  · refine ⟨some ⟨g, 0, none⟩, cap, by rw [List.length_map], ⟨by rw [List.length_map]; exact hlen, by rw [List.length_map]; exact hc, fun h => nomatch h⟩, fun i hi => ?_⟩
    rw [List.length_map] at hi
    refine ⟨g, 0, rfl, hS g rfl, e l[i], fun j hj => ?_, by rw [List.getElem_map]; exact hat _ (List.getElem_mem hi)⟩
    rw [hk] at hj ⊢
    obtain ⟨g', cap', hv, _, _, hcell⟩ := Row.cell (α := α) (l := l) (e := e) h hi
    cases hv
    have := (hcell j hj).1
    rw [Nat.zero_add]; exact this
theorem Row.on {α β : Type} [Own β] {w : World} {B : Nat} {t : TypeId} {k : Nat} {e : α → Nat → Value} {v : Value} {l : List α} (h : Row w B t k e v l) (d : α → β) (hk : Lay.width β = k) {S : Nat → Prop} (hS : ∀ g, v.ownBlock = some g → S g) (Ss : Nat → Nat → Prop) (sub : ∀ i b, Ss i b → S b ∧ v.ownBlock ≠ some b) (dis : ∀ i j b, Ss i b → Ss j b → i = j) (hon : ∀ i (h : i < l.length), Own.On (Ss i) w (d l[i]) (e l[i])) : OnL S w (l.map d) v := by
  have hlen := Row.len h
  rcases h.2 with ⟨rfl, hn⟩ | ⟨g, cap, cur, rfl, hb, hg, hc, hm', hs, ht⟩
  · have : l = [] := List.eq_nil_of_length_eq_zero hn
    subst this
    exact ⟨none, 0, rfl, ⟨Nat.zero_le _, Nat.le_refl _, fun _ => rfl⟩, .inl rfl⟩
  · refine ⟨some ⟨g, 0, none⟩, cap, by rw [List.length_map], ⟨by rw [List.length_map]; exact hlen, by rw [List.length_map]; exact hc, fun h => nomatch h⟩, ?_⟩
    cases hl : l with
    | nil => exact .inl rfl
    | cons x0 l0 =>
      refine .inr ⟨g, 0, Ss, cur, t, rfl, fun i => d (l.getD i x0), fun i hi => ?_, ⟨hg, hS g rfl, fun i b hb => ⟨(sub i b hb).1, fun e => (sub i b hb).2 (by rw [e]; rfl)⟩, dis, fun i hi => ?_⟩⟩
      · rw [List.getElem_map]
        congr 1
        rw [List.length_map] at hi
        subst hl
        simp only [List.getD_eq_getElem?_getD, List.getElem?_eq_getElem hi, Option.getD_some]
      · rw [← hl, List.length_map] at hi
        refine ⟨e l[i], fun j hj => ?_, ?_⟩
        · rw [hk] at hj ⊢
          have e1 := enc_at k e l i hi j hj
          rw [← ht, List.getElem?_take_of_lt (by have : (i + 1) * k ≤ l.length * k := Nat.mul_le_mul_right _ hi; rw [Nat.add_mul, Nat.one_mul] at this; omega)] at e1
          rw [Nat.zero_add, ← Array.getElem?_toList]; exact e1
        · have : l.getD i x0 = l[i] := by simp [hi]
          rw [this]; exact hon i hi
structure Flat {α : Type} [Lay α] (k : Nat) (e : α → Nat → Value) (ok : α → Prop) : Prop where
  wid : Lay.width α = k
  cell : ∀ {S : Nat → Prop} {w : World} {a : α} {c : Nat → Value}, Lay.At S w a c → (∀ j, j < k → c j = e a j) ∧ ok a
  at_ : ∀ {S : Nat → Prop} {w : World} {a : α}, ok a → Lay.At S w a (e a)
  one : ∀ (a : α) (j : Nat), (e a j).oneCell' = true
section
variable {α : Type} [Lay α] {k : Nat} {e : α → Nat → Value} {ok : α → Prop}
theorem Flat.enc_one (F : Flat k e ok) (l : List α) : ∀ u ∈ enc k e l, u.oneCell' = true := fun u hu => by
  obtain ⟨a, _, j, _, rfl⟩ := enc_mem hu
  exact F.one a j
theorem Flat.row_at (F : Flat k e ok) {w : World} {B : Nat} {t : TypeId} {v : Value} {l : List α} (h : Row w B t k e v l) {S : Nat → Prop} (hS : ∀ g, v.ownBlock = some g → S g) (hok : ∀ x ∈ l, ok x) : AtL S w l v := by
  have := Row.at_ h id F.wid hS (fun x hx => F.at_ (hok x hx))
  rwa [List.map_id] at this
end
section
variable {P : Program}
theorem run_app {t e : TypeId} {size bytes base n m : Nat} {w : World} {v sv : Value} {xs news : List Value} (T : ElT P t e size bytes) (hown : w.ownsRow base e size v n xs) (hsrc : Src w sv m size news) (h1 : ∀ u ∈ news, u.oneCell' = true) (h63 : n + m ≤ maxLen) (hbytes : (n + m) * bytes ≤ 140737488355328) (hbase : base ≤ w.heap.size) (ty : TypeId) :
    ∃ v' w', (Builtin.append_ #[t, t] ty #[v, sv]).run P w = .ok v' w' ∧ w'.ownsRow base e size v' (n + m) (xs ++ news) ∧ w.grownBy w' v.ownBlock ∧ (v'.ownBlock = v.ownBlock ∨ v'.ownBlock = some w.heap.size) := by
  obtain ⟨i, z, hi, hz, h2, h3, h4⟩ := T.info
  rcases hsrc with ⟨hl, ⟨rfl, rfl⟩ | ⟨ad, c, rfl, hc⟩⟩
  · have hn : news = [] := List.eq_nil_of_length_eq_zero (by simpa using hl)
    subst hn
    have hr := run_append_owned_none (P := P) (w := w) base t ty e i size T.ht hi v n xs hown
    exact ⟨v, w, hr, by simpa using hown, ⟨rfl, rfl, rfl, Nat.le_refl _, fun _ _ _ => rfl⟩, .inl rfl⟩
  · obtain ⟨v', w', hr, q1, q2, _, q3⟩ := run_append_own_at (P := P) (w := w) base t ty e i z size bytes T.ht hi hz h2 h3 h4 T.pos v n xs hown ad m c news hl hc h1 h63 hbytes hbase
    exact ⟨v', w', hr, q1, q2, q3⟩
theorem wpList_app {ops : Array Oper} {rest : List Oper} {o : Oper} {a : Act} {w : World} {Q : Exit → Act → World → Prop} {t e : TypeId} {size bytes base n m : Nat} {v sv : Value} {xs news : List Value} (T : ElT P t e size bytes) (hgd : o.guard = none) (s x : Operand)
    (ho : o.op = .call { callee := .builtin .append, args := #[s, x], argTypes := #[t, t] }) (hs : a.eval s = v) (hx : a.eval x = sv) (hown : w.ownsRow base e size v n xs) (hsrc : Src w sv m size news) (h1 : ∀ u ∈ news, u.oneCell' = true) (h63 : n + m ≤ maxLen) (hbytes : (n + m) * bytes ≤ 140737488355328) (hbase : base ≤ w.heap.size)
    (h : ∀ v' w', w'.ownsRow base e size v' (n + m) (xs ++ news) → w.grownBy w' v.ownBlock → (v'.ownBlock = v.ownBlock ∨ v'.ownBlock = some w.heap.size) → wpList P ops Q rest (a.put o.dst v') w') :
    wpList P ops Q (o :: rest) a w := by
  refine wpList_plain hgd fun K hK => ?_
  obtain ⟨v', w', hr, h2, h3, h4⟩ := run_app (P := P) T hown hsrc h1 h63 hbytes hbase o.type
  unfold Oper.wp execOp
  simp only [ho, resolve, invoke, builtin, Sem.run_bind, Sem.run_pure, Result.andThen_ok, List.map_toArray, List.map_cons, List.map_nil, hs, hx, hr]
  exact hK _ _ (h v' w' h2 h3 h4)
end
def Fresh (w : World) (v r : Value) : Prop := ∀ g, r.ownBlock = some g → v.ownBlock = some g ∨ w.heap.size ≤ g
theorem Fresh.refl (w : World) (v : Value) : Fresh w v v := fun _ h => .inl h
theorem Fresh.trans {w w' : World} {v r s : Value} (h : Fresh w v r) (h' : Fresh w' r s) (hs : w.heap.size ≤ w'.heap.size) : Fresh w v s := fun g hg => by
  rcases h' g hg with h1 | h1
  · exact h g h1
  · exact .inr (Nat.le_trans hs h1)
end Go.Proofs.YtobchllaopdchacGreat

namespace Go.Proofs.YtobchllaopdchacGreat
open Go.RowKit
theorem own_built {base e size k : Nat} {w : World} {c : Array Value} (hb : base ≤ w.heap.size) (hk : k ≤ maxLen) (hc : c.size = k * size) : (w.alloc (.cells c e)).ownsRow base e size (.slice (some ⟨w.heap.size, 0, none⟩) k k) k c.toList :=
  ⟨by simp [hc], .inr ⟨w.heap.size, k, c, rfl, hb, heap_alloc_new w _, Nat.le_refl _, hk, hc, by rw [List.take_of_length_le (by simp [hc])]⟩⟩
def eS (a : ByteArray) (_ : Nat) : Value := .string a
abbrev OkS (a : ByteArray) : Prop := a.size ≤ maxLen
theorem flatS : Flat 1 eS OkS := ⟨rfl, fun h => ⟨fun j hj => by obtain rfl : j = 0 := (by omega); exact h.1, h.2⟩, fun h => ⟨rfl, h⟩, fun _ _ => rfl⟩
theorem infS : (Tryz.prog.info? 9).map (fun i => (i.zero, i.size, i.bytes)) = some (some (.string ByteArray.empty), 1, 16) := by kernel_rfl
theorem elS : ElT Tryz.prog 22 9 1 16 := by
  obtain ⟨i0, hi, hz0, hz1, hz2⟩ := info_parts infS
  exact ⟨by kernel_rfl, ⟨i0, _, hi, hz0, hz1, hz2, rfl⟩, by decide⟩
theorem flat_on {α : Type} [Own α] {k : Nat} {e : α → Nat → Value} {ok : α → Prop} (F : Flat k e ok) (hon : ∀ {w : World} {a : α}, ok a → Own.On (fun _ => False) w a (e a)) {w : World} {B : Nat} {t : TypeId} {v : Value} {l : List α} (h : Row w B t k e v l) {S : Nat → Prop} (hS : ∀ g, v.ownBlock = some g → S g) (hok : ∀ x ∈ l, ok x) : OnL S w l v := by
  have := Row.on h id F.wid hS (fun _ _ => False) (fun _ _ h => h.elim) (fun _ _ _ h => h.elim) (fun i hi => hon (hok _ (List.getElem_mem hi)))
  rwa [List.map_id] at this
theorem onS {w : World} {B : Nat} {t : TypeId} {v : Value} {l : List ByteArray} (h : Row w B t 1 eS v l) {S : Nat → Prop} (hS : ∀ g, v.ownBlock = some g → S g) (hok : ∀ x ∈ l, OkS x) : OnL S w l v := flat_on flatS (fun h => ⟨rfl, h⟩) h hS hok
end Go.Proofs.YtobchllaopdchacGreat

namespace Go.Proofs.YtobchllaopdchacGreat
open Go.RowKit
theorem under172 : Tryz.prog.underlying 261 = some (.pointer 5) := by kernel_rfl
theorem under135' : Tryz.prog.underlying 260 = some (.slice 5) := by kernel_rfl
theorem info5c : (Tryz.prog.info? 5).map (fun i => (i.zero, i.size, i.bytes)) = some (some (.int .u8 0), 1, 1) := by kernel_rfl
set_option maxHeartbeats 4000000 in
set_option maxRecDepth 100000 in
theorem clone_any (s : ByteArray) (w : World) (hlim : s.size ≤ 1048576) :
    Calls Tryz.prog 178 #[.string s] w fun e w' => e = .returned (.string s) ∧ Below w.heap.size w w' := by
  by_cases h0 : s.size = 0
  · have hs : s = ⟨#[]⟩ := by
      apply ByteArray.ext
      exact Array.eq_empty_of_size_eq_zero h0
    subst hs
    go_enter Tryz.func178, Tryz.ntmps178
    go_wp2
    go_ret
    exact ⟨rfl, Below.refl _ _⟩
  · obtain ⟨i0, hi, hz0, hz1, hz2⟩ := info_parts info5c
    have hinfo : (Tryz.prog.info? 5).map (·.size) = some 1 := by rw [hi]; simp [hz1]
    have hco : Tryz.prog.cellsOf 5 = 1 := by simp [Program.cellsOf, hi, hz1]
    obtain ⟨M, hM⟩ : ∃ M, M = madeCells (Value.int .u8 0).cells (((s.size : Nat) : Int).toNat * i0.size) := ⟨_, rfl⟩
    have hMs : M.size = s.size := by rw [hM, size_madeCells, hz1]; simp
    have hmk : ∀ W : World, (Instr.makeSlice 260 (.int .i64 (s.size : Int)) (.int .i64 (s.size : Int))).run Tryz.prog W = .ok (.slice (some ⟨W.heap.size, 0, none⟩) s.size s.size) (W.alloc (.cells M 5)) := fun W => by
      have h := run_make (P := Tryz.prog) W 260 5 i0 (.int .u8 0) under135' hi hz0 .i64 .i64 (s.size : Int) (s.size : Int) (by omega) (by omega) (by rw [hz2]; omega) (by omega)
      rw [← hM] at h
      simpa using h
    clear hM
    have hcp := Lib.run_copy_row_string (P := Tryz.prog) (w.alloc (.cells M 5)) 260 9 3 5 w.heap.size 0 s.size s.size s M 5 under135' hinfo (heap_alloc_new w _) (Nat.le_refl _) (by omega)
    obtain ⟨Y, hY⟩ : ∃ Y, Y = (M.toList.take 0 ++ Lib.byteCells s.data.toList ++ M.toList.drop (0 + s.size)).toArray := ⟨_, rfl⟩
    rw [← hY] at hcp
    have hYl : Y.toList = Lib.byteCells s.data.toList := by
      rw [hY, List.toList_toArray, List.take_zero, List.nil_append, List.drop_of_length_le (by rw [Array.length_toList]; omega), List.append_nil]
    have hYs : Y.size = s.size := by rw [← Array.length_toList, hYl, Lib.byteCells_length, ← Lib.size_eq]
    have hgY : ((w.alloc (.cells M 5)).setRow w.heap.size Y).heap[w.heap.size]? = some (.cells Y 5 (0, 0)) := setRow_heap _ _ M _ 5 (0, 0) (heap_alloc_new w _)
    have hne : s.data.toList ≠ [] := fun e => h0 (by rw [Lib.size_eq, e]; rfl)
    have hUS := Lib.run_unsafeString_row (P := Tryz.prog) ((w.alloc (.cells M 5)).setRow w.heap.size Y) 261 3 9 5 under172 hco w.heap.size Y.size (by unfold World.shape?; rw [hgY]) s.data.toList hne (by rw [← Lib.size_eq]; omega) (by rw [← Lib.size_eq]; omega)
      (fun j x hx => Lib.cells_of_row hgY Y.size j _ (by rw [List.take_of_length_le (by rw [Array.length_toList]; exact Nat.le_refl _), hYl]; simp [Lib.byteCells, hx]))
    rw [← Lib.size_eq] at hUS
    clear hY
    go_enter Tryz.func178, Tryz.ntmps178
    go_wp2
    go_ret
    have hb1 : Below w.heap.size w (w.alloc (.cells M 5)) := (Below.refl _ w).alloc (Nat.le_refl _) _
    have hb2 : Below w.heap.size (w.alloc (.cells M 5)) ((w.alloc (.cells M 5)).setRow w.heap.size Y) := ⟨rfl, rfl, rfl, by simp, fun k hk => setRow_other _ _ _ _ (by omega)⟩
    exact ⟨rfl, Lib.below_freeze (hb1.trans hb2) (p := ⟨w.heap.size, 0, none⟩) (Nat.le_refl _) _⟩
set_option maxRecDepth 100000 in
set_option maxHeartbeats 1000000 in
theorem clones_any (s : ByteArray) (w : World) (hlim : s.size ≤ 1048576) :
    Calls Tryz.prog 140 #[.string s] w fun e w' => e = .returned (.string s) ∧ Below w.heap.size w w' := by
  go_enter Tryz.func140, Tryz.ntmps140
  go_wp2_with (go_at_call 178; refine (clone_any _ _ hlim).mono ?_; rintro e w1 ⟨rfl, hb⟩)
  go_ret
  exact ⟨rfl, hb⟩
end Go.Proofs.YtobchllaopdchacGreat
