/-
  Several texts in one.
-/
import Derived.Test.YtgjcppdeljoimaaKa
import Derived.Test.YtgjcppdeljoimaaM5
import Derived.Lib.Bytealg
import Derived.Lib.Strings
import Derived.Deep.RegionWith
namespace Go.Proofs.Ytgjcppdeljoimaa
open Go.RowKit
def nx (n : Nat) (f : Nat → ByteArray × ByteArray × ByteArray × ByteArray) (x : ByteArray) : List ByteArray := ((List.range n).filter fun i => endB (f i) x).map fun i => behS (f i) x
inductive Rch (n : Nat) (f : Nat → ByteArray × ByteArray × ByteArray × ByteArray) (x : ByteArray) : ByteArray → Prop
  | start : Rch n f x x
  | step {y z : ByteArray} : Rch n f x y → z ∈ nx n f y → Rch n f x z
structure Good (n : Nat) (f : Nat → ByteArray × ByteArray × ByteArray × ByteArray) (x : ByteArray) (L : List ByteArray) : Prop where
  once : L.Nodup
  here : x ∈ L
  only : ∀ y ∈ L, Rch n f x y
  all : ∀ y ∈ L, ∀ z ∈ nx n f y, z ∈ L
def addL (L : List ByteArray) (y : ByteArray) : List ByteArray := bif L.any (fun z => eqB z y) then L else L ++ [y]
def stepL (L ys : List ByteArray) : List ByteArray := ys.foldl addL L
theorem any_mem (L : List ByteArray) (y : ByteArray) : L.any (fun z => eqB z y) = true ↔ y ∈ L := by
  rw [List.any_eq_true]
  constructor
  · rintro ⟨z, hz, he⟩; rw [(eqB_iff _ _).1 he] at hz; exact hz
  · intro h; exact ⟨y, h, eqB_refl y⟩
theorem add_mem (L : List ByteArray) (y z : ByteArray) : z ∈ addL L y ↔ z ∈ L ∨ z = y := by
  unfold addL
  cases h : L.any (fun z => eqB z y)
  · simp
  · rw [cond_true]
    refine ⟨.inl, fun h' => ?_⟩
    rcases h' with h' | rfl
    · exact h'
    · exact (any_mem _ _).1 h
theorem add_nodup {L : List ByteArray} {y : ByteArray} (h : L.Nodup) : (addL L y).Nodup := by
  unfold addL
  cases h' : L.any (fun z => eqB z y)
  · rw [cond_false, List.nodup_append]
    refine ⟨h, by simp, fun a ha b hb => ?_⟩
    simp at hb
    subst hb
    intro e
    subst e
    rw [(any_mem _ _).2 ha] at h'
    cases h'
  · exact h
theorem add_pre (L : List ByteArray) (y : ByteArray) : L <+: addL L y := by
  unfold addL
  cases L.any (fun z => eqB z y)
  · exact List.prefix_append _ _
  · exact List.prefix_refl _
theorem step_mem : ∀ (ys L : List ByteArray) (z : ByteArray), z ∈ stepL L ys ↔ z ∈ L ∨ z ∈ ys
  | [], L, z => by simp [stepL]
  | y :: ys, L, z => by
    have := step_mem ys (addL L y) z
    show z ∈ stepL (addL L y) ys ↔ _
    rw [this, add_mem]
    simp [or_assoc]
theorem step_nodup : ∀ (ys L : List ByteArray), L.Nodup → (stepL L ys).Nodup
  | [], _, h => h
  | _ :: ys, _, h => step_nodup ys _ (add_nodup h)
theorem step_pre : ∀ (ys L : List ByteArray), L <+: stepL L ys
  | [], L => List.prefix_refl L
  | y :: ys, L => (add_pre L y).trans (step_pre ys (addL L y))
structure LI (n : Nat) (f : Nat → ByteArray × ByteArray × ByteArray × ByteArray) (x : ByteArray) (q : Nat) (L : List ByteArray) : Prop where
  once : L.Nodup
  here : x ∈ L
  only : ∀ y ∈ L, Rch n f x y
  gone : ∀ j y, j < q → L[j]? = some y → ∀ z ∈ nx n f y, z ∈ L
theorem LI.first (n : Nat) (f : Nat → ByteArray × ByteArray × ByteArray × ByteArray) (x : ByteArray) : LI n f x 0 [x] :=
  ⟨by simp, by simp, fun y hy => by simp at hy; subst hy; exact .start, fun j y hj => by omega⟩
theorem LI.next {n : Nat} {f : Nat → ByteArray × ByteArray × ByteArray × ByteArray} {x : ByteArray} {q : Nat} {L : List ByteArray} (h : LI n f x q L) {y : ByteArray} (hy : L[q]? = some y) : LI n f x (q + 1) (stepL L (nx n f y)) := by
  have hp := step_pre (nx n f y) L
  refine ⟨step_nodup _ _ h.once, (step_mem _ _ _).2 (.inl h.here), fun z hz => ?_, fun j z hj hz u hu => ?_⟩
  · rcases (step_mem _ _ _).1 hz with hz | hz
    · exact h.only z hz
    · exact .step (h.only y (List.mem_of_getElem? hy)) hz
  · have hq : q < L.length := (List.getElem?_eq_some_iff.1 hy).1
    obtain ⟨t, ht⟩ := hp
    rw [← ht, List.getElem?_append_left (by omega)] at hz
    rw [step_mem]
    by_cases e : j = q
    · subst e
      rw [hy] at hz; cases hz
      exact .inr hu
    · exact .inl (h.gone j z (by omega) hz u hu)
theorem LI.good {n : Nat} {f : Nat → ByteArray × ByteArray × ByteArray × ByteArray} {x : ByteArray} {L : List ByteArray} (h : LI n f x L.length L) : Good n f x L :=
  ⟨h.once, h.here, h.only, fun y hy z hz => by
    obtain ⟨j, hj, e⟩ := List.mem_iff_getElem.1 hy
    exact h.gone j y hj (by rw [List.getElem?_eq_getElem hj, e]) z hz⟩
theorem nodup_le : ∀ (L U : List ByteArray), L.Nodup → (∀ y ∈ L, y ∈ U) → L.length ≤ U.length
  | [], U, _, _ => Nat.zero_le _
  | y :: L, U, h, hs => by
    have hy := hs y List.mem_cons_self
    have hn := List.nodup_cons.1 h
    obtain ⟨A, C, rfl⟩ := List.append_of_mem hy
    have ih := nodup_le L (A ++ C) hn.2 (fun z hz => by
      have := hs z (List.mem_cons_of_mem _ hz)
      rcases List.mem_append.1 this with h1 | h1
      · exact List.mem_append_left _ h1
      · rcases List.mem_cons.1 h1 with h2 | h2
        · exact absurd hz (by rw [h2]; exact hn.1)
        · exact List.mem_append_right _ h2)
    simp at ih ⊢; omega
theorem LI.short {n : Nat} {f : Nat → ByteArray × ByteArray × ByteArray × ByteArray} {x : ByteArray} {q : Nat} {L : List ByteArray} (h : LI n f x q L) : L.length ≤ 1 + (n + n) := by
  have hr : ∀ y, Rch n f x y → y = x ∨ ∃ i, i < n ∧ (y = (f i).2.1 ∨ y = (f i).2.2.1) := by
    intro y hy
    cases hy with
    | start => exact .inl rfl
    | @step u _ _ hz =>
      obtain ⟨i, hi, rfl⟩ := List.mem_map.1 hz
      obtain ⟨hi, he⟩ := List.mem_filter.1 hi
      refine .inr ⟨i, List.mem_range.1 hi, ?_⟩
      unfold behS
      unfold endB at he
      cases h1 : eqB u (f i).2.1
      · rw [h1, Bool.false_or] at he
        rw [he]; exact .inl rfl
      · exact .inr rfl
  have := nodup_le L (x :: ((List.range n).map (fun i => (f i).2.1) ++ (List.range n).map (fun i => (f i).2.2.1))) h.once (fun y hy => by
    rcases hr y (h.only y hy) with rfl | ⟨i, hi, rfl | rfl⟩
    · simp
    · exact List.mem_cons_of_mem _ (List.mem_append_left _ (List.mem_map.2 ⟨i, List.mem_range.2 hi, rfl⟩))
    · exact List.mem_cons_of_mem _ (List.mem_append_right _ (List.mem_map.2 ⟨i, List.mem_range.2 hi, rfl⟩)))
  simp at this
  omega
end Go.Proofs.Ytgjcppdeljoimaa

namespace Go.Proofs.Ytgjcppdeljoimaa
open Go.RowKit
theorem okn_cases (r : Int) : (r < 45 ∧ okn r = false) ∨ (r = 45 ∧ okn r = true) ∨ ((45 < r ∧ r < 48) ∧ okn r = false) ∨ ((48 ≤ r ∧ r ≤ 57) ∧ okn r = true) ∨ ((57 < r ∧ r < 97) ∧ okn r = false) ∨ ((97 ≤ r ∧ r ≤ 122) ∧ okn r = true) ∨ (122 < r ∧ okn r = false) := by
  simp only [okn, decide_eq_true_eq, decide_eq_false_iff_not]; omega
set_option maxHeartbeats 1000000 in
theorem okn_any (r : Int) (w : World) : Calls Try.prog 71 #[.int .i32 r] w fun e w' => e = .returned (.bool (okn r)) ∧ w' = w := by
  rcases okn_cases r with ⟨h, ho⟩ | ⟨h, ho⟩ | ⟨⟨h, h'⟩, ho⟩ | ⟨⟨h, h'⟩, ho⟩ | ⟨⟨h, h'⟩, ho⟩ | ⟨⟨h, h'⟩, ho⟩ | ⟨h, ho⟩
  · have h45 : (r == 45) = false := by simp; omega
    rw [ho]
    go_enter Try.func71, Try.ntmps71
    go_wp2
    go_ret
    exact ⟨rfl, rfl⟩
  · subst h
    rw [ho]
    go_enter Try.func71, Try.ntmps71
    go_wp2
    go_ret
    exact ⟨rfl, rfl⟩
  · have h45 : (r == 45) = false := by simp; omega
    rw [ho]
    go_enter Try.func71, Try.ntmps71
    go_wp2
    go_ret
    exact ⟨rfl, rfl⟩
  · have h45 : (r == 45) = false := by simp; omega
    rw [ho]
    go_enter Try.func71, Try.ntmps71
    go_wp2
    go_ret
    exact ⟨rfl, rfl⟩
  · have h45 : (r == 45) = false := by simp; omega
    have d57 : decide (r ≤ 57) = false := by simp; omega
    rw [ho]
    go_enter Try.func71, Try.ntmps71
    go_wp2
    go_ret
    exact ⟨rfl, rfl⟩
  · have h45 : (r == 45) = false := by simp; omega
    rw [ho]
    go_enter Try.func71, Try.ntmps71
    go_wp2
    go_ret
    exact ⟨rfl, rfl⟩
  · have h45 : (r == 45) = false := by simp; omega
    have d57 : decide (r ≤ 57) = false := by simp; omega
    have d122 : decide (r ≤ 122) = false := by simp; omega
    rw [ho]
    go_enter Try.func71, Try.ntmps71
    go_wp2
    go_ret
    exact ⟨rfl, rfl⟩
theorem rune_okn (t : ByteArray) (pos : Nat) (h : pos < t.size) : ∃ (r : Int) (wd : Nat), ((Utf8.decode t pos).1 : Int) = r ∧ (Utf8.decode t pos).2 = wd ∧ okn r = okn (t[pos].toNat : Int) ∧ (okn r = true → wd = 1) := by
  by_cases ha : (t[pos]'h).toNat < 128
  · refine ⟨_, _, rfl, rfl, ?_, fun _ => ?_⟩
    · rw [decode_ascii t pos h ha]
    · rw [decode_ascii t pos h ha]
  · have hh := decode_high t pos h (by omega)
    have e1 : okn ((Utf8.decode t pos).1 : Int) = false := by simp [okn]; omega
    have e2 : okn (t[pos].toNat : Int) = false := by simp [okn]; omega
    exact ⟨_, _, rfl, rfl, e1.trans e2.symm, fun h => by rw [e1] at h; cases h⟩
set_option maxRecDepth 100000 in
set_option maxHeartbeats 1000000 in
theorem nameI_any (s : ByteArray) (w : World) (hs : s.size ≤ maxLen) : Calls Try.prog 52 #[.string s] w fun e w' => e = .returned (.bool (nameB s)) ∧ Below w.heap.size w w' := by
  unfold maxLen at hs
  by_cases hl : 1 ≤ s.size ∧ s.size ≤ 8
  · have d1 : decide ((s.size : Int) < 1) = false := by simp; omega
    have d2 : decide ((8 : Int) < (s.size : Int)) = false := by simp; omega
    go_enter Try.func52, Try.ntmps52
    go_wp2
    go_loopw [4] (fun _ wr => ∃ pos : Nat, pos ≤ s.size ∧ wr = w.iter s pos ∧ Hid (∀ j (hj : j < s.size), j < pos → okn s[j].toNat = true)) (fun _ wr => s.size - wr.iterPos w.heap.size)
    case atStart => exact ⟨0, Nat.zero_le _, rfl, fun _ _ h => by omega⟩
    case round =>
      obtain ⟨pos, hpos, rfl, hno⟩ := hrel
      by_cases hp : pos < s.size
      · obtain ⟨r, wd, hr1, hr2, hr3, hr4⟩ := rune_okn s pos hp
        have hnx : ∀ ty, (Instr.next (.pointer (some ⟨w.heap.size, 0, none⟩)) true ty).run Try.prog (w.iter s pos) = .ok (.tuple #[.bool true, .int .i64 pos, .int .i32 r]) (w.iter s (pos + wd)) := fun ty => by
          rw [run_next_any w s pos ty hp, hr1, hr2]
        clear hr1 hr2
        have H3 : Hid _ := hr3
        have H4 : Hid _ := hr4
        clear hr3 hr4
        cases hok : okn r
        · have hnb := name_bad hp (by rw [← H3.out]; exact hok)
          have HN : Hid _ := hnb
          clear hnb
          go_wp2_with (go_at_call 71; refine (okn_any _ _).mono ?_; rintro e w1 ⟨rfl, rfl⟩; rw [hok])
          rw [HN.out]
          go_ret
          exact ⟨rfl, (Below.refl _ w).alloc (Nat.le_refl _) _⟩
        · have hw1 := H4.out hok
          subst hw1
          go_wp2_with (go_at_call 71; refine (okn_any _ _).mono ?_; rintro e w1 ⟨rfl, rfl⟩; rw [hok])
          go_roundw
          case rel => exact ⟨pos + 1, by omega, rfl, fun j hj hjp => by
            by_cases e : j = pos
            · subst e; rw [← H3.out]; exact hok
            · exact hno.out j hj (by omega)⟩
          case measure => simp; omega
      · have hnx : ∀ ty, (Instr.next (.pointer (some ⟨w.heap.size, 0, none⟩)) true ty).run Try.prog (w.iter s pos) = .ok (.tuple #[.bool false]) (w.iter s pos) := fun ty => run_next_end w s pos ty hp
        have hnm := name_all hl (fun j hj => hno.out j hj (by omega))
        have HN : Hid _ := hnm
        clear hnm
        go_wp2
        rw [HN.out]
        go_ret
        exact ⟨rfl, (Below.refl _ w).alloc (Nat.le_refl _) _⟩
  · rw [name_short hl]
    by_cases h1 : s.size < 1
    · have d1 : decide ((s.size : Int) < 1) = true := by simp; omega
      go_enter Try.func52, Try.ntmps52
      go_wp2
      go_ret
      exact ⟨rfl, Below.refl _ _⟩
    · have d1 : decide ((s.size : Int) < 1) = false := by simp; omega
      have d2 : decide ((8 : Int) < (s.size : Int)) = true := by simp; omega
      go_enter Try.func52, Try.ntmps52
      go_wp2
      go_ret
      exact ⟨rfl, Below.refl _ _⟩
def cmpB (a b : ByteArray) : Int := Lib.compareBytes a.data.toList b.data.toList
def cmpF (a b : ByteArray × ByteArray) : Int := if cmpB a.1 b.1 = 0 then cmpB a.2 b.2 else cmpB a.1 b.1
theorem cmp_list : ∀ a b : List UInt8, (Lib.compareBytes a b < 0 ↔ Op.bytesLess a b = true) ∧ (Lib.compareBytes a b = 0 ↔ a = b)
  | [], [] => by simp [Lib.compareBytes, Op.bytesLess]
  | [], _ :: _ => by simp [Lib.compareBytes, Op.bytesLess]
  | _ :: _, [] => by simp [Lib.compareBytes, Op.bytesLess]
  | x :: a, y :: b => by
    obtain ⟨h1, h2⟩ := cmp_list a b
    unfold Lib.compareBytes Op.bytesLess
    by_cases hxy : x = y
    · subst hxy
      have hlt : ¬ x < x := UInt8.lt_irrefl x
      simp [hlt, h1, h2]
    · by_cases hlt : x < y
      · simp [hlt, hxy]
      · have hgt : y < x := UInt8.lt_of_le_of_ne (UInt8.not_lt.1 hlt) (Ne.symm hxy)
        simp [hlt, hgt, hxy]
theorem cmpB_lt (a b : ByteArray) : cmpB a b < 0 ↔ ltB a b = true := by
  rw [cmpB, ltB, ByteArray.toList_eq, ByteArray.toList_eq]; exact (cmp_list _ _).1
theorem cmpB_eq (a b : ByteArray) : cmpB a b = 0 ↔ eqB a b = true := by
  rw [cmpB, eqB, ByteArray.toList_eq, ByteArray.toList_eq, beq_iff_eq]; exact (cmp_list _ _).2
theorem cmpB_ge (a b : ByteArray) : decide (0 ≤ cmpB a b) = !ltB a b := by
  rw [Bool.eq_iff_iff]
  have := cmpB_lt a b
  cases h : ltB a b <;> simp [h] at this ⊢ <;> omega
theorem cmpF_ge (a b : ByteArray × ByteArray) : decide (0 ≤ cmpF a b) = !befB a b := by
  have h1 := cmpB_lt a.1 b.1
  have h2 := cmpB_eq a.1 b.1
  have h3 := cmpB_lt a.2 b.2
  rw [Bool.eq_iff_iff]
  unfold cmpF befB
  by_cases he : cmpB a.1 b.1 = 0
  · have e1 : eqB a.1 b.1 = true := h2.1 he
    have e2 : ltB a.1 b.1 = false := by
      cases h : ltB a.1 b.1
      · rfl
      · have := h1.2 h; omega
    cases h : ltB a.2 b.2 <;> simp [he, e1, e2, h] at h3 ⊢ <;> omega
  · have e1 : eqB a.1 b.1 = false := by
      cases h : eqB a.1 b.1
      · rfl
      · exact absurd (h2.2 h) he
    cases h : ltB a.1 b.1 <;> simp [he, e1, h] at h1 ⊢ <;> omega
set_option maxRecDepth 100000 in
set_option maxHeartbeats 1000000 in
theorem cmpS0_any (a b : ByteArray) (w : World) : Calls Try.prog 72 #[.string a, .string b] w fun e w' => e = .returned (.int .i64 (cmpB a b)) ∧ w' = w := by
  go_enter Try.func72, Try.ntmps72
  go_wp2
  rw [run_callFunc_extern Try.func82 (by kernel_rfl) (by kernel_rfl) (by kernel_rfl) (e := Extern.BytealgCompare.compare) (by kernel_rfl), Lib.run_compareString]
  simp only [Result.andThen]
  rw [Oper.upon_value]
  go_wp2
  go_ret
  exact ⟨rfl, rfl⟩
set_option maxRecDepth 100000 in
set_option maxHeartbeats 1000000 in
theorem cmpS_any (a b : ByteArray) (w : World) : Calls Try.prog 54 #[.string a, .string b] w fun e w' => e = .returned (.int .i64 (cmpB a b)) ∧ w' = w := by
  go_enter Try.func54, Try.ntmps54
  go_wp2_with (go_at_call 72; refine (cmpS0_any _ _ _).mono ?_; rintro e w1 ⟨rfl, rfl⟩)
  go_ret
  exact ⟨rfl, rfl⟩
set_option maxRecDepth 100000 in
set_option maxHeartbeats 1000000 in
theorem cmpP_any (a s b u : ByteArray) (c d : Int) (w : World) : Calls Try.prog 59 #[.agg #[.string a, .int .i64 c, .string s], .agg #[.string b, .int .i64 d, .string u]] w fun e w' => e = .returned (.int .i64 (cmpB a b)) ∧ Below w.heap.size w w' := by
  go_enter Try.func59, Try.ntmps59
  go_wp2_with (go_at_call 54; refine (cmpS_any _ _ _).mono ?_; rintro e w1 ⟨rfl, rfl⟩)
  go_ret
  exact ⟨rfl, ((Below.refl _ _).alloc (Nat.le_refl _) _).alloc (by simp) _⟩
set_option maxRecDepth 100000 in
set_option maxHeartbeats 1000000 in
theorem cmpV_any (a a1 a2 a3 b b1 b2 b3 : ByteArray) (w : World) : Calls Try.prog 62 #[.agg #[.string a, .string a1, .string a2, .string a3], .agg #[.string b, .string b1, .string b2, .string b3]] w fun e w' => e = .returned (.int .i64 (cmpB a b)) ∧ Below w.heap.size w w' := by
  go_enter Try.func62, Try.ntmps62
  go_wp2_with (go_at_call 54; refine (cmpS_any _ _ _).mono ?_; rintro e w1 ⟨rfl, rfl⟩)
  go_ret
  exact ⟨rfl, ((Below.refl _ _).alloc (Nat.le_refl _) _).alloc (by simp) _⟩
set_option maxRecDepth 100000 in
set_option maxHeartbeats 1000000 in
theorem or_any (x y : Int) (g : Nat) (w : World) (h0 : w.cell? ⟨g, 0, none⟩ = some (.int .i64 x)) (h1 : w.cell? ⟨g, 1, none⟩ = some (.int .i64 y)) :
    Calls Try.prog 74 #[.slice (some ⟨g, 0, none⟩) 2 2] w fun e w' => e = .returned (.int .i64 (if x = 0 then y else x)) ∧ w' = w := by
  obtain ⟨r, hr⟩ : ∃ r : Int, r = if x = 0 then y else x := ⟨_, rfl⟩
  rw [← hr]
  have HR : Hid (r = if x = 0 then y else x) := hr
  clear hr
  go_enter Try.func74, Try.ntmps74
  go_wp2
  go_loop [8] (fun i => i = .int .i64 0 ∨ (i = .int .i64 1 ∧ Hid (x = 0)) ∨ (i = .int .i64 2 ∧ Hid (x = 0) ∧ Hid (y = 0))) (fun i => 2 - (intOf i).toNat)
  case atStart => exact Or.inl rfl
  case round =>
    rcases hrel with rfl | ⟨rfl, hx⟩ | ⟨rfl, hx, hy⟩
    · by_cases hx : x = 0
      · have hx0 : (x == 0) = true := by simpa using hx
        go_wp2
        go_round
        case rel => exact Or.inr (Or.inl ⟨by go_num, hx⟩)
        case measure => simp [intOf]
      · have hx' : (x == 0) = false := by simpa using hx
        go_wp2
        go_ret
        exact ⟨by rw [HR.out, if_neg hx]; rfl, rfl⟩
    · by_cases hy : y = 0
      · have hy0 : (y == 0) = true := by simpa using hy
        go_wp2
        go_round
        case rel => exact Or.inr (Or.inr ⟨by go_num, hx.out, hy⟩)
        case measure => simp [intOf]
      · have hy' : (y == 0) = false := by simpa using hy
        go_wp2
        go_ret
        exact ⟨by rw [HR.out, if_pos hx.out]; rfl, rfl⟩
    · go_wp2
      go_ret
      exact ⟨by rw [HR.out, if_pos hx.out, hy.out]; rfl, rfl⟩
end Go.Proofs.Ytgjcppdeljoimaa
