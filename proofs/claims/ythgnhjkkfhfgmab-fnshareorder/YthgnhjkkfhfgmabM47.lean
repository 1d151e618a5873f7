/-
  Several texts in one.
-/
import Derived.Test.YthgnhjkkfhfgmabLy
import Derived.StringKeys
import Derived.Maps.Own
import Derived.WideKeyEntry
import Derived.WalkLawsBesides
import Derived.Test.YthgnhjkkfhfgmabPq
import Derived.Test.YthgnhjkkfhfgmabHq
import Derived.Lib.Bytealg
import Derived.Lib.Strings
import Derived.Deep.RegionWith
/-
  A map that the call has made, keyed by a text, with whole numbers in it: asked with two results, and one put in that was not there.
-/
namespace Go.Proofs.Ythgnhjkkfhfgmab
open Go.RowKit Go.MapKept
open Go.ChangeMaps (setBlock heap_setBlock_same heap_setBlock_other)
open Go.WideMaps (KeyLaw)

theorem lawStr : KeyLaw Try.prog 9 := Go.WideMaps.string_law Try.underlying9
theorem zeroNs (w : World) : (zeroValue 3).run Try.prog w = .ok (.int .i64 0) w := by kernel_rfl
theorem keyOf_s {x : ByteArray} (hx : x.size ≤ maxLen) : ∃ l, keyOf Try.prog 9 (.string x) = some l := by
  refine ⟨.string x.data.toList, ?_⟩
  simp [keyOf, mapKey, Try.underlying9, hx]

/-- Block b of w is a map of such keys that has M of each. -/
def Ms (w : World) (b : Nat) (M : ByteArray → Option Nat) : Prop :=
  ∃ es clock, w.heap[b]? = some (.map es clock) ∧ Stamped es clock ∧
    (∀ e ∈ es.toList, ∃ x k, e.key = .string x ∧ x.size ≤ maxLen ∧ M x = some k ∧ e.val = .int .i64 k) ∧
    (∀ x, (∀ e ∈ es.toList, e.key ≠ .string x) → M x = none)

theorem Ms.made (w : World) : Ms (w.alloc (.map #[] 0)) w.heap.size (fun _ => none) :=
  ⟨#[], 0, (MapKept.heap_alloc w _).1, stamped_empty 0, by simp, fun _ _ => rfl⟩
theorem Ms.lt {w : World} {b : Nat} {M : ByteArray → Option Nat} (h : Ms w b M) : b < w.heap.size := by
  obtain ⟨es, clock, hb, _⟩ := h
  exact (Array.getElem?_eq_some_iff.1 hb).1
theorem Ms.of_block {w w' : World} {b : Nat} {M : ByteArray → Option Nat} (h : Ms w b M) (hb : w'.heap[b]? = w.heap[b]?) : Ms w' b M := by
  obtain ⟨es, clock, h1, h2⟩ := h
  exact ⟨es, clock, hb.trans h1, h2⟩
theorem Ms.grown {w w' : World} {b : Nat} {M : ByteArray → Option Nat} {row : Option Nat} (h : Ms w b M) (hg : w.grownBy w' row) (hne : some b ≠ row) : Ms w' b M :=
  h.of_block (hg.block b h.lt hne)
theorem Ms.below {w w' : World} {b B : Nat} {M : ByteArray → Option Nat} (h : Ms w b M) (hb : Below B w w') (hB : b < B) : Ms w' b M :=
  h.of_block (hb.block b hB)
theorem Ms.same {w : World} {b : Nat} {M M' : ByteArray → Option Nat} (h : Ms w b M) (e : ∀ x, M' x = M x) : Ms w b M' := by
  have : M' = M := funext e
  rw [this]; exact h

theorem str_inj {x y : ByteArray} (h : (Value.string x) = .string y) : x = y := by simpa using h

theorem Ms.look_yes {w : World} {b : Nat} {M : ByteArray → Option Nat} (h : Ms w b M) {x : ByteArray} (hx : x.size ≤ maxLen) {k : Nat} (hk : M x = some k) :
    (Instr.lookup 52 (.map (some b)) (.string x) true).run Try.prog w = .ok (.tuple #[.int .i64 k, .bool true]) w := by
  obtain ⟨es, clock, hb, hs, hr, hz⟩ := h
  obtain ⟨l, hkey⟩ := keyOf_s hx
  rcases lawStr.find w hkey es.toList (fun e he => by obtain ⟨p, q, h1, h2, h3, _⟩ := hr e he; rw [h1]; exact keyOf_s h2) with ⟨h1, h2⟩ | ⟨j, e0, h1, h2, h3⟩
  · rw [hz x h2] at hk; cases hk
  · obtain ⟨p, q, k1, _, k3, k4⟩ := hr e0 (List.mem_of_getElem? h2)
    obtain rfl := str_inj (k1.symm.trans h3)
    rw [hk] at k3
    cases k3
    simp [Instr.lookup, run_underlying Try.underlying52, MapKept.run_getObj_map hb, lawStr.check w _ hkey, h1, k4, Result.andThen]
theorem Ms.look_no {w : World} {b : Nat} {M : ByteArray → Option Nat} (h : Ms w b M) {x : ByteArray} (hx : x.size ≤ maxLen) (hk : M x = none) :
    (Instr.lookup 52 (.map (some b)) (.string x) true).run Try.prog w = .ok (.tuple #[.int .i64 0, .bool false]) w := by
  obtain ⟨es, clock, hb, hs, hr, hz⟩ := h
  obtain ⟨l, hkey⟩ := keyOf_s hx
  rcases lawStr.find w hkey es.toList (fun e he => by obtain ⟨p, q, h1, h2, h3, _⟩ := hr e he; rw [h1]; exact keyOf_s h2) with ⟨h1, h2⟩ | ⟨j, e0, h1, h2, h3⟩
  · simp [Instr.lookup, run_underlying Try.underlying52, MapKept.run_getObj_map hb, lawStr.check w _ hkey, h1, zeroNs w, Result.andThen]
  · obtain ⟨p, q, k1, _, k3, k4⟩ := hr e0 (List.mem_of_getElem? h2)
    obtain rfl := str_inj (k1.symm.trans h3)
    rw [hk] at k3
    cases k3

/-- What a store at a key makes of the numbers. -/
def putM (M : ByteArray → Option Nat) (x : ByteArray) (n : Nat) (p : ByteArray) : Option Nat := if p = x then some n else M p

theorem Ms.put {w : World} {b : Nat} {M : ByteArray → Option Nat} (h : Ms w b M) {x : ByteArray} (hx : x.size ≤ maxLen) (hk : M x = none) (n : Nat) :
    ∃ w', (Instr.mapUpdate 52 (.map (some b)) (.string x) (.int .i64 n)).run Try.prog w = .ok () w' ∧ Ms w' b (putM M x n) ∧ w.grownBy w' (some b) := by
  obtain ⟨es, clock, hb, hs, hr, hz⟩ := h
  obtain ⟨l, hkey⟩ := keyOf_s hx
  rcases lawStr.find w hkey es.toList (fun e he => by obtain ⟨p, q, h1, h2, h3, _⟩ := hr e he; rw [h1]; exact keyOf_s h2) with ⟨h1, h2⟩ | ⟨j, e0, h1, h2, h3⟩
  · have hpush : (es.push ⟨.string x, .int .i64 n, clock⟩).toList = es.toList ++ [⟨.string x, .int .i64 n, clock⟩] := Array.toList_push
    refine ⟨setBlock w b (.map (es.push ⟨.string x, .int .i64 n, clock⟩) (clock + 1)), ?_, ⟨_, _, heap_setBlock_same hb _, stamped_push hs h2, ?_, ?_⟩, ⟨rfl, rfl, rfl, by simp [setBlock], fun i _ hi => heap_setBlock_other hb _ (fun e => hi (by rw [e]))⟩⟩
    · simp [Instr.mapUpdate, run_underlying Try.underlying52, MapKept.run_getObj_map hb, lawStr.check w false hkey, h1, MapKept.run_setObj_map _ hb, Result.andThen, setBlock]
    · intro e he
      rw [hpush] at he
      rcases List.mem_append.1 he with he | he
      · obtain ⟨p, q, k1, k2, k3, k4⟩ := hr e he
        have hne : p ≠ x := fun e1 => h2 e he (by rw [k1, e1])
        exact ⟨p, q, k1, k2, by rw [putM, if_neg hne]; exact k3, k4⟩
      · simp only [List.mem_singleton] at he
        subst he
        exact ⟨x, n, rfl, hx, by rw [putM, if_pos rfl], rfl⟩
    · intro p hne
      have hn : p ≠ x := fun e1 => hne ⟨.string x, .int .i64 n, clock⟩ (by rw [hpush]; simp) (by rw [e1])
      rw [putM, if_neg hn]
      exact hz p (fun e he => hne e (by rw [hpush]; exact List.mem_append.2 (Or.inl he)))
  · obtain ⟨p, q, k1, _, k3, k4⟩ := hr e0 (List.mem_of_getElem? h2)
    obtain rfl := str_inj (k1.symm.trans h3)
    rw [hk] at k3
    cases k3

end Go.Proofs.Ythgnhjkkfhfgmab

/-
  How the program compares texts.
-/
namespace Go.Proofs.Ythgnhjkkfhfgmab
open Go.RowKit

/-- How two texts are compared: below 0, 0, or above. -/
def cmpB (a b : ByteArray) : Int := Lib.compareBytes a.data.toList b.data.toList

theorem cmp_list : ∀ a b : List UInt8, (Lib.compareBytes a b < 0 ↔ Op.bytesLess a b = true) ∧ (Lib.compareBytes a b = 0 ↔ a = b)
  | [], [] => by simp [Lib.compareBytes, Op.bytesLess]
  | [], _ :: _ => by simp [Lib.compareBytes, Op.bytesLess]
  | _ :: _, [] => by simp [Lib.compareBytes, Op.bytesLess]
  | x :: a, y :: b => by
    obtain ⟨h1, h2⟩ := cmp_list a b
    unfold Lib.compareBytes Op.bytesLess
    by_cases hxy : x = y
    · subst hxy
      have hlt : ¬ x < x := UInt8.lt_irrefl x
      simp [hlt, h1, h2]
    · by_cases hlt : x < y
      · simp [hlt, hxy]
      · have hgt : y < x := UInt8.lt_of_le_of_ne (UInt8.not_lt.1 hlt) (Ne.symm hxy)
        simp [hlt, hgt, hxy]

theorem cmpB_lt (a b : ByteArray) : cmpB a b < 0 ↔ ltB a b = true := by
  rw [cmpB, ltB, ByteArray.toList_eq, ByteArray.toList_eq]; exact (cmp_list _ _).1

theorem cmpB_eq (a b : ByteArray) : cmpB a b = 0 ↔ eqB a b = true := by
  rw [cmpB, eqB, ByteArray.toList_eq, ByteArray.toList_eq, beq_iff_eq]; exact (cmp_list _ _).2

theorem cmpB_ge (a b : ByteArray) : decide (0 ≤ cmpB a b) = !ltB a b := by
  rw [Bool.eq_iff_iff]
  have := cmpB_lt a b
  cases h : ltB a b <;> simp [h] at this ⊢ <;> omega

set_option maxRecDepth 100000 in
set_option maxHeartbeats 1000000 in
theorem cmpS0_any (a b : ByteArray) (w : World) : Calls Try.prog 77 #[.string a, .string b] w fun e w' => e = .returned (.int .i64 (cmpB a b)) ∧ w' = w := by
  go_enter Try.func77, Try.ntmps77
  go_wp2
  rw [run_callFunc_extern Try.func82 (by kernel_rfl) (by kernel_rfl) (by kernel_rfl) (e := Extern.BytealgCompare.compare) (by kernel_rfl), Lib.run_compareString]
  simp only [Result.andThen]
  rw [Oper.upon_value]
  go_wp2
  go_ret
  exact ⟨rfl, rfl⟩

set_option maxRecDepth 100000 in
set_option maxHeartbeats 1000000 in
theorem cmpS_any (a b : ByteArray) (w : World) : Calls Try.prog 64 #[.string a, .string b] w fun e w' => e = .returned (.int .i64 (cmpB a b)) ∧ w' = w := by
  go_enter Try.func64, Try.ntmps64
  go_wp2_with (go_at_call 77; refine (cmpS0_any _ _ _).mono ?_; rintro e w1 ⟨rfl, rfl⟩)
  go_ret
  exact ⟨rfl, rfl⟩

theorem eqB_comm (a b : ByteArray) : eqB a b = eqB b a := by
  simp only [eqB]; rw [Bool.eq_iff_iff, beq_iff_eq, beq_iff_eq]; exact eq_comm

end Go.Proofs.Ythgnhjkkfhfgmab

/-
  The program's test of a name.
-/
namespace Go.Proofs.Ythgnhjkkfhfgmab
open Go.RowKit

theorem okn_cases (r : Int) : (r < 45 ∧ okn r = false) ∨ (r = 45 ∧ okn r = true) ∨ ((45 < r ∧ r < 48) ∧ okn r = false) ∨ ((48 ≤ r ∧ r ≤ 57) ∧ okn r = true) ∨ ((57 < r ∧ r < 97) ∧ okn r = false) ∨ ((97 ≤ r ∧ r ≤ 122) ∧ okn r = true) ∨ (122 < r ∧ okn r = false) := by
  simp only [okn, decide_eq_true_eq, decide_eq_false_iff_not]; omega

set_option maxHeartbeats 1000000 in
theorem okn_any (r : Int) (w : World) : Calls Try.prog 66 #[.int .i32 r] w fun e w' => e = .returned (.bool (okn r)) ∧ w' = w := by
  rcases okn_cases r with ⟨h, ho⟩ | ⟨h, ho⟩ | ⟨⟨h, h'⟩, ho⟩ | ⟨⟨h, h'⟩, ho⟩ | ⟨⟨h, h'⟩, ho⟩ | ⟨⟨h, h'⟩, ho⟩ | ⟨h, ho⟩
  · have h45 : (r == 45) = false := by simp; omega
    rw [ho]
    go_enter Try.func66, Try.ntmps66
    go_wp2
    go_ret
    exact ⟨rfl, rfl⟩
  · subst h
    rw [ho]
    go_enter Try.func66, Try.ntmps66
    go_wp2
    go_ret
    exact ⟨rfl, rfl⟩
  · have h45 : (r == 45) = false := by simp; omega
    rw [ho]
    go_enter Try.func66, Try.ntmps66
    go_wp2
    go_ret
    exact ⟨rfl, rfl⟩
  · have h45 : (r == 45) = false := by simp; omega
    rw [ho]
    go_enter Try.func66, Try.ntmps66
    go_wp2
    go_ret
    exact ⟨rfl, rfl⟩
  · have h45 : (r == 45) = false := by simp; omega
    have d57 : decide (r ≤ 57) = false := by simp; omega
    rw [ho]
    go_enter Try.func66, Try.ntmps66
    go_wp2
    go_ret
    exact ⟨rfl, rfl⟩
  · have h45 : (r == 45) = false := by simp; omega
    rw [ho]
    go_enter Try.func66, Try.ntmps66
    go_wp2
    go_ret
    exact ⟨rfl, rfl⟩
  · have h45 : (r == 45) = false := by simp; omega
    have d57 : decide (r ≤ 57) = false := by simp; omega
    have d122 : decide (r ≤ 122) = false := by simp; omega
    rw [ho]
    go_enter Try.func66, Try.ntmps66
    go_wp2
    go_ret
    exact ⟨rfl, rfl⟩

theorem rune_okn (t : ByteArray) (pos : Nat) (h : pos < t.size) : ∃ (r : Int) (wd : Nat), ((Utf8.decode t pos).1 : Int) = r ∧ (Utf8.decode t pos).2 = wd ∧ okn r = okn (t[pos].toNat : Int) ∧ (okn r = true → wd = 1) := by
  by_cases ha : (t[pos]'h).toNat < 128
  · refine ⟨_, _, rfl, rfl, ?_, fun _ => ?_⟩
    · rw [decode_ascii t pos h ha]
    · rw [decode_ascii t pos h ha]
  · have hh := decode_high t pos h (by omega)
    have e1 : okn ((Utf8.decode t pos).1 : Int) = false := by simp [okn]; omega
    have e2 : okn (t[pos].toNat : Int) = false := by simp [okn]; omega
    exact ⟨_, _, rfl, rfl, e1.trans e2.symm, fun h => by rw [e1] at h; cases h⟩

set_option maxRecDepth 100000 in
set_option maxHeartbeats 1000000 in
theorem nameI_any (s : ByteArray) (w : World) (hs : s.size ≤ maxLen) : Calls Try.prog 50 #[.string s] w fun e w' => e = .returned (.bool (nameB s)) ∧ Below w.heap.size w w' := by
  unfold maxLen at hs
  by_cases hl : 1 ≤ s.size ∧ s.size ≤ 8
  · have d1 : decide ((s.size : Int) < 1) = false := by simp; omega
    have d2 : decide ((8 : Int) < (s.size : Int)) = false := by simp; omega
    go_enter Try.func50, Try.ntmps50
    go_wp2
    go_loopw [4] (fun _ wr => ∃ pos : Nat, pos ≤ s.size ∧ wr = w.iter s pos ∧ Hid (∀ j (hj : j < s.size), j < pos → okn s[j].toNat = true)) (fun _ wr => s.size - wr.iterPos w.heap.size)
    case atStart => exact ⟨0, Nat.zero_le _, rfl, fun _ _ h => by omega⟩
    case round =>
      obtain ⟨pos, hpos, rfl, hno⟩ := hrel
      by_cases hp : pos < s.size
      · obtain ⟨r, wd, hr1, hr2, hr3, hr4⟩ := rune_okn s pos hp
        have hnx : ∀ ty, (Instr.next (.pointer (some ⟨w.heap.size, 0, none⟩)) true ty).run Try.prog (w.iter s pos) = .ok (.tuple #[.bool true, .int .i64 pos, .int .i32 r]) (w.iter s (pos + wd)) := fun ty => by
          rw [run_next_any w s pos ty hp, hr1, hr2]
        clear hr1 hr2
        have H3 : Hid _ := hr3
        have H4 : Hid _ := hr4
        clear hr3 hr4
        cases hok : okn r
        · have hnb := name_bad hp (by rw [← H3.out]; exact hok)
          have HN : Hid _ := hnb
          clear hnb
          go_wp2_with (go_at_call 66; refine (okn_any _ _).mono ?_; rintro e w1 ⟨rfl, rfl⟩; rw [hok])
          rw [HN.out]
          go_ret
          exact ⟨rfl, (Below.refl _ w).alloc (Nat.le_refl _) _⟩
        · have hw1 := H4.out hok
          subst hw1
          go_wp2_with (go_at_call 66; refine (okn_any _ _).mono ?_; rintro e w1 ⟨rfl, rfl⟩; rw [hok])
          go_roundw
          case rel => exact ⟨pos + 1, by omega, rfl, fun j hj hjp => by
            by_cases e : j = pos
            · subst e; rw [← H3.out]; exact hok
            · exact hno.out j hj (by omega)⟩
          case measure => simp; omega
      · have hnx : ∀ ty, (Instr.next (.pointer (some ⟨w.heap.size, 0, none⟩)) true ty).run Try.prog (w.iter s pos) = .ok (.tuple #[.bool false]) (w.iter s pos) := fun ty => run_next_end w s pos ty hp
        have hnm := name_all hl (fun j hj => hno.out j hj (by omega))
        have HN : Hid _ := hnm
        clear hnm
        go_wp2
        rw [HN.out]
        go_ret
        exact ⟨rfl, (Below.refl _ w).alloc (Nat.le_refl _) _⟩
  · rw [name_short hl]
    by_cases h1 : s.size < 1
    · have d1 : decide ((s.size : Int) < 1) = true := by simp; omega
      go_enter Try.func50, Try.ntmps50
      go_wp2
      go_ret
      exact ⟨rfl, Below.refl _ _⟩
    · have d1 : decide ((s.size : Int) < 1) = false := by simp; omega
      have d2 : decide ((8 : Int) < (s.size : Int)) = true := by simp; omega
      go_enter Try.func50, Try.ntmps50
      go_wp2
      go_ret
      exact ⟨rfl, Below.refl _ _⟩

end Go.Proofs.Ythgnhjkkfhfgmab
