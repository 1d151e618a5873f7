/-
  Several texts in one.
-/
import Derived.Test.YtepemobbjaincaaXbi
import Derived.Test.YtepemobbjaincaaM1
import Derived.Test.YtepemobbjaincaaM4
import Derived.Lib.Bytealg
import Derived.Lib.Strings
import Derived.Deep.RegionWith
import Derived.Test.YtepemobbjaincaaChecked
import Derived.WalkKit
import Derived.WalkSpells
import Derived.WalkLawsBesides
import Derived.BigQuiet
import Derived.Lib.UnsafeStr
import Derived.Lib.BufferWrite
import Derived.Laws.MakeOwn
import Derived.Laws.Externs
import Derived.Test.YtepemobbjaincaaNa
import Derived.Test.YtepemobbjaincaaLo
import Derived.Test.YtepemobbjaincaaM16
import Derived.Test.YtepemobbjaincaaM8
/-
  The program's bound of a recipe: it answers as the model's.
-/
namespace Go.Proofs.Ytepemobbjaincaa
open Go.RowKit

set_option maxRecDepth 100000 in
set_option maxHeartbeats 4000000 in
theorem boundI_any (S : Nat → Prop) (r : List DRecPhase) (v : Value) (x : ByteArray) (w : World) (h : AtL S w r v) (hS : ∀ b, S b → b < w.heap.size) (ht : totL r ≤ 1048576) :
    Calls Try.prog 5 #[v, .string x] w fun e w' => e = .returned (.int .i64 (if recB r = true then bndF 12 r x else 0)) ∧ Below w.heap.size w w' := by
  obtain ⟨oa, cap, ev, _⟩ := id h
  obtain ⟨n, en⟩ : ∃ n, r.length = n := ⟨_, rfl⟩
  rw [en] at ev
  subst ev
  have HL : Hid (r.length = n) := en
  have H : Hid (∀ u, Below w.heap.size w u → AtL S u r (.slice oa n cap)) := fun u hu => h.same (Same.of_below hu hS)
  have HS : Hid (∀ u, Below w.heap.size w u → ∀ b, S b → b < u.heap.size) := fun u hu b hb => Nat.lt_of_lt_of_le (hS b hb) hu.size
  have B0 : Hid (Below w.heap.size w w) := Below.refl _ _
  clear h hS en
  cases hr : recB r
  · rw [if_neg (by simp)]
    go_enter Try.func5, Try.ntmps5
    go_wp2_with fail
    refine (okI_any S r _ _ (H.out _ B0.out) (HS.out _ B0.out) ht).mono ?_; rintro e w1 ⟨rfl, hb1⟩
    have B1 : Hid (Below w.heap.size w w1) := hb1
    clear hb1
    rw [hr]
    go_wp2_with fail
    go_ret
    exact ⟨rfl, B1.out⟩
  · have HR : Hid (RecP r) := rec_iff.1 hr
    rw [if_pos rfl]
    go_enter Try.func5, Try.ntmps5
    go_wp2_with fail
    refine (okI_any S r _ _ (H.out _ B0.out) (HS.out _ B0.out) ht).mono ?_; rintro e w1 ⟨rfl, hb1⟩
    have B1 : Hid (Below w.heap.size w w1) := hb1
    clear hb1
    rw [hr]
    go_wp2_with fail
    refine (tabB_any S r oa n cap _ HR.out (H.out _ B1.out) HL.out (HS.out _ B1.out)).mono ?_; rintro e w2 ⟨g, rfl, ⟨hg, hc⟩, hb2⟩
    have B2 : Hid (Below w.heap.size w w2) := B1.out.trans (hb2.mono B1.out.size)
    have HC : Hid _ := hc
    clear hb2 hc
    go_wp2_with fail
    refine (ofB_any S r oa n cap x g (bndF 12 r x) _ (H.out _ B2.out) HL.out (HS.out _ B2.out) hg (fun k hk => ?told) (fun e => bnd_none e 12)).mono ?_
    case told =>
      rcases at_cases r x with e | ⟨k', hk', e, _⟩
      · omega
      · obtain rfl : k = k' := by omega
        have h1 := HC.out k (by have := HL.out; omega)
        rw [phN_at hk', ← bnd_at HR.out hk' e 12] at h1
        exact h1
    rintro e w3 ⟨rfl, hb3⟩
    have B3 : Hid (Below w.heap.size w w3) := B2.out.trans (hb3.mono B2.out.size)
    clear hb3
    go_wp2_with fail
    go_ret
    exact ⟨rfl, B3.out⟩

end Go.Proofs.Ytepemobbjaincaa

/-
  How the program compares texts.
-/
namespace Go.Proofs.Ytepemobbjaincaa
open Go.RowKit

/-- How two texts are compared: below 0, 0, or above. -/
def cmpB (a b : ByteArray) : Int := Lib.compareBytes a.data.toList b.data.toList

theorem cmp_list : ∀ a b : List UInt8, (Lib.compareBytes a b < 0 ↔ Op.bytesLess a b = true) ∧ (Lib.compareBytes a b = 0 ↔ a = b)
  | [], [] => by simp [Lib.compareBytes, Op.bytesLess]
  | [], _ :: _ => by simp [Lib.compareBytes, Op.bytesLess]
  | _ :: _, [] => by simp [Lib.compareBytes, Op.bytesLess]
  | x :: a, y :: b => by
    obtain ⟨h1, h2⟩ := cmp_list a b
    unfold Lib.compareBytes Op.bytesLess
    by_cases hxy : x = y
    · subst hxy
      have hlt : ¬ x < x := UInt8.lt_irrefl x
      simp [hlt, h1, h2]
    · by_cases hlt : x < y
      · simp [hlt, hxy]
      · have hgt : y < x := UInt8.lt_of_le_of_ne (UInt8.not_lt.1 hlt) (Ne.symm hxy)
        simp [hlt, hgt, hxy]

theorem cmpB_lt (a b : ByteArray) : cmpB a b < 0 ↔ ltB a b = true := by
  rw [cmpB, ltB, ByteArray.toList_eq, ByteArray.toList_eq]; exact (cmp_list _ _).1

theorem cmpB_eq (a b : ByteArray) : cmpB a b = 0 ↔ eqB a b = true := by
  rw [cmpB, eqB, ByteArray.toList_eq, ByteArray.toList_eq, beq_iff_eq]; exact (cmp_list _ _).2

theorem cmpB_ge (a b : ByteArray) : decide (0 ≤ cmpB a b) = !ltB a b := by
  rw [Bool.eq_iff_iff]
  have := cmpB_lt a b
  cases h : ltB a b <;> simp [h] at this ⊢ <;> omega

set_option maxRecDepth 100000 in
set_option maxHeartbeats 1000000 in
theorem cmpS0_any (a b : ByteArray) (w : World) : Calls Try.prog 63 #[.string a, .string b] w fun e w' => e = .returned (.int .i64 (cmpB a b)) ∧ w' = w := by
  go_enter Try.func63, Try.ntmps63
  go_wp2
  rw [run_callFunc_extern Try.func72 (by kernel_rfl) (by kernel_rfl) (by kernel_rfl) (e := Extern.BytealgCompare.compare) (by kernel_rfl), Lib.run_compareString]
  simp only [Result.andThen]
  rw [Oper.upon_value]
  go_wp2
  go_ret
  exact ⟨rfl, rfl⟩

set_option maxRecDepth 100000 in
set_option maxHeartbeats 1000000 in
theorem cmpS_any (a b : ByteArray) (w : World) : Calls Try.prog 43 #[.string a, .string b] w fun e w' => e = .returned (.int .i64 (cmpB a b)) ∧ w' = w := by
  go_enter Try.func43, Try.ntmps43
  go_wp2_with (go_at_call 63; refine (cmpS0_any _ _ _).mono ?_; rintro e w1 ⟨rfl, rfl⟩)
  go_ret
  exact ⟨rfl, rfl⟩

theorem eqB_comm (a b : ByteArray) : eqB a b = eqB b a := by
  simp only [eqB]; rw [Bool.eq_iff_iff, beq_iff_eq, beq_iff_eq]; exact eq_comm

end Go.Proofs.Ytepemobbjaincaa

/-
  A contract of the library's fresh copy of a text.
-/
namespace Go.Proofs.Ytepemobbjaincaa
open Go.RowKit

theorem under172 : Try.prog.underlying 111 = some (.pointer 5) := by kernel_rfl
theorem under135' : Try.prog.underlying 22 = some (.slice 5) := by kernel_rfl
theorem info5c : (Try.prog.info? 5).map (fun i => (i.zero, i.size, i.bytes)) = some (some (.int .u8 0), 1, 1) := by kernel_rfl

set_option maxHeartbeats 4000000 in
set_option maxRecDepth 100000 in
theorem clone_any (s : ByteArray) (w : World) (hlim : s.size ≤ 1048576) :
    Calls Try.prog 62 #[.string s] w fun e w' => e = .returned (.string s) ∧ Below w.heap.size w w' := by
  by_cases h0 : s.size = 0
  · have hs : s = ⟨#[]⟩ := by
      apply ByteArray.ext
      exact Array.eq_empty_of_size_eq_zero h0
    subst hs
    go_enter Try.func62, Try.ntmps62
    go_wp2
    go_ret
    exact ⟨rfl, Below.refl _ _⟩
  · obtain ⟨i0, hi, hz0, hz1, hz2⟩ := info_parts info5c
    have hinfo : (Try.prog.info? 5).map (·.size) = some 1 := by rw [hi]; simp [hz1]
    have hco : Try.prog.cellsOf 5 = 1 := by simp [Program.cellsOf, hi, hz1]
    obtain ⟨M, hM⟩ : ∃ M, M = madeCells (Value.int .u8 0).cells (((s.size : Nat) : Int).toNat * i0.size) := ⟨_, rfl⟩
    have hMs : M.size = s.size := by rw [hM, size_madeCells, hz1]; simp
    have hmk : ∀ W : World, (Instr.makeSlice 22 (.int .i64 (s.size : Int)) (.int .i64 (s.size : Int))).run Try.prog W = .ok (.slice (some ⟨W.heap.size, 0, none⟩) s.size s.size) (W.alloc (.cells M 5)) := fun W => by
      have h := run_make (P := Try.prog) W 22 5 i0 (.int .u8 0) under135' hi hz0 .i64 .i64 (s.size : Int) (s.size : Int) (by omega) (by omega) (by rw [hz2]; omega) (by omega)
      rw [← hM] at h
      simpa using h
    clear hM
    have hcp := Lib.run_copy_row_string (P := Try.prog) (w.alloc (.cells M 5)) 22 9 3 5 w.heap.size 0 s.size s.size s M 5 under135' hinfo (heap_alloc_new w _) (Nat.le_refl _) (by omega)
    obtain ⟨Y, hY⟩ : ∃ Y, Y = (M.toList.take 0 ++ Lib.byteCells s.data.toList ++ M.toList.drop (0 + s.size)).toArray := ⟨_, rfl⟩
    rw [← hY] at hcp
    have hYl : Y.toList = Lib.byteCells s.data.toList := by
      rw [hY, List.toList_toArray, List.take_zero, List.nil_append, List.drop_of_length_le (by rw [Array.length_toList]; omega), List.append_nil]
    have hYs : Y.size = s.size := by rw [← Array.length_toList, hYl, Lib.byteCells_length, ← Lib.size_eq]
    have hgY : ((w.alloc (.cells M 5)).setRow w.heap.size Y).heap[w.heap.size]? = some (.cells Y 5 (0, 0)) := setRow_heap _ _ M _ 5 (0, 0) (heap_alloc_new w _)
    have hne : s.data.toList ≠ [] := fun e => h0 (by rw [Lib.size_eq, e]; rfl)
    have hUS := Lib.run_unsafeString_row (P := Try.prog) ((w.alloc (.cells M 5)).setRow w.heap.size Y) 111 3 9 5 under172 hco w.heap.size Y.size (by unfold World.shape?; rw [hgY]) s.data.toList hne (by rw [← Lib.size_eq]; omega) (by rw [← Lib.size_eq]; omega)
      (fun j x hx => Lib.cells_of_row hgY Y.size j _ (by rw [List.take_of_length_le (by rw [Array.length_toList]; exact Nat.le_refl _), hYl]; simp [Lib.byteCells, hx]))
    rw [← Lib.size_eq] at hUS
    clear hY
    go_enter Try.func62, Try.ntmps62
    go_wp2
    go_ret
    have hb1 : Below w.heap.size w (w.alloc (.cells M 5)) := (Below.refl _ w).alloc (Nat.le_refl _) _
    have hb2 : Below w.heap.size (w.alloc (.cells M 5)) ((w.alloc (.cells M 5)).setRow w.heap.size Y) := ⟨rfl, rfl, rfl, by simp, fun k hk => setRow_other _ _ _ _ (by omega)⟩
    exact ⟨rfl, Lib.below_freeze (hb1.trans hb2) (p := ⟨w.heap.size, 0, none⟩) (Nat.le_refl _) _⟩

set_option maxRecDepth 100000 in
set_option maxHeartbeats 1000000 in
theorem clones_any (s : ByteArray) (w : World) (hlim : s.size ≤ 1048576) :
    Calls Try.prog 42 #[.string s] w fun e w' => e = .returned (.string s) ∧ Below w.heap.size w w' := by
  go_enter Try.func42, Try.ntmps42
  go_wp2_with (go_at_call 62; refine (clone_any _ _ hlim).mono ?_; rintro e w1 ⟨rfl, hb⟩)
  go_ret
  exact ⟨rfl, hb⟩

end Go.Proofs.Ytepemobbjaincaa

/-
  Rows of texts of the call's own, and copies of them.
-/
namespace Go.Proofs.Ytepemobbjaincaa
open Go.RowKit

set_option maxRecDepth 100000 in
set_option maxHeartbeats 4000000 in
theorem freshT_any (S : Nat → Prop) (v : Value) (l : List ByteArray) (w : World) (h : AtL S w l v) (hS : ∀ b, S b → b < w.heap.size) (hl : l.length ≤ 1048576) (hs : ∀ x ∈ l, x.size ≤ 1048576) :
    Calls Try.prog 40 #[v] w fun e w' => ∃ r, e = .returned r ∧ Row w' w.heap.size 9 1 eS r l ∧ Below w.heap.size w w' := by
  obtain ⟨oa, cap, rfl, hn, hc⟩ := h
  have HC : Hid (∀ i (h : i < l.length), ∃ b off, oa = some ⟨b, off, none⟩ ∧ S b ∧ w.cell? ⟨b, off + i, none⟩ = some (.string l[i])) := fun i hi => by
    obtain ⟨b, off, h1, h2, c, h3, h4⟩ := hc i hi
    have e0 := h3 0 (by decide)
    rw [h4.1] at e0
    exact ⟨b, off, h1, h2, by simpa [width_str] using e0⟩
  have HS : Hid (∀ x ∈ l, x.size ≤ 1048576) := hs
  clear hc hn hs
  obtain ⟨n, en⟩ : ∃ n, l.length = n := ⟨_, rfl⟩
  rw [en] at hl
  rw [en]
  have EN : Hid (l.length = n) := en
  clear en
  go_enter Try.func40, Try.ntmps40
  go_wp2
  go_loopw [3, 8] (fun r i wr => ∃ k : Nat, k ≤ n ∧ i = .int .i64 k ∧ Hid (Row wr w.heap.size 9 1 eS r (l.take k)) ∧ Hid (Below w.heap.size w wr)) (fun _ i _ => n - (intOf i).toNat)
  case atStart => exact ⟨0, Nat.zero_le _, rfl, by simpa [Hid] using Row.nil w w.heap.size 9 1 eS, Below.refl _ _⟩
  case round =>
    obtain ⟨k, hk, rfl, hrow, hbel⟩ := hrel
    have hsz := hbel.out.size
    by_cases hlt : k < n
    · obtain ⟨b, off, rfl, hbS, c0⟩ := HC.out k (by have := EN.out; omega)
      have e0 := (hbel.out.cell (p := ⟨b, off + k, none⟩) (hS b hbS)).trans c0
      clear c0
      have hx := HS.out _ (List.getElem_mem (show k < l.length by have := EN.out; omega))
      have htk : Hid (l.take (k + 1) = l.take k ++ [l[k]'(by have := EN.out; omega)]) := by
        show _ = _
        rw [List.take_add_one, List.getElem?_eq_getElem (show k < l.length by have := EN.out; omega)]; rfl
      obtain ⟨x, ex⟩ : ∃ x, l[k]'(by have := EN.out; omega) = x := ⟨_, rfl⟩
      rw [ex] at e0 hx htk
      clear ex
      have hlk : (l.take k).length = k := by rw [List.length_take]; have := EN.out; omega
      go_wp2_with fail
      refine (clones_any x _ hx).mono ?_
      rintro e w1 ⟨rfl, hb1⟩
      have hs1 := hb1.size
      have hrow1 : Hid (Row w1 w.heap.size 9 1 eS _ (l.take k)) := Row.below hrow.out hb1
      have hsr : Hid (Src (w1.alloc (.cells #[.string x] 9)) (.slice (some ⟨w1.heap.size, 0, none⟩) 1 1) 1 1 (enc 1 eS [x])) := ⟨rfl, .inr ⟨_, _, rfl, by exact cell_one_new _ _ _⟩⟩
      go_wp2_with (first
        | (at_builtin; refine wpList_app elS rfl _ _ rfl rfl rfl (hrow1.out.alloc _) hsr.out (flatS.enc_one _) (by unfold maxLen; omega) (by omega) (by simp; omega) ?_; intro v' w3 hown hg hbk))
      go_roundw
      case rel =>
        refine ⟨k + 1, by omega, by go_num, ?_, (((hbel.out.trans (hb1.mono hsz)).alloc (by omega) _).grown hg (by simp; omega) (fun p hp => (World.ownsRow.lt hrow1.out p hp).1))⟩
        show Row _ _ _ _ _ _ _
        rw [htk.out]
        show World.ownsRow _ _ _ _ _ _ _
        rw [List.length_append, enc_append]
        exact hown
      case measure => simp [intOf]; omega
    · obtain rfl : n = k := by omega
      have htk : Hid (l.take n = l) := by show _ = _; rw [List.take_of_length_le (by have := EN.out; omega)]
      go_wp2
      go_ret
      refine ⟨_, rfl, ?_, hbel.out⟩
      have := hrow.out
      rw [htk.out] at this
      exact this

end Go.Proofs.Ytepemobbjaincaa
