/-
  Contracts of the two library functions that the program's cutting into words calls: the cut at the first number sign, and a fresh copy of a text.
-/
import Derived.Test.YtbdhlcfcmennjaaWa
import Derived.Lib.Bytealg
import Derived.Lib.UnsafeStr
import Derived.Lib.BufferWrite
import Derived.Laws.MakeOwn
import Derived.Laws.Externs
namespace Go.Proofs.Ytbdhlcfcmennjaa
open Go.RowKit

theorem idx_spec : ∀ (l : List UInt8), (Lib.indexByte l 35 = -1 ∧ Pl.bare l = l) ∨ ∃ k : Nat, Lib.indexByte l 35 = k ∧ k < l.length ∧ Pl.bare l = l.take k
  | [] => Or.inl ⟨rfl, rfl⟩
  | c :: r => by
    by_cases hc : c = 35
    · subst hc
      exact Or.inr ⟨0, rfl, by simp, rfl⟩
    · have hb : (c == 35) = false := by simpa using hc
      rcases idx_spec r with ⟨h1, h2⟩ | ⟨k, h1, h2, h3⟩
      · left
        simp [Lib.indexByte, Pl.bare, hb, h1, h2]
      · right
        refine ⟨k + 1, ?_, by simpa using h2, by simp [Pl.bare, hb, h3]⟩
        have hk : ((k : Int) == -1) = false := by simp
        simp [Lib.indexByte, hb, h1, hk]

set_option maxRecDepth 100000 in
set_option maxHeartbeats 1000000 in
theorem indexByte_any (s : ByteArray) (w : World) :
    Calls Try.prog 84 #[.string s, .int .u8 35] w fun e w' => e = .returned (.int .i64 (Lib.indexByte s.data.toList 35)) ∧ w' = w := by
  go_enter Try.func84, Try.ntmps84
  go_wp2
  rw [run_callFunc_extern Try.func95 (by kernel_rfl) (by kernel_rfl) (by kernel_rfl) (e := Extern.BytealgIndexByte.indexByte) (by kernel_rfl), Lib.run_indexByteString]
  simp only [Result.andThen]
  rw [Oper.upon_value]
  go_wp2
  go_ret
  exact ⟨rfl, rfl⟩

set_option maxRecDepth 100000 in
set_option maxHeartbeats 1000000 in
theorem index_any (s : ByteArray) (w : World) :
    Calls Try.prog 63 #[.string s, .string ⟨#[35]⟩] w fun e w' => e = .returned (.int .i64 (Lib.indexByte s.data.toList 35)) ∧ w' = w := by
  by_cases he : s.toList = [35]
  · have hl : Lib.indexByte s.data.toList 35 = 0 := by
      rw [ByteArray.toList_eq] at he; rw [he]; rfl
    have he1 : (([35] : List UInt8) == s.toList) = true := by rw [he]; rfl
    rw [hl]
    clear he hl
    go_enter Try.func63, Try.ntmps63
    go_wp2_with (go_at_call 84; refine (indexByte_any _ _).mono ?_; rintro e w1 ⟨rfl, rfl⟩)
    go_ret
    exact ⟨rfl, rfl⟩
  · have he1 : (([35] : List UInt8) == s.toList) = false := by
      rw [beq_eq_false_iff_ne]; exact fun h => he h.symm
    clear he
    go_enter Try.func63, Try.ntmps63
    go_wp2_with (go_at_call 84; refine (indexByte_any _ _).mono ?_; rintro e w1 ⟨rfl, rfl⟩)
    go_ret
    exact ⟨rfl, rfl⟩

set_option maxRecDepth 100000 in
set_option maxHeartbeats 1000000 in
theorem cutl_any (s : ByteArray) (w : World) (hs : s.size ≤ 1048576) :
    Calls Try.prog 42 #[.string s, .string ⟨#[35]⟩] w fun e w' => ∃ (t r : ByteArray) (f : Bool) (q : Nat), e = .returned (.tuple #[.string t, .string r, .bool f]) ∧ t.data.toList = Pl.bare s.data.toList ∧ w' = w.drewN q := by
  have hi := idx_spec s.data.toList
  rcases hi with ⟨h1, h2⟩ | ⟨k, h1, h2, h3⟩
  · have hix := index_any s
    rw [h1] at hix
    have HX : Hid _ := hix
    have HB : Hid _ := h2
    clear hix h1 h2
    go_enter Try.func42, Try.ntmps42
    go_wp2_with (go_at_call 63; refine (HX.out _).mono ?_; rintro e w1 ⟨rfl, rfl⟩)
    go_ret3
    exact ⟨_, _, _, 0, rfl, HB.out.symm, rfl⟩
  · have hix := index_any s
    rw [h1] at hix
    have hlt : k < s.size := by rw [size_list]; exact h2
    have HX : Hid _ := hix
    have HB : Hid _ := h3
    clear hix h1 h2 h3
    go_enter Try.func42, Try.ntmps42
    go_wp2_with (go_at_call 63; refine (HX.out _).mono ?_; rintro e w1 ⟨rfl, rfl⟩)
    go_region
    go_wp2
    go_ret3
    exact ⟨_, _, _, 1, rfl, by rw [HB.out]; exact extract_list s k, rfl⟩

set_option maxRecDepth 100000 in
set_option maxHeartbeats 1000000 in
theorem cut_any (s : ByteArray) (w : World) (hs : s.size ≤ 1048576) :
    Calls Try.prog 24 #[.string s, .string ⟨#[35]⟩] w fun e w' => ∃ (t r : ByteArray) (f : Bool) (q : Nat), e = .returned (.tuple #[.string t, .string r, .bool f]) ∧ t.data.toList = Pl.bare s.data.toList ∧ w' = w.drewN q := by
  go_enter Try.func24, Try.ntmps24
  go_wp2_with (go_at_call 42; refine (cutl_any _ _ hs).mono ?_; rintro e w1 ⟨t, r, f, q, rfl, ht, rfl⟩)
  go_ret3
  exact ⟨_, _, _, q, rfl, ht, rfl⟩

theorem under172 : Try.prog.underlying 111 = some (.pointer 5) := by kernel_rfl
theorem under135' : Try.prog.underlying 22 = some (.slice 5) := by kernel_rfl
theorem Try.info5 : (Try.prog.info? 5).map (fun i => (i.zero, i.size, i.bytes)) = some (some (.int .u8 0), 1, 1) := by kernel_rfl

set_option maxHeartbeats 4000000 in
set_option maxRecDepth 100000 in
theorem clone_any (s : ByteArray) (w : World) (hlim : s.size ≤ 1048576) :
    Calls Try.prog 62 #[.string s] w fun e w' => e = .returned (.string s) ∧ Below w.heap.size w w' := by
  by_cases h0 : s.size = 0
  · have hs : s = ⟨#[]⟩ := by
      apply ByteArray.ext
      exact Array.eq_empty_of_size_eq_zero h0
    subst hs
    go_enter Try.func62, Try.ntmps62
    go_wp2
    go_ret
    exact ⟨rfl, Below.refl _ _⟩
  · obtain ⟨i0, hi, hz0, hz1, hz2⟩ := info_parts Try.info5
    have hinfo : (Try.prog.info? 5).map (·.size) = some 1 := by rw [hi]; simp [hz1]
    have hco : Try.prog.cellsOf 5 = 1 := by simp [Program.cellsOf, hi, hz1]
    obtain ⟨M, hM⟩ : ∃ M, M = madeCells (Value.int .u8 0).cells (((s.size : Nat) : Int).toNat * i0.size) := ⟨_, rfl⟩
    have hMs : M.size = s.size := by rw [hM, size_madeCells, hz1]; simp
    have hmk : ∀ W : World, (Instr.makeSlice 22 (.int .i64 (s.size : Int)) (.int .i64 (s.size : Int))).run Try.prog W = .ok (.slice (some ⟨W.heap.size, 0, none⟩) s.size s.size) (W.alloc (.cells M 5)) := fun W => by
      have h := run_make (P := Try.prog) W 22 5 i0 (.int .u8 0) under135' hi hz0 .i64 .i64 (s.size : Int) (s.size : Int) (by omega) (by omega) (by rw [hz2]; omega) (by omega)
      rw [← hM] at h
      simpa using h
    clear hM
    have hcp := Lib.run_copy_row_string (P := Try.prog) (w.alloc (.cells M 5)) 22 9 3 5 w.heap.size 0 s.size s.size s M 5 under135' hinfo (heap_alloc_new w _) (Nat.le_refl _) (by omega)
    obtain ⟨Y, hY⟩ : ∃ Y, Y = (M.toList.take 0 ++ Lib.byteCells s.data.toList ++ M.toList.drop (0 + s.size)).toArray := ⟨_, rfl⟩
    rw [← hY] at hcp
    have hYl : Y.toList = Lib.byteCells s.data.toList := by
      rw [hY, List.toList_toArray, List.take_zero, List.nil_append, List.drop_of_length_le (by rw [Array.length_toList]; omega), List.append_nil]
    have hYs : Y.size = s.size := by rw [← Array.length_toList, hYl, Lib.byteCells_length, ← Lib.size_eq]
    have hgY : ((w.alloc (.cells M 5)).setRow w.heap.size Y).heap[w.heap.size]? = some (.cells Y 5 (0, 0)) := setRow_heap _ _ M _ 5 (0, 0) (heap_alloc_new w _)
    have hne : s.data.toList ≠ [] := fun e => h0 (by rw [Lib.size_eq, e]; rfl)
    have hUS := Lib.run_unsafeString_row (P := Try.prog) ((w.alloc (.cells M 5)).setRow w.heap.size Y) 111 3 9 5 under172 hco w.heap.size Y.size (by unfold World.shape?; rw [hgY]) s.data.toList hne (by rw [← Lib.size_eq]; omega) (by rw [← Lib.size_eq]; omega)
      (fun j x hx => Lib.cells_of_row hgY Y.size j _ (by rw [List.take_of_length_le (by rw [Array.length_toList]; exact Nat.le_refl _), hYl]; simp [Lib.byteCells, hx]))
    rw [← Lib.size_eq] at hUS
    clear hY
    go_enter Try.func62, Try.ntmps62
    go_wp2
    go_ret
    have hb1 : Below w.heap.size w (w.alloc (.cells M 5)) := (Below.refl _ w).alloc (Nat.le_refl _) _
    have hb2 : Below w.heap.size (w.alloc (.cells M 5)) ((w.alloc (.cells M 5)).setRow w.heap.size Y) := ⟨rfl, rfl, rfl, by simp, fun k hk => setRow_other _ _ _ _ (by omega)⟩
    exact ⟨rfl, Lib.below_freeze (hb1.trans hb2) (p := ⟨w.heap.size, 0, none⟩) (Nat.le_refl _) _⟩

set_option maxRecDepth 100000 in
set_option maxHeartbeats 1000000 in
theorem clones_any (s : ByteArray) (w : World) (hlim : s.size ≤ 1048576) :
    Calls Try.prog 39 #[.string s] w fun e w' => e = .returned (.string s) ∧ Below w.heap.size w w' := by
  go_enter Try.func39, Try.ntmps39
  go_wp2_with (go_at_call 62; refine (clone_any _ _ hlim).mono ?_; rintro e w1 ⟨rfl, hb⟩)
  go_ret
  exact ⟨rfl, hb⟩

end Go.Proofs.Ytbdhlcfcmennjaa
