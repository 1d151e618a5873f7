/-
  Several texts in one.
-/
import Derived.Test.YthgnhjkkfhfgmaaChecked
import Derived.WalkKit
import Derived.WalkSpells
import Derived.WalkLawsBesides
import Derived.BigQuiet
import Derived.Lib.Bytealg
import Derived.Lib.UnsafeStr
import Derived.Lib.BufferWrite
import Derived.Laws.MakeOwn
import Derived.Laws.Externs
import Derived.Test.YthgnhjkkfhfgmaaM42
/-
  A contract of the library's fresh copy of a text.
-/
namespace Go.Proofs.Ythgnhjkkfhfgmaa
open Go.RowKit

theorem under172 : Try.prog.underlying 68 = some (.pointer 5) := by kernel_rfl
theorem under135' : Try.prog.underlying 22 = some (.slice 5) := by kernel_rfl
theorem info5c : (Try.prog.info? 5).map (fun i => (i.zero, i.size, i.bytes)) = some (some (.int .u8 0), 1, 1) := by kernel_rfl

set_option maxHeartbeats 4000000 in
set_option maxRecDepth 100000 in
theorem clone_any (s : ByteArray) (w : World) (hlim : s.size ≤ 1048576) :
    Calls Try.prog 26 #[.string s] w fun e w' => e = .returned (.string s) ∧ Below w.heap.size w w' := by
  by_cases h0 : s.size = 0
  · have hs : s = ⟨#[]⟩ := by
      apply ByteArray.ext
      exact Array.eq_empty_of_size_eq_zero h0
    subst hs
    go_enter Try.func26, Try.ntmps26
    go_wp2
    go_ret
    exact ⟨rfl, Below.refl _ _⟩
  · obtain ⟨i0, hi, hz0, hz1, hz2⟩ := info_parts info5c
    have hinfo : (Try.prog.info? 5).map (·.size) = some 1 := by rw [hi]; simp [hz1]
    have hco : Try.prog.cellsOf 5 = 1 := by simp [Program.cellsOf, hi, hz1]
    obtain ⟨M, hM⟩ : ∃ M, M = madeCells (Value.int .u8 0).cells (((s.size : Nat) : Int).toNat * i0.size) := ⟨_, rfl⟩
    have hMs : M.size = s.size := by rw [hM, size_madeCells, hz1]; simp
    have hmk : ∀ W : World, (Instr.makeSlice 22 (.int .i64 (s.size : Int)) (.int .i64 (s.size : Int))).run Try.prog W = .ok (.slice (some ⟨W.heap.size, 0, none⟩) s.size s.size) (W.alloc (.cells M 5)) := fun W => by
      have h := run_make (P := Try.prog) W 22 5 i0 (.int .u8 0) under135' hi hz0 .i64 .i64 (s.size : Int) (s.size : Int) (by omega) (by omega) (by rw [hz2]; omega) (by omega)
      rw [← hM] at h
      simpa using h
    clear hM
    have hcp := Lib.run_copy_row_string (P := Try.prog) (w.alloc (.cells M 5)) 22 9 3 5 w.heap.size 0 s.size s.size s M 5 under135' hinfo (heap_alloc_new w _) (Nat.le_refl _) (by omega)
    obtain ⟨Y, hY⟩ : ∃ Y, Y = (M.toList.take 0 ++ Lib.byteCells s.data.toList ++ M.toList.drop (0 + s.size)).toArray := ⟨_, rfl⟩
    rw [← hY] at hcp
    have hYl : Y.toList = Lib.byteCells s.data.toList := by
      rw [hY, List.toList_toArray, List.take_zero, List.nil_append, List.drop_of_length_le (by rw [Array.length_toList]; omega), List.append_nil]
    have hYs : Y.size = s.size := by rw [← Array.length_toList, hYl, Lib.byteCells_length, ← Lib.size_eq]
    have hgY : ((w.alloc (.cells M 5)).setRow w.heap.size Y).heap[w.heap.size]? = some (.cells Y 5 (0, 0)) := setRow_heap _ _ M _ 5 (0, 0) (heap_alloc_new w _)
    have hne : s.data.toList ≠ [] := fun e => h0 (by rw [Lib.size_eq, e]; rfl)
    have hUS := Lib.run_unsafeString_row (P := Try.prog) ((w.alloc (.cells M 5)).setRow w.heap.size Y) 68 3 9 5 under172 hco w.heap.size Y.size (by unfold World.shape?; rw [hgY]) s.data.toList hne (by rw [← Lib.size_eq]; omega) (by rw [← Lib.size_eq]; omega)
      (fun j x hx => Lib.cells_of_row hgY Y.size j _ (by rw [List.take_of_length_le (by rw [Array.length_toList]; exact Nat.le_refl _), hYl]; simp [Lib.byteCells, hx]))
    rw [← Lib.size_eq] at hUS
    clear hY
    go_enter Try.func26, Try.ntmps26
    go_wp2
    go_ret
    have hb1 : Below w.heap.size w (w.alloc (.cells M 5)) := (Below.refl _ w).alloc (Nat.le_refl _) _
    have hb2 : Below w.heap.size (w.alloc (.cells M 5)) ((w.alloc (.cells M 5)).setRow w.heap.size Y) := ⟨rfl, rfl, rfl, by simp, fun k hk => setRow_other _ _ _ _ (by omega)⟩
    exact ⟨rfl, Lib.below_freeze (hb1.trans hb2) (p := ⟨w.heap.size, 0, none⟩) (Nat.le_refl _) _⟩

set_option maxRecDepth 100000 in
set_option maxHeartbeats 1000000 in
theorem clones_any (s : ByteArray) (w : World) (hlim : s.size ≤ 1048576) :
    Calls Try.prog 14 #[.string s] w fun e w' => e = .returned (.string s) ∧ Below w.heap.size w w' := by
  go_enter Try.func14, Try.ntmps14
  go_wp2_with (go_at_call 26; refine (clone_any _ _ hlim).mono ?_; rintro e w1 ⟨rfl, hb⟩)
  go_ret
  exact ⟨rfl, hb⟩

end Go.Proofs.Ythgnhjkkfhfgmaa

/-
  The program's ShareWho, whole: it answers as the model does.
-/
namespace Go.Proofs.Ythgnhjkkfhfgmaa
open Go.RowKit

theorem name_le {s : ByteArray} (h : nameB s = true) : s.size ≤ 1048576 := by
  unfold nameB at h
  rw [Bool.and_eq_true, decide_eq_true_iff] at h
  omega
theorem bok_name {T : List ByteArray} {Bs : List DShareBatch} (h : bokB (T, Bs) = true) (i : Nat) (hi : i < Bs.length) : Bs[i].1.size ≤ 1048576 := by
  have := ((bok_iff.1 h).row i hi).bat
  unfold batB at this
  simp only [Bool.and_eq_true] at this
  exact name_le this.1.1.1
theorem bok_nodup {T : List ByteArray} {Bs : List DShareBatch} (h : bokB (T, Bs) = true) : ∀ x ∈ Bs, x.2.1.Nodup := bat_nodup ((bok_parts T Bs).1 (bok_iff.1 h)).2.1
theorem who_at {Bs : List DShareBatch} {M : ByteArray → Option Nat} (h : WhoP Bs M) {x : ByteArray} {t : Nat} (ht : M x = some t) : ∃ hb : t < Bs.length, whoF Bs x = Bs[t].1 := by
  obtain ⟨hb, hx⟩ := (h x t).1 ht
  refine ⟨hb, who_yes hb ((hasB_iff _ _).2 hx) fun j hj hjt => ?_⟩
  cases e : hasB Bs[j].2.1 x
  · rfl
  · have := (h x j).2 ⟨hj, (hasB_iff _ _).1 e⟩
    rw [ht] at this
    cases this
    omega
theorem who_none {Bs : List DShareBatch} {M : ByteArray → Option Nat} (h : WhoP Bs M) {x : ByteArray} (ht : M x = none) : whoF Bs x = ⟨#[]⟩ := by
  refine who_no fun j hj => ?_
  cases e : hasB Bs[j].2.1 x
  · rfl
  · have := (h x j).2 ⟨hj, (hasB_iff _ _).1 e⟩
    rw [ht] at this
    cases this

set_option maxRecDepth 100000 in
set_option maxHeartbeats 8000000 in
theorem whoP_any (S : Nat → Prop) (T : List ByteArray) (Bs : List DShareBatch) (o0 oa : Option Addr) (n0 k0 nb kb : Nat) (x : ByteArray) (w : World) (h0 : AtL S w T (.slice o0 n0 k0)) (h1 : AtL S w Bs (.slice oa nb kb)) (hS : ∀ b, S b → b < w.heap.size) (hx : x.size ≤ 1048576) :
    Calls Try.prog 5 #[.agg #[.slice o0 n0 k0, .slice oa nb kb], .string x] w fun e w' => e = .returned (.string (whoS (T, Bs) x)) ∧ Below w.heap.size w w' := by
  have H0 : Hid (∀ u, Below w.heap.size w u → AtL S u T (.slice o0 n0 k0)) := fun u hu => h0.same (Same.of_below hu hS)
  have H1 : Hid (∀ u, Below w.heap.size w u → AtL S u Bs (.slice oa nb kb)) := fun u hu => h1.same (Same.of_below hu hS)
  have HS : Hid (∀ u, Below w.heap.size w u → ∀ b, S b → b < u.heap.size) := fun u hu b hb => Nat.lt_of_lt_of_le (hS b hb) hu.size
  have enb : Bs.length = nb := by obtain ⟨_, _, e, _⟩ := h1; cases e; rfl
  have ENB : Hid (Bs.length ≤ nb ∧ nb ≤ Bs.length) := ⟨by omega, by omega⟩
  have hmx : nb ≤ maxLen := by rw [← enb]; obtain ⟨_, _, _, h, _⟩ := h1; exact h.1
  unfold maxLen at hmx
  clear h0 h1 enb
  obtain ⟨W, hW⟩ : ∃ W, W = w.alloc (.cells #[.slice o0 n0 k0, .slice oa nb kb] 26) := ⟨_, rfl⟩
  have EW : Hid (W = w.alloc (.cells #[.slice o0 n0 k0, .slice oa nb kb] 26)) := hW
  have BW : Hid (Below w.heap.size w W) := by rw [hW]; exact (Below.refl _ _).alloc (Nat.le_refl _) _
  have RW : Hid (W.heap[w.heap.size]? = some (.cells #[.slice o0 n0 k0, .slice oa nb kb] 26 (0, 0))) := by rw [hW]; exact heap_alloc_new w _
  have sW : w.heap.size + 1 ≤ W.heap.size := by rw [hW]; simp
  clear hW
  have BOX : Hid (∀ u, Below W.heap.size W u → u.heap[w.heap.size]? = some (.cells #[.slice o0 n0 k0, .slice oa nb kb] 26 (0, 0)) ∧ Below w.heap.size w u) := fun u hu => ⟨(hu.block _ (by omega)).trans RW.out, BW.out.trans (hu.mono (by omega))⟩
  have y0 := (cell_row (BOX.out W (Below.refl _ _)).1 0 (.slice o0 n0 k0) rfl).1
  have y1 := (cell_row (BOX.out W (Below.refl _ _)).1 1 (.slice oa nb kb) rfl).1
  go_enter Try.func5, Try.ntmps5
  go_upto_region 1 with fail
  rw [← EW.out]
  go_wp2_with fail
  refine (bookP_any S T Bs _ _ _ _ _ _ W (H0.out W BW.out) (H1.out W BW.out) (HS.out W BW.out)).mono ?_; rintro e u1 ⟨rfl, hb1⟩
  have B1 : Hid (Below W.heap.size W u1) := hb1
  clear hb1 y0 y1
  cases hB : bokB (T, Bs)
  · go_wp2_with fail
    go_ret
    rw [show whoS (T, Bs) x = ⟨#[]⟩ by unfold whoS; rw [hB]; rfl]
    exact ⟨rfl, (BOX.out u1 B1.out).2⟩
  have EB : Hid (whoS (T, Bs) x = whoF Bs x) := by show _ = _; unfold whoS; rw [hB]; rfl
  have y0 := (cell_row (BOX.out u1 B1.out).1 0 (.slice o0 n0 k0) rfl).1
  have y1 := (cell_row (BOX.out u1 B1.out).1 1 (.slice oa nb kb) rfl).1
  go_wp2_with fail
  refine (who_any S Bs _ _ u1 (H1.out u1 (BOX.out u1 B1.out).2) (HS.out u1 (BOX.out u1 B1.out).2) (bok_nodup hB)).mono ?_; rintro e u3 ⟨hw3, hb3⟩
  have B3 : Hid (Below W.heap.size W u3) := B1.out.trans (hb3.mono B1.out.size)
  clear hb3 y0 y1
  rcases hw3 with ⟨rfl, hA⟩ | ⟨m, M, rfl, hMs, hM⟩
  · exact absurd ((bok_parts T Bs).1 (bok_iff.1 hB)).2.2 hA
  have zx : x.size ≤ maxLen := by unfold maxLen; omega
  cases eM : M x with
  | none =>
    have l0 := hMs.look_no zx eM
    have EN : Hid (whoS (T, Bs) x = ⟨#[]⟩) := EB.out.trans (who_none hM eM)
    clear eM hMs hM
    go_wp2_with fail
    go_ret
    rw [EN.out]
    exact ⟨rfl, (BOX.out u3 B3.out).2⟩
  | some t =>
    have l0 := hMs.look_yes zx eM
    obtain ⟨ht, hwt⟩ := who_at hM eM
    have htn : t < nb := by have := ENB.out; omega
    have hnm := bok_name hB t ht
    have b3 := (BOX.out u3 B3.out).2
    obtain ⟨_, _, e1, _, hc⟩ := H1.out u3 b3
    cases e1
    obtain ⟨bb, off, rfl, _, cc, hcell, hat⟩ := hc t ht
    rw [width_DShareBatch] at hcell
    rw [at_DShareBatch] at hat
    have e0 : u3.cell? ⟨bb, off + t * 3, none⟩ = some (.string Bs[t].1) := (by simpa using hcell 0 (by omega) : u3.cell? ⟨bb, off + t * 3, none⟩ = some (cc 0)).trans (by rw [hat.1.1])
    obtain ⟨nm, enm⟩ : ∃ nm, Bs[t].1 = nm := ⟨_, rfl⟩
    rw [enm] at e0 hnm hwt
    have EN : Hid (whoS (T, Bs) x = nm) := EB.out.trans hwt
    have y1 := (cell_row (BOX.out u3 B3.out).1 1 (.slice (some ⟨bb, off, none⟩) Bs.length kb) rfl).1
    clear eM hMs hM hc hcell hat enm hwt b3
    go_wp2_with fail
    refine (clones_any nm _ hnm).mono ?_
    rintro e u4 ⟨rfl, hb4⟩
    have B4 : Hid (Below W.heap.size W u4) := B3.out.trans (hb4.mono B3.out.size)
    clear hb4
    go_wp2_with fail
    go_ret
    rw [EN.out]
    exact ⟨rfl, (BOX.out u4 B4.out).2⟩

end Go.Proofs.Ythgnhjkkfhfgmaa
