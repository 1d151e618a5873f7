/-
  The laws' own copying of a list of texts: the copy owns its memory.
-/
import Derived.Test.YtigkkelaadbhcaaZxm
namespace Go.Proofs.Ytigkkelaadbhcaa
open Go.RowKit

theorem underStringS : Try.prog.underlying 22 = some (.slice 9) := by kernel_rfl
theorem infoStringS : (Try.prog.info? 9).map (fun i => (i.zero, i.size, i.bytes)) = some (some (.string ByteArray.empty), 1, 16) := by kernel_rfl
set_option maxRecDepth 100000 in
set_option maxHeartbeats 4000000 in
theorem toStringS_own (S : Nat → Prop) (l : List ByteArray) (v : Value) (w : World) (h : AtL S w l v) (hS : ∀ b, S b → b < w.heap.size) (hm : totL l ≤ 1048576) :
    Calls Try.prog 6 #[v] w fun e w' => ∃ r, e = .returned r ∧ OnL (fun b => w.heap.size ≤ b ∧ b < w'.heap.size) w' l r ∧ Below w.heap.size w w' := by
  obtain ⟨oa, cap, rfl, hn, hc⟩ := h
  have hln := totL_len l
  have HTE : Hid (∀ i (h : i < l.length), Lay.tot l[i] ≤ 1048576) := fun i h => Nat.le_trans (totL_el l i h) hm
  obtain ⟨n, en⟩ : ∃ n, l.length = n := ⟨_, rfl⟩
  rw [en] at hn hln
  rw [en]
  have HC : Hid _ := hc
  clear hc hn
  obtain ⟨i0, hi, hz0, hz1, hz2⟩ := info_parts infoStringS
  obtain ⟨M, hM⟩ : ∃ M, M = madeCells (.string ByteArray.empty : Value).cells ((n : Int).toNat * i0.size) := ⟨_, rfl⟩
  have hMs : M.size = n * 1 := by rw [hM, size_madeCells, hz1]; simp
  have hmk : ∀ W : World, (Instr.makeSlice 22 (.int .i64 (n : Int)) (.int .i64 (n : Int))).run Try.prog W = .ok (.slice (some ⟨W.heap.size, 0, none⟩) n n) (W.alloc (.cells M 9)) := fun W => by
    have h := run_make (P := Try.prog) W 22 9 i0 (.string ByteArray.empty) underStringS hi hz0 .i64 .i64 (n : Int) (n : Int) (by omega) (by omega) (by rw [hz2]; omega) (by omega)
    rw [← hM] at h
    simpa using h
  clear hM
  go_enter Try.func6, Try.ntmps6
  go_wp2
  go_loopw [4] (fun i wr => ∃ (k : Nat) (c : Array Value) (Ss : Nat → Nat → Prop), k ≤ n ∧ i = .int .i64 k ∧ Hid (wr.heap[w.heap.size]? = some (.cells c 9 (0, 0))) ∧ c.size = n * 1 ∧ Hid ((∀ i b, Ss i b → w.heap.size < b ∧ b < wr.heap.size) ∧ ∀ i j b, Ss i b → Ss j b → i = j) ∧ Hid (∀ i (h : i < l.length), i < k → ∃ g : Nat → Value, (∀ j, j < 1 → c[i * 1 + j]? = some (g j)) ∧ Own.On (Ss i) wr l[i] g) ∧ Hid (Below w.heap.size w wr)) (fun i _ => n - (intOf i).toNat)
  case atStart => exact ⟨0, M, fun _ _ => False, Nat.zero_le _, rfl, heap_alloc_new w _, hMs, ⟨fun _ _ h => h.elim, fun _ _ _ h => h.elim⟩, fun _ _ h => by omega, (Below.refl _ _).alloc (Nat.le_refl _) _⟩
  case round =>
    obtain ⟨k, c, Ss, hk, rfl, hrow, hcs, hdis, hall, hbel⟩ := hrel
    have hRw : w.heap.size < wr.heap.size := (Array.getElem?_eq_some_iff.1 hrow.out).1
    by_cases hlt : k < n
    · obtain ⟨b, off, rfl, hbS, cc, hcell, hat⟩ := HC.out k (by omega)
      have hb := hS b hbS
      rw [width_str] at hcell
      have e0 : wr.cell? ⟨b, off + k, none⟩ = some (cc 0) := (hbel.out.cell (p := ⟨b, off + k, none⟩) (by show b < _; omega)).trans (by simpa using hcell 0 (by omega))
      clear hcell
      have HAT : Hid _ := hat
      clear hat
      have hrow2 : Hid (wr.heap[w.heap.size]? = some (.cells c 9 (0, 0))) := hrow.out
      have hbel2 : Hid (Below w.heap.size w wr) := hbel.out
      obtain ⟨ge0, _⟩ := at_str.1 HAT.out
      rw [ge0] at e0
      obtain ⟨v0, hv0⟩ : ∃ v, c[k]? = some v := ⟨_, Array.getElem?_eq_getElem (by omega)⟩
      obtain ⟨hcl0, hfr0⟩ := cell_row hrow2.out (k) v0 hv0
      clear hv0
      have HSM : Hid (Same (fun b => w.heap.size < b ∧ b < wr.heap.size) wr (wr.setCell ⟨w.heap.size, k, none⟩ (.string (l[k]'(by omega))))) := (Same.of_set _ ⟨w.heap.size, k, none⟩ (.string (l[k]'(by omega))) (fun h => absurd h.1 (Nat.lt_irrefl _)))
      have HSZ : Hid ((wr.setCell ⟨w.heap.size, k, none⟩ (.string (l[k]'(by omega)))).heap.size = wr.heap.size) := by simp [Hid]
      go_wp2_with fail
      go_roundw
      case rel =>
        refine ⟨k + 1, (c.setIfInBounds (k) (.string (l[k]'(by omega)))), fun i b => (i = k ∧ wr.heap.size ≤ b ∧ b < wr.heap.size) ∨ (i ≠ k ∧ Ss i b), by omega, by go_num, (set_row hrow2.out (k) _), by simpa using hcs, ⟨?_, ?_⟩, ?_, (hbel2.out.setCell (Nat.le_refl _) _)⟩
        · intro i b hb
          rw [HSZ.out]
          rcases hb with ⟨_, hb⟩ | ⟨_, hb⟩
          · exact ⟨by omega, hb.2⟩
          · have := hdis.out.1 i b hb; exact ⟨this.1, by exact this.2⟩
        · intro i j b hi hj
          rcases hi with ⟨e1, h1⟩ | ⟨e1, h1⟩ <;> rcases hj with ⟨e2, h2⟩ | ⟨e2, h2⟩
          · rw [e1, e2]
          · have := hdis.out.1 j b h2; omega
          · have := hdis.out.1 i b h1; omega
          · exact hdis.out.2 i j b h1 h2
        intro i hi hik
        by_cases e : i = k
        · subst e
          refine ⟨cc, ?_, ?_⟩
          · intro j hj
            rcases (show j = 0 by omega) with rfl
            · rw [ge0]
              simp only [Array.getElem?_setIfInBounds, hcs]
              repeat (first | rw [if_pos True.intro] | rw [if_pos (by omega)] | rw [if_neg (by omega)])
          · exact Own.on_up (S := fun _ => False) (show Own.On _ _ (_ : ByteArray) _ from HAT.out) (fun b hb => hb.elim)
        · obtain ⟨g', h1, h2⟩ := hall.out i hi (by omega)
          refine ⟨g', fun j hj => ?_, ?_⟩
          · simp only [Array.getElem?_setIfInBounds]
            repeat rw [if_neg (by omega)]
            exact h1 j hj
          · refine Own.on_up (Own.on_same h2 (fun b hb => HSM.out b ⟨(hdis.out.1 i b hb).1, ?_⟩)) (fun b hb => Or.inr ⟨e, hb⟩)
            have := (hdis.out.1 i b hb).2
            omega
      case measure => simp [intOf]; omega
    · have hkn : k = n := by omega
      subst hkn
      go_wp2_with fail
      go_ret
      refine ⟨.slice (some ⟨w.heap.size, 0, none⟩) k k, rfl, ⟨_, _, by rw [en], by rw [en]; exact ⟨by unfold maxLen; omega, Nat.le_refl _, fun h => nomatch h⟩, ?_⟩, hbel.out⟩
      rcases (show l = [] ∨ ∃ x, x ∈ l by cases l with | nil => exact .inl rfl | cons x _ => exact .inr ⟨x, List.mem_cons_self⟩) with e0 | ⟨x, _⟩
      · exact .inl e0
      refine .inr ⟨w.heap.size, 0, Ss, c, 9, rfl, fun i => l.getD i x, fun i hi => by simp [hi], ⟨hrow.out, ⟨Nat.le_refl _, hRw⟩, fun i b hb => ⟨⟨by have := hdis.out.1 i b hb; omega, (hdis.out.1 i b hb).2⟩, fun e => by have := hdis.out.1 i b hb; omega⟩, hdis.out.2, fun i hi => ?_⟩⟩
      obtain ⟨g', h1, h2⟩ := hall.out i hi (by omega)
      refine ⟨g', fun j hj => ?_, ?_⟩
      · rw [width_str] at hj ⊢
        have e : 0 + i * 1 + j = i * 1 + j := by omega
        rw [e]
        exact h1 j hj
      · have e : l.getD i x = l[i] := by simp [hi]
        rw [e]
        exact h2
theorem toStringS_any (S : Nat → Prop) (l : List ByteArray) (v : Value) (w : World) (h : AtL S w l v) (hS : ∀ b, S b → b < w.heap.size) (hm : totL l ≤ 1048576) :
    Calls Try.prog 6 #[v] w fun e w' => ∃ r, e = .returned r ∧ AtL (fun b => w.heap.size ≤ b ∧ b < w'.heap.size) w' l r ∧ Below w.heap.size w w' :=
  (toStringS_own S l v w h hS hm).mono fun _ _ ⟨r, e, ho, hb⟩ => ⟨r, e, ho.at_, hb⟩
end Go.Proofs.Ytigkkelaadbhcaa
