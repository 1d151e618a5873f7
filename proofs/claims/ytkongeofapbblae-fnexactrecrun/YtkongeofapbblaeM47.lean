/-
  Several texts in one.
-/
import Derived.Test.YtkongeofapbblaeM41
import Derived.Test.YtkongeofapbblaeM1
import Derived.Test.YtkongeofapbblaeLo
/-
  Contracts of the laws' own comparing of data that hold the same.
-/
namespace Go.Proofs.Ytkongeofapbblae
open Go.RowKit

set_option maxRecDepth 100000 in
set_option maxHeartbeats 4000000 in
theorem eqStringS_any (S S' : Nat → Prop) (l : List ByteArray) (va vb : Value) (w : World) (ha : AtL S w l va) (hb : AtL S' w l vb) (hS : ∀ b, S b → b < w.heap.size) (hS' : ∀ b, S' b → b < w.heap.size) :
    Calls Try.prog 11 #[va, vb] w fun e w' => e = .returned (.bool true) ∧ Below w.heap.size w w' := by
  obtain ⟨oa, ca, rfl, hn, hca⟩ := ha
  obtain ⟨ob, cb, rfl, _, hcb⟩ := hb
  obtain ⟨n, en⟩ : ∃ n, l.length = n := ⟨_, rfl⟩
  rw [en] at hn
  rw [en]
  unfold maxLen at hn
  have HA : Hid _ := hca
  have HB : Hid _ := hcb
  clear hca hcb
  go_enter Try.func11, Try.ntmps11
  go_wp2
  go_loopw [5] (fun i wr => ∃ k : Nat, k ≤ n ∧ i = .int .i64 k ∧ Hid (Below w.heap.size w wr)) (fun i _ => n - (intOf i).toNat)
  case atStart => exact ⟨0, Nat.zero_le _, rfl, Below.refl _ _⟩
  case round =>
    obtain ⟨k, hk, rfl, hbel⟩ := hrel
    have hs := hbel.out.size
    by_cases hlt : k < n
    · obtain ⟨ba, fa, rfl, hba, cc, hxa, hata⟩ := HA.out k (by omega)
      obtain ⟨bb, fb, rfl, hbb, dd, hxb, hatb⟩ := HB.out k (by omega)
      have hba' := hS ba hba
      have hbb' := hS' bb hbb
      rw [width_str] at hxa hxb
      have a0 : wr.cell? ⟨ba, fa + k, none⟩ = some (cc 0) := (hbel.out.cell (p := ⟨ba, fa + k, none⟩) (by show ba < _; omega)).trans (by simpa using hxa 0 (by omega))
      have c0 : wr.cell? ⟨bb, fb + k, none⟩ = some (dd 0) := (hbel.out.cell (p := ⟨bb, fb + k, none⟩) (by show bb < _; omega)).trans (by simpa using hxb 0 (by omega))
      rw [at_str] at hata hatb
      rw [hata.1] at a0
      rw [hatb.1] at c0
      clear hata hatb
      clear hxa hxb
      have qa0 := fun d os => cell_regrown a0 d os
      have qc0 := fun d os => cell_regrown c0 d os
      go_wp2
      refine wp_region_quiet_below (by kernel_rfl) (by kernel_rfl) ?_
      repeat (first | go_big_quiet_step (fail) | quiet_step (fail))
      refine wpQuiet_nil ?_
      intro _ hw'
      obtain ⟨⟨dq, osq⟩, hw''⟩ := hw'
      subst hw''
      go_wp2
      go_roundw
      case rel => exact ⟨k + 1, by omega, by go_num, hbel.out.trans ((below_regrown _ dq osq).mono hs)⟩
      case measure => simp [intOf]; omega
    · go_wp2
      go_ret
      exact ⟨rfl, hbel.out⟩

end Go.Proofs.Ytkongeofapbblae

/-
  Contracts of the laws' own copying of data: the copy holds what the data hold, in new memory.
-/
namespace Go.Proofs.Ytkongeofapbblae
open Go.RowKit

set_option maxRecDepth 100000 in
set_option maxHeartbeats 4000000 in
theorem toRecSay_any (S : Nat → Prop) (a : DRecSay) (c : Nat → Value) (w : World) (h : Lay.At S w a c) (_hS : ∀ b, S b → b < w.heap.size) (_hm : Lay.tot a ≤ 1048576) :
    Calls Try.prog 24 #[.agg #[c 0, c 1]] w fun e w' => ∃ g : Nat → Value, e = .returned (.agg #[g 0, g 1]) ∧ Lay.At (fun b => w.heap.size ≤ b ∧ b < w'.heap.size) w' a g ∧ Below w.heap.size w w' := by
  rw [at_DRecSay] at h
  obtain ⟨⟨e0, z0, y0⟩, e1⟩ := h
  rw [e0, e1]
  clear e0 e1
  go_enter Try.func24, Try.ntmps24
  go_wp2
  exact bodyPost_ret (v := .agg #[.int .i64 a.1, .bool a.2]) (by simp [results, Try.results24, go_sem]) rfl ⟨cs [.int .i64 a.1, .bool a.2], rfl, at_DRecSay.2 ⟨⟨rfl, z0, y0⟩, rfl⟩, by repeat (first | exact Below.refl _ _ | refine Below.alloc ?_ (by simp; try omega) _)⟩

theorem underRecSayS : Try.prog.underlying 33 = some (.slice 50) := by kernel_rfl
theorem infoRecSayS : (Try.prog.info? 50).map (fun i => (i.zero, i.size, i.bytes)) = some (some (.agg #[.int .i64 0, .bool false]), 2, 16) := by kernel_rfl

set_option maxRecDepth 100000 in
set_option maxHeartbeats 4000000 in
theorem toSays_row (S : Nat → Prop) (l : List DRecSay) (v : Value) (w : World) (h : AtL S w l v) (hS : ∀ b, S b → b < w.heap.size) (hm : totL l ≤ 1048576) :
    Calls Try.prog 8 #[v] w fun e w' => ∃ c, e = .returned (.slice (some ⟨w.heap.size, 0, none⟩) l.length l.length) ∧ (w'.heap[w.heap.size]? = some (.cells c 50 (0, 0)) ∧ c.size = l.length * 2) ∧ AtL (fun b => w.heap.size ≤ b ∧ b < w'.heap.size) w' l (.slice (some ⟨w.heap.size, 0, none⟩) l.length l.length) ∧ Below w.heap.size w w' := by
  obtain ⟨oa, cap, rfl, hn, hc⟩ := h
  have hln := totL_len l
  have HTE : Hid (∀ i (h : i < l.length), Lay.tot l[i] ≤ 1048576) := fun i h => Nat.le_trans (totL_el l i h) hm
  obtain ⟨n, en⟩ : ∃ n, l.length = n := ⟨_, rfl⟩
  rw [en] at hn hln
  rw [en]
  have HC : Hid _ := hc
  clear hc hn
  obtain ⟨i0, hi, hz0, hz1, hz2⟩ := info_parts infoRecSayS
  obtain ⟨M, hM⟩ : ∃ M, M = madeCells (.agg #[.int .i64 0, .bool false] : Value).cells ((n : Int).toNat * i0.size) := ⟨_, rfl⟩
  have hMs : M.size = n * 2 := by rw [hM, size_madeCells, hz1]; simp
  have hmk : ∀ W : World, (Instr.makeSlice 33 (.int .i64 (n : Int)) (.int .i64 (n : Int))).run Try.prog W = .ok (.slice (some ⟨W.heap.size, 0, none⟩) n n) (W.alloc (.cells M 50)) := fun W => by
    have h := run_make (P := Try.prog) W 33 50 i0 (.agg #[.int .i64 0, .bool false]) underRecSayS hi hz0 .i64 .i64 (n : Int) (n : Int) (by omega) (by omega) (by rw [hz2]; omega) (by omega)
    rw [← hM] at h
    simpa using h
  clear hM
  go_enter Try.func8, Try.ntmps8
  go_wp2
  go_loopw [4] (fun i wr => ∃ (k : Nat) (c : Array Value), k ≤ n ∧ i = .int .i64 k ∧ Hid (wr.heap[w.heap.size]? = some (.cells c 50 (0, 0))) ∧ c.size = n * 2 ∧ Hid (∀ i (h : i < l.length), i < k → ∃ g : Nat → Value, (∀ j, j < 2 → c[i * 2 + j]? = some (g j)) ∧ Lay.At (fun b => w.heap.size < b ∧ b < wr.heap.size) wr l[i] g) ∧ Hid (Below w.heap.size w wr)) (fun i _ => n - (intOf i).toNat)
  case atStart => exact ⟨0, M, Nat.zero_le _, rfl, heap_alloc_new w _, hMs, fun _ _ h => by omega, (Below.refl _ _).alloc (Nat.le_refl _) _⟩
  case round =>
    obtain ⟨k, c, hk, rfl, hrow, hcs, hall, hbel⟩ := hrel
    have hRw : w.heap.size < wr.heap.size := (Array.getElem?_eq_some_iff.1 hrow.out).1
    by_cases hlt : k < n
    · obtain ⟨b, off, rfl, hbS, cc, hcell, hat⟩ := HC.out k (by omega)
      have hb := hS b hbS
      rw [width_DRecSay] at hcell
      have e0 : wr.cell? ⟨b, off + k * 2, none⟩ = some (cc 0) := (hbel.out.cell (p := ⟨b, off + k * 2, none⟩) (by show b < _; omega)).trans (by simpa using hcell 0 (by omega))
      have e1 : wr.cell? ⟨b, off + k * 2 + 1, none⟩ = some (cc 1) := (hbel.out.cell (p := ⟨b, off + k * 2 + 1, none⟩) (by show b < _; omega)).trans (by simpa using hcell 1 (by omega))
      clear hcell
      have HAT : Hid _ := hat
      clear hat
      go_wp2_with fail
      refine (toRecSay_any S _ cc _ (Lay.same HAT.out (Same.of_below hbel.out hS)) (fun b hb => by have := hS b hb; omega) (HTE.out k (by omega))).mono ?_
      rintro e u ⟨g, rfl, hg, hbu⟩
      have HG : Hid _ := hg
      clear hg
      have hus := hbu.size
      have hrow2 : Hid (u.heap[w.heap.size]? = some (.cells c 50 (0, 0))) := (hbu.block _ hRw).trans hrow.out
      have hbel2 : Hid (Below w.heap.size w u) := hbel.out.trans (hbu.mono (by omega))
      obtain ⟨⟨ge0, _, _⟩, ge1⟩ := at_DRecSay.1 HG.out
      rw [ge0, ge1]
      obtain ⟨v0, hv0⟩ : ∃ v, c[k * 2]? = some v := ⟨_, Array.getElem?_eq_getElem (by omega)⟩
      obtain ⟨hcl0, hfr0⟩ := cell_row hrow2.out (k * 2) v0 hv0
      clear hv0
      obtain ⟨v1, hv1⟩ : ∃ v, c[k * 2 + 1]? = some v := ⟨_, Array.getElem?_eq_getElem (by omega)⟩
      obtain ⟨hcl1, hfr1⟩ := cell_row hrow2.out (k * 2 + 1) v1 hv1
      clear hv1
      have HSM : Hid (Same (fun b => w.heap.size < b ∧ b < u.heap.size) u ((u.setCell ⟨w.heap.size, k * 2, none⟩ (.int .i64 (l[k]'(by omega)).1)).setCell ⟨w.heap.size, k * 2 + 1, none⟩ (.bool (l[k]'(by omega)).2))) := ((Same.of_set _ ⟨w.heap.size, k * 2, none⟩ (.int .i64 (l[k]'(by omega)).1) (fun h => absurd h.1 (Nat.lt_irrefl _))).trans (Same.of_set _ ⟨w.heap.size, k * 2 + 1, none⟩ (.bool (l[k]'(by omega)).2) (fun h => absurd h.1 (Nat.lt_irrefl _))))
      have HSZ : Hid (((u.setCell ⟨w.heap.size, k * 2, none⟩ (.int .i64 (l[k]'(by omega)).1)).setCell ⟨w.heap.size, k * 2 + 1, none⟩ (.bool (l[k]'(by omega)).2)).heap.size = u.heap.size) := by simp [Hid]
      go_wp2_with fail
      go_roundw
      case rel =>
        refine ⟨k + 1, ((c.setIfInBounds (k * 2) (.int .i64 (l[k]'(by omega)).1)).setIfInBounds (k * 2 + 1) (.bool (l[k]'(by omega)).2)), by omega, by go_num, (set_row (set_row hrow2.out (k * 2) _) (k * 2 + 1) _), by simpa using hcs, ?_, ((hbel2.out.setCell (Nat.le_refl _) _).setCell (Nat.le_refl _) _)⟩
        intro i hi hik
        by_cases e : i = k
        · subst e
          refine ⟨g, ?_, ?_⟩
          · intro j hj
            rcases (show j = 0 ∨ j = 1 by omega) with rfl | rfl
            · rw [ge0]
              simp only [Array.getElem?_setIfInBounds, Array.size_setIfInBounds, hcs]
              repeat (first | rw [if_pos True.intro] | rw [if_pos (by omega)] | rw [if_neg (by omega)])
            · rw [ge1]
              simp only [Array.getElem?_setIfInBounds, Array.size_setIfInBounds, hcs]
              repeat (first | rw [if_pos True.intro] | rw [if_pos (by omega)] | rw [if_neg (by omega)])
          · refine Lay.up (S := fun b => w.heap.size < b ∧ b < u.heap.size) (Lay.same (Lay.up HG.out ?_) HSM.out) ?_
            · intro b hb; exact ⟨by omega, hb.2⟩
            · intro b hb; exact ⟨hb.1, by rw [HSZ.out]; exact hb.2⟩
        · obtain ⟨g', h1, h2⟩ := hall.out i hi (by omega)
          refine ⟨g', fun j hj => ?_, ?_⟩
          · simp only [Array.getElem?_setIfInBounds]
            repeat rw [if_neg (by omega)]
            exact h1 j hj
          · refine Lay.up (S := fun b => w.heap.size < b ∧ b < u.heap.size) (Lay.same (Lay.up (Lay.same h2 (Same.of_below hbu (fun b hb => hb.2))) ?_) HSM.out) ?_
            · intro b hb; exact ⟨hb.1, by have := hb.2; omega⟩
            · intro b hb; exact ⟨hb.1, by rw [HSZ.out]; exact hb.2⟩
      case measure => simp [intOf]; omega
    · have hkn : k = n := by omega
      subst hkn
      go_wp2_with fail
      go_ret
      refine ⟨c, rfl, ⟨hrow.out, hcs⟩, ⟨_, _, by rw [en], by rw [en]; exact ⟨by unfold maxLen; omega, Nat.le_refl _, fun h => nomatch h⟩, fun i hi => ⟨w.heap.size, 0, rfl, ⟨Nat.le_refl _, hRw⟩, ?_⟩⟩, hbel.out⟩
      obtain ⟨g', h1, h2⟩ := hall.out i hi (by omega)
      refine ⟨g', fun j hj => ?_, Lay.up h2 (fun b hb => ⟨by omega, hb.2⟩)⟩
      rw [width_DRecSay] at hj ⊢
      have e : 0 + i * 2 + j = i * 2 + j := by omega
      rw [e]
      exact (cell_row hrow.out _ _ (h1 j hj)).1


set_option maxRecDepth 100000 in
set_option maxHeartbeats 4000000 in
theorem szSays_any (oa : Option Addr) (n cap : Nat) (x : Int) (w : World) (hn : n ≤ maxLen) (h0 : 0 ≤ x) (h1 : x ≤ 1048576) :
    Calls Try.prog 5 #[.slice oa n cap, .int .i64 x] w fun e w' => ∃ y : Int, e = .returned (.int .i64 y) ∧ (y < 0 ∨ y + (n : Int) = x) ∧ Below w.heap.size w w' := by
  unfold maxLen at hn
  by_cases c : x - (n : Int) < 0
  · go_enter Try.func5, Try.ntmps5
    go_wp2
    go_ret
    exact ⟨_, rfl, .inl (by omega), Below.refl _ _⟩
  · go_enter Try.func5, Try.ntmps5
    go_wp2
    go_ret
    exact ⟨_, rfl, .inr (by omega), Below.refl _ _⟩

set_option maxRecDepth 100000 in
set_option maxHeartbeats 4000000 in
theorem markSays_any (g n : Nat) (c0 : Array Value) (x : Int) (w : World) (hn : n ≤ 1048576) (hr : w.heap[g]? = some (.cells c0 50 (0, 0))) (hc : c0.size = n * 2) (h1 : 1 ≤ x) (h2 : x ≤ 20000000) :
    Calls Try.prog 15 #[.slice (some ⟨g, 0, none⟩) n n, .int .i64 x] w fun e w' => ∃ y : Int, e = .returned (.int .i64 y) ∧ 1 ≤ y ∧ But (fun b => b = g) w w' := by
  go_enter Try.func15, Try.ntmps15
  go_wp2
  go_loopw [5, 1] (fun i q wr => ∃ (k : Nat) (c : Array Value), k ≤ n ∧ i = .int .i64 k ∧ q = .int .i64 (x + 2 * k) ∧ Hid (wr.heap[g]? = some (.cells c 50 (0, 0))) ∧ c.size = n * 2 ∧ Hid (But (fun b => b = g) w wr)) (fun i _ _ => n - (intOf i).toNat)
  case atStart => exact ⟨0, c0, Nat.zero_le _, rfl, by simp, hr, hc, But.refl _ _⟩
  case round =>
    obtain ⟨k, c, hk, rfl, rfl, hrow, hcs, hb⟩ := hrel
    by_cases hlt : k < n
    · obtain ⟨v0, hv0⟩ : ∃ v, c[k * 2]? = some v := ⟨_, Array.getElem?_eq_getElem (by omega)⟩
      obtain ⟨v1, hv1⟩ : ∃ v, c[k * 2 + 1]? = some v := ⟨_, Array.getElem?_eq_getElem (by omega)⟩
      obtain ⟨k0, f0⟩ := cell_row hrow.out (k * 2) v0 hv0
      obtain ⟨B, hB⟩ : ∃ B : Bool, ((x + 2 * (k : Int) + 1).tmod 3 == 0) = B := ⟨_, rfl⟩
      have rowA := set_row hrow.out (k * 2) (.int .i64 (x + 2 * (k : Int)))
      have hv1' : (c.setIfInBounds (k * 2) (.int .i64 (x + 2 * (k : Int))))[k * 2 + 1]? = some v1 := by
        simp only [Array.getElem?_setIfInBounds]
        rw [if_neg (by omega)]; exact hv1
      obtain ⟨k1, f1⟩ := cell_row rowA (k * 2 + 1) v1 hv1'
      have rowB := fun B => set_row rowA (k * 2 + 1) (.bool B)
      have bB := fun B => (hb.out.set rfl (k * 2) (.int .i64 (x + 2 * (k : Int)))).set rfl (k * 2 + 1) (.bool B)
      have RB : Hid _ := rowB
      have BB : Hid _ := bB
      clear rowA rowB bB hv0 hv1 hv1'
      go_wp2_with fail
      go_roundw
      case rel => exact ⟨k + 1, _, by omega, by go_num, by go_num, RB.out _, by simpa using hcs, BB.out _⟩
      case measure => simp [intOf]; omega
    · go_wp2_with fail
      go_ret
      exact ⟨_, rfl, by omega, hb.out⟩

end Go.Proofs.Ytkongeofapbblae
