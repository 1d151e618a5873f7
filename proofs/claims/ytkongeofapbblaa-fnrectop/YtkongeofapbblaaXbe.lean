/-
  The program's table of a recipe, filled from the last phase back: what is told of a name by it.
-/
import Derived.Test.YtkongeofapbblaaM26
import Derived.Test.YtkongeofapbblaaM8
import Derived.Test.YtkongeofapbblaaXpo
import Derived.Test.YtkongeofapbblaaHm
import Derived.Test.YtkongeofapbblaaHi
import Derived.Test.YtkongeofapbblaaHy
import Derived.Test.YtkongeofapbblaaHq
import Derived.Deep.Cut
import Derived.Laws.EntriesVeiled
import Derived.Maps.OwnIn
namespace Go.Proofs.Ytkongeofapbblaa
open Go.RowKit Go.Sort

attribute [local go_sem] Oper.semAt_some

theorem endP_qe (x : ByteArray) (wr : World) (d : Nat) (os : Array Obj) : Calls Try.prog 9 #[.string x] (grow (redrawn wr d) os) fun e w'' => e = .returned (.int .i64 (endI x)) ∧ ∃ p : Regrown, w'' = grow (redrawn wr p.d) p.os :=
  (endP_any x _).mono fun _ _ h => ⟨h.1, ⟨d, os⟩, h.2⟩

theorem ret4E {w : World} {g : Nat} {x0 x1 x2 x3 : Value} {t : TypeId} (h : w.heap[g]? = some (.cells #[x0, x1, x2, x3] t (0, 0))) (a b c d : Value) :
    ((((w.setCell ⟨g, 0, none⟩ a).setCell ⟨g, 1, none⟩ b).setCell ⟨g, 2, none⟩ c).setCell ⟨g, 3, none⟩ d).heap[g]? = some (.cells #[a, b, c, d] t (0, 0)) ∧ Below g w ((((w.setCell ⟨g, 0, none⟩ a).setCell ⟨g, 1, none⟩ b).setCell ⟨g, 2, none⟩ c).setCell ⟨g, 3, none⟩ d) := by
  refine ⟨?_, ?_⟩
  · have := set_row (set_row (set_row (set_row h 0 a) 1 b) 2 c) 3 d
    simpa using this
  · exact (((((Below.refl _ _).setCell (p := ⟨g, 0, none⟩) (Nat.le_refl _) a).setCell (p := ⟨g, 1, none⟩) (Nat.le_refl _) b).setCell (p := ⟨g, 2, none⟩) (Nat.le_refl _) c).setCell (p := ⟨g, 3, none⟩) (Nat.le_refl _) d)
theorem end_range (x : ByteArray) : endI x = 0 ∨ endI x = 1 ∨ endI x = 2 ∨ endI x = 3 := by
  unfold endI
  repeat' split
  all_goals simp

set_option maxRecDepth 100000 in
set_option maxHeartbeats 4000000 in
theorem aloneE_any (e : Int) (w : World) (he : e = 0 ∨ e = 1 ∨ e = 2 ∨ e = 3) : Calls Try.prog 32 #[.int .i64 e] w fun f w' => f = .returned (.agg #[.bool (e == 0), .bool (e == 1), .bool (e == 2), .bool (e == 3)]) ∧ Below w.heap.size w w' := by
  rcases he with rfl | rfl | rfl | rfl
  all_goals
    go_enter Try.func32, Try.ntmps32
    go_wp2
    exact bodyPost_ret (by simp [results, Try.results32, go_sem]) rfl ⟨rfl, ((Below.refl _ _).alloc (Nat.le_refl _) _).alloc (by simp) _⟩

set_option maxRecDepth 100000 in
set_option maxHeartbeats 4000000 in
theorem with_any (a0 a1 a2 a3 b0 b1 b2 b3 : Bool) (w : World) : Calls Try.prog 30 #[.agg #[.bool (a0), .bool (a1), .bool (a2), .bool (a3)], .agg #[.bool (b0), .bool (b1), .bool (b2), .bool (b3)]] w fun f w' => f = .returned (.agg #[.bool (a0 || b0), .bool (a1 || b1), .bool (a2 || b2), .bool (a3 || b3)]) ∧ Below w.heap.size w w' := by
  go_enter Try.func30, Try.ntmps30
  go_wp2
  go_loopw [8] (fun i wr => (i = .int .i64 0 ∧ wr = ((w.alloc (.cells #[.bool (a0), .bool (a1), .bool (a2), .bool (a3)] 59)).alloc (.cells #[.bool (b0), .bool (b1), .bool (b2), .bool (b3)] 59)).alloc (.cells #[.bool false, .bool false, .bool false, .bool false] 59)) ∨ (i = .int .i64 1 ∧ wr = ((w.alloc (.cells #[.bool (a0 || b0), .bool (a1), .bool (a2), .bool (a3)] 59)).alloc (.cells #[.bool (b0), .bool (b1), .bool (b2), .bool (b3)] 59)).alloc (.cells #[.bool false, .bool false, .bool false, .bool false] 59)) ∨ (i = .int .i64 2 ∧ wr = ((w.alloc (.cells #[.bool (a0 || b0), .bool (a1 || b1), .bool (a2), .bool (a3)] 59)).alloc (.cells #[.bool (b0), .bool (b1), .bool (b2), .bool (b3)] 59)).alloc (.cells #[.bool false, .bool false, .bool false, .bool false] 59)) ∨ (i = .int .i64 3 ∧ wr = ((w.alloc (.cells #[.bool (a0 || b0), .bool (a1 || b1), .bool (a2 || b2), .bool (a3)] 59)).alloc (.cells #[.bool (b0), .bool (b1), .bool (b2), .bool (b3)] 59)).alloc (.cells #[.bool false, .bool false, .bool false, .bool false] 59)) ∨ (i = .int .i64 4 ∧ wr = ((w.alloc (.cells #[.bool (a0 || b0), .bool (a1 || b1), .bool (a2 || b2), .bool (a3 || b3)] 59)).alloc (.cells #[.bool (b0), .bool (b1), .bool (b2), .bool (b3)] 59)).alloc (.cells #[.bool false, .bool false, .bool false, .bool false] 59))) (fun i _ => 4 - (intOf i).toNat)
  case atStart => exact .inl ⟨rfl, rfl⟩
  case round =>
    rcases hrel with ⟨rfl, rfl⟩ | ⟨rfl, rfl⟩ | ⟨rfl, rfl⟩ | ⟨rfl, rfl⟩ | ⟨rfl, rfl⟩
    · have ix : ∀ W, (Instr.index 59 (.agg #[.bool (b0), .bool (b1), .bool (b2), .bool (b3)]) (.int .i64 0)).run Try.prog W = .ok (.bool b0) W := fun W => by kernel_rfl
      cases a0
      all_goals
        go_wp2
        go_roundw
        case rel => exact .inr (.inl ⟨by go_num, by simp only [Bool.false_or, Bool.true_or]⟩)
        case measure => simp [intOf]
    · have ix : ∀ W, (Instr.index 59 (.agg #[.bool (b0), .bool (b1), .bool (b2), .bool (b3)]) (.int .i64 1)).run Try.prog W = .ok (.bool b1) W := fun W => by kernel_rfl
      cases a1
      all_goals
        go_wp2
        go_roundw
        case rel => exact .inr (.inr (.inl ⟨by go_num, by simp only [Bool.false_or, Bool.true_or]⟩))
        case measure => simp [intOf]
    · have ix : ∀ W, (Instr.index 59 (.agg #[.bool (b0), .bool (b1), .bool (b2), .bool (b3)]) (.int .i64 2)).run Try.prog W = .ok (.bool b2) W := fun W => by kernel_rfl
      cases a2
      all_goals
        go_wp2
        go_roundw
        case rel => exact .inr (.inr (.inr (.inl ⟨by go_num, by simp only [Bool.false_or, Bool.true_or]⟩)))
        case measure => simp [intOf]
    · have ix : ∀ W, (Instr.index 59 (.agg #[.bool (b0), .bool (b1), .bool (b2), .bool (b3)]) (.int .i64 3)).run Try.prog W = .ok (.bool b3) W := fun W => by kernel_rfl
      cases a3
      all_goals
        go_wp2
        go_roundw
        case rel => exact .inr (.inr (.inr (.inr (⟨by go_num, by simp only [Bool.false_or, Bool.true_or]⟩))))
        case measure => simp [intOf]
    · go_wp2
      exact bodyPost_ret (v := .agg #[.bool (a0 || b0), .bool (a1 || b1), .bool (a2 || b2), .bool (a3 || b3)]) (by simp [results, Try.results30, go_sem]) rfl ⟨rfl, (((Below.refl _ _).alloc (Nat.le_refl _) _).alloc (by simp) _).alloc (by simp; omega) _⟩

set_option maxRecDepth 100000 in
set_option maxHeartbeats 4000000 in
theorem eitherE_any (nm a b th el : ByteArray) (kd n wi : Int) (a0 a1 a2 a3 b0 b1 b2 b3 : Bool) (w : World) :
    Calls Try.prog 29 #[.agg #[.string nm, .int .i64 kd, .string a, .string b, .int .i64 n, .int .i64 wi, .string th, .string el], .agg #[.bool (a0), .bool (a1), .bool (a2), .bool (a3)], .agg #[.bool (b0), .bool (b1), .bool (b2), .bool (b3)]] w fun e w' => e = .returned (.agg #[.bool (a0 || b0), .bool (a1 || b1), .bool (a2 || b2), .bool (a3 || b3)]) ∧ Below w.heap.size w w' := by
  obtain ⟨U, hU⟩ : ∃ u, u = (((w.alloc (.cells #[.string nm, .int .i64 kd, .string a, .string b, .int .i64 n, .int .i64 wi, .string th, .string el] 37)).alloc (.cells #[.bool (a0), .bool (a1), .bool (a2), .bool (a3)] 59)).alloc (.cells #[.bool (b0), .bool (b1), .bool (b2), .bool (b3)] 59)).alloc (.cells #[.bool false, .bool false, .bool false, .bool false] 59) := ⟨_, rfl⟩
  have EU : Hid (U = (((w.alloc (.cells #[.string nm, .int .i64 kd, .string a, .string b, .int .i64 n, .int .i64 wi, .string th, .string el] 37)).alloc (.cells #[.bool (a0), .bool (a1), .bool (a2), .bool (a3)] 59)).alloc (.cells #[.bool (b0), .bool (b1), .bool (b2), .bool (b3)] 59)).alloc (.cells #[.bool false, .bool false, .bool false, .bool false] 59)) := hU
  have sU : w.heap.size + 4 ≤ U.heap.size := by rw [hU]; simp
  have BU : Hid (Below w.heap.size w U) := by rw [hU]; exact ((((Below.refl _ _).alloc (Nat.le_refl _) _).alloc (by simp) _).alloc (by simp; omega) _).alloc (by simp; omega) _
  have PU : Hid (U.heap[w.heap.size + 1 + 1 + 1]? = some (.cells #[.bool false, .bool false, .bool false, .bool false] 59 (0, 0))) := by rw [hU]; exact alloc_at _ (by simp)
  have P1 : Hid (U.heap[w.heap.size + 1]? = some (.cells #[.bool (a0), .bool (a1), .bool (a2), .bool (a3)] 59 (0, 0))) := by rw [hU]; exact alloc_up _ (alloc_up _ (alloc_at _ (by simp)))
  have P2 : Hid (U.heap[w.heap.size + 1 + 1]? = some (.cells #[.bool (b0), .bool (b1), .bool (b2), .bool (b3)] 59 (0, 0))) := by rw [hU]; exact alloc_up _ (alloc_at _ (by simp))
  clear hU
  obtain ⟨c10, _⟩ := cell_row P1.out 0 (.bool a0) rfl
  obtain ⟨c20, _⟩ := cell_row P2.out 0 (.bool b0) rfl
  obtain ⟨c11, _⟩ := cell_row P1.out 1 (.bool a1) rfl
  obtain ⟨c21, _⟩ := cell_row P2.out 1 (.bool b1) rfl
  obtain ⟨c12, _⟩ := cell_row P1.out 2 (.bool a2) rfl
  obtain ⟨c22, _⟩ := cell_row P2.out 2 (.bool b2) rfl
  obtain ⟨c13, _⟩ := cell_row P1.out 3 (.bool a3) rfl
  obtain ⟨c23, _⟩ := cell_row P2.out 3 (.bool b3) rfl
  go_enter Try.func29, Try.ntmps29
  go_upto_region 1 with fail
  rw [← EU.out]
  go_wp2_with fail
  refine (with_any a0 a1 a2 a3 b0 b1 b2 b3 _).mono ?_; rintro e u ⟨rfl, hb⟩
  have Bu : Hid (Below w.heap.size w u) := BU.out.trans (hb.mono BU.out.size)
  have su := hb.size
  have PV : Hid (u.heap[w.heap.size + 1 + 1 + 1]? = some (.cells #[.bool false, .bool false, .bool false, .bool false] 59 (0, 0))) := (hb.block _ (by omega)).trans PU.out
  clear hb
  obtain ⟨d0, f0⟩ := cell_row PV.out 0 (.bool false) rfl
  obtain ⟨d1, f1⟩ := cell_row PV.out 1 (.bool false) rfl
  obtain ⟨d2, f2⟩ := cell_row PV.out 2 (.bool false) rfl
  obtain ⟨d3, f3⟩ := cell_row PV.out 3 (.bool false) rfl
  have F := ret4E PV.out (.bool (a0 || b0)) (.bool (a1 || b1)) (.bool (a2 || b2)) (.bool (a3 || b3))
  have HF : Hid _ := F
  clear F
  go_wp2_with fail
  have F := HF.out
  obtain ⟨FW, hF⟩ : ∃ u', u' = (((u.setCell ⟨w.heap.size + 1 + 1 + 1, 0, none⟩ (.bool (a0 || b0))).setCell ⟨w.heap.size + 1 + 1 + 1, 1, none⟩ (.bool (a1 || b1))).setCell ⟨w.heap.size + 1 + 1 + 1, 2, none⟩ (.bool (a2 || b2))).setCell ⟨w.heap.size + 1 + 1 + 1, 3, none⟩ (.bool (a3 || b3)) := ⟨_, rfl⟩
  rw [← hF]
  rw [← hF] at F
  clear hF HF
  obtain ⟨F0, F1⟩ := F
  have s0 := (cell_row F0 0 (.bool (a0 || b0)) rfl).1
  have s1 := (cell_row F0 1 (.bool (a1 || b1)) rfl).1
  have s2 := (cell_row F0 2 (.bool (a2 || b2)) rfl).1
  have s3 := (cell_row F0 3 (.bool (a3 || b3)) rfl).1
  exact bodyPost_ret (v := .agg #[.bool (a0 || b0), .bool (a1 || b1), .bool (a2 || b2), .bool (a3 || b3)]) (by simp [results, Try.results29, go_sem, s0, s1, s2, s3]) rfl ⟨rfl, Bu.out.trans (F1.mono (by omega))⟩

set_option maxRecDepth 100000 in
set_option maxHeartbeats 4000000 in
theorem ofE_any (S : Nat → Prop) (r : List DRecPhase) (oa : Option Addr) (n cap : Nat) (x : ByteArray) (g : Nat) (A : Nat → Bool) (w : World) (h : AtL S w r (.slice oa n cap)) (hl : r.length = n) (hS : ∀ b, S b → b < w.heap.size) (hg : g < w.heap.size)
    (hk : ∀ k : Nat, atI r x = (k : Int) → ∀ j, j < 4 → w.cell? ⟨g, k * 4 + j, none⟩ = some (.bool (A j))) (h0 : atI r x = -1 → ∀ j : Nat, A j = (endI x == (j : Int))) :
    Calls Try.prog 33 #[.agg #[.slice oa n cap, .slice (some ⟨g, 0, none⟩) n n, .func (.func 32) #[] #[]], .string x] w fun e w' => e = .returned (.agg #[.bool (A 0), .bool (A 1), .bool (A 2), .bool (A 3)]) ∧ Below w.heap.size w w' := by
  obtain ⟨U, hU⟩ : ∃ u, u = ((w.alloc (.cells #[.slice oa n cap, .slice (some ⟨g, 0, none⟩) n n, .func (.func 32) #[] #[]] 65)).alloc (.cells #[.bool false, .bool false, .bool false, .bool false] 59)) := ⟨_, rfl⟩
  have EU : Hid (U = ((w.alloc (.cells #[.slice oa n cap, .slice (some ⟨g, 0, none⟩) n n, .func (.func 32) #[] #[]] 65)).alloc (.cells #[.bool false, .bool false, .bool false, .bool false] 59))) := hU
  have sU : w.heap.size + 2 ≤ U.heap.size := by rw [hU]; simp
  have BU : Hid (Below w.heap.size w U) := by rw [hU]; exact ((Below.refl _ _).alloc (Nat.le_refl _) _).alloc (by simp) _
  have PT : Hid (U.heap[w.heap.size]? = some (.cells #[.slice oa n cap, .slice (some ⟨g, 0, none⟩) n n, .func (.func 32) #[] #[]] 65 (0, 0))) := by rw [hU]; exact alloc_up _ (alloc_at _ rfl)
  have PR : Hid (U.heap[w.heap.size + 1]? = some (.cells #[.bool false, .bool false, .bool false, .bool false] 59 (0, 0))) := by rw [hU]; exact alloc_at _ (by simp)
  clear hU
  have H : Hid (AtL S U r (.slice oa n cap)) := h.same (Same.of_below BU.out hS)
  have HS : Hid (∀ b, S b → b < U.heap.size) := fun b hb => by have := hS b hb; omega
  have HK : Hid _ := hk
  have HZ : Hid _ := h0
  have hn : n ≤ 9223372036854775807 := by obtain ⟨_, _, e, hx, _⟩ := h; rw [hl] at hx; have := hx.1; unfold maxLen at this; omega
  clear h hk h0 hS
  obtain ⟨y0, _⟩ := cell_row PT.out 0 (.slice oa n cap) rfl
  go_enter Try.func33, Try.ntmps33
  go_upto_region 1 with fail
  rw [← EU.out]
  go_wp2_with fail
  refine (phAt_any S r _ x _ H.out HS.out).mono ?_; rintro e w1 ⟨rfl, hb1⟩
  have kb : Hid (Below w.heap.size w w1) := BU.out.trans (hb1.mono BU.out.size)
  have s1 := hb1.size
  have PT1 : Hid (w1.heap[w.heap.size]? = some (.cells #[.slice oa n cap, .slice (some ⟨g, 0, none⟩) n n, .func (.func 32) #[] #[]] 65 (0, 0))) := (hb1.block _ (by omega)).trans PT.out
  have PR1 : Hid (w1.heap[w.heap.size + 1]? = some (.cells #[.bool false, .bool false, .bool false, .bool false] 59 (0, 0))) := (hb1.block _ (by omega)).trans PR.out
  clear hb1 y0
  obtain ⟨y0, _⟩ := cell_row PT1.out 0 (.slice oa n cap) rfl
  obtain ⟨y1, _⟩ := cell_row PT1.out 1 (.slice (some ⟨g, 0, none⟩) n n) rfl
  obtain ⟨y2, _⟩ := cell_row PT1.out 2 (.func (.func 32) #[] #[]) rfl
  rcases at_cases r x with e | ⟨k, hk, e, _⟩
  · have hB := HZ.out e
    rw [e]
    have q2 := fun d os => cell_regrown y2 d os
    go_upto_region 4 with fail
    refine wp_region_head_tail 4 (by kernel_rfl) (by kernel_rfl) ?_
    simp only [List.take_succ_cons, List.take_zero]
    repeat (first | go_big_quiet_step (with_reducible exact endP_qe x _ _ _) | quiet_step (with_reducible exact endP_qe x _ _ _))
    refine wpQuiet_nil ?_
    rintro w2 ⟨p, rfl⟩
    simp only [List.drop_succ_cons, List.drop_zero]
    obtain ⟨w3, hw3⟩ : ∃ w3, w3 = grow (redrawn w1 p.d) p.os := ⟨_, rfl⟩
    have b3 : Hid (Below w.heap.size w w3) := by rw [hw3]; exact kb.out.trans ((below_regrown w1 p.d p.os).mono kb.out.size)
    have PR3 : Hid (w3.heap[w.heap.size + 1]? = some (.cells #[.bool false, .bool false, .bool false, .bool false] 59 (0, 0))) := by rw [hw3]; exact ((below_regrown w1 p.d p.os).block _ (by omega)).trans PR1.out
    have s3 : w1.heap.size ≤ w3.heap.size := by rw [hw3]; exact (below_regrown w1 p.d p.os).size
    rw [← hw3]
    clear hw3
    go_wp2_with fail
    refine (aloneE_any _ _ (end_range x)).mono ?_; rintro e w4 ⟨rfl, hb4⟩
    have b4 : Hid (Below w.heap.size w w4) := b3.out.trans (hb4.mono b3.out.size)
    have PR4 : Hid (w4.heap[w.heap.size + 1]? = some (.cells #[.bool false, .bool false, .bool false, .bool false] 59 (0, 0))) := (hb4.block _ (by omega)).trans PR3.out
    have s4 := hb4.size
    have hA : ∀ j : Nat, (endI x == (j : Int)) = A j := fun j => (hB j).symm
    have h00 : (endI x == 0) = A 0 := hA 0
    have h01 : (endI x == 1) = A 1 := hA 1
    have h02 : (endI x == 2) = A 2 := hA 2
    have h03 : (endI x == 3) = A 3 := hA 3
    rw [h00, h01, h02, h03]
    clear hb4 hA hB h00 h01 h02 h03 y0 y1 y2 q2
    obtain ⟨d0, f0⟩ := cell_row PR4.out 0 (.bool false) rfl
    obtain ⟨d1, f1⟩ := cell_row PR4.out 1 (.bool false) rfl
    obtain ⟨d2, f2⟩ := cell_row PR4.out 2 (.bool false) rfl
    obtain ⟨d3, f3⟩ := cell_row PR4.out 3 (.bool false) rfl
    have HF : Hid _ := ret4E PR4.out (.bool (A 0)) (.bool (A 1)) (.bool (A 2)) (.bool (A 3))
    go_wp2_with fail
    have F := HF.out
    obtain ⟨FW, hF⟩ : ∃ u', u' = (((w4.setCell ⟨w.heap.size + 1, 0, none⟩ (.bool (A 0))).setCell ⟨w.heap.size + 1, 1, none⟩ (.bool (A 1))).setCell ⟨w.heap.size + 1, 2, none⟩ (.bool (A 2))).setCell ⟨w.heap.size + 1, 3, none⟩ (.bool (A 3)) := ⟨_, rfl⟩
    rw [← hF]
    rw [← hF] at F
    clear hF HF
    obtain ⟨F0, F1⟩ := F
    have s0 := (cell_row F0 0 (.bool (A 0)) rfl).1
    have s1 := (cell_row F0 1 (.bool (A 1)) rfl).1
    have s2 := (cell_row F0 2 (.bool (A 2)) rfl).1
    have s3 := (cell_row F0 3 (.bool (A 3)) rfl).1
    exact bodyPost_ret (v := .agg #[.bool (A 0), .bool (A 1), .bool (A 2), .bool (A 3)]) (by simp [results, Try.results33, go_sem, s0, s1, s2, s3]) rfl ⟨rfl, b4.out.trans (F1.mono (by omega))⟩
  · rw [e]
    have hkn : k < n := by omega
    have yk : ∀ j, j < 4 → w1.cell? ⟨g, k * 4 + j, none⟩ = some (.bool (A j)) := fun j hj => (kb.out.cell (p := ⟨g, k * 4 + j, none⟩) hg).trans (HK.out k e j hj)
    have k0 : w1.cell? ⟨g, k * 4, none⟩ = some (.bool (A 0)) := yk 0 (by omega)
    have k1 := yk 1 (by omega)
    have k2 := yk 2 (by omega)
    have k3 := yk 3 (by omega)
    clear yk
    obtain ⟨d0, f0⟩ := cell_row PR1.out 0 (.bool false) rfl
    obtain ⟨d1, f1⟩ := cell_row PR1.out 1 (.bool false) rfl
    obtain ⟨d2, f2⟩ := cell_row PR1.out 2 (.bool false) rfl
    obtain ⟨d3, f3⟩ := cell_row PR1.out 3 (.bool false) rfl
    have HF : Hid _ := ret4E PR1.out (.bool (A 0)) (.bool (A 1)) (.bool (A 2)) (.bool (A 3))
    go_wp2_with fail
    have F := HF.out
    obtain ⟨FW, hF⟩ : ∃ u', u' = (((w1.setCell ⟨w.heap.size + 1, 0, none⟩ (.bool (A 0))).setCell ⟨w.heap.size + 1, 1, none⟩ (.bool (A 1))).setCell ⟨w.heap.size + 1, 2, none⟩ (.bool (A 2))).setCell ⟨w.heap.size + 1, 3, none⟩ (.bool (A 3)) := ⟨_, rfl⟩
    rw [← hF]
    rw [← hF] at F
    clear hF HF
    obtain ⟨F0, F1⟩ := F
    have s0 := (cell_row F0 0 (.bool (A 0)) rfl).1
    have s1 := (cell_row F0 1 (.bool (A 1)) rfl).1
    have s2 := (cell_row F0 2 (.bool (A 2)) rfl).1
    have s3 := (cell_row F0 3 (.bool (A 3)) rfl).1
    exact bodyPost_ret (v := .agg #[.bool (A 0), .bool (A 1), .bool (A 2), .bool (A 3)]) (by simp [results, Try.results33, go_sem, s0, s1, s2, s3]) rfl ⟨rfl, kb.out.trans (F1.mono (by omega))⟩

theorem underTE : Try.prog.underlying 62 = some (.slice 59) := by kernel_rfl
theorem infoTE : (Try.prog.info? 59).map (fun i => (i.zero, i.size, i.bytes)) = some (some (.agg #[.bool false, .bool false, .bool false, .bool false]), 4, 4) := by kernel_rfl

/-- Where the filling of a table stands: the last so many are told. -/
structure TbE (U : World) (g n : Nat) (r : List DRecPhase) (m : Nat) (X : World) : Prop where
  row : ∃ c : Array Value, X.heap[g]? = some (.cells c 59 (0, 0)) ∧ c.size = n * 4 ∧ ∀ i, i < n → n ≤ i + m → ∀ j : Nat, j < 4 → c[i * 4 + j]? = some (.bool (canF 12 r (phN r i).1 (j : Int)))
  but : But (fun k => k = g) U X
theorem TbE.grown {U : World} {g n : Nat} {r : List DRecPhase} {m : Nat} {A C : World} {row : Option Nat} (h : TbE U g n r m A) (hg : A.grownBy C row) (hr : ∀ q, row = some q → U.heap.size ≤ q ∧ ∃ o : Obj, A.heap[q]? = some o ∧ o.isCells = false) (hU : g < U.heap.size) : TbE U g n r m C := by
  obtain ⟨⟨c, h1, h2⟩, hb⟩ := h
  exact ⟨⟨c, (hg.block g (Array.getElem?_eq_some_iff.1 h1).1 (fun e => by have := (hr g e.symm).1; omega)).trans h1, h2⟩, but_grown hb hg (fun q e => (hr q e).1)⟩

set_option maxRecDepth 100000 in
set_option maxHeartbeats 4000000 in
theorem tabE_any (S : Nat → Prop) (r : List DRecPhase) (oa : Option Addr) (n cap : Nat) (w : World) (hR : RecP r) (h : AtL S w r (.slice oa n cap)) (hl : r.length = n) (hS : ∀ b, S b → b < w.heap.size) :
    Calls Try.prog 31 #[.slice oa n cap, .func (.func 32) #[] #[], .func (.func 29) #[] #[]] w fun e w' => ∃ g, e = .returned (.agg #[.slice oa n cap, .slice (some ⟨g, 0, none⟩) n n, .func (.func 32) #[] #[]]) ∧ (g < w'.heap.size ∧ ∀ i, i < n → ∀ j : Nat, j < 4 → w'.cell? ⟨g, i * 4 + j, none⟩ = some (.bool (canF 12 r (phN r i).1 (j : Int)))) ∧ Below w.heap.size w w' := by
  have h1 := hR.1.1
  have h2 := hR.1.2
  rw [hl] at h1 h2
  have HR : Hid (RecP r) := hR
  have HL : Hid (r.length = n) := hl
  have H : Hid (∀ u, Below w.heap.size w u → AtL S u r (.slice oa n cap)) := fun u hu => h.same (Same.of_below hu hS)
  have HS : Hid (∀ b, S b → b < w.heap.size) := hS
  clear h hS hl hR
  obtain ⟨i0, hi, hz0, hz1, hz2⟩ := info_parts infoTE
  obtain ⟨M, hM⟩ : ∃ M, M = madeCells (.agg #[.bool false, .bool false, .bool false, .bool false] : Value).cells ((n : Int).toNat * i0.size) := ⟨_, rfl⟩
  have hMs : M.size = n * 4 := by rw [hM, size_madeCells, hz1]; simp
  have hmk : ∀ W : World, (Instr.makeSlice 62 (.int .i64 (n : Int)) (.int .i64 (n : Int))).run Try.prog W = .ok (.slice (some ⟨W.heap.size, 0, none⟩) n n) (W.alloc (.cells M 59)) := fun W => by
    have h := run_make (P := Try.prog) W 62 59 i0 (.agg #[.bool false, .bool false, .bool false, .bool false]) underTE hi hz0 .i64 .i64 (n : Int) (n : Int) (by omega) (by omega) (by rw [hz2]; omega) (by omega)
    rw [← hM] at h
    simpa using h
  have HMS : Hid (M.size = n * 4) := hMs
  clear hM hMs hi hz0 hz1 hz2 i0
  obtain ⟨U, hU⟩ : ∃ u, u = ((((w.alloc (.cells #[.func (.func 29) #[] #[]] 61)).alloc (.cells #[.slice none 0 0, .slice none 0 0, .nilFunc] 65)).alloc (.cells M 59)).alloc (.cells #[.slice oa n cap, .slice (some ⟨w.heap.size + 1 + 1, 0, none⟩) n n, .func (.func 32) #[] #[]] 65)).alloc (.cells #[.slice oa n cap] 23) := ⟨_, rfl⟩
  have EU : Hid (U = ((((w.alloc (.cells #[.func (.func 29) #[] #[]] 61)).alloc (.cells #[.slice none 0 0, .slice none 0 0, .nilFunc] 65)).alloc (.cells M 59)).alloc (.cells #[.slice oa n cap, .slice (some ⟨w.heap.size + 1 + 1, 0, none⟩) n n, .func (.func 32) #[] #[]] 65)).alloc (.cells #[.slice oa n cap] 23)) := hU
  have sU : w.heap.size + 5 ≤ U.heap.size ∧ U.heap.size ≤ w.heap.size + 5 := by rw [hU]; simp
  have BU : Hid (Below w.heap.size w U) := by rw [hU]; exact (((((Below.refl _ _).alloc (Nat.le_refl _) _).alloc (by simp) _).alloc (by simp; omega) _).alloc (by simp; omega) _).alloc (by simp; omega) _
  have P5 : Hid (U.heap[w.heap.size]? = some (.cells #[.func (.func 29) #[] #[]] 61 (0, 0))) := by rw [hU]; exact alloc_up _ (alloc_up _ (alloc_up _ (alloc_up _ (alloc_at _ rfl))))
  have P6 : Hid (U.heap[w.heap.size + 1]? = some (.cells #[.slice none 0 0, .slice none 0 0, .nilFunc] 65 (0, 0))) := by rw [hU]; exact alloc_up _ (alloc_up _ (alloc_up _ (alloc_at _ (by simp))))
  have PG : Hid (U.heap[w.heap.size + 1 + 1]? = some (.cells M 59 (0, 0))) := by rw [hU]; exact alloc_up _ (alloc_up _ (alloc_at _ (by simp)))
  have P7 : Hid (U.heap[w.heap.size + 1 + 1 + 1]? = some (.cells #[.slice oa n cap, .slice (some ⟨w.heap.size + 1 + 1, 0, none⟩) n n, .func (.func 32) #[] #[]] 65 (0, 0))) := by rw [hU]; exact alloc_up _ (alloc_at _ (by simp))
  have PB : Hid (U.heap[w.heap.size + 1 + 1 + 1 + 1]? = some (.cells #[.slice oa n cap] 23 (0, 0))) := by rw [hU]; exact alloc_at _ (by simp)
  clear hU
  refine (callsIn_wide (n := 6)).1 ?_
  refine callsIn_of_wp_marks Try.func31 rfl trivial ?_ rfl
  simp only [Try.ntmps31, List.size_toArray, List.length_cons, List.length_nil, Nat.reduceAdd, Nat.reduceSub, Array.replicate_succ, Array.replicate_zero, List.push_toArray, List.append_toArray, List.nil_append, List.cons_append]
  refine wpIn_wide.2 ?_
  go_wp2_with fail
  refine (back_any oa n cap _).mono ?_; rintro e w' ⟨rfl, hw'⟩
  rw [← EU.out] at hw'
  subst hw'
  go_wp2_with fail
  refine (wpIn_wide (n := 5)).1 ?_
  refine wpIn_range_fitp (F := Fence.wide) rfl (by omega) (gf := 77) (lb := #[.pointer (some ⟨w.heap.size + 1 + 1 + 1 + 1, 0, none⟩)]) rfl trivial (enters_of Try.func77 (by kernel_rfl) rfl)
    (back_fit 4 (w.heap.size + 1 + 1 + 1 + 1) w.heap.size (by omega) S oa cap n r (fun _ k => k = w.heap.size + 1 + 1) w' PB.out (H.out _ BU.out) HS.out BU.out.size HL.out (by omega)) (fun _ _ _ _ _ _ _ h _ _ => h) (Below.refl _ _) (fun _ => rfl) (fun k hk e => by omega) BU.out.size
    (fun pre X => TbE w' (w.heap.size + 1 + 1) n r pre.length X) (fun pre A C row hI hg hr => hI.grown hg hr (by omega)) (fun pre X hI => st_one (by have := hI.but.size; omega)) ⟨⟨M, PG.out, by have := HMS.out; omega, fun i h1 h2 => by simp at h2; omega⟩, But.refl _ _⟩ (fun _ _ _ _ _ h _ => h) ?round ?done
  case round =>
    intro l pre y X hI hlen
    obtain ⟨f, ef⟩ : ∃ f, phN r y = f := ⟨_, rfl⟩
    have hv : phV2 r y = #[.int .i64 (y : Int), phC f] := by unfold phV2; rw [ef]
    obtain ⟨nm, kd, a, b', n', wi, th, el⟩ := f
    simp only [phC] at hv
    rw [hv]
    clear hv
    apply Exists.intro
    apply Exists.intro
    refine ⟨?ba, ?assign, ?body⟩
    case assign =>
      intro K hK
      gi_wp2
      exact hK
    case ba => exact (Below.refl _ _).alloc (Nat.le_refl _) _
    case body =>
      intro X0 V _ hV hy hput
      obtain ⟨kk, oo, oo', hk1, hk2, hV2⟩ := hput
      have hne : kk ≠ X.heap.size := fun e => by
        subst e
        rw [heap_alloc_new] at hk1
        cases hk1; cases hk2
      have XP : V.heap[X.heap.size]? = some (.cells #[.string nm, .int .i64 kd, .string a, .string b', .int .i64 n', .int .i64 wi, .string th, .string el] 37 (0, 0)) := by rw [hV2]; exact (World.putObj_heap_other (by omega)).trans (heap_alloc_new X _)
      clear hV2 hk1 hk2 hne hI
      obtain ⟨z0, _⟩ := cell_row XP 0 (.string nm) rfl
      obtain ⟨z1, _⟩ := cell_row XP 1 (.int .i64 kd) rfl
      obtain ⟨z2, _⟩ := cell_row XP 2 (.string a) rfl
      obtain ⟨z3, _⟩ := cell_row XP 3 (.string b') rfl
      obtain ⟨z4, _⟩ := cell_row XP 4 (.int .i64 n') rfl
      obtain ⟨z5, _⟩ := cell_row XP 5 (.int .i64 wi) rfl
      obtain ⟨z6, _⟩ := cell_row XP 6 (.string th) rfl
      obtain ⟨z7, _⟩ := cell_row XP 7 (.string el) rfl
      obtain ⟨⟨c, hc, hcs, hct⟩, hbut⟩ := hV
      have sV := hbut.size
      have yn : y < n := by omega
      have V5 := (hbut.block w.heap.size (by omega) (by omega)).trans P5.out
      have V7 := (hbut.block (w.heap.size + 1 + 1 + 1) (by omega) (by omega)).trans P7.out
      obtain ⟨p5, _⟩ := cell_row V5 0 (.func (.func 29) #[] #[]) rfl
      obtain ⟨t0, _⟩ := cell_row V7 0 (.slice oa n cap) rfl
      obtain ⟨t1, _⟩ := cell_row V7 1 (.slice (some ⟨w.heap.size + 1 + 1, 0, none⟩) n n) rfl
      obtain ⟨t2, _⟩ := cell_row V7 2 (.func (.func 32) #[] #[]) rfl
      have qz0 := fun d os => cell_regrown z0 d os
      have qz1 := fun d os => cell_regrown z1 d os
      have qz2 := fun d os => cell_regrown z2 d os
      have qz3 := fun d os => cell_regrown z3 d os
      have qz4 := fun d os => cell_regrown z4 d os
      have qz5 := fun d os => cell_regrown z5 d os
      have qz6 := fun d os => cell_regrown z6 d os
      have qz7 := fun d os => cell_regrown z7 d os
      have qt0 := fun d os => cell_regrown t0 d os
      have qt1 := fun d os => cell_regrown t1 d os
      have qt2 := fun d os => cell_regrown t2 d os
      have q5 := fun d os => cell_regrown p5 d os
      clear XP V5 V7
      have BUT : Hid (But (fun k => k = w.heap.size + 1 + 1) w' V) := hbut
      have HC : Hid (V.heap[w.heap.size + 1 + 1]? = some (.cells c 59 (0, 0))) := hc
      have HCT : Hid (∀ i, i < n → n ≤ i + pre.length → ∀ j : Nat, j < 4 → c[i * 4 + j]? = some (.bool (canF 12 r (phN r i).1 (j : Int)))) := hct
      have HCS : Hid (c.size = n * 4) := by show _ = _; omega
      have HY : Hid (y = n - 1 - pre.length) := hy
      have BV : Hid (Below w.heap.size w V) := BU.out.trans (hbut.below (B := w.heap.size) (fun b hb => by omega) (by omega))
      have hdV : Hid (Below V.heap.size V V.drew) := (Below.refl _ _).drew
      have hyr : y < r.length := by have := HL.out; omega
      have hri : Hid (r[y]'hyr = (nm, kd, a, b', n', wi, th, el)) := by show _ = _; rw [← ef, phN_at hyr]
      have HLT := later_of HR.out (i := y) hyr
      rw [hri.out] at HLT
      have LAT : Hid _ := HLT
      have HWI := (ph_name (step_of HR.out (k := y) hyr).1).2.2.1
      rw [hri.out] at HWI
      have hwi : 1 ≤ wi ∧ wi ≤ 1000 := HWI
      have TOLD : Hid (∀ (x : ByteArray) (u : World), Below V.heap.size V u → (∀ j : Nat, atI r x = (j : Int) → y < j) → ∀ k : Nat, atI r x = (k : Int) → ∀ j : Nat, j < 4 → u.cell? ⟨w.heap.size + 1 + 1, k * 4 + j, none⟩ = some (.bool (canF 12 r x (j : Int)))) := fun x u hu hlater k hk j hj => by
        rcases at_cases r x with e | ⟨k', hk', e, _⟩
        · omega
        · obtain rfl : k = k' := by omega
          have hkl := hlater k hk
          have hlen := HL.out
          have hyy := HY.out
          have h1 := HCT.out k (by omega) (by omega) j hj
          rw [phN_at (by omega), ← can_at HR.out (by omega) e 11] at h1
          exact (hu.cell (p := ⟨w.heap.size + 1 + 1, k * 4 + j, none⟩) (show w.heap.size + 1 + 1 < V.heap.size by omega)).trans (cell_row HC.out (k * 4 + j) _ h1).1
      have HSV : Hid (∀ u, Below V.heap.size V u → ∀ b, S b → b < u.heap.size) := fun u hu b hb => by have := HS.out b hb; have := hu.size; omega
      have HAV : Hid (∀ u, Below V.heap.size V u → AtL S u r (.slice oa n cap)) := fun u hu => H.out u (BV.out.trans (hu.mono BV.out.size))
      clear hbut hc hcs hct hy ef HLT HWI
      gi_wp2
      refine wpIn_region_mix 14 [0, 1, 2, 3, 4, 5, 6, 7, 9, 10, 11] (by kernel_rfl) (by kernel_rfl) (by kernel_rfl) ?_
      simp only [List.filterMap_cons, List.filterMap_nil, List.getElem?_cons_succ, List.getElem?_cons_zero]
      repeat (first | go_big_quiet_step (fail) | quiet_step (fail))
      refine wpQuiet_nil ?_
      clear p5 t0 t1 t2 q5 qt0 qt1 qt2 z0 z1 z2 z3 z4 z5 z6 z7 qz0 qz1 qz2 qz3 qz4 qz5 qz6 qz7
      have C1 : Hid _ := (fun x u hu hl => ofE_any S r oa n cap x (w.heap.size + 1 + 1) (fun j => canF 12 r x (j : Int)) u (HAV.out u hu) HL.out (HSV.out u hu) (by have := hu.size; omega) (TOLD.out x u hu hl) (fun e j => can_none e 12 (j : Int))) th V.drew hdV.out LAT.out.1
      refine call1 (md := .any) (f := 2) (i := 8) (dc := 28) (fn := 33) ⟨rfl, rfl, rfl, by decide⟩ (by kernel_rfl) ?run1 (Calls.mono C1.out ?_)
      case run1 => go_simp
      rintro e u1 ⟨rfl, hb1⟩
      have B1 : Hid (Below V.heap.size V u1) := hdV.out.trans hb1
      clear hb1
      refine ⟨_, rfl, regrown_of_below B1.out, ?_⟩
      simp only [Act.put, List.setIfInBounds_toArray, List.set_cons_zero, List.set_cons_succ]
      have C2 : Hid _ := (fun x u hu hl => ofE_any S r oa n cap x (w.heap.size + 1 + 1) (fun j => canF 12 r x (j : Int)) u (HAV.out u hu) HL.out (HSV.out u hu) (by have := hu.size; omega) (TOLD.out x u hu hl) (fun e j => can_none e 12 (j : Int))) el u1 B1.out LAT.out.2
      refine call1 (md := .any) (f := 1) (i := 12) (dc := 32) (fn := 33) ⟨rfl, rfl, rfl, by decide⟩ (by kernel_rfl) ?run2 (Calls.mono C2.out ?_)
      case run2 => go_simp
      rintro e u2 ⟨rfl, hb2⟩
      have B2 : Hid (Below V.heap.size V u2) := B1.out.trans (hb2.mono B1.out.size)
      clear hb2
      refine ⟨_, rfl, regrown_of_below B2.out, ?_⟩
      simp only [Act.put, List.setIfInBounds_toArray, List.set_cons_zero, List.set_cons_succ]
      have C3 : Hid _ := eitherE_any nm a b' th el kd n' wi (canF 12 r th 0) (canF 12 r th 1) (canF 12 r th 2) (canF 12 r th 3) (canF 12 r el 0) (canF 12 r el 1) (canF 12 r el 2) (canF 12 r el 3) u2
      refine call1 (md := .any) (f := 0) (i := 13) (dc := 33) (fn := 29) ⟨rfl, rfl, rfl, by decide⟩ (by kernel_rfl) ?run3 (Calls.mono C3.out ?_)
      case run3 => go_simp
      rintro e u3 ⟨rfl, hb3⟩
      have B3 : Hid (Below V.heap.size V u3) := B2.out.trans (hb3.mono B2.out.size)
      clear hb3
      refine ⟨_, rfl, regrown_of_below B3.out, ?_⟩
      simp only [Act.put, List.setIfInBounds_toArray, List.set_cons_zero, List.set_cons_succ]
      refine ⟨by kernel_rfl, ?_⟩
      simp only [List.drop_succ_cons, List.drop_zero]
      have G3 : Hid (u3.heap[w.heap.size + 1 + 1]? = some (.cells c 59 (0, 0))) := (B3.out.block _ (by omega)).trans HC.out
      obtain ⟨v0, hv0⟩ : ∃ v, c[y * 4]? = some v := ⟨_, Array.getElem?_eq_getElem (by have := HCS.out; omega)⟩
      obtain ⟨g0, f0⟩ := cell_row G3.out (y * 4) v0 hv0
      obtain ⟨v1, hv1⟩ : ∃ v, c[y * 4 + 1]? = some v := ⟨_, Array.getElem?_eq_getElem (by have := HCS.out; omega)⟩
      obtain ⟨g1, f1⟩ := cell_row G3.out (y * 4 + 1) v1 hv1
      obtain ⟨v2, hv2⟩ : ∃ v, c[y * 4 + 2]? = some v := ⟨_, Array.getElem?_eq_getElem (by have := HCS.out; omega)⟩
      obtain ⟨g2, f2⟩ := cell_row G3.out (y * 4 + 2) v2 hv2
      obtain ⟨v3, hv3⟩ : ∃ v, c[y * 4 + 3]? = some v := ⟨_, Array.getElem?_eq_getElem (by have := HCS.out; omega)⟩
      obtain ⟨g3, f3⟩ := cell_row G3.out (y * 4 + 3) v3 hv3
      gi_wp2
      have BB : But (fun k => k = w.heap.size + 1 + 1) V ((((u3.setCell ⟨w.heap.size + 1 + 1, y * 4, none⟩ (.bool (canF 12 r th 0 || canF 12 r el 0))).setCell ⟨w.heap.size + 1 + 1, y * 4 + 1, none⟩ (.bool (canF 12 r th 1 || canF 12 r el 1))).setCell ⟨w.heap.size + 1 + 1, y * 4 + 2, none⟩ (.bool (canF 12 r th 2 || canF 12 r el 2))).setCell ⟨w.heap.size + 1 + 1, y * 4 + 3, none⟩ (.bool (canF 12 r th 3 || canF 12 r el 3))) := But.set (S := fun k => k = w.heap.size + 1 + 1) (g := w.heap.size + 1 + 1) (But.set (S := fun k => k = w.heap.size + 1 + 1) (g := w.heap.size + 1 + 1) (But.set (S := fun k => k = w.heap.size + 1 + 1) (g := w.heap.size + 1 + 1) (But.set (S := fun k => k = w.heap.size + 1 + 1) (g := w.heap.size + 1 + 1) (But.of_below B3.out) rfl (y * 4) _) rfl (y * 4 + 1) _) rfl (y * 4 + 2) _) rfl (y * 4 + 3) _
      refine ⟨but_keeps BB HC.out, but_kpo BB (by omega) (by omega), ⟨⟨_, set_row (set_row (set_row (set_row G3.out (y * 4) _) (y * 4 + 1) _) (y * 4 + 2) _) (y * 4 + 3) _, by have := HCS.out; simp only [Array.size_setIfInBounds]; omega, fun i h1 h2 => ?_⟩, BUT.out.trans BB⟩⟩
      rw [List.length_append] at h2
      have hlen1 : [y].length = 1 := rfl
      have hyy := HY.out
      have hcs := HCS.out
      by_cases e : i = y
      · subst e
        intro j hj
        have hst := can_step HR.out hyr (j : Int)
        rw [phN_at hyr, hst, hri.out]
        rcases (show j = 0 ∨ j = 1 ∨ j = 2 ∨ j = 3 by omega) with rfl | rfl | rfl | rfl
        all_goals
          simp only [Array.getElem?_setIfInBounds, Array.size_setIfInBounds]
          repeat (first | rw [if_pos True.intro] | rw [if_pos (by omega)] | rw [if_neg (by omega)])
          try rfl
      · have hold := HCT.out i h1 (by omega)
        intro j hj
        have ho := hold j hj
        simp only [Array.getElem?_setIfInBounds]
        rw [if_neg (by omega), if_neg (by omega), if_neg (by omega), if_neg (by omega)]
        exact ho
  case done =>
    rintro D xs Z hD hDZ hS hI hK hko
    subst hS
    rw [bk_len] at hI
    obtain ⟨⟨c, hc, hcs, hct⟩, hbut⟩ := hI
    have sZ := hbut.size
    have Z7 := (hbut.block (w.heap.size + 1 + 1 + 1) (by omega) (by omega)).trans P7.out
    have Z6 := (hbut.block (w.heap.size + 1) (by omega) (by omega)).trans P6.out
    have BZ : Hid (Below w.heap.size w Z) := BU.out.trans (hbut.below (B := w.heap.size) (fun b hb => by omega) (by omega))
    have KD : Hid (Z.heap[D]? = some (.deferred (some []))) := hK
    have HC : Hid (Z.heap[w.heap.size + 1 + 1]? = some (.cells c 59 (0, 0))) := hc
    have HCT : Hid (∀ i, i < n → n ≤ i + n → ∀ j : Nat, j < 4 → c[i * 4 + j]? = some (.bool (canF 12 r (phN r i).1 (j : Int)))) := hct
    obtain ⟨l0, _⟩ := cell_row Z7 0 (.slice oa n cap) rfl
    obtain ⟨p0', f0'⟩ := cell_row Z6 0 (.slice none 0 0) rfl
    obtain ⟨l1, _⟩ := cell_row Z7 1 (.slice (some ⟨w.heap.size + 1 + 1, 0, none⟩) n n) rfl
    obtain ⟨p1', f1'⟩ := cell_row Z6 1 (.slice none 0 0) rfl
    obtain ⟨l2, _⟩ := cell_row Z7 2 (.func (.func 32) #[] #[]) rfl
    obtain ⟨p2', f2'⟩ := cell_row Z6 2 (.nilFunc) rfl
    obtain ⟨F0, F1, F2, F3⟩ := ret3 Z6 (.slice oa n cap) (.slice (some ⟨w.heap.size + 1 + 1, 0, none⟩) n n) (.func (.func 32) #[] #[])
    have HF0 : Hid _ := F0
    have HF1 : Hid _ := F1
    have HF2 : Hid (_ ≤ _ ∧ _ ≤ _) := ⟨Nat.le_of_eq F2, Nat.le_of_eq F2.symm⟩
    have HF3 : Hid _ := F3
    clear F0 F1 F2 F3 hK hko hbut hc hcs hct
    go_wp2_with fail
    obtain ⟨FW, hF⟩ : ∃ u, u = ((Z.setCell ⟨w.heap.size + 1, 0, none⟩ (.slice oa n cap)).setCell ⟨w.heap.size + 1, 1, none⟩ (.slice (some ⟨w.heap.size + 1 + 1, 0, none⟩) n n)).setCell ⟨w.heap.size + 1, 2, none⟩ (.func (.func 32) #[] #[]) := ⟨_, rfl⟩
    have F0 := HF0.out
    have F1 := HF1.out
    have F2 := HF2.out
    have F3 := HF3.out
    rw [← hF]
    rw [← hF] at F0 F1 F2 F3
    clear hF HF0 HF1 HF2 HF3
    have T1 : FW.heap[D]? = some (.deferred (some [])) := (F1 D (by omega)).trans KD.out
    refine ⟨by simp, .inl ⟨_, _, rfl, run_takeDeferred T1, ?_⟩⟩
    obtain ⟨FF, hFF⟩ : ∃ u, u = FW.putObj D (.deferred none) := ⟨_, rfl⟩
    rw [← hFF]
    have same : ∀ g, g ≠ D → FF.heap[g]? = FW.heap[g]? := fun g h1 => by rw [hFF]; exact World.putObj_heap_other (by omega)
    have sFF : FF.heap.size = FW.heap.size := by rw [hFF]; simp
    have F0' := (same (w.heap.size + 1) (by omega)).trans F0
    have s0 := (cell_row F0' 0 (.slice oa n cap) rfl).1
    have s1 := (cell_row F0' 1 (.slice (some ⟨w.heap.size + 1 + 1, 0, none⟩) n n) rfl).1
    have s2 := (cell_row F0' 2 (.func (.func 32) #[] #[]) rfl).1
    have BFF : Below w.heap.size w FF := by
      have h1 : Below w.heap.size w FW := BZ.out.trans (F3.mono (by omega))
      refine ⟨?_, ?_, ?_, by rw [sFF]; exact h1.size, fun b hb => (same b (by omega)).trans (h1.block b hb)⟩
      · rw [hFF]; exact h1.os
      · rw [hFF]; exact h1.tape
      · rw [hFF]; exact h1.output
    have GF : FF.heap[w.heap.size + 1 + 1]? = some (.cells c 59 (0, 0)) := (same _ (by omega)).trans ((F1 _ (by omega)).trans HC.out)
    exact ⟨.agg #[.slice oa n cap, .slice (some ⟨w.heap.size + 1 + 1, 0, none⟩) n n, .func (.func 32) #[] #[]], (by simp [results, Try.results31, go_sem, s0, s1, s2]), w.heap.size + 1 + 1, rfl, ⟨(Array.getElem?_eq_some_iff.1 GF).1, fun i hi => fun j hj => (cell_row GF (i * 4 + j) _ (HCT.out i hi (by omega) j hj)).1⟩, BFF⟩

end Go.Proofs.Ytkongeofapbblaa
