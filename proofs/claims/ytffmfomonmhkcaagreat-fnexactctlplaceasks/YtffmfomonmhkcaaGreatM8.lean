/-
  Several texts in one.
-/
import Derived.Test.YtffmfomonmhkcaaGreatZa
import Derived.Test.YtffmfomonmhkcaaGreatM7
import Derived.Test.YtffmfomonmhkcaaGreatZb
/-
  A contract of how the program compares two pairs of foes.
-/
namespace Go.Proofs.YtffmfomonmhkcaaGreat
open Go.RowKit

open Go.Sort in
theorem cmpSr (a b : ByteArray) (wr : World) (r : Int) (hr : cmpB a b = r) (d : Nat) (os : Array Obj) : Calls Tryz.prog 60 #[.string a, .string b] (grow (redrawn wr d) os) fun e w'' => e = .returned (.int .i64 r) ∧ ∃ p : Regrown, w'' = grow (redrawn wr p.d) p.os :=
  Calls.regrown_of (by subst hr; exact (cmpS_any a b _).mono fun _ _ ⟨he, hw⟩ => ⟨he, by subst hw; exact Below.refl _ _⟩)

theorem or_new (u : World) (a1 a2 b1 b2 : ByteArray) :
    Calls Tryz.prog 105 #[.slice (some ⟨u.heap.size, 0, none⟩) 2 2] (u.alloc (.cells #[.int .i64 (cmpB a1 b1), .int .i64 (cmpB a2 b2)] 3)) fun e w' => e = .returned (.int .i64 (cmpF (a1, a2) (b1, b2))) ∧ w' = u.alloc (.cells #[.int .i64 (cmpB a1 b1), .int .i64 (cmpB a2 b2)] 3) :=
  or_any (cmpB a1 b1) (cmpB a2 b2) _ _ (new_cell u _ _ 0 _ rfl) (new_cell u _ _ 1 _ rfl)

open Go.Sort in
set_option maxRecDepth 100000 in
set_option maxHeartbeats 1000000 in
theorem cmpF_any (a1 a2 b1 b2 : ByteArray) (w : World) :
    Calls Tryz.prog 87 #[.agg #[.string a1, .string a2], .agg #[.string b1, .string b2]] w fun e w' => e = .returned (.int .i64 (cmpF (a1, a2) (b1, b2))) ∧ Below w.heap.size w w' := by
  obtain ⟨W, hW⟩ : ∃ W, W = (w.alloc (.cells #[.string a1, .string a2] 88)).alloc (.cells #[.string b1, .string b2] 88) := ⟨_, rfl⟩
  have hb : Hid (Below w.heap.size w W) := by rw [hW]; exact ((Below.refl _ _).alloc (Nat.le_refl _) _).alloc (by simp) _
  have hs : w.heap.size ≤ W.heap.size := hb.out.size
  have f0 : W.cell? ⟨w.heap.size, 0, none⟩ = some (.string a1) := by rw [hW]; simp
  have f1 : W.cell? ⟨w.heap.size, 1, none⟩ = some (.string a2) := by rw [hW]; simp
  have f2 : W.cell? ⟨w.heap.size + 1, 0, none⟩ = some (.string b1) := by rw [hW]; simp
  have f3 : W.cell? ⟨w.heap.size + 1, 1, none⟩ = some (.string b2) := by rw [hW]; simp
  have q0 := fun d os => cell_regrown f0 d os
  have q1 := fun d os => cell_regrown f1 d os
  have q2 := fun d os => cell_regrown f2 d os
  have q3 := fun d os => cell_regrown f3 d os
  go_enter Tryz.func87, Tryz.ntmps87
  go_wp2
  rw [← hW]
  clear hW
  refine wp_region_head_tail 10 (by kernel_rfl) (by kernel_rfl) ?_
  simp only [List.take_succ_cons, List.take_zero, List.drop_succ_cons, List.drop_zero]
  repeat (first | go_big_quiet_step (with_reducible exact cmpSr _ _ _ _ rfl _ _) | quiet_step (with_reducible exact cmpSr _ _ _ _ rfl _ _))
  refine wpQuiet_nil ?_
  intro _ hw'
  obtain ⟨⟨dq, osq⟩, hw''⟩ := hw'
  subst hw''
  have hb2 : Hid (Below w.heap.size w (grow (redrawn W dq) osq)) := hb.out.trans ((below_regrown _ dq osq).mono hs)
  have hs2 := hb2.out.size
  generalize grow (redrawn W dq) osq = u at hb2 hs2 ⊢
  go_wp2_with (go_at_call 105; refine (or_new _ a1 a2 b1 b2).mono ?_; rintro e w1 ⟨rfl, rfl⟩)
  go_ret
  exact ⟨rfl, hb2.out.alloc hs2 _⟩

end Go.Proofs.YtffmfomonmhkcaaGreat

/-
  Contracts of the program's test whether a list ascends, at foes.
-/
namespace Go.Proofs.YtffmfomonmhkcaaGreat
open Go.RowKit

open Go.Sort in
theorem cmpFq (a1 a2 b1 b2 : ByteArray) (wr : World) (r : Int) (hr : cmpF (a1, a2) (b1, b2) = r) (d : Nat) (os : Array Obj) : Calls Tryz.prog 87 #[.agg #[.string a1, .string a2], .agg #[.string b1, .string b2]] (grow (redrawn wr d) os) fun e w'' => e = .returned (.int .i64 r) ∧ ∃ p : Regrown, w'' = grow (redrawn wr p.d) p.os :=
  Calls.regrown_of (by subst hr; exact cmpF_any a1 a2 b1 b2 _)

set_option maxRecDepth 100000 in
set_option maxHeartbeats 1000000 in
theorem ascF_any (B : Nat) (v : Value) (n : Nat) (f : Nat → ByteArray × ByteArray) (w : World) (h : Lst B w v n 2 (cF f)) (hB : B ≤ w.heap.size) :
    Calls Tryz.prog 86 #[v, .func (.func 87) #[] #[]] w fun e w' => ∃ b, e = .returned (.bool b) ∧ (b = true ↔ ∀ i, 0 < i → i < n → befB ((f (i - 1)).1, (f (i - 1)).2) ((f i).1, (f i).2) = true) ∧ Below w.heap.size w w' := by
  obtain ⟨oa, cap, rfl, hn, hc⟩ := h
  unfold maxLen at hn
  have HC : Hid _ := hc
  clear hc
  go_enter Tryz.func86, Tryz.ntmps86
  go_wp2
  go_loopw [5] (fun i wr => ∃ k : Nat, i = .int .i64 ((k : Int) + 1) ∧ (k + 1 ≤ n ∨ k = 0) ∧ Hid (∀ i, 0 < i → i < k + 1 → befB ((f (i - 1)).1, (f (i - 1)).2) ((f i).1, (f i).2) = true) ∧ Hid (Below w.heap.size w wr)) (fun i _ => n - (intOf i).toNat)
  case atStart => exact ⟨0, rfl, Or.inr rfl, fun _ h1 h2 => by omega, Below.refl _ _⟩
  case round =>
    obtain ⟨k, rfl, hk, hall, hbel⟩ := hrel
    have hs := hbel.out.size
    by_cases hlt : k + 1 < n
    · clear hk
      obtain ⟨b, off, rfl, hbB, hcell⟩ := HC.out (k + 1) hlt
      obtain ⟨b', off', e', hbB', hcellm⟩ := HC.out k (by omega)
      cases e'
      have a0 : wr.cell? ⟨b, off + k * 2, none⟩ = some (.string (f k).1) := (hbel.out.cell (p := ⟨b, off + k * 2, none⟩) (by show b < _; omega)).trans (by simpa [cF] using hcellm 0 (by omega))
      have qa0 := fun d os => cell_regrown a0 d os
      have a1 : wr.cell? ⟨b, off + k * 2 + 1, none⟩ = some (.string (f k).2) := (hbel.out.cell (p := ⟨b, off + k * 2 + 1, none⟩) (by show b < _; omega)).trans (by simpa [cF] using hcellm 1 (by omega))
      have qa1 := fun d os => cell_regrown a1 d os
      have c0 : wr.cell? ⟨b, off + (k + 1) * 2, none⟩ = some (.string (f (k + 1)).1) := (hbel.out.cell (p := ⟨b, off + (k + 1) * 2, none⟩) (by show b < _; omega)).trans (by simpa [cF] using hcell 0 (by omega))
      have qc0 := fun d os => cell_regrown c0 d os
      have c1 : wr.cell? ⟨b, off + (k + 1) * 2 + 1, none⟩ = some (.string (f (k + 1)).2) := (hbel.out.cell (p := ⟨b, off + (k + 1) * 2 + 1, none⟩) (by show b < _; omega)).trans (by simpa [cF] using hcell 1 (by omega))
      have qc1 := fun d os => cell_regrown c1 d os
      have hge : decide (0 ≤ cmpF ((f (k)).1, (f (k)).2) ((f (k + 1)).1, (f (k + 1)).2)) = !befB ((f (k)).1, (f (k)).2) ((f (k + 1)).1, (f (k + 1)).2) := cmpF_ge _ _
      cases hlb : befB ((f (k)).1, (f (k)).2) ((f (k + 1)).1, (f (k + 1)).2)
      · rw [hlb, Bool.not_false] at hge
        go_wp2
        refine wp_region_quiet_below (by kernel_rfl) (by kernel_rfl) ?_
        repeat (first | go_big_quiet_step (with_reducible exact cmpFq _ _ _ _ _ _ rfl _ _) | quiet_step (with_reducible exact cmpFq _ _ _ _ _ _ rfl _ _))
        refine wpQuiet_nil ?_
        intro _ hw'
        obtain ⟨⟨dq, osq⟩, hw''⟩ := hw'
        subst hw''
        go_wp2
        go_ret
        exact ⟨false, rfl, ⟨(fun h => by cases h), fun h => by have := h (k + 1) (by omega) hlt; rw [Nat.add_sub_cancel, hlb] at this; cases this⟩, hbel.out.trans ((below_regrown _ dq osq).mono hs)⟩
      · rw [hlb, Bool.not_true] at hge
        go_wp2
        refine wp_region_quiet_below (by kernel_rfl) (by kernel_rfl) ?_
        repeat (first | go_big_quiet_step (with_reducible exact cmpFq _ _ _ _ _ _ rfl _ _) | quiet_step (with_reducible exact cmpFq _ _ _ _ _ _ rfl _ _))
        refine wpQuiet_nil ?_
        intro _ hw'
        obtain ⟨⟨dq, osq⟩, hw''⟩ := hw'
        subst hw''
        go_wp2
        go_roundw
        case rel => exact ⟨k + 1, by go_num, Or.inl (by omega), fun i h1 h2 => by
          by_cases e : i = k + 1
          · subst e; rw [Nat.add_sub_cancel]; exact hlb
          · exact hall.out i h1 (by omega), hbel.out.trans ((below_regrown _ dq osq).mono hs)⟩
        case measure => simp [intOf]; omega
    · go_wp2
      go_ret
      exact ⟨true, rfl, ⟨fun _ i h1 h2 => hall.out i h1 (by omega), fun _ => rfl⟩, hbel.out⟩

end Go.Proofs.YtffmfomonmhkcaaGreat

/-
  A contract of one of the program's tests of the parts of a plant.
-/
namespace Go.Proofs.YtffmfomonmhkcaaGreat
open Go.RowKit

set_option maxRecDepth 100000 in
set_option maxHeartbeats 4000000 in
theorem foesI_any (B : Nat) (v0 v1 v2 v3 : Value) (nf : Nat) (ff : Nat → ByteArray × ByteArray) (ns : Nat) (fs : Nat → ByteArray) (w : World) (h1 : Lst B w v1 nf 2 (cF ff)) (hB : B ≤ w.heap.size) (h0 : Lst B w v0 ns 1 (cS fs)) (hz : ∀ i, i < nf → True ∧ True) :
    Calls Tryz.prog 56 #[.agg #[v0, v1, v2, v3]] w fun e w' => ∃ b, e = .returned (.bool b) ∧ (b = true ↔ nf ≤ 12 ∧ (∀ i, i < nf → foeQ ns fs ff i) ∧ ∀ i, 0 < i → i < nf → befB ((ff (i - 1)).1, (ff (i - 1)).2) ((ff i).1, (ff i).2) = true) ∧ Below w.heap.size w w' := by
  have H1 : Hid (Lst B w v1 nf 2 (cF ff)) := h1
  have H0 : Hid (Lst B w v0 ns 1 (cS fs)) := h0
  clear h0
  obtain ⟨o1, cap1, rfl, hn1, hc1⟩ := h1
  unfold maxLen at hn1
  have HC1 : Hid _ := hc1
  have HZ : Hid _ := hz
  clear hc1 hz
  by_cases hl : nf ≤ 12
  · have d0 : decide ((12 : Int) < (nf : Int)) = false := by simp; omega
    go_enter Tryz.func56, Tryz.ntmps56
    go_wp2
    go_loopw [12] (fun i wr => ∃ q : Nat, q ≤ nf ∧ i = .int .i64 q ∧ Hid (∀ j, j < q → foeQ ns fs ff j) ∧ Hid (Below (w.heap.size + 1) (w.alloc (.cells #[v0, .slice o1 nf cap1, v2, v3] 36)) wr)) (fun i _ => nf - (intOf i).toNat)
    case atStart => exact ⟨0, Nat.zero_le _, rfl, fun _ h => by omega, Below.refl _ _⟩
    case round =>
      obtain ⟨q, hq, rfl, hallf, hbel⟩ := hrel
      have b0 := box_in hbel.out 0 _ rfl
      have b1 := box_in hbel.out 1 _ rfl
      have b2 := box_in hbel.out 2 _ rfl
      have b3 := box_in hbel.out 3 _ rfl
      simp only [List.getElem_toArray, List.getElem_cons_zero, List.getElem_cons_succ] at b0 b1 b2 b3
      have hsz : w.heap.size + 1 ≤ wr.heap.size := by have := hbel.out.size; simpa using this
      by_cases hlq : q < nf
      · obtain ⟨b, off, rfl, hbB, hcell⟩ := HC1.out q hlq
        obtain ⟨_, _⟩ := HZ.out q hlq
        have e0 : wr.cell? ⟨b, off + q * 2, none⟩ = some (.string (ff q).1) := old_in hbel.out (by omega) (by simpa [cF] using hcell 0 (by omega))
        have e1 : wr.cell? ⟨b, off + q * 2 + 1, none⟩ = some (.string (ff q).2) := old_in hbel.out (by omega) (by simpa [cF] using hcell 1 (by omega))
        have hW : Hid (Below (w.heap.size + 1) (w.alloc (.cells #[v0, .slice (some ⟨b, off, none⟩) nf cap1, v2, v3] 36)) (wr.alloc (.cells #[.string (ff q).1, .string (ff q).2] 88))) := hbel.out.alloc (by omega) _
        have x0 := cell_past b0 (by omega) (.cells #[.string (ff q).1, .string (ff q).2] 88)
        have x1 := cell_past b1 (by omega) (.cells #[.string (ff q).1, .string (ff q).2] 88)
        have x2 := cell_past b2 (by omega) (.cells #[.string (ff q).1, .string (ff q).2] 88)
        have x3 := cell_past b3 (by omega) (.cells #[.string (ff q).1, .string (ff q).2] 88)
        have c0 := new_cell wr #[.string (ff q).1, .string (ff q).2] 88 0 _ rfl
        have c1 := new_cell wr #[.string (ff q).1, .string (ff q).2] 88 1 _ rfl
        simp only [List.getElem_toArray, List.getElem_cons_zero, List.getElem_cons_succ] at c0 c1
        have hsw : wr.heap.size + 1 ≤ (wr.alloc (.cells #[.string (ff q).1, .string (ff q).2] 88)).heap.size := by simp
        cases hab : Op.bytesLess (ff q).1.toList (ff q).2.toList
        · go_wp2_with fail
          go_ret
          exact ⟨false, rfl, ⟨(fun h => by cases h), fun h => absurd (h.2.1 q hlq) (by intro h; have := h.1; rw [ltB, hab] at this; cases this)⟩, below_end hW.out⟩
        · cases hA : hasB ns fs (ff q).1
          · go_wp2_with fail
            refine (hasI_b B v0 ns fs _ _ (H0.out.kept (below_end hW.out) hB)).mono ?_; rintro e u' ⟨rfl, hb'⟩
            rw [hA]
            have hW' : Hid (Below (w.heap.size + 1) _ u') := below_of hW.out hb'
            go_wp2_with fail
            go_ret
            exact ⟨false, rfl, ⟨(fun h => by cases h), fun h => absurd (h.2.1 q hlq) (by intro h; have := h.2.1; rw [hA] at this; cases this)⟩, below_end hW'.out⟩
          · go_wp2_with fail
            refine (hasI_b B v0 ns fs _ _ (H0.out.kept (below_end hW.out) hB)).mono ?_; rintro e u' ⟨rfl, hb'⟩
            rw [hA]
            have hW' : Hid (Below (w.heap.size + 1) _ u') := below_of hW.out hb'
            have hsw' : wr.heap.size + 1 ≤ u'.heap.size := Nat.le_trans hsw hb'.size
            have x0' := (hb'.cell (p := ⟨w.heap.size, 0, none⟩) (by show w.heap.size < _; omega)).trans x0
            have x1' := (hb'.cell (p := ⟨w.heap.size, 1, none⟩) (by show w.heap.size < _; omega)).trans x1
            have x2' := (hb'.cell (p := ⟨w.heap.size, 2, none⟩) (by show w.heap.size < _; omega)).trans x2
            have x3' := (hb'.cell (p := ⟨w.heap.size, 3, none⟩) (by show w.heap.size < _; omega)).trans x3
            have c0' := (hb'.cell (p := ⟨wr.heap.size, 0, none⟩) (by show wr.heap.size < _; omega)).trans c0
            have c1' := (hb'.cell (p := ⟨wr.heap.size, 1, none⟩) (by show wr.heap.size < _; omega)).trans c1
            cases hA2 : hasB ns fs (ff q).2
            · go_wp2_with fail
              refine (hasI_b B v0 ns fs _ _ (H0.out.kept (below_end hW'.out) hB)).mono ?_; rintro e u'' ⟨rfl, hb''⟩
              rw [hA2]
              have hW'' : Hid (Below (w.heap.size + 1) _ u'') := below_of hW'.out hb''
              go_wp2_with fail
              go_ret
              exact ⟨false, rfl, ⟨(fun h => by cases h), fun h => absurd (h.2.1 q hlq) (by intro h; have := h.2.2; rw [hA2] at this; cases this)⟩, below_end hW''.out⟩
            · go_wp2_with fail
              refine (hasI_b B v0 ns fs _ _ (H0.out.kept (below_end hW'.out) hB)).mono ?_; rintro e u'' ⟨rfl, hb''⟩
              rw [hA2]
              have hW'' : Hid (Below (w.heap.size + 1) _ u'') := below_of hW'.out hb''
              have hsw'' : wr.heap.size + 1 ≤ u''.heap.size := Nat.le_trans hsw' hb''.size
              have x0'' := (hb''.cell (p := ⟨w.heap.size, 0, none⟩) (by show w.heap.size < _; omega)).trans x0'
              have x1'' := (hb''.cell (p := ⟨w.heap.size, 1, none⟩) (by show w.heap.size < _; omega)).trans x1'
              have x2'' := (hb''.cell (p := ⟨w.heap.size, 2, none⟩) (by show w.heap.size < _; omega)).trans x2'
              have x3'' := (hb''.cell (p := ⟨w.heap.size, 3, none⟩) (by show w.heap.size < _; omega)).trans x3'
              have c0'' := (hb''.cell (p := ⟨wr.heap.size, 0, none⟩) (by show wr.heap.size < _; omega)).trans c0'
              have c1'' := (hb''.cell (p := ⟨wr.heap.size, 1, none⟩) (by show wr.heap.size < _; omega)).trans c1'
              go_wp2_with fail
              go_roundw
              case rel => exact ⟨q + 1, by omega, by go_num, fun j hj => by
                by_cases e : j = q
                · subst e; exact ⟨hab, hA, hA2⟩
                · exact hallf.out j (by omega), hW''⟩
              case measure => simp [intOf]; omega
      · have hqn : q = nf := by omega
        subst hqn
        have HL := H1.out.kept (below_end hbel.out) hB
        go_wp2_with fail
        refine (ascF_any B _ q ff _ HL (by omega)).mono ?_; rintro e u ⟨bb, rfl, hiff, hbu⟩
        go_wp2_with fail
        go_ret
        refine ⟨bb, rfl, ⟨fun h => ⟨hl, hallf.out, hiff.1 h⟩, fun h => hiff.2 h.2.2⟩, below_end (below_of hbel.out hbu)⟩
  · have d0 : decide ((12 : Int) < (nf : Int)) = true := by simp; omega
    go_enter Tryz.func56, Tryz.ntmps56
    go_wp2
    go_ret
    exact ⟨false, rfl, ⟨(fun h => by cases h), fun h => absurd h.1 hl⟩, (Below.refl _ _).alloc (Nat.le_refl _) _⟩

end Go.Proofs.YtffmfomonmhkcaaGreat

/-
  A contract of one of the program's tests of the parts of a plant.
-/
namespace Go.Proofs.YtffmfomonmhkcaaGreat
open Go.RowKit

set_option maxRecDepth 100000 in
set_option maxHeartbeats 4000000 in
theorem placesI_any (B : Nat) (v0 v1 v2 v3 : Value) (nf : Nat) (ff : Nat → ByteArray × Int × ByteArray) (w : World) (h1 : Lst B w v2 nf 3 (cP ff)) (hB : B ≤ w.heap.size) (hz : ∀ i, i < nf → (ff i).1.size ≤ maxLen ∧ (ff i).2.2.size ≤ maxLen) :
    Calls Tryz.prog 57 #[.agg #[v0, v1, v2, v3]] w fun e w' => ∃ b, e = .returned (.bool b) ∧ (b = true ↔ nf ≤ 14 ∧ (∀ i, i < nf → placeQ ff i) ∧ ∀ i, 0 < i → i < nf → ltB (ff (i - 1)).1 (ff i).1 = true) ∧ Below w.heap.size w w' := by
  have H1 : Hid (Lst B w v2 nf 3 (cP ff)) := h1
  obtain ⟨o1, cap1, rfl, hn1, hc1⟩ := h1
  unfold maxLen at hn1
  have HC1 : Hid _ := hc1
  have HZ : Hid _ := hz
  clear hc1 hz
  by_cases hl : nf ≤ 14
  · have d0 : decide ((14 : Int) < (nf : Int)) = false := by simp; omega
    go_enter Tryz.func57, Tryz.ntmps57
    go_wp2
    go_loopw [12] (fun i wr => ∃ q : Nat, q ≤ nf ∧ i = .int .i64 q ∧ Hid (∀ j, j < q → placeQ ff j) ∧ Hid (Below (w.heap.size + 1) (w.alloc (.cells #[v0, v1, .slice o1 nf cap1, v3] 36)) wr)) (fun i _ => nf - (intOf i).toNat)
    case atStart => exact ⟨0, Nat.zero_le _, rfl, fun _ h => by omega, Below.refl _ _⟩
    case round =>
      obtain ⟨q, hq, rfl, hallf, hbel⟩ := hrel
      have b0 := box_in hbel.out 0 _ rfl
      have b1 := box_in hbel.out 1 _ rfl
      have b2 := box_in hbel.out 2 _ rfl
      have b3 := box_in hbel.out 3 _ rfl
      simp only [List.getElem_toArray, List.getElem_cons_zero, List.getElem_cons_succ] at b0 b1 b2 b3
      have hsz : w.heap.size + 1 ≤ wr.heap.size := by have := hbel.out.size; simpa using this
      by_cases hlq : q < nf
      · obtain ⟨b, off, rfl, hbB, hcell⟩ := HC1.out q hlq
        obtain ⟨hz1, hz2⟩ := HZ.out q hlq
        have e0 : wr.cell? ⟨b, off + q * 3, none⟩ = some (.string (ff q).1) := old_in hbel.out (by omega) (by simpa [cP] using hcell 0 (by omega))
        have e1 : wr.cell? ⟨b, off + q * 3 + 1, none⟩ = some (.int .i64 (ff q).2.1) := old_in hbel.out (by omega) (by simpa [cP] using hcell 1 (by omega))
        have e2 : wr.cell? ⟨b, off + q * 3 + 2, none⟩ = some (.string (ff q).2.2) := old_in hbel.out (by omega) (by simpa [cP] using hcell 2 (by omega))
        have hW : Hid (Below (w.heap.size + 1) (w.alloc (.cells #[v0, v1, .slice (some ⟨b, off, none⟩) nf cap1, v3] 36)) (wr.alloc (.cells #[.string (ff q).1, .int .i64 (ff q).2.1, .string (ff q).2.2] 90))) := hbel.out.alloc (by omega) _
        have x0 := cell_past b0 (by omega) (.cells #[.string (ff q).1, .int .i64 (ff q).2.1, .string (ff q).2.2] 90)
        have x1 := cell_past b1 (by omega) (.cells #[.string (ff q).1, .int .i64 (ff q).2.1, .string (ff q).2.2] 90)
        have x2 := cell_past b2 (by omega) (.cells #[.string (ff q).1, .int .i64 (ff q).2.1, .string (ff q).2.2] 90)
        have x3 := cell_past b3 (by omega) (.cells #[.string (ff q).1, .int .i64 (ff q).2.1, .string (ff q).2.2] 90)
        have c0 := new_cell wr #[.string (ff q).1, .int .i64 (ff q).2.1, .string (ff q).2.2] 90 0 _ rfl
        have c1 := new_cell wr #[.string (ff q).1, .int .i64 (ff q).2.1, .string (ff q).2.2] 90 1 _ rfl
        have c2 := new_cell wr #[.string (ff q).1, .int .i64 (ff q).2.1, .string (ff q).2.2] 90 2 _ rfl
        simp only [List.getElem_toArray, List.getElem_cons_zero, List.getElem_cons_succ] at c0 c1 c2
        have hsw : wr.heap.size + 1 ≤ (wr.alloc (.cells #[.string (ff q).1, .int .i64 (ff q).2.1, .string (ff q).2.2] 90)).heap.size := by simp
        cases hnm : nameB (ff q).1
        · go_wp2_with fail
          refine (nameI_any _ _ hz1).mono ?_; rintro e u' ⟨rfl, hb'⟩
          rw [hnm]
          have hW' : Hid (Below (w.heap.size + 1) _ u') := below_of hW.out hb'
          go_wp2_with fail
          go_ret
          exact ⟨false, rfl, ⟨(fun h => by cases h), fun h => absurd (h.2.1 q hlq) (by intro h; have := h.1; rw [hnm] at this; cases this)⟩, below_end hW'.out⟩
        · go_wp2_with fail
          refine (nameI_any _ _ hz1).mono ?_; rintro e u' ⟨rfl, hb'⟩
          rw [hnm]
          have hW' : Hid (Below (w.heap.size + 1) _ u') := below_of hW.out hb'
          have hsw' : wr.heap.size + 1 ≤ u'.heap.size := Nat.le_trans hsw hb'.size
          have x0' := (hb'.cell (p := ⟨w.heap.size, 0, none⟩) (by show w.heap.size < _; omega)).trans x0
          have x1' := (hb'.cell (p := ⟨w.heap.size, 1, none⟩) (by show w.heap.size < _; omega)).trans x1
          have x2' := (hb'.cell (p := ⟨w.heap.size, 2, none⟩) (by show w.heap.size < _; omega)).trans x2
          have x3' := (hb'.cell (p := ⟨w.heap.size, 3, none⟩) (by show w.heap.size < _; omega)).trans x3
          have c0' := (hb'.cell (p := ⟨wr.heap.size, 0, none⟩) (by show wr.heap.size < _; omega)).trans c0
          have c1' := (hb'.cell (p := ⟨wr.heap.size, 1, none⟩) (by show wr.heap.size < _; omega)).trans c1
          have c2' := (hb'.cell (p := ⟨wr.heap.size, 2, none⟩) (by show wr.heap.size < _; omega)).trans c2
          cases hc0 : decide ((ff q).2.1 < 0)
          · cases hc1 : decide (1000 < (ff q).2.1)
            · cases hst : nameB (ff q).2.2
              · go_wp2_with fail
                refine (nameI_any _ _ hz2).mono ?_; rintro e u'' ⟨rfl, hb''⟩
                rw [hst]
                have hW'' : Hid (Below (w.heap.size + 1) _ u'') := below_of hW'.out hb''
                go_wp2_with fail
                go_ret
                exact ⟨false, rfl, ⟨(fun h => by cases h), fun h => absurd (h.2.1 q hlq) (by intro h; have := h.2.2.2; rw [hst] at this; cases this)⟩, below_end hW''.out⟩
              · go_wp2_with fail
                refine (nameI_any _ _ hz2).mono ?_; rintro e u'' ⟨rfl, hb''⟩
                rw [hst]
                have hW'' : Hid (Below (w.heap.size + 1) _ u'') := below_of hW'.out hb''
                have hsw'' : wr.heap.size + 1 ≤ u''.heap.size := Nat.le_trans hsw' hb''.size
                have x0'' := (hb''.cell (p := ⟨w.heap.size, 0, none⟩) (by show w.heap.size < _; omega)).trans x0'
                have x1'' := (hb''.cell (p := ⟨w.heap.size, 1, none⟩) (by show w.heap.size < _; omega)).trans x1'
                have x2'' := (hb''.cell (p := ⟨w.heap.size, 2, none⟩) (by show w.heap.size < _; omega)).trans x2'
                have x3'' := (hb''.cell (p := ⟨w.heap.size, 3, none⟩) (by show w.heap.size < _; omega)).trans x3'
                have c0'' := (hb''.cell (p := ⟨wr.heap.size, 0, none⟩) (by show wr.heap.size < _; omega)).trans c0'
                have c1'' := (hb''.cell (p := ⟨wr.heap.size, 1, none⟩) (by show wr.heap.size < _; omega)).trans c1'
                have c2'' := (hb''.cell (p := ⟨wr.heap.size, 2, none⟩) (by show wr.heap.size < _; omega)).trans c2'
                go_wp2_with fail
                go_roundw
                case rel => exact ⟨q + 1, by omega, by go_num, fun j hj => by
                  by_cases e : j = q
                  · subst e; exact ⟨hnm, hc0, hc1, hst⟩
                  · exact hallf.out j (by omega), hW''⟩
                case measure => simp [intOf]; omega
            · go_wp2_with fail
              go_ret
              exact ⟨false, rfl, ⟨(fun h => by cases h), fun h => absurd (h.2.1 q hlq) (by intro h; have := h.2.2.1; rw [hc1] at this; cases this)⟩, below_end hW'.out⟩
          · go_wp2_with fail
            go_ret
            exact ⟨false, rfl, ⟨(fun h => by cases h), fun h => absurd (h.2.1 q hlq) (by intro h; have := h.2.1; rw [hc0] at this; cases this)⟩, below_end hW'.out⟩
      · have hqn : q = nf := by omega
        subst hqn
        have HL := H1.out.kept (below_end hbel.out) hB
        go_wp2_with fail
        refine (ascP_any B _ q ff _ HL (by omega)).mono ?_; rintro e u ⟨bb, rfl, hiff, hbu⟩
        go_wp2_with fail
        go_ret
        refine ⟨bb, rfl, ⟨fun h => ⟨hl, hallf.out, hiff.1 h⟩, fun h => hiff.2 h.2.2⟩, below_end (below_of hbel.out hbu)⟩
  · have d0 : decide ((14 : Int) < (nf : Int)) = true := by simp; omega
    go_enter Tryz.func57, Tryz.ntmps57
    go_wp2
    go_ret
    exact ⟨false, rfl, ⟨(fun h => by cases h), fun h => absurd h.1 hl⟩, (Below.refl _ _).alloc (Nat.le_refl _) _⟩

end Go.Proofs.YtffmfomonmhkcaaGreat
