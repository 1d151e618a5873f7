/-
  Several texts in one.
-/
import Derived.Test.YtndacfockllehaaGreatGqk
import Derived.Test.YtndacfockllehaaGreatYb
import Derived.Test.YtndacfockllehaaGreatM12
import Derived.Deep.Cut
import Derived.Test.YtndacfockllehaaGreatM18
import Derived.Test.YtndacfockllehaaGreatM17
/-
  The model's putting of a use among others, in order.
-/
namespace Go.Proofs.YtndacfockllehaaGreat
open Go.RowKit Go.Sort

attribute [local go_sem] Oper.semAt_some
theorem ins_row {α : Type} {w : World} {B : Nat} {t : TypeId} {K : Nat} {e : α → Nat → Value} {v : Value} {l l' : List α} {x : α} {k n m : Nat} (hn : l.length = n) (hk : k ≤ n) (hm : n - k = m) (hl : l' = l.take k ++ x :: l.drop k) {X : List Value} (hX : X = (List.range K).map (e x)) (h : w.ownsRow B t K v (k + 1 + m) (enc K e (l.take k) ++ X ++ enc K e (l.drop k))) : Row w B t K e v l' := by
  subst hl
  subst hX
  subst hm
  show World.ownsRow _ _ _ _ _ _ _
  have e1 : (l.take k ++ x :: l.drop k).length = k + 1 + (n - k) := by simp; omega
  rw [e1, enc_append, enc_cons, ← List.append_assoc]
  exact h
/-- A use among others, ahead of the first whose name isn't less. -/
def insU : List DClaimUse → DClaimUse → List DClaimUse
  | [], x => [x]
  | y :: l, x => if ltB y.1 x.1 = true then y :: insU l x else x :: y :: l
theorem insU_at : ∀ (l : List DClaimUse) (x : DClaimUse) (k : Nat), k ≤ l.length → (∀ j (h : j < l.length), j < k → ltB l[j].1 x.1 = true) → (∀ h : k < l.length, ltB l[k].1 x.1 = false) → insU l x = l.take k ++ x :: l.drop k
  | [], x, k, _, _, _ => by simp [insU]
  | y :: l, x, 0, _, _, hno => by
    have h := hno (by simp)
    simp only [List.getElem_cons_zero] at h
    simp [insU, h]
  | y :: l, x, k + 1, hk, hlt, hno => by
    have h0 : ltB y.1 x.1 = true := hlt 0 (by simp) (by omega)
    rw [insU, if_pos h0, insU_at l x k (by simpa using hk) (fun j hj hjk => by have := hlt (j + 1) (by simpa using hj) (by omega); simpa using this) (fun hk' => by have := hno (by simpa using hk'); simpa using this)]
    rfl
theorem insU_len : ∀ (l : List DClaimUse) (x : DClaimUse), (insU l x).length = l.length + 1
  | [], _ => rfl
  | y :: l, x => by
    unfold insU
    split
    · rw [List.length_cons, insU_len l x, List.length_cons]
    · rfl

set_option maxRecDepth 100000 in
set_option maxHeartbeats 8000000 in
theorem useT_nil (x : DClaimUse) (w : World) :
    Calls Tryz.prog 52 #[.slice none 0 0, .agg #[.string x.1, .int .i64 x.2.1, .int .i64 x.2.2]] w fun e w' => ∃ r, e = .returned r ∧ Row w' w.heap.size 95 3 eU r [x] ∧ Below w.heap.size w w' := by
  obtain ⟨W, hW⟩ : ∃ W, W = w.alloc (.cells #[.string x.1, .int .i64 x.2.1, .int .i64 x.2.2] 95) := ⟨_, rfl⟩
  have hbW : Hid (Below w.heap.size w W) := by rw [hW]; exact (Below.refl _ _).alloc (Nat.le_refl _) _
  have hsW : W.heap.size = w.heap.size + 1 := by rw [hW]; simp
  have HP : Hid (W.heap[w.heap.size]? = some (.cells #[.string x.1, .int .i64 x.2.1, .int .i64 x.2.2] 95 (0, 0))) := by rw [hW]; exact heap_alloc_new w _
  have HP0 : Hid (W.cell? ⟨w.heap.size, 0, none⟩ = some (.string x.1)) := (cell_row HP.out 0 _ rfl).1
  have HP1 : Hid (W.cell? ⟨w.heap.size, 1, none⟩ = some (.int .i64 x.2.1)) := (cell_row HP.out 1 _ rfl).1
  have HP2 : Hid (W.cell? ⟨w.heap.size, 2, none⟩ = some (.int .i64 x.2.2)) := (cell_row HP.out 2 _ rfl).1
  have b_W : Hid (Below W.heap.size W W) := Below.refl _ _
  go_enter Tryz.func52, Tryz.ntmps52
  go_upto_region 1 with fail
  rw [← hW]
  clear hW
  go_wp2_with fail
  go_loopw [5] (fun i wr => i = .int .i64 0 ∧ Hid (Below W.heap.size W wr)) (fun _ _ => 0)
  case atStart => exact ⟨rfl, b_W⟩
  case round =>
    obtain ⟨rfl, b_wr⟩ := hrel
    have s_wr : W.heap.size ≤ wr.heap.size := b_wr.out.size
    have p0_wr : wr.cell? ⟨w.heap.size, 0, none⟩ = some (.string x.1) := (b_wr.out.cell (p := ⟨w.heap.size, 0, none⟩) (by show w.heap.size < _; omega)).trans HP0.out
    have q0_wr := fun d os => cell_regrown p0_wr d os
    have p1_wr : wr.cell? ⟨w.heap.size, 1, none⟩ = some (.int .i64 x.2.1) := (b_wr.out.cell (p := ⟨w.heap.size, 1, none⟩) (by show w.heap.size < _; omega)).trans HP1.out
    have q1_wr := fun d os => cell_regrown p1_wr d os
    have p2_wr : wr.cell? ⟨w.heap.size, 2, none⟩ = some (.int .i64 x.2.2) := (b_wr.out.cell (p := ⟨w.heap.size, 2, none⟩) (by show w.heap.size < _; omega)).trans HP2.out
    have q2_wr := fun d os => cell_regrown p2_wr d os
    go_wp2_with fail
    refine wp_region_quiet_below (by kernel_rfl) (by kernel_rfl) ?_
    repeat (first | go_big_quiet_step (fail) | quiet_step (fail))
    refine wpQuiet_nil ?_
    intro _ hw'
    obtain ⟨⟨dq, osq⟩, hw''⟩ := hw'
    subst hw''
    have b_u : Hid (Below W.heap.size W (grow (redrawn wr dq) osq)) := b_wr.out.trans ((below_regrown _ dq osq).mono s_wr)
    generalize grow (redrawn wr dq) osq = u at b_u ⊢
    have s_u : W.heap.size ≤ u.heap.size := b_u.out.size
    clear p0_wr q0_wr p1_wr q1_wr p2_wr q2_wr
    have p0_u : u.cell? ⟨w.heap.size, 0, none⟩ = some (.string x.1) := (b_u.out.cell (p := ⟨w.heap.size, 0, none⟩) (by show w.heap.size < _; omega)).trans HP0.out
    have q0_u := fun d os => cell_regrown p0_u d os
    have p1_u : u.cell? ⟨w.heap.size, 1, none⟩ = some (.int .i64 x.2.1) := (b_u.out.cell (p := ⟨w.heap.size, 1, none⟩) (by show w.heap.size < _; omega)).trans HP1.out
    have q1_u := fun d os => cell_regrown p1_u d os
    have p2_u : u.cell? ⟨w.heap.size, 2, none⟩ = some (.int .i64 x.2.2) := (b_u.out.cell (p := ⟨w.heap.size, 2, none⟩) (by show w.heap.size < _; omega)).trans HP2.out
    have q2_u := fun d os => cell_regrown p2_u d os
    go_wp2_with fail
    refine wp_region_mix 12 [1, 2, 3, 5, 8, 9, 10] (by kernel_rfl) (by kernel_rfl) ?_
    simp only [List.filterMap_cons, List.filterMap_nil, List.getElem?_cons_succ, List.getElem?_cons_zero]
    repeat (first | go_big_quiet_step (fail) | quiet_step (fail))
    refine wpQuiet_nil ?_
    refine ins3 (md := .any) (i0 := 0) (i1 := 4) (i2 := 6) (i3 := 7) (i4 := 11) (d0 := 22) (d1 := 26) (d2 := 28) (d3 := 29) (d4 := 33) (k1 := 25) (k2 := 32) (kx := 27) (X := .agg #[.string x.1, .int .i64 x.2.1, .int .i64 x.2.2]) (t := 66) (e := 95)
      ⟨_, _, _, _, _, ⟨rfl, rfl, rfl, by decide⟩, ⟨rfl, rfl, rfl, by decide⟩, ⟨rfl, rfl, rfl, by decide⟩, ⟨rfl, rfl, rfl, by decide⟩, ⟨rfl, rfl, rfl, by decide⟩, rfl, rfl, rfl, ?run0, ?run2, by decide, by decide, by kernel_rfl, by kernel_rfl, by kernel_rfl, by kernel_rfl, by kernel_rfl, by kernel_rfl, by kernel_rfl⟩
      elU (W := u) ⟨by simp, by simp, by simp, by simp, by simp⟩ rfl rfl rfl (Src.none_ u 3) (Src.none_ u 3) rfl (by simp) (by simp) (by intro v hv; simp [Value.cells] at hv; rcases hv with rfl | rfl | rfl <;> rfl) (by omega) (by unfold maxLen; omega) ?K
    case run0 => intro bb ww; go_simp
    case run2 =>
      intro bb hx ww
      have hx' : bb.tmps[27]?.getD undef = .agg #[.string x.1, .int .i64 x.2.1, .int .i64 x.2.2] := by simpa [Act.eval] using hx
      clear hx
      go_simp
    case K =>
      intro r0 r1 r2 r3 r4 w4 hown hb4
      refine ⟨by kernel_rfl, ?_⟩
      simp only [List.drop_succ_cons, List.drop_zero]
      simp only [Act.put, List.setIfInBounds_toArray, List.set_cons_zero, List.set_cons_succ]
      go_wp2_with fail
      go_ret
      exact ⟨r4, rfl, Row.low (α := DClaimUse) (l := [x]) (e := eU) hown (by omega), hbW.out.trans ((b_u.out.trans (hb4.mono s_u)).mono (by omega))⟩

set_option maxRecDepth 100000 in
set_option maxHeartbeats 8000000 in
theorem useT_some (B : Nat) (g cap : Nat) (l : List DClaimUse) (x : DClaimUse) (w : World) (h : Row w B 95 3 eU (.slice (some ⟨g, 0, none⟩) l.length cap) l) (hB : B ≤ w.heap.size) (hl : l.length ≤ 1048576) :
    Calls Tryz.prog 52 #[.slice (some ⟨g, 0, none⟩) l.length cap, .agg #[.string x.1, .int .i64 x.2.1, .int .i64 x.2.2]] w fun e w' => ∃ r, e = .returned r ∧ Row w' B 95 3 eU r (insU l x) ∧ Below w.heap.size w w' := by
  obtain ⟨W, hW⟩ : ∃ W, W = w.alloc (.cells #[.string x.1, .int .i64 x.2.1, .int .i64 x.2.2] 95) := ⟨_, rfl⟩
  have hbW : Hid (Below w.heap.size w W) := by rw [hW]; exact (Below.refl _ _).alloc (Nat.le_refl _) _
  have hsW : W.heap.size = w.heap.size + 1 := by rw [hW]; simp
  have HP : Hid (W.heap[w.heap.size]? = some (.cells #[.string x.1, .int .i64 x.2.1, .int .i64 x.2.2] 95 (0, 0))) := by rw [hW]; exact heap_alloc_new w _
  have HP0 : Hid (W.cell? ⟨w.heap.size, 0, none⟩ = some (.string x.1)) := (cell_row HP.out 0 _ rfl).1
  have HP1 : Hid (W.cell? ⟨w.heap.size, 1, none⟩ = some (.int .i64 x.2.1)) := (cell_row HP.out 1 _ rfl).1
  have HP2 : Hid (W.cell? ⟨w.heap.size, 2, none⟩ = some (.int .i64 x.2.2)) := (cell_row HP.out 2 _ rfl).1
  have b_W : Hid (Below W.heap.size W W) := Below.refl _ _
  have HC : Hid (∀ i (h : i < l.length), w.cell? ⟨g, i * 3, none⟩ = some (.string l[i].1)) := fun i hi => by
    obtain ⟨g', c', e, _, _, hc⟩ := Row.cell h hi
    cases e
    exact (hc 0 (by omega)).1
  have hcap : l.length ≤ cap := by
    rcases h.2 with ⟨e, _⟩ | ⟨g', c', cur, e, _, _, hc, _⟩
    · cases e
    · cases e; exact hc
  have hg : g < w.heap.size := (World.ownsRow.lt h g rfl).2
  have HS : Hid (Src w (.slice (some ⟨g, 0, none⟩) l.length cap) l.length 3 (enc 3 eU l)) := ⟨enc_len _ _ _, .inr ⟨_, _, rfl, fun j u hj => World.ownsRow.cells h (g := g) rfl j u hj⟩⟩
  clear h
  obtain ⟨n, en⟩ : ∃ n, l.length = n := ⟨_, rfl⟩
  rw [en] at hl hcap HS
  rw [en]
  have EN : Hid (l.length = n) := en
  clear en
  go_enter Tryz.func52, Tryz.ntmps52
  go_upto_region 1 with fail
  rw [← hW]
  clear hW
  go_wp2_with fail
  go_loopw [5] (fun i wr => ∃ k : Nat, k ≤ n ∧ i = .int .i64 k ∧ Hid (∀ j (h : j < l.length), j < k → ltB l[j].1 x.1 = true) ∧ Hid (Below W.heap.size W wr)) (fun i _ => n - (intOf i).toNat)
  case atStart => exact ⟨0, Nat.zero_le _, rfl, fun _ _ h => by omega, b_W⟩
  case round =>
    obtain ⟨k, hk, rfl, hall, b_wr⟩ := hrel
    have s_wr : W.heap.size ≤ wr.heap.size := b_wr.out.size
    have hkc : (k : Int) ≤ (cap : Int) := by omega
    have hkn : (k : Int) ≤ (n : Int) := by omega
    by_cases hlt : k < n
    · have hce := HC.out k (by rw [EN.out]; exact hlt)
      obtain ⟨y, ey⟩ : ∃ y, l[k]'(by rw [EN.out]; exact hlt) = y := ⟨_, rfl⟩
      rw [ey] at hce
      have E0 : Hid (W.cell? ⟨g, k * 3, none⟩ = some (.string y.1)) := (hbW.out.cell (p := ⟨g, k * 3, none⟩) hg).trans hce
      clear hce
      have EY : Hid (l[k]'(by rw [EN.out]; exact hlt) = y) := ey
      clear ey
      have hlt' : ((k : Int) < (n : Int)) := by omega
      have p0_wr : wr.cell? ⟨w.heap.size, 0, none⟩ = some (.string x.1) := (b_wr.out.cell (p := ⟨w.heap.size, 0, none⟩) (by show w.heap.size < _; omega)).trans HP0.out
      have q0_wr := fun d os => cell_regrown p0_wr d os
      have p1_wr : wr.cell? ⟨w.heap.size, 1, none⟩ = some (.int .i64 x.2.1) := (b_wr.out.cell (p := ⟨w.heap.size, 1, none⟩) (by show w.heap.size < _; omega)).trans HP1.out
      have q1_wr := fun d os => cell_regrown p1_wr d os
      have p2_wr : wr.cell? ⟨w.heap.size, 2, none⟩ = some (.int .i64 x.2.2) := (b_wr.out.cell (p := ⟨w.heap.size, 2, none⟩) (by show w.heap.size < _; omega)).trans HP2.out
      have q2_wr := fun d os => cell_regrown p2_wr d os
      have e0_wr : wr.cell? ⟨g, k * 3, none⟩ = some (.string y.1) := (b_wr.out.cell (p := ⟨g, k * 3, none⟩) (by show g < _; omega)).trans E0.out
      have qe_wr := fun d os => cell_regrown e0_wr d os
      cases hlb : Op.bytesLess y.1.toList x.1.toList
      · have HINS : Hid (insU l x = l.take k ++ x :: l.drop k) := insU_at l x k (by rw [EN.out]; exact hk) hall.out (fun _ => by rw [EY.out]; exact hlb)
        go_wp2_with fail
        refine wp_region_quiet_below (by kernel_rfl) (by kernel_rfl) ?_
        repeat (first | go_big_quiet_step (fail) | quiet_step (fail))
        refine wpQuiet_nil ?_
        intro _ hw'
        obtain ⟨⟨dq, osq⟩, hw''⟩ := hw'
        subst hw''
        have b_u : Hid (Below W.heap.size W (grow (redrawn wr dq) osq)) := b_wr.out.trans ((below_regrown _ dq osq).mono s_wr)
        generalize grow (redrawn wr dq) osq = u at b_u ⊢
        have s_u : W.heap.size ≤ u.heap.size := b_u.out.size
        clear p0_wr q0_wr p1_wr q1_wr p2_wr q2_wr e0_wr qe_wr
        have p0_u : u.cell? ⟨w.heap.size, 0, none⟩ = some (.string x.1) := (b_u.out.cell (p := ⟨w.heap.size, 0, none⟩) (by show w.heap.size < _; omega)).trans HP0.out
        have q0_u := fun d os => cell_regrown p0_u d os
        have p1_u : u.cell? ⟨w.heap.size, 1, none⟩ = some (.int .i64 x.2.1) := (b_u.out.cell (p := ⟨w.heap.size, 1, none⟩) (by show w.heap.size < _; omega)).trans HP1.out
        have q1_u := fun d os => cell_regrown p1_u d os
        have p2_u : u.cell? ⟨w.heap.size, 2, none⟩ = some (.int .i64 x.2.2) := (b_u.out.cell (p := ⟨w.heap.size, 2, none⟩) (by show w.heap.size < _; omega)).trans HP2.out
        have q2_u := fun d os => cell_regrown p2_u d os
        have e0_u : u.cell? ⟨g, k * 3, none⟩ = some (.string y.1) := (b_u.out.cell (p := ⟨g, k * 3, none⟩) (by show g < _; omega)).trans E0.out
        have qe_u := fun d os => cell_regrown e0_u d os
        have S1 : Hid (Src u (.slice (some ⟨g, 0, none⟩) k cap) k 3 (enc 3 eU (l.take k))) := by
          have h := Src.take_ (HS.out.below (hbW.out.trans (b_u.out.mono (by omega)))) hk cap
          rw [enc_take] at h
          exact h
        have S2 : Hid (Src u (.slice (if cap = k then some ⟨g, 0, none⟩ else some ⟨g, k * 3, none⟩) (n - k) (cap - k)) (n - k) 3 (enc 3 eU (l.drop k))) := by
          have h := Src.drop_ (HS.out.below (hbW.out.trans (b_u.out.mono (by omega)))) hk hcap
          rw [enc_drop, Nat.zero_add] at h
          exact h
        go_wp2_with fail
        refine wp_region_mix 12 [1, 2, 3, 5, 8, 9, 10] (by kernel_rfl) (by kernel_rfl) ?_
        simp only [List.filterMap_cons, List.filterMap_nil, List.getElem?_cons_succ, List.getElem?_cons_zero]
        repeat (first | go_big_quiet_step (fail) | quiet_step (fail))
        refine wpQuiet_nil ?_
        refine ins3 (md := .any) (i0 := 0) (i1 := 4) (i2 := 6) (i3 := 7) (i4 := 11) (d0 := 22) (d1 := 26) (d2 := 28) (d3 := 29) (d4 := 33) (k1 := 25) (k2 := 32) (kx := 27) (X := .agg #[.string x.1, .int .i64 x.2.1, .int .i64 x.2.2]) (t := 66) (e := 95)
          ⟨_, _, _, _, _, ⟨rfl, rfl, rfl, by decide⟩, ⟨rfl, rfl, rfl, by decide⟩, ⟨rfl, rfl, rfl, by decide⟩, ⟨rfl, rfl, rfl, by decide⟩, ⟨rfl, rfl, rfl, by decide⟩, rfl, rfl, rfl, ?run0, ?run2, by decide, by decide, by kernel_rfl, by kernel_rfl, by kernel_rfl, by kernel_rfl, by kernel_rfl, by kernel_rfl, by kernel_rfl⟩
          elU (W := u) ⟨by simp, by simp, by simp, by simp, by simp⟩ rfl rfl rfl S1.out S2.out rfl (flatU.enc_one _) (flatU.enc_one _) (by intro v hv; simp [Value.cells] at hv; rcases hv with rfl | rfl | rfl <;> rfl) (by omega) (by unfold maxLen; omega) ?K
        case run0 => intro bb ww; go_simp
        case run2 =>
          intro bb hx ww
          have hx' : bb.tmps[27]?.getD undef = .agg #[.string x.1, .int .i64 x.2.1, .int .i64 x.2.2] := by simpa [Act.eval] using hx
          clear hx
          go_simp
        case K =>
          intro r0 r1 r2 r3 r4 w4 hown hb4
          refine ⟨by kernel_rfl, ?_⟩
          simp only [List.drop_succ_cons, List.drop_zero]
          simp only [Act.put, List.setIfInBounds_toArray, List.set_cons_zero, List.set_cons_succ]
          have HR : Row w4 u.heap.size 95 3 eU r4 (insU l x) := ins_row EN.out (by omega) (by omega) HINS.out rfl hown
          go_wp2_with fail
          all_goals
            go_ret
            exact ⟨r4, rfl, HR.low (by omega), hbW.out.trans ((b_u.out.trans (hb4.mono s_u)).mono (by omega))⟩
      · go_wp2_with fail
        refine wp_region_quiet_below (by kernel_rfl) (by kernel_rfl) ?_
        repeat (first | go_big_quiet_step (fail) | quiet_step (fail))
        refine wpQuiet_nil ?_
        intro _ hw'
        obtain ⟨⟨dq, osq⟩, hw''⟩ := hw'
        subst hw''
        have b_u : Hid (Below W.heap.size W (grow (redrawn wr dq) osq)) := b_wr.out.trans ((below_regrown _ dq osq).mono s_wr)
        generalize grow (redrawn wr dq) osq = u at b_u ⊢
        have s_u : W.heap.size ≤ u.heap.size := b_u.out.size
        clear p0_wr q0_wr p1_wr q1_wr p2_wr q2_wr e0_wr qe_wr
        go_wp2_with fail
        go_roundw
        case rel => exact ⟨k + 1, by omega, by go_num, fun j hj hjk => by
          by_cases e : j = k
          · subst e; rw [EY.out]; exact hlb
          · exact hall.out j hj (by omega), b_u⟩
        case measure => simp [intOf]; omega
    · have hkn' : k = n := by omega
      subst hkn'
      have HINS : Hid (insU l x = l.take k ++ x :: l.drop k) := insU_at l x k (by rw [EN.out]; exact Nat.le_refl _) hall.out (fun h => by rw [EN.out] at h; omega)
      have p0_wr : wr.cell? ⟨w.heap.size, 0, none⟩ = some (.string x.1) := (b_wr.out.cell (p := ⟨w.heap.size, 0, none⟩) (by show w.heap.size < _; omega)).trans HP0.out
      have q0_wr := fun d os => cell_regrown p0_wr d os
      have p1_wr : wr.cell? ⟨w.heap.size, 1, none⟩ = some (.int .i64 x.2.1) := (b_wr.out.cell (p := ⟨w.heap.size, 1, none⟩) (by show w.heap.size < _; omega)).trans HP1.out
      have q1_wr := fun d os => cell_regrown p1_wr d os
      have p2_wr : wr.cell? ⟨w.heap.size, 2, none⟩ = some (.int .i64 x.2.2) := (b_wr.out.cell (p := ⟨w.heap.size, 2, none⟩) (by show w.heap.size < _; omega)).trans HP2.out
      have q2_wr := fun d os => cell_regrown p2_wr d os
      go_wp2_with fail
      refine wp_region_quiet_below (by kernel_rfl) (by kernel_rfl) ?_
      repeat (first | go_big_quiet_step (fail) | quiet_step (fail))
      refine wpQuiet_nil ?_
      intro _ hw'
      obtain ⟨⟨dq, osq⟩, hw''⟩ := hw'
      subst hw''
      have b_u : Hid (Below W.heap.size W (grow (redrawn wr dq) osq)) := b_wr.out.trans ((below_regrown _ dq osq).mono s_wr)
      generalize grow (redrawn wr dq) osq = u at b_u ⊢
      have s_u : W.heap.size ≤ u.heap.size := b_u.out.size
      clear p0_wr q0_wr p1_wr q1_wr p2_wr q2_wr
      have p0_u : u.cell? ⟨w.heap.size, 0, none⟩ = some (.string x.1) := (b_u.out.cell (p := ⟨w.heap.size, 0, none⟩) (by show w.heap.size < _; omega)).trans HP0.out
      have q0_u := fun d os => cell_regrown p0_u d os
      have p1_u : u.cell? ⟨w.heap.size, 1, none⟩ = some (.int .i64 x.2.1) := (b_u.out.cell (p := ⟨w.heap.size, 1, none⟩) (by show w.heap.size < _; omega)).trans HP1.out
      have q1_u := fun d os => cell_regrown p1_u d os
      have p2_u : u.cell? ⟨w.heap.size, 2, none⟩ = some (.int .i64 x.2.2) := (b_u.out.cell (p := ⟨w.heap.size, 2, none⟩) (by show w.heap.size < _; omega)).trans HP2.out
      have q2_u := fun d os => cell_regrown p2_u d os
      have S1 : Hid (Src u (.slice (some ⟨g, 0, none⟩) k cap) k 3 (enc 3 eU (l.take k))) := by
        have h := Src.take_ (HS.out.below (hbW.out.trans (b_u.out.mono (by omega)))) hk cap
        rw [enc_take] at h
        exact h
      have S2 : Hid (Src u (.slice (if cap = k then some ⟨g, 0, none⟩ else some ⟨g, k * 3, none⟩) (k - k) (cap - k)) (k - k) 3 (enc 3 eU (l.drop k))) := by
        have h := Src.drop_ (HS.out.below (hbW.out.trans (b_u.out.mono (by omega)))) hk hcap
        rw [enc_drop, Nat.zero_add] at h
        exact h
      have S3 : Hid (Src u (.slice (if cap = k then some ⟨g, 0, none⟩ else some ⟨g, k * 3, none⟩) 0 (cap - k)) 0 3 (enc 3 eU (l.drop k))) := by
        have e := Nat.sub_self k
        generalize k - k = z at S2 e
        subst e
        exact S2
      go_wp2_with fail
      refine wp_region_mix 12 [1, 2, 3, 5, 8, 9, 10] (by kernel_rfl) (by kernel_rfl) ?_
      simp only [List.filterMap_cons, List.filterMap_nil, List.getElem?_cons_succ, List.getElem?_cons_zero]
      repeat (first | go_big_quiet_step (fail) | quiet_step (fail))
      refine wpQuiet_nil ?_
      refine ins3 (md := .any) (i0 := 0) (i1 := 4) (i2 := 6) (i3 := 7) (i4 := 11) (d0 := 22) (d1 := 26) (d2 := 28) (d3 := 29) (d4 := 33) (k1 := 25) (k2 := 32) (kx := 27) (X := .agg #[.string x.1, .int .i64 x.2.1, .int .i64 x.2.2]) (t := 66) (e := 95)
        ⟨_, _, _, _, _, ⟨rfl, rfl, rfl, by decide⟩, ⟨rfl, rfl, rfl, by decide⟩, ⟨rfl, rfl, rfl, by decide⟩, ⟨rfl, rfl, rfl, by decide⟩, ⟨rfl, rfl, rfl, by decide⟩, rfl, rfl, rfl, ?run0, ?run2, by decide, by decide, by kernel_rfl, by kernel_rfl, by kernel_rfl, by kernel_rfl, by kernel_rfl, by kernel_rfl, by kernel_rfl⟩
        elU (W := u) ⟨by simp, by simp, by simp, by simp, by simp⟩ rfl rfl rfl S1.out S3.out rfl (flatU.enc_one _) (flatU.enc_one _) (by intro v hv; simp [Value.cells] at hv; rcases hv with rfl | rfl | rfl <;> rfl) (by omega) (by unfold maxLen; omega) ?K
      case run0 => intro bb ww; go_simp
      case run2 =>
        intro bb hx ww
        have hx' : bb.tmps[27]?.getD undef = .agg #[.string x.1, .int .i64 x.2.1, .int .i64 x.2.2] := by simpa [Act.eval] using hx
        clear hx
        go_simp
      case K =>
        intro r0 r1 r2 r3 r4 w4 hown hb4
        refine ⟨by kernel_rfl, ?_⟩
        simp only [List.drop_succ_cons, List.drop_zero]
        simp only [Act.put, List.setIfInBounds_toArray, List.set_cons_zero, List.set_cons_succ]
        have HR : Row w4 u.heap.size 95 3 eU r4 (insU l x) := ins_row EN.out (by omega) (by omega) HINS.out rfl hown
        go_wp2_with fail
        all_goals
          go_ret
          exact ⟨r4, rfl, HR.low (by omega), hbW.out.trans ((b_u.out.trans (hb4.mono s_u)).mono (by omega))⟩

theorem useT_any (B : Nat) (v : Value) (l : List DClaimUse) (x : DClaimUse) (w : World) (h : Row w B 95 3 eU v l) (hB : B ≤ w.heap.size) (hl : l.length ≤ 1048576) :
    Calls Tryz.prog 52 #[v, .agg #[.string x.1, .int .i64 x.2.1, .int .i64 x.2.2]] w fun e w' => ∃ r, e = .returned r ∧ Row w' B 95 3 eU r (insU l x) ∧ Below w.heap.size w w' := by
  rcases Go.Joins.ownsRow_forms h with ⟨rfl, hn⟩ | ⟨g, cap, rfl⟩
  · have : l = [] := List.eq_nil_of_length_eq_zero hn
    subst this
    exact (useT_nil x w).mono (fun e w' ⟨r, he, hr, hb⟩ => ⟨r, he, hr.low hB, hb⟩)
  · exact useT_some B g cap l x w h hB hl

end Go.Proofs.YtndacfockllehaaGreat

/-
  A law on a region that draws its order: operations that only make new memory, calls among them, in whatever order; what is known of an operation's value may speak of the values that it waits for. No program is named here.
-/
namespace Go.Proofs.YtndacfockllehaaGreat
open Go.RowKit Go.Sort

/-- An operation: its place, its destination, whom it waits for, what is known of its value beside theirs. -/
structure Gv where
  i : Nat
  d : Nat
  uses : List Nat
  F : World → (Nat → Value) → Prop
def Gv.g (m : Gv) : Gn := ⟨m.i, m.d, m.uses, fun _ _ => True⟩
def vals (a : Act) (k : Nat) : Value := a.eval (.tmp k)
def updV (f : Nat → Value) (d : Nat) (u : Value) (k : Nat) : Value := if k = d then u else f k

section
variable {P : Program} {md : Region.Mode} {ops : Array Oper}
def StepV (P : Program) (W : World) (a0 : Act) (M : List Gv) (nd : Gv) (o : Oper) : Prop :=
  ∀ (b : Act) (w : World), AgreeG (M.map Gv.g) b a0 → Below W.heap.size W w → (∀ m ∈ M, m.i ∈ nd.uses → m.F w (vals b)) →
    (∃ u w', (execOp b.eval o).run P w = .ok (.value u) w' ∧ nd.F w' (updV (vals b) nd.d u) ∧ Below w.heap.size w w') ∨
    (∃ fn args, (execOp b.eval o).run P w = .ok (.enter fn args) w ∧ Calls P fn args w fun e w' => ∃ u, e = .returned u ∧ nd.F w' (updV (vals b) nd.d u) ∧ Below w.heap.size w w')
/-- What a node's fact speaks of: its own value, and those that it waits for. -/
def SeesV (M : List Gv) (m : Gv) : Prop := ∀ (w w' : World) (f f' : Nat → Value), Below w.heap.size w w' → f' m.d = f m.d → (∀ m' ∈ M, m'.i ∈ m.uses → f' m'.d = f m'.d) → m.F w f → m.F w' f'

theorem growV_any {C : World → Prop} {n : Nat} {L : Array Bool → Act → World → Prop} {W : World} {a0 : Act} {M : List Gv} {fin : Array Bool} (hop : ∀ m ∈ M, ∃ o, ops[m.i]? = some o ∧ o.guard = none ∧ o.dst = some m.d ∧ m.i < n ∧ StepV P W a0 M m o)
    (hst : ∀ m ∈ M, SeesV M m) (hi : ∀ m ∈ M, ∀ m' ∈ M, m.i = m'.i → m = m') (hdd : ∀ m ∈ M, ∀ m' ∈ M, m.d = m'.d → m.i = m'.i) (hd : ∀ m ∈ M, m.d < a0.tmps.size) (hfin : ∀ m ∈ M, fin.getD m.i false = true)
    (hC : ∀ w, Below W.heap.size W w → C w)
    (K : ∀ (v : Nat → Value) (w : World), Below W.heap.size W w → (∀ m ∈ M, m.F w v) → L fin (putG a0 (M.map Gv.g) v) w) :
    ∀ (f : Nat) (listed : Array Bool) (a : Act) (w : World), roomG md ops (M.map fun m => (m.i, m.uses)) fin f listed = true → Below W.heap.size W w → AgreeG (M.map Gv.g) a a0 →
      (∀ m ∈ M, listed.getD m.i false = true → m.F w (vals a) ∧ ∀ u ∈ m.uses, listed.getD u false = true) → anyH P md ops C n L f listed a w := by
  intro f
  induction f with
  | zero =>
    intro listed a w hr hb hA ho
    simp only [roomG, decide_eq_true_eq] at hr
    subst hr
    show L listed a w
    rw [hA.all (fun m hm => by obtain ⟨m', hm', rfl⟩ := List.mem_map.1 hm; exact hd m' hm')]
    exact K _ w hb (fun m hm => (ho m hm (hfin m hm)).1)
  | succ f ih =>
    intro listed a w hr hb hA ho
    simp only [roomG, Bool.and_eq_true, Bool.not_eq_true', List.all_eq_true] at hr
    obtain ⟨hne, hall⟩ := hr
    refine ⟨fun e => by rw [e] at hne; simp at hne, fun i hready => ?_⟩
    obtain ⟨⟨hin, hus⟩, hnext⟩ := hall i hready
    obtain ⟨p, hp, hpi⟩ := List.any_eq_true.1 hin
    obtain ⟨nd, hnd, rfl⟩ := List.mem_map.1 hp
    have hni : nd.i = i := by simpa using hpi
    subst hni
    have hnl : listed.getD nd.i false = false := by
      have h := (mem_ready.1 hready).1
      by_cases hj : nd.i < listed.size
      · simpa [Array.getD, hj] using h
      · simp [Array.getD, hj] at h
    obtain ⟨o, h1, h2, h3, h4, hstep⟩ := hop nd hnd
    have hw : Region.wanted o (yielded ops a.tmps) = true := wanted_none h2 _
    have hul : ∀ u ∈ nd.uses, listed.getD u false = true := fun u hu => by
      have h5 := hus _ hp
      simp only [Bool.or_eq_true, Bool.not_eq_true', beq_eq_false_iff_ne, ne_eq, List.all_eq_true] at h5
      rcases h5 with h5 | h5
      · exact absurd trivial h5
      · exact h5 u hu
    have hu : ∀ m ∈ M, m.i ∈ nd.uses → m.F w (vals a) := fun m hm hmu => (ho m hm (hul _ hmu)).1
    have next : ∀ u w', nd.F w' (updV (vals a) nd.d u) → Below w.heap.size w w' → C w' ∧ anyH P md ops C n L f (listed.setIfInBounds nd.i true) (a.put o.dst u) w' := fun u w' hF hbw => by
      have hb' : Below W.heap.size W w' := hb.trans (hbw.mono hb.size)
      refine ⟨hC w' hb', ?_⟩
      rw [h3]
      have hg : nd.g ∈ M.map Gv.g := List.mem_map.2 ⟨nd, hnd, rfl⟩
      have ev : vals (a.put (some nd.d) u) = updV (vals a) nd.d u := by
        funext k
        unfold vals updV
        by_cases e : k = nd.d
        · rw [if_pos e, e]; exact eval_at (by rw [hA.size]; exact hd nd hnd)
        · rw [if_neg e]; exact eval_ne e
      refine ih _ _ _ hnext hb' ⟨(put_size _ _ _).trans hA.size, hA.defers, fun k hk => (eval_ne (Ne.symm (hk nd.g hg))).trans (hA.off k hk)⟩ (fun m hm hl => ?_)
      rw [ev]
      by_cases e : m = nd
      · subst e
        refine ⟨hF, fun u' hu' => ?_⟩
        by_cases e2 : u' = m.i
        · subst e2; exact hl
        · rw [getD_set_ne false (Ne.symm e2)]; exact hul u' hu'
      · have hne' : m.i ≠ nd.i := fun h => e (hi m hm nd hnd h)
        rw [getD_set_ne false (Ne.symm hne')] at hl
        obtain ⟨q1, q2⟩ := ho m hm hl
        have hdn : ∀ m' ∈ M, listed.getD m'.i false = true → updV (vals a) nd.d u m'.d = vals a m'.d := fun m' hm' hl' => by
          unfold updV
          rw [if_neg]
          intro h
          have := hdd m' hm' nd hnd h
          rw [this, hnl] at hl'; cases hl'
        refine ⟨hst m hm w w' _ _ hbw (hdn m hm hl) (fun m' hm' hu' => hdn m' hm' (q2 _ hu')) q1, fun u' hu' => ?_⟩
        have h6 := q2 u' hu'
        by_cases e2 : u' = nd.i
        · subst e2; rw [hnl] at h6; cases h6
        · rw [getD_set_ne false (Ne.symm e2)]; exact h6
    refine ⟨h4, ?_⟩
    rcases hstep a w hA hb hu with ⟨u, w', hrun, hF, hbw⟩ | ⟨fn, args, hrun, hcall⟩
    · exact ⟨o, h1, .inl ⟨hw, u, w', hrun, next u w' hF hbw⟩⟩
    · exact ⟨o, h1, .inr (.inl ⟨hw, fn, args, hrun, hcall.mono fun e w' ⟨u, he, hF, hbw⟩ => ⟨u, he, next u w' hF hbw⟩⟩)⟩
end

section
variable {P : Program}
theorem growV_all {C : World → Prop} {n f : Nat} {L : Array Bool → Act → World → Prop} {W : World} {a : Act} {listed : Array Bool} {l : List Oper} (M : List Gv) (hB : growB l (M.map fun m => (m.i, m.d, m.uses)) n f listed = true) (hsz : (M.map fun m => m.d).all (fun d => decide (d < a.tmps.size)) = true)
    (hst : ∀ m ∈ M, SeesV M m) (hS : ∀ m ∈ M, ∃ o, l.toArray[m.i]? = some o ∧ StepV P W a M m o) (hC : ∀ w, Below W.heap.size W w → C w)
    (K : ∀ (v : Nat → Value) (w : World), Below W.heap.size W w → (∀ m ∈ M, m.F w v) → L (finG (M.map Gv.g) listed) (putG a (M.map Gv.g) v) w) : anyH P .any l.toArray C n L f listed a W := by
  simp only [growB, Bool.and_eq_true, decide_eq_true_eq] at hB
  obtain ⟨⟨⟨h1, h2⟩, h3⟩, h4⟩ := hB
  have ef : finI (M.map fun m => (m.i, m.d, m.uses)) listed = finG (M.map Gv.g) listed := by
    rw [finG_eq, List.map_map]; rfl
  rw [ef] at h1 h2
  rw [List.map_map] at h1
  rw [List.map_map] at h3 h4
  have at_ : ∀ m ∈ M, listed.getD m.i false = false ∧ (finG (M.map Gv.g) listed).getD m.i false = true ∧ m.i < n ∧ ∃ o, l[m.i]? = some o ∧ o.guard = none ∧ o.dst = some m.d := fun m hm => by
    have h5 := List.all_eq_true.1 h2 _ (List.mem_map.2 ⟨m, hm, rfl⟩)
    simp only [Bool.and_eq_true, Bool.not_eq_true', decide_eq_true_eq] at h5
    obtain ⟨⟨⟨q1, q2⟩, q3⟩, q4⟩ := h5
    refine ⟨q1, q2, q3, ?_⟩
    cases ho : l[m.i]? with
    | none => rw [ho] at q4; cases q4
    | some o =>
      rw [ho] at q4
      simp only [Bool.and_eq_true, Option.isNone_iff_eq_none, decide_eq_true_eq] at q4
      exact ⟨o, rfl, q4⟩
  refine growV_any (P := P) (md := .any) (ops := l.toArray) (C := C) (n := n) (L := L) (W := W) (a0 := a) (M := M) (fin := finG (M.map Gv.g) listed) (fun m hm => ?_) hst (fun m hm m' hm' e => nodup_inj h3 m hm m' hm' e) (fun m hm m' hm' e => by rw [nodup_inj h4 m hm m' hm' e]) (fun m hm => ?_) (fun m hm => (at_ m hm).2.1) hC K f listed a W h1 (Below.refl _ _) ⟨rfl, rfl, fun _ _ => rfl⟩ (fun m hm hl => by rw [(at_ m hm).1] at hl; cases hl)
  · obtain ⟨_, _, q3, o, q4, q5, q6⟩ := at_ m hm
    have e : l.toArray[m.i]? = some o := by simpa using q4
    obtain ⟨o', e', st⟩ := hS m hm
    obtain rfl := Option.some.inj (e.symm.trans e')
    exact ⟨o, e, q5, q6, q3, st⟩
  · have := List.all_eq_true.1 hsz m.d (List.mem_map.2 ⟨m, hm, rfl⟩)
    simpa using this
end
end Go.Proofs.YtndacfockllehaaGreat

/-
  Laws on a region that draws its order, step by step, in a class of worlds: operations that are not wanted. No program is named here.
-/
namespace Go.Proofs.YtndacfockllehaaGreat
open Go.Sort

section
variable {P : Program}
theorem takeHX {C : World → Prop} {Q : Exit → Act → World → Prop} {l : List Oper} {n f : Nat} {listed : Array Bool} {i d : Nat} {oi : Oper} {a : Act} {w : World} (hi : l.toArray[i]? = some oi ∧ oi.dst = some d) (hB : takeB l n listed i = true) (hw : Region.wanted oi (yielded l.toArray a.tmps) = false) (hC : C w)
    (h : anyH P .any l.toArray C n (tailC P Q l n) f (listed.setIfInBounds i true) (a.put (some d) undef) w) : anyH P .any l.toArray C n (tailC P Q l n) (f + 1) listed a w := by
  obtain ⟨h1, h2⟩ := hi
  simp only [takeB, Bool.and_eq_true, decide_eq_true_eq] at hB
  obtain ⟨⟨⟨⟨⟨⟨⟨hsel, hn⟩, hin⟩, hs⟩, hc⟩, hr⟩, hf⟩, hv⟩ := hB
  have hr' : i ∈ Region.ready .any l.toArray listed := by simpa using hr
  refine anyH_first h1 hsel hs hc (by simpa using hn) hin (fun listed a w hL => seqB_ready hL.1) f listed a w hC (inv_of hv) (fun k hk => by rw [getD_replicate_false] at hk; cases hk) (Region.free_spec h1 hf) hr' (.inr ⟨hw, rfl⟩) ?_
  rw [h2]; exact h
end
end Go.Proofs.YtndacfockllehaaGreat
