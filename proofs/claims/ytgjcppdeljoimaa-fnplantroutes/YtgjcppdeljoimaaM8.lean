/-
  Several texts in one.
-/
import Derived.Test.YtgjcppdeljoimaaM5
import Derived.Test.YtgjcppdeljoimaaPzb
namespace Go.Proofs.Ytgjcppdeljoimaa
open Go.RowKit
def decV : List UInt8 → Int → Option Int
  | [], n => some n
  | c :: r, n => if c.toNat < 48 ∨ 57 < c.toNat then none else decV r (n * 10 + c.toNat - 48)
def numB (s : ByteArray) : Int :=
  if inB s.size 1 4 = false ∨ (1 < s.size ∧ s.data.toList.head? = some 48) then -1 else (decV s.data.toList 0).getD (-1)
theorem num_step {s : ByteArray} {k : Nat} (h : k < s.size) (v : Int) : decV (s.data.toList.drop k) v = if (s[k]'h).toNat < 48 ∨ 57 < (s[k]'h).toNat then none else decV (s.data.toList.drop (k + 1)) (v * 10 + (s[k]'h).toNat - 48) := by
  have hl : k < s.data.toList.length := by rw [← sz_list]; exact h
  rw [List.drop_eq_getElem_cons hl]
  have e : s.data.toList[k] = s[k] := by
    have := gt_list s k h
    rw [List.getElem?_eq_getElem hl] at this
    exact Option.some.inj this
  rw [e]; rfl
set_option maxRecDepth 100000 in
set_option maxHeartbeats 2000000 in
theorem num_any (s : ByteArray) (w : World) : Calls Try.prog 84 #[.string s] w fun e w' => e = .returned (.int .i64 (numB s)) ∧ w' = w := by
  cases hin : inB s.size 1 4
  · have hn : numB s = -1 := by simp [numB, hin]
    rw [hn]
    go_enter Try.func84, Try.ntmps84
    go_wp2_with fail
    refine (inB_any _ _ _ _).mono ?_; rintro e w1 ⟨rfl, rfl⟩
    rw [hin]
    go_wp2_with fail
    go_ret
    exact ⟨rfl, rfl⟩
  · have hsz : 1 ≤ s.size ∧ s.size ≤ 4 := by simp only [inB, decide_eq_true_eq] at hin; omega
    have h0 : 0 < s.size := by omega
    by_cases hz : 1 < s.size ∧ ((s[0]'h0).toNat : Int) = 48
    · have hh : s.data.toList.head? = some 48 := by
        rw [List.head?_eq_getElem?, gt_list s 0 h0]
        congr 1
        apply UInt8.toNat_inj.1
        have := hz.2
        show (s[0]'h0).toNat = 48
        omega
      have hn : numB s = -1 := by simp [numB, hin, hz.1, hh]
      rw [hn]
      have hz1 := hz.1
      have hz2 := hz.2
      go_enter Try.func84, Try.ntmps84
      go_wp2_with fail
      refine (inB_any _ _ _ _).mono ?_; rintro e w1 ⟨rfl, rfl⟩
      rw [hin]
      go_wp2_with fail
      go_ret
      exact ⟨rfl, rfl⟩
    · have hh : ¬ (1 < s.size ∧ s.data.toList.head? = some 48) := fun h => hz ⟨h.1, by
        have e := h.2
        rw [List.head?_eq_getElem?, gt_list s 0 h0] at e
        have := Option.some.inj e
        rw [this]; rfl⟩
      have hn : numB s = (decV s.data.toList 0).getD (-1) := by
        unfold numB; rw [if_neg]; intro h; rcases h with h | h
        · rw [hin] at h; cases h
        · exact hh h
      have HN : Hid (numB s = (decV s.data.toList 0).getD (-1)) := hn
      obtain ⟨R, hR⟩ : ∃ R, R = numB s := ⟨_, rfl⟩
      rw [← hR]
      have HR : Hid (R = (decV s.data.toList 0).getD (-1)) := hR.trans hn
      have hb : decide ((1 : Int) < (s.size : Int)) = false ∨ (decide ((1 : Int) < (s.size : Int)) = true ∧ ((((s[0]'h0).toNat : Int)) == 48) = false) := by
        by_cases h1 : 1 < s.size
        · refine .inr ⟨by simp; omega, ?_⟩
          have : ¬ ((s[0]'h0).toNat : Int) = 48 := fun h => hz ⟨h1, h⟩
          simpa using this
        · exact .inl (by simp; omega)
      clear hn hR hz hh HN
      go_enter Try.func84, Try.ntmps84
      rcases hb with hb | ⟨hb, hb2⟩
      all_goals
        go_wp2_with fail
        refine (inB_any _ _ _ _).mono ?_; rintro e w1 ⟨rfl, rfl⟩
        rw [hin]
        go_wp2_with fail
        go_loop [3, 4] (fun v i => ∃ (k : Nat) (x : Int), k ≤ s.size ∧ i = .int .i64 k ∧ v = .int .i64 x ∧ 0 ≤ x ∧ Hid (x < 10 ^ k) ∧ Hid (decV (s.data.toList.drop k) x = decV s.data.toList 0)) (fun _ i => s.size - (intOf i).toNat)
        case atStart => exact ⟨0, 0, Nat.zero_le _, rfl, rfl, Int.le_refl _, by show (0 : Int) < 10 ^ 0; decide, rfl⟩
        case round =>
          obtain ⟨k, x, hk, rfl, rfl, hx0, hx1, hd⟩ := hrel
          by_cases hlt : k < s.size
          · have hst : Hid _ := num_step hlt x
            have hp : Hid ((10 : Int) ^ (k + 1) = 10 ^ k * 10) := Int.pow_succ _ _
            have hx9 : x ≤ 999 := by
              have h1 := hx1.out
              have : k = 0 ∨ k = 1 ∨ k = 2 ∨ k = 3 := by omega
              rcases this with rfl | rfl | rfl | rfl <;> simp at h1 <;> omega
            by_cases hc1 : ((s[k]'hlt).toNat : Int) < 48
            · have hR : R = -1 := by
                rw [HR.out, ← hd.out, hst.out, if_pos (.inl (by omega))]; rfl
              go_wp2_with fail
              go_ret
              exact ⟨rfl, rfl⟩
            · by_cases hc2 : (57 : Int) < ((s[k]'hlt).toNat : Int)
              · have hR : R = -1 := by
                  rw [HR.out, ← hd.out, hst.out, if_pos (.inr (by omega))]; rfl
                go_wp2_with fail
                go_ret
                exact ⟨rfl, rfl⟩
              · go_wp2_with fail
                go_round
                case rel =>
                  refine ⟨k + 1, x * 10 + ((s[k]'hlt).toNat : Int) - 48, by omega, by go_num, by go_num, by omega, ?_, ?_⟩
                  · have h1 := hx1.out
                    have h2 := hp.out
                    show x * 10 + ((s[k]'hlt).toNat : Int) - 48 < 10 ^ (k + 1)
                    rw [h2]; omega
                  · have h1 := hst.out
                    rw [if_neg (by omega), hd.out] at h1
                    exact h1.symm
                case measure => simp [intOf]; omega
          · have hkn : Hid (k = s.size) := by show k = s.size; omega
            go_wp2_with fail
            go_ret
            refine ⟨?_, rfl⟩
            rw [HR.out, ← hd.out, List.drop_eq_nil_of_le (by rw [← sz_list]; have := hkn.out; omega)]
            rfl
end Go.Proofs.Ytgjcppdeljoimaa

namespace Go.Proofs.Ytgjcppdeljoimaa
open Go.RowKit Go.Sort
set_option maxRecDepth 100000 in
set_option maxHeartbeats 4000000 in
theorem joint_ex (B : Nat) (v0 v1 v2 v3 : Value) (X : PlL) (bw cw : Nat) (g : Nat → ByteArray) (w : World) (h : PlR B w v0 v1 v2 v3 X) (hX : X.Ok) (hcw : 3 ≤ cw) (hc : ∀ i, i < 3 → w.cell? ⟨bw, i, none⟩ = some (.string (g i))) (hs : ∀ i, (g i).size ≤ maxLen) (hB : B ≤ w.heap.size) :
    Calls Try.prog 80 #[.agg #[v0, v1, v2, v3], .slice (some ⟨bw, 0, none⟩) 3 cw] w fun e w' => PutP B w e w' := by
  obtain ⟨o0, c0, rfl⟩ := Row.form h.s
  obtain ⟨o1, c1, rfl⟩ := Row.form h.f
  obtain ⟨o2, c2, rfl⟩ := Row.form h.p
  obtain ⟨o3, c3, rfl⟩ := Row.form h.v
  generalize en0 : X.ss.length = n0 at h ⊢
  generalize en1 : X.ff.length = n1 at h ⊢
  generalize en2 : X.pp.length = n2 at h ⊢
  generalize en3 : X.vv.length = n3 at h ⊢
  have HH : Hid (PlR B w (.slice o0 n0 c0) (.slice o1 n1 c1) (.slice o2 n2 c2) (.slice o3 n3 c3) X) := h
  clear h
  obtain ⟨W, hW⟩ : ∃ W, W = (w.alloc (.cells #[.slice o0 n0 c0, .slice o1 n1 c1, .slice o2 n2 c2, .slice o3 n3 c3] 28)).alloc (.cells #[.slice none 0 0, .slice none 0 0, .slice none 0 0, .slice none 0 0] 28) := ⟨_, rfl⟩
  have hbW : Hid (Below w.heap.size w W) := by rw [hW]; exact ((Below.refl _ _).alloc (Nat.le_refl _) _).alloc (by simp) _
  have hsW : W.heap.size = w.heap.size + 1 + 1 := by rw [hW]; simp
  have HP : Hid (W.heap[w.heap.size]? = some (.cells #[.slice o0 n0 c0, .slice o1 n1 c1, .slice o2 n2 c2, .slice o3 n3 c3] 28 (0, 0))) := by
    rw [hW]; exact (Below.heap_alloc _ _ _ (by simp)).trans (heap_alloc_new w _)
  have HR : Hid (W.heap[w.heap.size + 1]? = some (.cells #[.slice none 0 0, .slice none 0 0, .slice none 0 0, .slice none 0 0] 28 (0, 0))) := by
    have e : (w.alloc (.cells #[.slice o0 n0 c0, .slice o1 n1 c1, .slice o2 n2 c2, .slice o3 n3 c3] 28)).heap.size = w.heap.size + 1 := by simp
    rw [hW, ← e]; exact heap_alloc_new _ _
  have HW : Hid (PlR B W (.slice o0 n0 c0) (.slice o1 n1 c1) (.slice o2 n2 c2) (.slice o3 n3 c3) X) := HH.out.below hbW.out
  have HC : Hid (∀ i, i < 3 → W.cell? ⟨bw, i, none⟩ = some (.string (g i))) := fun i hi => (hbW.out.cell (p := ⟨bw, i, none⟩) (World.block_lt_of_cell? w _ (hc i hi))).trans (hc i hi)
  clear hc
  have HBW : Hid (Below W.heap.size W W) := Below.refl _ _
  have g1 := HC.out 1 (by decide)
  have g2 := HC.out 2 (by decide)
  obtain ⟨X0, _⟩ := cell_row (HP.out) 0 _ rfl
  obtain ⟨X1, _⟩ := cell_row (HP.out) 1 _ rfl
  obtain ⟨X2, _⟩ := cell_row (HP.out) 2 _ rfl
  obtain ⟨X3, _⟩ := cell_row (HP.out) 3 _ rfl
  simp only [List.getElem_toArray, List.getElem_cons_zero, List.getElem_cons_succ] at X0 X1 X2 X3
  have hcw' : (3 : Int) ≤ (cw : Int) := by omega
  go_enter Try.func80, Try.ntmps80
  go_upto_region 1 with fail
  rw [← hW]
  clear hW
  go_wp2_with fail
  refine (nameS_any (g 1) _ (hs 1)).mono ?_; rintro e W ⟨rfl, rfl⟩
  cases hn1 : nameB (g 1)
  case false =>
    obtain ⟨xr0, _⟩ := cell_row ((HBW.out.block _ (by omega)).trans HP.out) 0 _ rfl
    obtain ⟨xr1, _⟩ := cell_row ((HBW.out.block _ (by omega)).trans HP.out) 1 _ rfl
    obtain ⟨xr2, _⟩ := cell_row ((HBW.out.block _ (by omega)).trans HP.out) 2 _ rfl
    obtain ⟨xr3, _⟩ := cell_row ((HBW.out.block _ (by omega)).trans HP.out) 3 _ rfl
    simp only [List.getElem_toArray, List.getElem_cons_zero, List.getElem_cons_succ] at xr0 xr1 xr2 xr3
    obtain ⟨zr0, tzr0⟩ := cell_row ((HBW.out.block (w.heap.size + 1) (by omega)).trans HR.out) 0 _ rfl
    obtain ⟨zr1, tzr1⟩ := cell_row ((HBW.out.block (w.heap.size + 1) (by omega)).trans HR.out) 1 _ rfl
    obtain ⟨zr2, tzr2⟩ := cell_row ((HBW.out.block (w.heap.size + 1) (by omega)).trans HR.out) 2 _ rfl
    obtain ⟨zr3, tzr3⟩ := cell_row ((HBW.out.block (w.heap.size + 1) (by omega)).trans HR.out) 3 _ rfl
    simp only [List.getElem_toArray, List.getElem_cons_zero, List.getElem_cons_succ] at zr0 zr1 zr2 zr3
    have R4 := hidZ (ret4 ((HBW.out.block (w.heap.size + 1) (by omega)).trans HR.out) (.slice o0 n0 c0) (.slice o1 n1 c1) (.slice o2 n2 c2) (.slice o3 n3 c3))
    have ff0 := hidZ (cell_row R4.out.1 0 _ rfl).1
    have ff1 := hidZ (cell_row R4.out.1 1 _ rfl).1
    have ff2 := hidZ (cell_row R4.out.1 2 _ rfl).1
    have ff3 := hidZ (cell_row R4.out.1 3 _ rfl).1
    have hF := hidZ (hbW.out.trans ((HBW.out.mono (by omega)).trans (R4.out.2.2.2.mono (by omega))))
    go_wp2_with fail
    all_goals exact bodyPost_ret (v := .tuple #[.agg #[.slice o0 n0 c0, .slice o1 n1 c1, .slice o2 n2 c2, .slice o3 n3 c3], .int .i64 3]) (by simp [results, Try.results80, go_sem, ff0.out, ff1.out, ff2.out, ff3.out]) rfl (putP (HH.out.below hF.out) hX hF.out)
  case true =>
    go_wp2_with fail
    refine (nameS_any (g 2) _ (hs 2)).mono ?_; rintro e W ⟨rfl, rfl⟩
    cases hn2 : nameB (g 2)
    case false =>
      obtain ⟨xr0, _⟩ := cell_row ((HBW.out.block _ (by omega)).trans HP.out) 0 _ rfl
      obtain ⟨xr1, _⟩ := cell_row ((HBW.out.block _ (by omega)).trans HP.out) 1 _ rfl
      obtain ⟨xr2, _⟩ := cell_row ((HBW.out.block _ (by omega)).trans HP.out) 2 _ rfl
      obtain ⟨xr3, _⟩ := cell_row ((HBW.out.block _ (by omega)).trans HP.out) 3 _ rfl
      simp only [List.getElem_toArray, List.getElem_cons_zero, List.getElem_cons_succ] at xr0 xr1 xr2 xr3
      obtain ⟨zr0, tzr0⟩ := cell_row ((HBW.out.block (w.heap.size + 1) (by omega)).trans HR.out) 0 _ rfl
      obtain ⟨zr1, tzr1⟩ := cell_row ((HBW.out.block (w.heap.size + 1) (by omega)).trans HR.out) 1 _ rfl
      obtain ⟨zr2, tzr2⟩ := cell_row ((HBW.out.block (w.heap.size + 1) (by omega)).trans HR.out) 2 _ rfl
      obtain ⟨zr3, tzr3⟩ := cell_row ((HBW.out.block (w.heap.size + 1) (by omega)).trans HR.out) 3 _ rfl
      simp only [List.getElem_toArray, List.getElem_cons_zero, List.getElem_cons_succ] at zr0 zr1 zr2 zr3
      have R4 := hidZ (ret4 ((HBW.out.block (w.heap.size + 1) (by omega)).trans HR.out) (.slice o0 n0 c0) (.slice o1 n1 c1) (.slice o2 n2 c2) (.slice o3 n3 c3))
      have ff0 := hidZ (cell_row R4.out.1 0 _ rfl).1
      have ff1 := hidZ (cell_row R4.out.1 1 _ rfl).1
      have ff2 := hidZ (cell_row R4.out.1 2 _ rfl).1
      have ff3 := hidZ (cell_row R4.out.1 3 _ rfl).1
      have hF := hidZ (hbW.out.trans ((HBW.out.mono (by omega)).trans (R4.out.2.2.2.mono (by omega))))
      go_wp2_with fail
      all_goals exact bodyPost_ret (v := .tuple #[.agg #[.slice o0 n0 c0, .slice o1 n1 c1, .slice o2 n2 c2, .slice o3 n3 c3], .int .i64 3]) (by simp [results, Try.results80, go_sem, ff0.out, ff1.out, ff2.out, ff3.out]) rfl (putP (HH.out.below hF.out) hX hF.out)
    case true =>
      have q_X0 := fun d os => cell_regrown X0 d os
      have q_X1 := fun d os => cell_regrown X1 d os
      have q_X2 := fun d os => cell_regrown X2 d os
      have q_X3 := fun d os => cell_regrown X3 d os
      have q_g1 := fun d os => cell_regrown g1 d os
      have q_g2 := fun d os => cell_regrown g2 d os
      go_wp2_with fail
      refine wp_region_mix 11 [0, 1, 2, 3, 4, 5, 6, 7] (by kernel_rfl) (by kernel_rfl) ?_
      simp only [List.filterMap_cons, List.filterMap_nil, List.getElem?_cons_succ, List.getElem?_cons_zero]
      repeat (first | go_big_quiet_step (fail) | quiet_step (fail))
      refine wpQuiet_nil ?_
      have hdW : Hid (Below W.heap.size W W.drew) := (Below.refl _ _).drew
      refine call2 (md := .any) (i := 8) (e1 := 9) (e2 := 10) (dc := 32) (x1 := 33) (x2 := 34) (fn := 85) (Post := fun p q w3 => ∃ v0' v1' v2' v3' X' c, p = .agg #[v0', v1', v2', v3'] ∧ q = .int .i64 c ∧ PlR B w3 v0' v1' v2' v3' X' ∧ X'.Ok ∧ Below W.heap.size W w3)
        ⟨rfl, rfl, rfl, by decide⟩ ⟨rfl, rfl, rfl, by decide⟩ ⟨rfl, rfl, rfl, by decide⟩ (by decide) (by simp) (by kernel_rfl) (by kernel_rfl) (by kernel_rfl) (by kernel_rfl) ?run
        ((putX_ex B _ _ _ _ X (g 1) (g 2) 0 W.drew (HW.out.below hdW.out) hX (hs _) (hs _) (by have := hdW.out.size; omega)).mono fun e w3 ⟨v0', v1', v2', v3', X', c, he, hL, hk', hb3⟩ => ⟨_, _, he, regrown_of_below (hdW.out.trans (hb3.mono hdW.out.size)), v0', v1', v2', v3', X', c, rfl, rfl, hL, hk', hdW.out.trans (hb3.mono hdW.out.size)⟩) ?ex1 ?ex2 ?K
      case run => go_simp
      case ex1 =>
        intro bb p q uu hx
        have hx' : bb.tmps[32]?.getD undef = .tuple #[p, q] := by simpa [Act.eval] using hx
        clear hx
        go_simp
      case ex2 =>
        intro bb p q uu hx
        have hx' : bb.tmps[32]?.getD undef = .tuple #[p, q] := by simpa [Act.eval] using hx
        clear hx
        go_simp
      rintro _ _ w3 ⟨v0', v1', v2', v3', X', cd, rfl, rfl, hL, hO, hb4'⟩ _
      obtain ⟨p0, k0, rfl⟩ := Row.form hL.s
      obtain ⟨p1, k1, rfl⟩ := Row.form hL.f
      obtain ⟨p2, k2, rfl⟩ := Row.form hL.p
      obtain ⟨p3, k3, rfl⟩ := Row.form hL.v
      generalize X'.ss.length = m0 at hL ⊢
      generalize X'.ff.length = m1 at hL ⊢
      generalize X'.pp.length = m2 at hL ⊢
      generalize X'.vv.length = m3 at hL ⊢
      refine ⟨by kernel_rfl, ?_⟩
      simp only [List.drop_succ_cons, List.drop_zero]
      have hb4 : Hid (Below W.heap.size W w3) := hb4'
      have HL : Hid (PlR B w3 (.slice p0 m0 k0) (.slice p1 m1 k1) (.slice p2 m2 k2) (.slice p3 m3 k3) X') := hL
      have HO : Hid X'.Ok := hO
      clear hb4' hL hO
      have hs3 : W.heap.size ≤ w3.heap.size := hb4.out.size
      simp only [Act.put, List.setIfInBounds_toArray, List.set_cons_zero, List.set_cons_succ]
      obtain ⟨zr0, tzr0⟩ := cell_row ((hb4.out.block (w.heap.size + 1) (by omega)).trans HR.out) 0 _ rfl
      obtain ⟨zr1, tzr1⟩ := cell_row ((hb4.out.block (w.heap.size + 1) (by omega)).trans HR.out) 1 _ rfl
      obtain ⟨zr2, tzr2⟩ := cell_row ((hb4.out.block (w.heap.size + 1) (by omega)).trans HR.out) 2 _ rfl
      obtain ⟨zr3, tzr3⟩ := cell_row ((hb4.out.block (w.heap.size + 1) (by omega)).trans HR.out) 3 _ rfl
      simp only [List.getElem_toArray, List.getElem_cons_zero, List.getElem_cons_succ] at zr0 zr1 zr2 zr3
      have R4 := hidZ (ret4 ((hb4.out.block (w.heap.size + 1) (by omega)).trans HR.out) (.slice p0 m0 k0) (.slice p1 m1 k1) (.slice p2 m2 k2) (.slice p3 m3 k3))
      have ff0 := hidZ (cell_row R4.out.1 0 _ rfl).1
      have ff1 := hidZ (cell_row R4.out.1 1 _ rfl).1
      have ff2 := hidZ (cell_row R4.out.1 2 _ rfl).1
      have ff3 := hidZ (cell_row R4.out.1 3 _ rfl).1
      have hF := hidZ (hbW.out.trans ((hb4.out.mono (by omega)).trans (R4.out.2.2.2.mono (by omega))))
      have hr0 := hidZ (Row.block HL.out.s (fun q hq => R4.out.2.1 q (fun e => by subst e; exact row_not HL.out.s hq ((hb4.out.block _ (by omega)).trans HR.out) (by decide))))
      have hr1 := hidZ (Row.block HL.out.f (fun q hq => R4.out.2.1 q (fun e => by subst e; exact row_not HL.out.f hq ((hb4.out.block _ (by omega)).trans HR.out) (by decide))))
      have hr2 := hidZ (Row.block HL.out.p (fun q hq => R4.out.2.1 q (fun e => by subst e; exact row_not HL.out.p hq ((hb4.out.block _ (by omega)).trans HR.out) (by decide))))
      have hr3 := hidZ (Row.block HL.out.v (fun q hq => R4.out.2.1 q (fun e => by subst e; exact row_not HL.out.v hq ((hb4.out.block _ (by omega)).trans HR.out) (by decide))))
      go_wp2_with fail
      all_goals exact bodyPost_ret (v := .tuple #[.agg #[.slice p0 m0 k0, .slice p1 m1 k1, .slice p2 m2 k2, .slice p3 m3 k3], .int .i64 cd]) (by simp [results, Try.results80, go_sem, ff0.out, ff1.out, ff2.out, ff3.out]) rfl (putP (X := X') ⟨hr0.out, hr1.out, hr2.out, hr3.out⟩ HO.out hF.out)
set_option maxRecDepth 100000 in
set_option maxHeartbeats 4000000 in
theorem vessel_ex (B : Nat) (v0 v1 v2 v3 : Value) (X : PlL) (bw cw : Nat) (g : Nat → ByteArray) (w : World) (h : PlR B w v0 v1 v2 v3 X) (hX : X.Ok) (hcw : 4 ≤ cw) (hc : ∀ i, i < 4 → w.cell? ⟨bw, i, none⟩ = some (.string (g i))) (hs : ∀ i, (g i).size ≤ maxLen) (hB : B ≤ w.heap.size) :
    Calls Try.prog 79 #[.agg #[v0, v1, v2, v3], .slice (some ⟨bw, 0, none⟩) 4 cw] w fun e w' => PutP B w e w' := by
  obtain ⟨o0, c0, rfl⟩ := Row.form h.s
  obtain ⟨o1, c1, rfl⟩ := Row.form h.f
  obtain ⟨o2, c2, rfl⟩ := Row.form h.p
  obtain ⟨o3, c3, rfl⟩ := Row.form h.v
  generalize en0 : X.ss.length = n0 at h ⊢
  generalize en1 : X.ff.length = n1 at h ⊢
  generalize en2 : X.pp.length = n2 at h ⊢
  generalize en3 : X.vv.length = n3 at h ⊢
  have HH : Hid (PlR B w (.slice o0 n0 c0) (.slice o1 n1 c1) (.slice o2 n2 c2) (.slice o3 n3 c3) X) := h
  clear h
  obtain ⟨W, hW⟩ : ∃ W, W = (w.alloc (.cells #[.slice o0 n0 c0, .slice o1 n1 c1, .slice o2 n2 c2, .slice o3 n3 c3] 28)).alloc (.cells #[.slice none 0 0, .slice none 0 0, .slice none 0 0, .slice none 0 0] 28) := ⟨_, rfl⟩
  have hbW : Hid (Below w.heap.size w W) := by rw [hW]; exact ((Below.refl _ _).alloc (Nat.le_refl _) _).alloc (by simp) _
  have hsW : W.heap.size = w.heap.size + 1 + 1 := by rw [hW]; simp
  have HP : Hid (W.heap[w.heap.size]? = some (.cells #[.slice o0 n0 c0, .slice o1 n1 c1, .slice o2 n2 c2, .slice o3 n3 c3] 28 (0, 0))) := by
    rw [hW]; exact (Below.heap_alloc _ _ _ (by simp)).trans (heap_alloc_new w _)
  have HR : Hid (W.heap[w.heap.size + 1]? = some (.cells #[.slice none 0 0, .slice none 0 0, .slice none 0 0, .slice none 0 0] 28 (0, 0))) := by
    have e : (w.alloc (.cells #[.slice o0 n0 c0, .slice o1 n1 c1, .slice o2 n2 c2, .slice o3 n3 c3] 28)).heap.size = w.heap.size + 1 := by simp
    rw [hW, ← e]; exact heap_alloc_new _ _
  have HW : Hid (PlR B W (.slice o0 n0 c0) (.slice o1 n1 c1) (.slice o2 n2 c2) (.slice o3 n3 c3) X) := HH.out.below hbW.out
  have HC : Hid (∀ i, i < 4 → W.cell? ⟨bw, i, none⟩ = some (.string (g i))) := fun i hi => (hbW.out.cell (p := ⟨bw, i, none⟩) (World.block_lt_of_cell? w _ (hc i hi))).trans (hc i hi)
  clear hc
  have HBW : Hid (Below W.heap.size W W) := Below.refl _ _
  have g1 := HC.out 1 (by decide)
  have g2 := HC.out 2 (by decide)
  have g3 := HC.out 3 (by decide)
  obtain ⟨X0, _⟩ := cell_row (HP.out) 0 _ rfl
  obtain ⟨X1, _⟩ := cell_row (HP.out) 1 _ rfl
  obtain ⟨X2, _⟩ := cell_row (HP.out) 2 _ rfl
  obtain ⟨X3, _⟩ := cell_row (HP.out) 3 _ rfl
  simp only [List.getElem_toArray, List.getElem_cons_zero, List.getElem_cons_succ] at X0 X1 X2 X3
  have hcw' : (4 : Int) ≤ (cw : Int) := by omega
  go_enter Try.func79, Try.ntmps79
  go_upto_region 1 with fail
  rw [← hW]
  clear hW
  go_wp2_with fail
  refine (nameS_any (g 1) _ (hs 1)).mono ?_; rintro e W ⟨rfl, rfl⟩
  cases hn1 : nameB (g 1)
  case false =>
    obtain ⟨xr0, _⟩ := cell_row ((HBW.out.block _ (by omega)).trans HP.out) 0 _ rfl
    obtain ⟨xr1, _⟩ := cell_row ((HBW.out.block _ (by omega)).trans HP.out) 1 _ rfl
    obtain ⟨xr2, _⟩ := cell_row ((HBW.out.block _ (by omega)).trans HP.out) 2 _ rfl
    obtain ⟨xr3, _⟩ := cell_row ((HBW.out.block _ (by omega)).trans HP.out) 3 _ rfl
    simp only [List.getElem_toArray, List.getElem_cons_zero, List.getElem_cons_succ] at xr0 xr1 xr2 xr3
    obtain ⟨zr0, tzr0⟩ := cell_row ((HBW.out.block (w.heap.size + 1) (by omega)).trans HR.out) 0 _ rfl
    obtain ⟨zr1, tzr1⟩ := cell_row ((HBW.out.block (w.heap.size + 1) (by omega)).trans HR.out) 1 _ rfl
    obtain ⟨zr2, tzr2⟩ := cell_row ((HBW.out.block (w.heap.size + 1) (by omega)).trans HR.out) 2 _ rfl
    obtain ⟨zr3, tzr3⟩ := cell_row ((HBW.out.block (w.heap.size + 1) (by omega)).trans HR.out) 3 _ rfl
    simp only [List.getElem_toArray, List.getElem_cons_zero, List.getElem_cons_succ] at zr0 zr1 zr2 zr3
    have R4 := hidZ (ret4 ((HBW.out.block (w.heap.size + 1) (by omega)).trans HR.out) (.slice o0 n0 c0) (.slice o1 n1 c1) (.slice o2 n2 c2) (.slice o3 n3 c3))
    have ff0 := hidZ (cell_row R4.out.1 0 _ rfl).1
    have ff1 := hidZ (cell_row R4.out.1 1 _ rfl).1
    have ff2 := hidZ (cell_row R4.out.1 2 _ rfl).1
    have ff3 := hidZ (cell_row R4.out.1 3 _ rfl).1
    have hF := hidZ (hbW.out.trans ((HBW.out.mono (by omega)).trans (R4.out.2.2.2.mono (by omega))))
    go_wp2_with fail
    all_goals exact bodyPost_ret (v := .tuple #[.agg #[.slice o0 n0 c0, .slice o1 n1 c1, .slice o2 n2 c2, .slice o3 n3 c3], .int .i64 3]) (by simp [results, Try.results79, go_sem, ff0.out, ff1.out, ff2.out, ff3.out]) rfl (putP (HH.out.below hF.out) hX hF.out)
  case true =>
    go_wp2_with fail
    refine (num_any (g 2) _).mono ?_; rintro e W ⟨rfl, rfl⟩
    obtain ⟨nu, enu⟩ : ∃ n, numB (g 2) = n := ⟨_, rfl⟩
    rw [enu]
    have ENU : Hid (numB (g 2) = nu) := enu
    clear enu
    go_wp2_with fail
    refine (inB_any nu 1 1000 _).mono ?_; rintro e W ⟨rfl, rfl⟩
    cases hin : inB nu 1 1000
    case false =>
      obtain ⟨xr0, _⟩ := cell_row ((HBW.out.block _ (by omega)).trans HP.out) 0 _ rfl
      obtain ⟨xr1, _⟩ := cell_row ((HBW.out.block _ (by omega)).trans HP.out) 1 _ rfl
      obtain ⟨xr2, _⟩ := cell_row ((HBW.out.block _ (by omega)).trans HP.out) 2 _ rfl
      obtain ⟨xr3, _⟩ := cell_row ((HBW.out.block _ (by omega)).trans HP.out) 3 _ rfl
      simp only [List.getElem_toArray, List.getElem_cons_zero, List.getElem_cons_succ] at xr0 xr1 xr2 xr3
      obtain ⟨zr0, tzr0⟩ := cell_row ((HBW.out.block (w.heap.size + 1) (by omega)).trans HR.out) 0 _ rfl
      obtain ⟨zr1, tzr1⟩ := cell_row ((HBW.out.block (w.heap.size + 1) (by omega)).trans HR.out) 1 _ rfl
      obtain ⟨zr2, tzr2⟩ := cell_row ((HBW.out.block (w.heap.size + 1) (by omega)).trans HR.out) 2 _ rfl
      obtain ⟨zr3, tzr3⟩ := cell_row ((HBW.out.block (w.heap.size + 1) (by omega)).trans HR.out) 3 _ rfl
      simp only [List.getElem_toArray, List.getElem_cons_zero, List.getElem_cons_succ] at zr0 zr1 zr2 zr3
      have R4 := hidZ (ret4 ((HBW.out.block (w.heap.size + 1) (by omega)).trans HR.out) (.slice o0 n0 c0) (.slice o1 n1 c1) (.slice o2 n2 c2) (.slice o3 n3 c3))
      have ff0 := hidZ (cell_row R4.out.1 0 _ rfl).1
      have ff1 := hidZ (cell_row R4.out.1 1 _ rfl).1
      have ff2 := hidZ (cell_row R4.out.1 2 _ rfl).1
      have ff3 := hidZ (cell_row R4.out.1 3 _ rfl).1
      have hF := hidZ (hbW.out.trans ((HBW.out.mono (by omega)).trans (R4.out.2.2.2.mono (by omega))))
      go_wp2_with fail
      all_goals exact bodyPost_ret (v := .tuple #[.agg #[.slice o0 n0 c0, .slice o1 n1 c1, .slice o2 n2 c2, .slice o3 n3 c3], .int .i64 3]) (by simp [results, Try.results79, go_sem, ff0.out, ff1.out, ff2.out, ff3.out]) rfl (putP (HH.out.below hF.out) hX hF.out)
    case true =>
      go_wp2_with fail
      refine (nameS_any (g 3) _ (hs 3)).mono ?_; rintro e W ⟨rfl, rfl⟩
      cases hn3 : nameB (g 3)
      case false =>
        obtain ⟨xr0, _⟩ := cell_row ((HBW.out.block _ (by omega)).trans HP.out) 0 _ rfl
        obtain ⟨xr1, _⟩ := cell_row ((HBW.out.block _ (by omega)).trans HP.out) 1 _ rfl
        obtain ⟨xr2, _⟩ := cell_row ((HBW.out.block _ (by omega)).trans HP.out) 2 _ rfl
        obtain ⟨xr3, _⟩ := cell_row ((HBW.out.block _ (by omega)).trans HP.out) 3 _ rfl
        simp only [List.getElem_toArray, List.getElem_cons_zero, List.getElem_cons_succ] at xr0 xr1 xr2 xr3
        obtain ⟨zr0, tzr0⟩ := cell_row ((HBW.out.block (w.heap.size + 1) (by omega)).trans HR.out) 0 _ rfl
        obtain ⟨zr1, tzr1⟩ := cell_row ((HBW.out.block (w.heap.size + 1) (by omega)).trans HR.out) 1 _ rfl
        obtain ⟨zr2, tzr2⟩ := cell_row ((HBW.out.block (w.heap.size + 1) (by omega)).trans HR.out) 2 _ rfl
        obtain ⟨zr3, tzr3⟩ := cell_row ((HBW.out.block (w.heap.size + 1) (by omega)).trans HR.out) 3 _ rfl
        simp only [List.getElem_toArray, List.getElem_cons_zero, List.getElem_cons_succ] at zr0 zr1 zr2 zr3
        have R4 := hidZ (ret4 ((HBW.out.block (w.heap.size + 1) (by omega)).trans HR.out) (.slice o0 n0 c0) (.slice o1 n1 c1) (.slice o2 n2 c2) (.slice o3 n3 c3))
        have ff0 := hidZ (cell_row R4.out.1 0 _ rfl).1
        have ff1 := hidZ (cell_row R4.out.1 1 _ rfl).1
        have ff2 := hidZ (cell_row R4.out.1 2 _ rfl).1
        have ff3 := hidZ (cell_row R4.out.1 3 _ rfl).1
        have hF := hidZ (hbW.out.trans ((HBW.out.mono (by omega)).trans (R4.out.2.2.2.mono (by omega))))
        go_wp2_with fail
        all_goals exact bodyPost_ret (v := .tuple #[.agg #[.slice o0 n0 c0, .slice o1 n1 c1, .slice o2 n2 c2, .slice o3 n3 c3], .int .i64 3]) (by simp [results, Try.results79, go_sem, ff0.out, ff1.out, ff2.out, ff3.out]) rfl (putP (HH.out.below hF.out) hX hF.out)
      case true =>
        have q_X0 := fun d os => cell_regrown X0 d os
        have q_X1 := fun d os => cell_regrown X1 d os
        have q_X2 := fun d os => cell_regrown X2 d os
        have q_X3 := fun d os => cell_regrown X3 d os
        have q_g1 := fun d os => cell_regrown g1 d os
        have q_g2 := fun d os => cell_regrown g2 d os
        have q_g3 := fun d os => cell_regrown g3 d os
        go_wp2_with fail
        refine wp_region_mix 15 [0, 1, 2, 3, 4, 5, 6, 8, 9, 10] (by kernel_rfl) (by kernel_rfl) ?_
        simp only [List.filterMap_cons, List.filterMap_nil, List.getElem?_cons_succ, List.getElem?_cons_zero]
        repeat (first | go_big_quiet_step (fail) | quiet_step (fail))
        refine wpQuiet_nil ?_
        have hdW : Hid (Below W.heap.size W W.drew) := (Below.refl _ _).drew
        refine anyC_call (f := 4) 7 (by kernel_rfl) (by decide) ⟨_, rfl, rfl, 84, #[.string (g 2)], ?run7, (num_any _ _).mono ?con7⟩
        case run7 => go_simp
        rintro _ _ ⟨rfl, rfl⟩
        refine ⟨_, rfl, regrown_of_below hdW.out, ?_⟩
        simp only [Act.put, List.setIfInBounds_toArray]
        rw [ENU.out]
        refine anyC_step (f := 3) [11] (by kernel_rfl) (by simp) (one_list ⟨by decide, _, rfl, rfl, .agg #[.string (g 1), .int .i64 nu, .string (g 3)], W.drew, ?run11, regrown_of_below hdW.out, ?K11⟩)
        case run11 => go_simp
        simp only [Act.put]
        refine call2 (md := .any) (i := 12) (e1 := 13) (e2 := 14) (dc := 44) (x1 := 45) (x2 := 46) (fn := 85) (Post := fun p q w3 => ∃ v0' v1' v2' v3' X' c, p = .agg #[v0', v1', v2', v3'] ∧ q = .int .i64 c ∧ PlR B w3 v0' v1' v2' v3' X' ∧ X'.Ok ∧ Below W.heap.size W w3)
          ⟨rfl, rfl, rfl, by decide⟩ ⟨rfl, rfl, rfl, by decide⟩ ⟨rfl, rfl, rfl, by decide⟩ (by decide) (by simp) (by kernel_rfl) (by kernel_rfl) (by kernel_rfl) (by kernel_rfl) ?run
          ((putX_ex B _ _ _ _ X (g 1) (g 3) nu W.drew (HW.out.below hdW.out) hX (hs _) (hs _) (by have := hdW.out.size; omega)).mono fun e w3 ⟨v0', v1', v2', v3', X', c, he, hL, hk', hb3⟩ => ⟨_, _, he, regrown_of_below (hdW.out.trans (hb3.mono hdW.out.size)), v0', v1', v2', v3', X', c, rfl, rfl, hL, hk', hdW.out.trans (hb3.mono hdW.out.size)⟩) ?ex1 ?ex2 ?K
        case run => go_simp
        case ex1 =>
          intro bb p q uu hx
          have hx' : bb.tmps[44]?.getD undef = .tuple #[p, q] := by simpa [Act.eval] using hx
          clear hx
          go_simp
        case ex2 =>
          intro bb p q uu hx
          have hx' : bb.tmps[44]?.getD undef = .tuple #[p, q] := by simpa [Act.eval] using hx
          clear hx
          go_simp
        rintro _ _ w3 ⟨v0', v1', v2', v3', X', cd, rfl, rfl, hL, hO, hb4'⟩ _
        obtain ⟨p0, k0, rfl⟩ := Row.form hL.s
        obtain ⟨p1, k1, rfl⟩ := Row.form hL.f
        obtain ⟨p2, k2, rfl⟩ := Row.form hL.p
        obtain ⟨p3, k3, rfl⟩ := Row.form hL.v
        generalize X'.ss.length = m0 at hL ⊢
        generalize X'.ff.length = m1 at hL ⊢
        generalize X'.pp.length = m2 at hL ⊢
        generalize X'.vv.length = m3 at hL ⊢
        refine ⟨by kernel_rfl, ?_⟩
        simp only [List.drop_succ_cons, List.drop_zero]
        have hb4 : Hid (Below W.heap.size W w3) := hb4'
        have HL : Hid (PlR B w3 (.slice p0 m0 k0) (.slice p1 m1 k1) (.slice p2 m2 k2) (.slice p3 m3 k3) X') := hL
        have HO : Hid X'.Ok := hO
        clear hb4' hL hO
        have hs3 : W.heap.size ≤ w3.heap.size := hb4.out.size
        simp only [Act.put]
        obtain ⟨zr0, tzr0⟩ := cell_row ((hb4.out.block (w.heap.size + 1) (by omega)).trans HR.out) 0 _ rfl
        obtain ⟨zr1, tzr1⟩ := cell_row ((hb4.out.block (w.heap.size + 1) (by omega)).trans HR.out) 1 _ rfl
        obtain ⟨zr2, tzr2⟩ := cell_row ((hb4.out.block (w.heap.size + 1) (by omega)).trans HR.out) 2 _ rfl
        obtain ⟨zr3, tzr3⟩ := cell_row ((hb4.out.block (w.heap.size + 1) (by omega)).trans HR.out) 3 _ rfl
        simp only [List.getElem_toArray, List.getElem_cons_zero, List.getElem_cons_succ] at zr0 zr1 zr2 zr3
        have R4 := hidZ (ret4 ((hb4.out.block (w.heap.size + 1) (by omega)).trans HR.out) (.slice p0 m0 k0) (.slice p1 m1 k1) (.slice p2 m2 k2) (.slice p3 m3 k3))
        have ff0 := hidZ (cell_row R4.out.1 0 _ rfl).1
        have ff1 := hidZ (cell_row R4.out.1 1 _ rfl).1
        have ff2 := hidZ (cell_row R4.out.1 2 _ rfl).1
        have ff3 := hidZ (cell_row R4.out.1 3 _ rfl).1
        have hF := hidZ (hbW.out.trans ((hb4.out.mono (by omega)).trans (R4.out.2.2.2.mono (by omega))))
        have hr0 := hidZ (Row.block HL.out.s (fun q hq => R4.out.2.1 q (fun e => by subst e; exact row_not HL.out.s hq ((hb4.out.block _ (by omega)).trans HR.out) (by decide))))
        have hr1 := hidZ (Row.block HL.out.f (fun q hq => R4.out.2.1 q (fun e => by subst e; exact row_not HL.out.f hq ((hb4.out.block _ (by omega)).trans HR.out) (by decide))))
        have hr2 := hidZ (Row.block HL.out.p (fun q hq => R4.out.2.1 q (fun e => by subst e; exact row_not HL.out.p hq ((hb4.out.block _ (by omega)).trans HR.out) (by decide))))
        have hr3 := hidZ (Row.block HL.out.v (fun q hq => R4.out.2.1 q (fun e => by subst e; exact row_not HL.out.v hq ((hb4.out.block _ (by omega)).trans HR.out) (by decide))))
        go_wp2_with fail
        all_goals exact bodyPost_ret (v := .tuple #[.agg #[.slice p0 m0 k0, .slice p1 m1 k1, .slice p2 m2 k2, .slice p3 m3 k3], .int .i64 cd]) (by simp [results, Try.results79, go_sem, ff0.out, ff1.out, ff2.out, ff3.out]) rfl (putP (X := X') ⟨hr0.out, hr1.out, hr2.out, hr3.out⟩ HO.out hF.out)
end Go.Proofs.Ytgjcppdeljoimaa
