import Derived.Test.YtaejlcanccfmmaaGreatDoorM40
import Derived.Test.YtaejlcanccfmmaaGreatDoorM9
import Derived.Test.YtaejlcanccfmmaaGreatDoorM39
import Derived.Shelf.RegionOpenPlain
import Derived.Lib.Walk
import Derived.Lib.SliceRun
import Derived.Lib.QuietBelow
namespace Go.Proofs.YtaejlcanccfmmaaGreatDoor
open Go.RowKit
theorem new_cellZ (w : World) (c : Array Value) (t : TypeId) (j : Nat) (v : Value) (h : c[j]? = some v) : (w.alloc (.cells c t)).cell? ⟨w.heap.size, j, none⟩ = some v := by
  simp only [World.cell?, heap_alloc_new, h]; rfl
theorem own_belowZ {B : Nat} {w w' : World} {e size : Nat} {v : Value} {n : Nat} {xs : List Value} (h : w.ownsRow B e size v n xs) (hb : Below w.heap.size w w') : w'.ownsRow B e size v n xs := by
  refine ⟨h.1, ?_⟩
  rcases h.2 with hn | ⟨g, cap, cur, hv, hbg, hg, rest⟩
  · exact Or.inl hn
  · exact Or.inr ⟨g, cap, cur, hv, hbg, (hb.block g (Array.getElem?_eq_some_iff.1 hg).1).trans hg, rest⟩
theorem half (p q : Nat) (h : p < q) : ∃ m : Nat, ((p : Int) + (q : Int)) / 2 = (m : Int) ∧ p ≤ m ∧ m < q := ⟨(p + q) / 2, by omega, by omega, by omega⟩
theorem cmp_no {a b : ByteArray} (h : ltB a b = false) : decide (cmpB a b < 0) = false := by
  rw [decide_eq_false_iff_not, cmpB_lt, h]; decide
theorem cmp_yes {a b : ByteArray} (h : ltB a b = true) : decide (cmpB a b < 0) = true := by
  rw [decide_eq_true_iff, cmpB_lt]; exact h
theorem cmp_same (a b : ByteArray) : (cmpB a b == 0) = eqB a b := by
  rw [Bool.eq_iff_iff, beq_iff_eq, cmpB_eq]
open Go.Sort in
set_option maxRecDepth 100000 in
set_option maxHeartbeats 8000000 in
theorem bsZ_any (S : Nat → Prop) (v : Value) (l : List DShareBatch) (x : ByteArray) (t1 t2 : Value) (w : World) (h : AtL S w l v) (hS : ∀ b, S b → b < w.heap.size) (hl : l.length ≤ 1048576) (hmono : ∀ p q (hq : q < l.length) (hpq : p ≤ q), ltB l[q].1 x = true → ltB (l[p]'(by omega)).1 x = true) :
    Calls Tryz.prog 94 #[v, .agg #[.string x, t1, t2], .func (.func 67) #[] #[]] w fun e w' => ∃ k : Nat, k ≤ l.length ∧ (∀ j (h : j < l.length), j < k → ltB l[j].1 x = true) ∧ (∀ j (h : j < l.length), k ≤ j → ltB l[j].1 x = false) ∧ ∃ b, e = .returned (.tuple #[.int .i64 k, .bool b]) ∧ (b = true ↔ ∃ h : k < l.length, eqB l[k].1 x = true) ∧ Below w.heap.size w w' := by
  obtain ⟨oa, cap, rfl, hn, hc⟩ := h
  obtain ⟨n, en⟩ : ∃ n, l.length = n := ⟨_, rfl⟩
  rw [en] at hn hl
  unfold maxLen at hn
  have HC : Hid _ := hc
  have HM : Hid _ := hmono
  clear hc hmono
  have hsl : Value.slice oa l.length cap = .slice oa n cap := by rw [en]
  rw [hsl]
  clear hsl
  go_enter Tryz.func94, Tryz.ntmps94
  go_wp2
  go_loopw [9, 10] (fun i j wr => ∃ p q : Nat, p ≤ q ∧ q ≤ n ∧ i = .int .i64 p ∧ j = .int .i64 q ∧ Hid (∀ t (ht : t < l.length), t < p → ltB l[t].1 x = true) ∧ Hid (∀ t (ht : t < l.length), q ≤ t → ltB l[t].1 x = false) ∧ Hid (Below (w.heap.size + 1) (w.alloc (.cells #[.string x, t1, t2] 43)) wr)) (fun i j _ => (intOf j).toNat - (intOf i).toNat)
  case atStart => exact ⟨0, n, Nat.zero_le _, Nat.le_refl _, rfl, rfl, fun _ _ h => by omega, fun _ _ h => by omega, Below.refl _ _⟩
  case round =>
    obtain ⟨p, q, hpq, hq, rfl, rfl, hlo, hhi, hbel⟩ := hrel
    have hs := (below_end hbel.out).size
    have x0 := box_at _ _ hbel.out 0 (.string x) rfl
    have x1 := box_at _ _ hbel.out 1 t1 rfl
    have x2 := box_at _ _ hbel.out 2 t2 rfl
    have qx0 := fun d os => cell_regrown x0 d os
    have qx1 := fun d os => cell_regrown x1 d os
    have qx2 := fun d os => cell_regrown x2 d os
    by_cases hlt : p < q
    · obtain ⟨m, em, hpm, hmq⟩ := half p q hlt
      obtain ⟨b, off, rfl, hbS, ce, hcelle, hate⟩ := HC.out m (by omega)
      have hbb := hS b hbS
      have hbw := below_end hbel.out
      rw [width_DShareBatch] at hcelle
      have e0 : wr.cell? ⟨b, off + m * 3, none⟩ = some (ce 0) := (hbw.cell (p := ⟨b, off + m * 3, none⟩) (by show b < _; omega)).trans (by have hq := hcelle 0 (by omega); first | exact hq | simpa using hq)
      have e1 : wr.cell? ⟨b, off + m * 3 + 1, none⟩ = some (ce 1) := (hbw.cell (p := ⟨b, off + m * 3 + 1, none⟩) (by show b < _; omega)).trans (by have hq := hcelle 1 (by omega); first | exact hq | simpa using hq)
      have e2 : wr.cell? ⟨b, off + m * 3 + 2, none⟩ = some (ce 2) := (hbw.cell (p := ⟨b, off + m * 3 + 2, none⟩) (by show b < _; omega)).trans (by have hq := hcelle 2 (by omega); first | exact hq | simpa using hq)
      clear hcelle
      have hate := Lay.same hate (Same.of_below hbw hS)
      rw [at_DShareBatch] at hate
      obtain ⟨ef, eef⟩ : ∃ f, l[m]'(by omega) = f := ⟨_, rfl⟩
      rw [eef] at hate
      obtain ⟨⟨te0, ze0⟩, le1, le2⟩ := hate
      obtain ⟨soe1, sce1, te1, _⟩ := id le1
      clear le1
      obtain ⟨soe2, sce2, te2, _⟩ := id le2
      clear le2
      rw [te0] at e0
      rw [te1] at e1
      rw [te2] at e2
      clear te0 te1 te2
      have qe0 := fun d os => cell_regrown e0 d os
      have qe1 := fun d os => cell_regrown e1 d os
      have qe2 := fun d os => cell_regrown e2 d os
      cases hy : ltB ef.1 x
      · have hd := cmp_no hy
        go_wp2
        refine wp_region_quiet_below (by kernel_rfl) (by kernel_rfl) ?_
        repeat (first | go_big_quiet_step (with_reducible exact cmpShareBatch_q _ _ _ _ _ _ _ _ rfl _ _) | quiet_step (with_reducible exact cmpShareBatch_q _ _ _ _ _ _ _ _ rfl _ _))
        refine wpQuiet_nil ?_
        intro _ hw'
        obtain ⟨⟨dq, osq⟩, hw''⟩ := hw'
        subst hw''
        go_wp2
        go_roundw
        case rel => exact ⟨p, m, hpm, by omega, rfl, rfl, hlo.out, fun t ht hmt => by
          cases hz : ltB l[t].1 x
          · rfl
          · have := HM.out m t ht hmt hz
            rw [eef, hy] at this
            exact this.symm, below_of hbel.out (below_regrown _ dq osq)⟩
        case measure => simp [intOf]; omega
      · have hd := cmp_yes hy
        go_wp2
        refine wp_region_quiet_below (by kernel_rfl) (by kernel_rfl) ?_
        repeat (first | go_big_quiet_step (with_reducible exact cmpShareBatch_q _ _ _ _ _ _ _ _ rfl _ _) | quiet_step (with_reducible exact cmpShareBatch_q _ _ _ _ _ _ _ _ rfl _ _))
        refine wpQuiet_nil ?_
        intro _ hw'
        obtain ⟨⟨dq, osq⟩, hw''⟩ := hw'
        subst hw''
        go_wp2
        go_roundw
        case rel => exact ⟨m + 1, q, by omega, hq, by go_num, rfl, fun t ht hmt => by
          by_cases e : t = m
          · subst e; rw [eef]; exact hy
          · exact HM.out t m (by omega) (by omega) (by rw [eef]; exact hy), hhi.out, below_of hbel.out (below_regrown _ dq osq)⟩
        case measure => simp [intOf]; omega
    · have epq : p = q := by omega
      subst epq
      by_cases hpn : p < n
      · obtain ⟨b, off, rfl, hbS, ce, hcelle, hate⟩ := HC.out p (by omega)
        have hbb := hS b hbS
        have hbw := below_end hbel.out
        rw [width_DShareBatch] at hcelle
        have e0 : wr.cell? ⟨b, off + p * 3, none⟩ = some (ce 0) := (hbw.cell (p := ⟨b, off + p * 3, none⟩) (by show b < _; omega)).trans (by have hq := hcelle 0 (by omega); first | exact hq | simpa using hq)
        have e1 : wr.cell? ⟨b, off + p * 3 + 1, none⟩ = some (ce 1) := (hbw.cell (p := ⟨b, off + p * 3 + 1, none⟩) (by show b < _; omega)).trans (by have hq := hcelle 1 (by omega); first | exact hq | simpa using hq)
        have e2 : wr.cell? ⟨b, off + p * 3 + 2, none⟩ = some (ce 2) := (hbw.cell (p := ⟨b, off + p * 3 + 2, none⟩) (by show b < _; omega)).trans (by have hq := hcelle 2 (by omega); first | exact hq | simpa using hq)
        clear hcelle
        have hate := Lay.same hate (Same.of_below hbw hS)
        rw [at_DShareBatch] at hate
        obtain ⟨ef, eef⟩ : ∃ f, l[p]'(by omega) = f := ⟨_, rfl⟩
        rw [eef] at hate
        obtain ⟨⟨te0, ze0⟩, le1, le2⟩ := hate
        obtain ⟨soe1, sce1, te1, _⟩ := id le1
        clear le1
        obtain ⟨soe2, sce2, te2, _⟩ := id le2
        clear le2
        rw [te0] at e0
        rw [te1] at e1
        rw [te2] at e2
        clear te0 te1 te2
        have qe0 := fun d os => cell_regrown e0 d os
        have qe1 := fun d os => cell_regrown e1 d os
        have qe2 := fun d os => cell_regrown e2 d os
        have hd := cmp_same ef.1 x
        go_wp2
        refine wp_region_quiet_below (by kernel_rfl) (by kernel_rfl) ?_
        repeat (first | go_big_quiet_step (with_reducible exact cmpShareBatch_q _ _ _ _ _ _ _ _ rfl _ _) | quiet_step (with_reducible exact cmpShareBatch_q _ _ _ _ _ _ _ _ rfl _ _))
        refine wpQuiet_nil ?_
        intro _ hw'
        obtain ⟨⟨dq, osq⟩, hw''⟩ := hw'
        subst hw''
        go_wp2
        refine bodyPost_ret (v := .tuple #[.int .i64 p, .bool (eqB ef.1 x)]) (by simp [results, Tryz.results94, go_sem]) rfl ?_
        exact ⟨p, by omega, fun j hj h => hlo.out j hj h, fun j hj h => hhi.out j hj h, eqB ef.1 x, rfl, ⟨fun h => ⟨by omega, by rw [eef]; exact h⟩, fun ⟨_, h⟩ => by rw [eef] at h; exact h⟩, below_end (below_of hbel.out (below_regrown _ dq osq))⟩
      · go_wp2
        refine wp_region_quiet_below (by kernel_rfl) (by kernel_rfl) ?_
        repeat (first | go_big_quiet_step (fail) | quiet_step (fail))
        refine wpQuiet_nil ?_
        intro _ hw'
        obtain ⟨⟨dq, osq⟩, hw''⟩ := hw'
        subst hw''
        go_wp2
        refine bodyPost_ret (v := .tuple #[.int .i64 p, .bool false]) (by simp [results, Tryz.results94, go_sem]) rfl ?_
        exact ⟨p, by omega, fun j hj h => hlo.out j hj h, fun j hj h => hhi.out j hj h, false, rfl, ⟨(fun h => nomatch h), fun ⟨h, _⟩ => absurd h (by omega)⟩, below_end (below_of hbel.out (below_regrown _ dq osq))⟩
set_option maxRecDepth 100000 in
set_option maxHeartbeats 8000000 in
theorem insZ_room (g cap n i vb : Nat) (cur : Array Value) (xs X : List Value) (w : World) (hg : w.heap[g]? = some (.cells cur 43 (0, 0))) (hc : cur.size = cap * 3) (hxs : cur.toList.take (n * 3) = xs) (hxl : xs.length = n * 3) (hi : i < n) (hroom : n + 1 ≤ cap) (hcap : cap ≤ maxLen) (hvb : vb ≠ g) (hv : w.heap[vb]? = some (.cells X.toArray 43 (0, 0))) (hX : X.length = 3) (h1c : ∀ u ∈ xs, u.oneCell' = true) (h1x : ∀ u ∈ X, u.oneCell' = true) :
    Calls Tryz.prog 95 #[.slice (some ⟨g, 0, none⟩) n cap, .int .i64 i, .slice (some ⟨vb, 0, none⟩) 1 1] w fun e w' => e = .returned (.slice (some ⟨g, 0, none⟩) (n + 1) cap) ∧ ∃ R : Array Value, w'.heap[g]? = some (.cells R 43 (0, 0)) ∧ R.size = cap * 3 ∧ R.toList.take ((n + 1) * 3) = xs.take (i * 3) ++ X ++ xs.drop (i * 3) ∧ w.grownBy w' (some g) := by
  obtain ⟨i0, z0, hi0, hz0, hzs, hzb, _⟩ := elB.info
  have hsz : (Tryz.prog.info? 43).map (·.size) = some 3 := by rw [hi0]; simp [hzs]
  have hsiz : ∀ w, (Go.sizeOf 43).run Tryz.prog w = .ok 3 w := fun w => by kernel_rfl
  unfold maxLen at hcap
  have hov : ∀ lb cb, (callFunc 106 #[.slice (some ⟨vb, 0, none⟩) 1 1, .slice (some ⟨g, (i + 1) * 3, none⟩) lb cb]).run Tryz.prog w = .ok (.value (.bool false)) w := fun lb cb => by
    rw [run_callFunc_extern Tryz.func106 (by kernel_rfl) (by kernel_rfl) (by kernel_rfl) (e := Extern.SlicesOverlaps.overlaps #[24, 24] #[4]) (by kernel_rfl),
      Lib.run_overlaps_apart w 24 4 43 elB.ht 3 hsiz ⟨vb, 0, none⟩ ⟨g, (i + 1) * 3, none⟩ 1 1 lb cb hvb 43 43 3 (cap * 3) (by simp [World.shape?, hv, hX]) (by simp [World.shape?, hg, hc]) (by omega) (by simp [World.frozen?, hv]) (by simp [World.frozen?, hv])]
    rfl
  have hD : (xs.drop (i * 3)).length = (n - i) * 3 := by rw [List.length_drop, hxl, Nat.sub_mul]
  have hA : (xs.take (i * 3)).length = i * 3 := by rw [List.length_take, hxl]; omega
  have hcell : ∀ j v, xs[j]? = some v → w.cell? ⟨g, j, none⟩ = some v := fun j v hj => by
    rw [← hxs, List.getElem?_take] at hj
    split at hj
    · simp [World.cell?, hg]; simpa using hj
    · cases hj
  have hadd : ∀ (b o j : Nat), (⟨b, o, none⟩ : Addr).add j = ⟨b, o + j, none⟩ := fun b o j => by unfold Addr.add; split <;> simp_all
  obtain ⟨c1, ec1⟩ : ∃ c1 : Array Value, c1 = (cur.toList.take ((i + 1) * 3) ++ xs.drop (i * 3) ++ cur.toList.drop ((i + 1) * 3 + (xs.drop (i * 3)).length)).toArray := ⟨_, rfl⟩
  have hc1 : c1.size = cap * 3 := by rw [ec1, List.size_toArray, List.length_append, List.length_append, hD, List.length_take, List.length_drop, Array.length_toList, hc]; omega
  have hcp1 : ∀ ty dc sc, (Builtin.copy_ #[24, 24] ty #[.slice (some ⟨g, (i + 1) * 3, none⟩) (n - i) dc, .slice (some ⟨g, i * 3, none⟩) (n + 1 - i) sc]).run Tryz.prog w.drew = .ok (goInt ((n - i : Nat) : Int)) (w.drew.setRow g c1) := fun ty dc sc => by
    rw [ec1]
    exact run_copy_k w.drew _ _ ty 43 3 g ((i + 1) * 3) (n - i) dc ⟨g, i * 3, none⟩ (n + 1 - i) sc cur 43 (xs.drop (i * 3)) elB.ht hsz hg (n - i) (by simp only [Nat.min_def]; split <;> omega) hD
      (fun j v hj => by rw [hadd]; exact hcell _ v (by rw [List.getElem?_drop] at hj; simpa using hj)) (by rw [hD]; omega) (fun v hv => h1c v (List.mem_of_mem_drop hv))
  obtain ⟨R, eR⟩ : ∃ R : Array Value, R = (c1.toList.take (i * 3) ++ X ++ c1.toList.drop (i * 3 + X.length)).toArray := ⟨_, rfl⟩
  have hcp2 : ∀ (W : World), W.heap = (w.drew.setRow g c1).heap → ∀ ty dc, (Builtin.copy_ #[24, 24] ty #[.slice (some ⟨g, i * 3, none⟩) (n + 1 - i) dc, .slice (some ⟨vb, 0, none⟩) 1 1]).run Tryz.prog W = .ok (goInt 1) (W.setRow g R) := fun W hW ty dc => by
    rw [eR]
    have hgW : W.heap[g]? = some (.cells c1 43 (0, 0)) := by rw [hW]; exact setRow_heap w.drew g cur c1 _ _ hg
    have hvW : W.heap[vb]? = some (.cells X.toArray 43 (0, 0)) := by rw [hW, setRow_other w.drew g vb c1 hvb]; exact hv
    exact run_copy_k W _ _ ty 43 3 g (i * 3) (n + 1 - i) dc ⟨vb, 0, none⟩ 1 1 c1 43 X elB.ht hsz hgW 1 (by simp only [Nat.min_def]; split <;> omega) (by omega)
      (fun j v hj => by rw [hadd]; simp [World.cell?, hvW]; simpa using hj) (by rw [hX, hc1]; omega) h1x
  have hfin : R.size = cap * 3 ∧ R.toList.take ((n + 1) * 3) = xs.take (i * 3) ++ X ++ xs.drop (i * 3) := by
    have h := shift_front cur.toList (xs.take (i * 3)) X (xs.drop (i * 3)) R.toList (by rw [hA, ← hxs, List.take_take, Nat.min_eq_left (by omega)]) (by rw [hA, hX, hD]; simp [hc]; omega) ⟨c1.toList, by rw [ec1, hA, hX]; simp only [show i * 3 + 3 = (i + 1) * 3 by omega], by rw [eR, hA]⟩
    rw [hA, hX, hD, show i * 3 + 3 + (n - i) * 3 = (n + 1) * 3 by omega] at h
    exact ⟨by have := h.2; simpa [hc] using this, h.1⟩
  have mixed : Tryz.prog.follows .mixedOrders = true := by kernel_rfl
  have hz2 : ¬ ((i : Int) = (n : Int)) := by omega
  have hw1 : IntKind.i64.wrap ((i : Int) + 1) = (i : Int) + 1 := by rw [IntKind.wrap_i64]; omega
  have hb1 : (0 : Int) ≤ (i : Int) + 1 := by omega
  have hin : i ≤ n := by omega
  have htn : ((i : Int) + 1).toNat = i + 1 := by omega
  have hb2 : ¬ (cap = i + 1) := by omega
  have hb3 : (i : Int) ≤ (n : Int) + 1 := by omega
  have hb4 : ¬ (cap = i) := by omega
  have HF : Hid _ := hfin
  have HG : Hid (w.heap[g]? = some (.cells cur 43 (0, 0))) := hg
  clear hfin eR ec1 hcell hD hA hc1 hg hv hc hxs hxl
  go_enter Tryz.func95, Tryz.ntmps95
  go_wp2_with (simp only [hov])
  go_region_law_o (refine step_copy_k rfl _ _ 24 24 rfl _ _ (by simp [Act.eval, Act.put]) (by simp [Act.eval, Act.put]) (hcp1 _ _ _) ?_)
  go_wp2_with (at_builtin; refine wpList_copy_k _ rfl _ _ 24 24 rfl _ _ rfl rfl (hcp2 _ rfl _ _) ?_)
  go_ret
  exact ⟨rfl, R, by rw [setRow_setRow]; exact setRow_heap w.drew g cur R _ _ HG.out, HF.out.1, HF.out.2, ⟨rfl, rfl, rfl, Nat.le_of_eq (by rw [setRow_size, setRow_size]; rfl), fun q hq hne => by
    rw [setRow_setRow, setRow_other w.drew g q R (fun e => hne (by rw [e]))]; rfl⟩⟩
set_option maxRecDepth 100000 in
set_option maxHeartbeats 8000000 in
theorem insZ_end (B n vb : Nat) (v : Value) (xs X : List Value) (w : World) (hown : w.ownsRow B 43 3 v n xs) (hn : n ≤ 1048576) (hv : w.heap[vb]? = some (.cells X.toArray 43 (0, 0))) (hX : X.length = 3) (h1x : ∀ u ∈ X, u.oneCell' = true) (hB : B ≤ w.heap.size) :
    Calls Tryz.prog 95 #[v, .int .i64 n, .slice (some ⟨vb, 0, none⟩) 1 1] w fun e w' => ∃ v', e = .returned v' ∧ w'.ownsRow B 43 3 v' (n + 1) (xs ++ X) ∧ w.grownBy w' v.ownBlock ∧ (v'.ownBlock = v.ownBlock ∨ v'.ownBlock = some w.heap.size) := by
  have hadd : ∀ (b o j : Nat), (⟨b, o, none⟩ : Addr).add j = ⟨b, o + j, none⟩ := fun b o j => by unfold Addr.add; split <;> simp_all
  have hsrc : Hid (Src w (.slice (some ⟨vb, 0, none⟩) 1 1) 1 3 X) := ⟨by rw [hX], .inr ⟨_, _, rfl, fun j u hj => by rw [hadd]; simp [World.cell?, hv]; simpa using hj⟩⟩
  have HO : Hid _ := hown
  clear hv
  rcases hown.2 with ⟨rfl, rfl⟩ | ⟨g, cap, cur, rfl, hbg, hg, hnc, hm, _⟩
  · clear hown
    go_enter Tryz.func95, Tryz.ntmps95
    go_wp2_with (at_builtin; refine wpList_app elB rfl _ _ rfl rfl rfl HO.out hsrc.out h1x (by unfold maxLen; omega) (by omega) hB (fun v' w' r1 r2 r3 => ?_))
    go_ret
    exact ⟨_, rfl, r1, r2, r3⟩
  · clear hown hg
    unfold maxLen at hm
    go_enter Tryz.func95, Tryz.ntmps95
    go_wp2_with (at_builtin; refine wpList_app elB rfl _ _ rfl rfl rfl HO.out hsrc.out h1x (by unfold maxLen; omega) (by omega) hB (fun v' w' r1 r2 r3 => ?_))
    all_goals (go_ret; exact ⟨_, rfl, r1, r2, r3⟩)
theorem grow_front (c A X D R : List Value) (hA : c.take A.length = A) (hR : A.length + X.length + D.length ≤ c.length) (h : ∃ c1 : List Value, c1 = c.take A.length ++ X ++ c.drop (A.length + X.length) ∧ R = c1.take (A.length + X.length) ++ D ++ c1.drop (A.length + X.length + D.length)) :
    R.take (A.length + X.length + D.length) = A ++ X ++ D ∧ R.length = c.length := by
  obtain ⟨c1, rfl, rfl⟩ := h
  rw [hA]
  have e1 : (A ++ X ++ c.drop (A.length + X.length)).take (A.length + X.length) = A ++ X := by
    rw [List.take_append_of_le_length (by simp), List.take_of_length_le (by simp)]
  rw [e1]
  constructor
  · rw [List.take_append_of_le_length (by simp; omega), List.take_of_length_le (by simp; omega)]
  · simp; omega
theorem front_of (A : List Value) (Y Z : Array Value) : ((A.toArray ++ Y ++ Z).toList).take A.length = A := by simp
theorem zero_len (z : Array Value) (n : Nat) : (Builtin.zeroCells z n).size = n * z.size := by simp [Builtin.zeroCells]
set_option maxRecDepth 100000 in
set_option maxHeartbeats 8000000 in
theorem insZ_grow (g cap n i vb : Nat) (cur : Array Value) (xs X : List Value) (w : World) (hg : w.heap[g]? = some (.cells cur 43 (0, 0))) (hxs : cur.toList.take (n * 3) = xs) (hxl : xs.length = n * 3) (hi : i < n) (hn : n ≤ 1048576) (hnc : n ≤ cap) (hroom : cap < n + 1) (hvl : vb < w.heap.size) (hv : w.heap[vb]? = some (.cells X.toArray 43 (0, 0))) (hX : X.length = 3) (h1c : ∀ u ∈ xs, u.oneCell' = true) (h1x : ∀ u ∈ X, u.oneCell' = true) :
    Calls Tryz.prog 95 #[.slice (some ⟨g, 0, none⟩) n cap, .int .i64 i, .slice (some ⟨vb, 0, none⟩) 1 1] w fun e w' => ∃ G, e = .returned (.slice (some ⟨w.heap.size, 0, none⟩) (n + 1) G) ∧ n + 1 ≤ G ∧ G ≤ maxLen ∧ ∃ R : Array Value, w'.heap[w.heap.size]? = some (.cells R 43 (0, 0)) ∧ R.size = G * 3 ∧ R.toList.take ((n + 1) * 3) = xs.take (i * 3) ++ X ++ xs.drop (i * 3) ∧ w.grownBy w' none := by
  obtain ⟨i0, z0, hi0, hz0, hzs, hzb, hzc⟩ := elB.info
  have hsz : (Tryz.prog.info? 43).map (·.size) = some 3 := by rw [hi0]; simp [hzs]
  have hgl : g < w.heap.size := (Array.getElem?_eq_some_iff.1 hg).1
  have hD : (xs.drop (i * 3)).length = (n - i) * 3 := by rw [List.length_drop, hxl, Nat.sub_mul]
  have hA : (xs.take (i * 3)).length = i * 3 := by rw [List.length_take, hxl]; omega
  have hcell : ∀ j v, xs[j]? = some v → w.cell? ⟨g, j, none⟩ = some v := fun j v hj => by
    rw [← hxs, List.getElem?_take] at hj
    split at hj
    · simp [World.cell?, hg]; simpa using hj
    · cases hj
  have hadd : ∀ (b o j : Nat), (⟨b, o, none⟩ : Addr).add j = ⟨b, o + j, none⟩ := fun b o j => by unfold Addr.add; split <;> simp_all
  have hold : (Builtin.firstCells i0.size i (.slice (some ⟨g, 0, none⟩) i cap)).run Tryz.prog w.drew = .ok (xs.take (i * 3)).toArray w.drew := by
    rw [hzs]
    exact run_firstCells_some w.drew 3 i ⟨g, 0, none⟩ i cap (xs.take (i * 3)) hA (fun j v hj => by
      rw [hadd, Nat.zero_add]
      rw [List.getElem?_take] at hj
      split at hj
      · exact hcell j v hj
      · cases hj)
  have hik : i + (n + 1 - i) = n + 1 := by omega
  obtain ⟨G, hG⟩ : ∃ G, G = grownCap w (n + 1) cap 43 := ⟨_, rfl⟩
  obtain ⟨ROW, hROW⟩ : ∃ ROW : Array Value, ROW = (xs.take (i * 3)).toArray ++ Builtin.zeroCells z0.cells (n + 1 - i) ++ Builtin.zeroCells z0.cells (G - (n + 1)) := ⟨_, rfl⟩
  have hGn : n + 1 ≤ G := by rw [hG]; exact grownCap_ge w _ _ _
  have hGm : G ≤ maxLen := by rw [hG]; exact grownCap_le_maxLen w (n + 1) cap _ (by unfold maxLen; omega)
  have hRl : ROW.size = G * 3 := by
    rw [hROW, Array.size_append, Array.size_append, zero_len, zero_len, hzc, List.size_toArray, hA]
    omega
  have hrz : ∀ ty, (Builtin.append_ #[24, 3] ty #[.slice (some ⟨g, 0, none⟩) i cap, .int .i64 ((n : Int) + 1 - (i : Int))]).run Tryz.prog w =
      .ok (.slice (some ⟨w.heap.size, 0, none⟩) (n + 1) G) (w.drew.alloc (.cells ROW 43)) := fun ty => by
    have h := Lib.run_append_grow_zeros w 24 3 ty 43 i0 z0 .i64 .i64 elB.ht (by kernel_rfl) hi0 hz0 (some ⟨g, 0, none⟩) i cap (xs.take (i * 3)) hold (n + 1 - i) (by omega) (by omega) (by omega) (by omega) (by rw [hzb]; omega) (by rw [hzb, hik]; exact growslice_fits hroom (by omega))
    rw [hik, ← hG, ← hROW] at h
    rw [show (n : Int) + 1 - (i : Int) = ((n + 1 - i : Nat) : Int) by omega]
    exact h
  obtain ⟨c1, ec1⟩ : ∃ c1 : Array Value, c1 = (ROW.toList.take (i * 3) ++ X ++ ROW.toList.drop (i * 3 + X.length)).toArray := ⟨_, rfl⟩
  have hc1 : c1.size = G * 3 := by rw [ec1, List.size_toArray, List.length_append, List.length_append, hX, List.length_take, List.length_drop, Array.length_toList, hRl]; omega
  obtain ⟨W1, hW1⟩ : ∃ W1, W1 = w.drew.alloc (.cells ROW 43) := ⟨_, rfl⟩
  have hN : W1.heap[w.heap.size]? = some (.cells ROW 43 (0, 0)) := by rw [hW1]; exact heap_alloc_new w.drew _
  have hO : ∀ q, q < w.heap.size → W1.heap[q]? = w.heap[q]? := fun q hq => by rw [hW1]; exact ((Below.refl w.drew.heap.size w.drew).alloc (Nat.le_refl _) _).block q hq
  have hcpA : ∀ (W : World), W.heap = W1.heap → ∀ ty dc, (Builtin.copy_ #[24, 24] ty #[.slice (some ⟨w.heap.size, i * 3, none⟩) (n + 1 - i) dc, .slice (some ⟨vb, 0, none⟩) 1 1]).run Tryz.prog W = .ok (goInt 1) (W.setRow w.heap.size c1) := fun W hW ty dc => by
    rw [ec1]
    have hgW : W.heap[w.heap.size]? = some (.cells ROW 43 (0, 0)) := by rw [hW]; exact hN
    have hvW : W.heap[vb]? = some (.cells X.toArray 43 (0, 0)) := by rw [hW, hO vb hvl]; exact hv
    exact run_copy_k W _ _ ty 43 3 w.heap.size (i * 3) (n + 1 - i) dc ⟨vb, 0, none⟩ 1 1 ROW 43 X elB.ht hsz hgW 1 (by simp only [Nat.min_def]; split <;> omega) (by omega)
      (fun j v hj => by rw [hadd]; simp [World.cell?, hvW]; simpa using hj) (by rw [hX, hRl]; omega) h1x
  obtain ⟨R, eR⟩ : ∃ R : Array Value, R = (c1.toList.take ((i + 1) * 3) ++ xs.drop (i * 3) ++ c1.toList.drop ((i + 1) * 3 + (xs.drop (i * 3)).length)).toArray := ⟨_, rfl⟩
  have hcpB : ∀ (W : World), W.heap = (W1.setRow w.heap.size c1).heap → ∀ ty dc sc, (Builtin.copy_ #[24, 24] ty #[.slice (some ⟨w.heap.size, (i + 1) * 3, none⟩) (n - i) dc, .slice (some ⟨g, i * 3, none⟩) (n - i) sc]).run Tryz.prog W = .ok (goInt ((n - i : Nat) : Int)) (W.setRow w.heap.size R) := fun W hW ty dc sc => by
    rw [eR]
    have hgW : W.heap[w.heap.size]? = some (.cells c1 43 (0, 0)) := by rw [hW]; exact setRow_heap W1 w.heap.size ROW c1 _ _ hN
    have hoW : W.heap[g]? = w.heap[g]? := by rw [hW, setRow_other W1 w.heap.size g c1 (Nat.ne_of_lt hgl), hO g hgl]
    exact run_copy_k W _ _ ty 43 3 w.heap.size ((i + 1) * 3) (n - i) dc ⟨g, i * 3, none⟩ (n - i) sc c1 43 (xs.drop (i * 3)) elB.ht hsz hgW (n - i) (by simp) hD
      (fun j v hj => by rw [hadd, World.cell?_of_block (a := ⟨g, i * 3 + j, none⟩) hoW]; exact hcell _ v (by rw [List.getElem?_drop] at hj; simpa using hj)) (by rw [hD, hc1]; omega) (fun v hv => h1c v (List.mem_of_mem_drop hv))
  have hfin : R.size = G * 3 ∧ R.toList.take ((n + 1) * 3) = xs.take (i * 3) ++ X ++ xs.drop (i * 3) := by
    have h := grow_front ROW.toList (xs.take (i * 3)) X (xs.drop (i * 3)) R.toList (by rw [hROW]; exact front_of _ _ _) (by rw [hA, hX, hD, Array.length_toList, hRl]; omega) ⟨c1.toList, by rw [ec1, hA], by rw [eR, hA, hX]; simp only [show i * 3 + 3 = (i + 1) * 3 by omega]⟩
    rw [hA, hX, hD, show i * 3 + 3 + (n - i) * 3 = (n + 1) * 3 by omega] at h
    exact ⟨by have := h.2; rw [Array.length_toList, Array.length_toList, hRl] at this; exact this, h.1⟩
  have mixed : Tryz.prog.follows .mixedOrders = true := by kernel_rfl
  have hz2 : ¬ ((i : Int) = (n : Int)) := by omega
  have hz3 : (cap : Int) < (n : Int) + 1 := by omega
  have hw1 : IntKind.i64.wrap ((i : Int) + 1) = (i : Int) + 1 := by rw [IntKind.wrap_i64]; omega
  have hb1 : (0 : Int) ≤ (i : Int) + 1 := by omega
  have hin : i ≤ n := by omega
  have htn : ((i : Int) + 1).toNat = i + 1 := by omega
  have hb3 : (i : Int) ≤ (n : Int) := by omega
  have hG63 : G ≤ 9223372036854775807 := by unfold maxLen at hGm; omega
  have hGi : ¬ (G = i) := by omega
  have hGim : ¬ (G = i + 1) := by omega
  have hci : ¬ (cap = i) := by omega
  have HF : Hid _ := hfin
  have HGM : Hid (G ≤ maxLen) := hGm
  rw [← hW1] at hrz
  have HN : Hid (W1.heap[w.heap.size]? = some (.cells ROW 43 (0, 0))) := hN
  have HO : Hid (∀ q, q < w.heap.size → W1.heap[q]? = w.heap[q]?) := hO
  have HP : Hid (W1.os = w.os ∧ W1.tape = w.tape ∧ W1.output = w.output ∧ w.heap.size ≤ W1.heap.size) := by rw [hW1]; exact ⟨rfl, rfl, rfl, by simp⟩
  clear hfin eR ec1 hcell hD hA hc1 hg hv hxs hxl hold hROW hRl hG hik hN hO hGm
  clear hW1
  have hF : ((W1.setRow w.heap.size c1).drew).heap = (W1.setRow w.heap.size c1).heap := rfl
  go_enter Tryz.func95, Tryz.ntmps95
  go_wp2_with (first
    | (at_builtin; refine Lib.wpList_append_run _ rfl _ _ _ _ rfl _ _ rfl rfl _ _ (hrz _) ?_)
    | (at_builtin; refine wpList_copy_k _ rfl _ _ 24 24 rfl _ _ rfl rfl (hcpA _ rfl _ _) ?_))
  go_region_law_o (refine step_copy_k rfl _ _ 24 24 rfl _ _ (by simp [Act.eval, Act.put]) (by simp [Act.eval, Act.put]) (hcpB _ hF _ _ _) ?_)
  go_wp2
  go_ret
  have hh : ((W1.setRow w.heap.size c1).drew.setRow w.heap.size R).heap = (W1.setRow w.heap.size R).heap := by
    show ((W1.setRow w.heap.size c1).setRow w.heap.size R).heap = _
    rw [setRow_setRow]
  exact ⟨G, rfl, hGn, HGM.out, R, by rw [hh]; exact setRow_heap W1 _ ROW R _ _ HN.out, HF.out.1, HF.out.2, ⟨HP.out.1, HP.out.2.1, HP.out.2.2.1, by rw [hh, setRow_size]; exact HP.out.2.2.2, fun q hq _ => by
    rw [hh, setRow_other W1 _ q R (by omega)]; exact HO.out q hq⟩⟩
theorem grown_low {w u w' : World} {row : Option Nat} (hb : Below w.heap.size w u) (hg : u.grownBy w' row) : w.grownBy w' row :=
  ⟨hg.os.trans hb.os, hg.tape.trans hb.tape, hg.output.trans hb.output, Nat.le_trans hb.size hg.size, fun q hq hne => (hg.block q (Nat.lt_of_lt_of_le hq hb.size) hne).trans (hb.block q hq)⟩
theorem insZ_all (B n i vb : Nat) (v : Value) (xs X : List Value) (w : World) (hown : w.ownsRow B 43 3 v n xs) (hi : i ≤ n) (hn : n ≤ 1048576) (hv : w.heap[vb]? = some (.cells X.toArray 43 (0, 0))) (hne : v.ownBlock ≠ some vb) (hX : X.length = 3) (h1c : ∀ u ∈ xs, u.oneCell' = true) (h1x : ∀ u ∈ X, u.oneCell' = true) (hB : B ≤ w.heap.size) :
    Calls Tryz.prog 95 #[v, .int .i64 i, .slice (some ⟨vb, 0, none⟩) 1 1] w fun e w' => ∃ v', e = .returned v' ∧ w'.ownsRow B 43 3 v' (n + 1) (xs.take (i * 3) ++ X ++ xs.drop (i * 3)) ∧ w.grownBy w' v.ownBlock ∧ (v'.ownBlock = v.ownBlock ∨ v'.ownBlock = some w.heap.size) := by
  by_cases hin : i = n
  · subst hin
    rw [List.take_of_length_le (by rw [hown.1]; omega), List.drop_of_length_le (by rw [hown.1]; omega), List.append_nil]
    exact insZ_end B i vb v xs X w hown hn hv hX h1x hB
  rcases hown.2 with ⟨rfl, rfl⟩ | ⟨g, cap, cur, rfl, hbg, hg, hnc, hm, hcs, hxs⟩
  · omega
  have hlen : (xs.take (i * 3) ++ X ++ xs.drop (i * 3)).length = (n + 1) * 3 := by
    rw [List.length_append, List.length_append, List.length_take, List.length_drop, hX, hown.1]; omega
  by_cases hr : n + 1 ≤ cap
  · refine (insZ_room g cap n i vb cur xs X w hg hcs hxs hown.1 (by omega) hr hm (fun e => hne (by rw [e]; rfl)) hv hX h1c h1x).mono ?_
    rintro e w' ⟨rfl, R, h1, h2, h3, h4⟩
    exact ⟨_, rfl, ⟨hlen, .inr ⟨g, cap, R, rfl, hbg, h1, hr, hm, h2, h3⟩⟩, h4, .inl rfl⟩
  · refine (insZ_grow g cap n i vb cur xs X w hg hxs hown.1 (by omega) hn hnc (by omega) (Array.getElem?_eq_some_iff.1 hv).1 hv hX h1c h1x).mono ?_
    rintro e w' ⟨G, rfl, hG1, hG2, R, h1, h2, h3, h4⟩
    exact ⟨_, rfl, ⟨hlen, .inr ⟨w.heap.size, G, R, rfl, hB, h1, hG1, hG2, h2, h3⟩⟩, ⟨h4.os, h4.tape, h4.output, h4.size, fun q hq _ => h4.block q hq (by simp)⟩, .inr rfl⟩
set_option maxRecDepth 100000 in
set_option maxHeartbeats 8000000 in
theorem ordZ_any (S : Nat → Prop) (B n : Nat) (v : Value) (xs : List Value) (ld : List DShareBatch) (x : ByteArray) (t1 t2 : Value) (w : World) (hown : w.ownsRow B 43 3 v n xs) (hat : AtL S w ld v) (hld : ld.length = n) (hS : ∀ b, S b → b < w.heap.size) (hn : n ≤ 1000000) (hB : B ≤ w.heap.size) (h1c : ∀ u ∈ xs, u.oneCell' = true) (h1t1 : t1.oneCell' = true) (h1t2 : t2.oneCell' = true) (hmono : ∀ p q (hq : q < ld.length) (hpq : p ≤ q), ltB ld[q].1 x = true → ltB (ld[p]'(by omega)).1 x = true) :
    Calls Tryz.prog 75 #[v, .agg #[.string x, t1, t2], .func (.func 67) #[] #[]] w fun e w' => ∃ k : Nat, k ≤ ld.length ∧ (∀ j (h : j < ld.length), j < k → ltB ld[j].1 x = true) ∧ (∀ j (h : j < ld.length), k ≤ j → ltB ld[j].1 x = false) ∧ ∃ v', e = .returned (.tuple #[v', .int .i64 k]) ∧
      (((∃ h : k < ld.length, eqB ld[k].1 x = true) ∧ v' = v ∧ Below w.heap.size w w') ∨ ((∀ h : k < ld.length, eqB ld[k].1 x = false) ∧ w'.ownsRow B 43 3 v' (n + 1) (xs.take (k * 3) ++ [.string x, t1, t2] ++ xs.drop (k * 3)) ∧ w.grownBy w' v.ownBlock ∧ (v'.ownBlock = v.ownBlock ∨ ∃ g, v'.ownBlock = some g ∧ w.heap.size ≤ g))) := by
  have hbW : Below w.heap.size w (w.alloc (.cells #[.string x, t1, t2] 43)) := (Below.refl _ _).alloc (Nat.le_refl _) _
  have HBW : Hid (Below w.heap.size w (w.alloc (.cells #[.string x, t1, t2] 43))) := hbW
  have hS0 : ∀ b, S b → b < ((w.alloc (.cells #[.string x, t1, t2] 43))).heap.size := fun b hb => Nat.lt_of_lt_of_le (hS b hb) hbW.size
  have HA : Hid (AtL S ((w.alloc (.cells #[.string x, t1, t2] 43))) ld v) := hat.same (Same.of_below hbW hS)
  have HO : Hid (w.ownsRow B 43 3 v n xs) := hown
  have HM : Hid _ := hmono
  have h1x : ∀ u ∈ ([.string x, t1, t2] : List Value), u.oneCell' = true := fun u hu => by
    simp only [List.mem_cons, List.not_mem_nil, or_false] at hu
    rcases hu with rfl | rfl | rfl
    · rfl
    · exact h1t1
    · exact h1t2
  have y0 : Hid ((w.alloc (.cells #[.string x, t1, t2] 43)).cell? ⟨w.heap.size, 0, none⟩ = some (.string x)) := new_cellZ w _ _ 0 _ rfl
  have y1 : Hid ((w.alloc (.cells #[.string x, t1, t2] 43)).cell? ⟨w.heap.size, 1, none⟩ = some (t1)) := new_cellZ w _ _ 1 _ rfl
  have y2 : Hid ((w.alloc (.cells #[.string x, t1, t2] 43)).cell? ⟨w.heap.size, 2, none⟩ = some (t2)) := new_cellZ w _ _ 2 _ rfl
  clear hmono hat hown hbW
  go_enter Tryz.func75, Tryz.ntmps75
  go_wp2_with fail
  refine (bsZ_any S v ld x t1 t2 _ HA.out hS0 (by omega) HM.out).mono ?_
  rintro e w1 ⟨k, hk, hlo, hhi, b, rfl, hbi, hb1⟩
  have HB1 : Hid (Below w.heap.size w w1) := HBW.out.trans (hb1.mono HBW.out.size)
  have hsz1 := HB1.out.size
  cases b with
  | true =>
    have HBI : Hid _ := hbi.1 rfl
    have HLO : Hid _ := hlo
    have HHI : Hid _ := hhi
    clear hbi hlo hhi
    go_wp2_with fail
    refine bodyPost_ret (v := .tuple #[v, .int .i64 k]) (by simp [results, Tryz.results75, go_sem]) rfl ?_
    exact ⟨k, hk, HLO.out, HHI.out, v, rfl, .inl ⟨HBI.out, rfl, HB1.out⟩⟩
  | false =>
    have HBI : Hid (∀ h : k < ld.length, eqB ld[k].1 x = false) := fun h => by
      cases hq : eqB ld[k].1 x
      · rfl
      · have := hbi.2 ⟨h, hq⟩
        cases this
    have HLO : Hid _ := hlo
    have HHI : Hid _ := hhi
    have b0 := (hb1.cell (p := ⟨w.heap.size, 0, none⟩) (by show w.heap.size < _; simp)).trans y0.out
    have b1 := (hb1.cell (p := ⟨w.heap.size, 1, none⟩) (by show w.heap.size < _; simp)).trans y1.out
    have b2 := (hb1.cell (p := ⟨w.heap.size, 2, none⟩) (by show w.heap.size < _; simp)).trans y2.out
    have HW2 : Hid (Below w1.heap.size w1 (w1.alloc (.cells #[.string x, t1, t2] 43))) := (Below.refl _ _).alloc (Nat.le_refl _) _
    have hr := own_belowZ (own_belowZ HO.out (HB1.out)) HW2.out
    have HR : Hid _ := hr
    have hne : v.ownBlock ≠ some w1.heap.size := fun e => by
      have := (World.ownsRow.lt HO.out _ e).2
      omega
    clear hbi hlo hhi hr
    go_wp2_with fail
    refine (insZ_all B n k w1.heap.size v xs [.string x, t1, t2] _ HR.out (by omega) (by omega) (heap_alloc_new w1 _) hne rfl h1c h1x (by simp; omega)).mono ?_
    rintro e w3 ⟨v', rfl, r1, r2, r3⟩
    have R1 : Hid _ := r1
    have R2 : Hid _ := r2
    have R3 : Hid _ := r3
    clear r1 r2 r3
    go_wp2_with fail
    refine bodyPost_ret (v := .tuple #[v', .int .i64 k]) (by simp [results, Tryz.results75, go_sem]) rfl ?_
    refine ⟨k, hk, HLO.out, HHI.out, v', rfl, .inr ⟨HBI.out, R1.out, grown_low (HB1.out.trans (HW2.out.mono hsz1)) R2.out, ?_⟩⟩
    rcases R3.out with h | h
    · exact .inl h
    · exact .inr ⟨_, h, by simp; omega⟩
end Go.Proofs.YtaejlcanccfmmaaGreatDoor
