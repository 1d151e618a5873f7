/-
  The program's heap of remainders in memory: one is put into it.
-/
import Derived.Test.YtkmgogfgdpldbabSe
import Derived.Test.YtkmgogfgdpldbabHi
import Derived.Maps.AppendAt
namespace Go.Proofs.Ytkmgogfgdpldbab
open Go.RowKit

/-- The cells of a list of remainders. -/
def flat (l : List (Int × Int)) : List Value := l.flatMap fun e => [.int .i64 e.1, .int .i64 e.2]
theorem flat_len : ∀ l : List (Int × Int), (flat l).length = l.length * 2
  | [] => rfl
  | e :: l => by
    have ih := flat_len l
    simp only [flat, List.flatMap_cons, List.length_append, List.length_cons, List.length_nil] at ih ⊢
    omega
theorem flat_append (l m : List (Int × Int)) : flat (l ++ m) = flat l ++ flat m := by simp [flat]
theorem flat_at : ∀ (l : List (Int × Int)) (i : Nat), i < l.length → (flat l)[i * 2]? = some (.int .i64 (nE l i).1) ∧ (flat l)[i * 2 + 1]? = some (.int .i64 (nE l i).2)
  | [], i, h => by simp at h
  | e :: l, 0, _ => by simp [flat, nE]
  | e :: l, i + 1, h => by
    have ih := flat_at l i (by simpa using h)
    have e1 : (flat (e :: l))[(i + 1) * 2]? = (flat l)[i * 2]? := by
      show (Value.int .i64 e.1 :: Value.int .i64 e.2 :: flat l)[(i + 1) * 2]? = _
      rw [show (i + 1) * 2 = (i * 2 + 1) + 1 by omega, List.getElem?_cons_succ, List.getElem?_cons_succ]
    have e2 : (flat (e :: l))[(i + 1) * 2 + 1]? = (flat l)[i * 2 + 1]? := by
      show (Value.int .i64 e.1 :: Value.int .i64 e.2 :: flat l)[(i + 1) * 2 + 1]? = _
      rw [show (i + 1) * 2 + 1 = (i * 2 + 1 + 1) + 1 by omega, List.getElem?_cons_succ, List.getElem?_cons_succ]
    rw [e1, e2]
    have e3 : nE (e :: l) (i + 1) = nE l i := by simp [nE]
    rw [e3]; exact ih

/-- The ranking in block r, its list somewhere behind it, or nowhere yet. -/
structure Rb (w : World) (r : Nat) (v : Value) (l : List (Int × Int)) : Prop where
  box : w.heap[r]? = some (.cells #[v, fnR] 40 (0, 0))
  own : w.ownsRow (r + 1) 43 2 v l.length (flat l)
theorem Rk.toRb {w : World} {r g cap : Nat} {l : List (Int × Int)} (h : Rk w r g cap l) : Rb w r (.slice (some ⟨g, 0, none⟩) l.length cap) l := by
  obtain ⟨c, hc, hs, h'⟩ := h.row
  have hle := h.le
  refine ⟨h.box, flat_len l, Or.inr ⟨g, cap, c, rfl, h.lt, hc, h.le, h.max, hs, ?_⟩⟩
  apply List.ext_getElem?
  intro k
  by_cases hk : k < l.length * 2
  · rw [List.getElem?_take_of_lt hk, Array.getElem?_toList]
    have h1 := h' (k / 2) (by omega)
    have h2 := flat_at l (k / 2) (by omega)
    rcases Nat.mod_two_eq_zero_or_one k with hm | hm
    · rw [show k = k / 2 * 2 by omega, h1.1, h2.1]
    · rw [show k = k / 2 * 2 + 1 by omega, h1.2, h2.2]
  · rw [List.getElem?_eq_none (by simp; omega), List.getElem?_eq_none (by rw [flat_len]; omega)]
theorem Rb.toRk {w : World} {r : Nat} {v : Value} {l : List (Int × Int)} (h : Rb w r v l) (h0 : 0 < l.length) : ∃ g cap, v = .slice (some ⟨g, 0, none⟩) l.length cap ∧ Rk w r g cap l := by
  rcases h.own.2 with ⟨_, hn⟩ | ⟨g, cap, cur, hv, hb, hg, hc, hm, hs, ht⟩
  · omega
  · refine ⟨g, cap, hv, by rw [← hv]; exact h.box, ⟨cur, hg, hs, fun i hi => ?_⟩, hb, hc, hm⟩
    have h2 := flat_at l i hi
    rw [← ht, List.getElem?_take_of_lt (by omega), List.getElem?_take_of_lt (by omega), Array.getElem?_toList, Array.getElem?_toList] at h2
    exact h2

theorem infoR : (Try.prog.info? 43).map (fun i => (i.zero, i.size, i.bytes)) = some (some (.agg #[.int .i64 0, .int .i64 0]), 2, 16) := by kernel_rfl
theorem underR : Try.prog.underlying 38 = some (.slice 43) := by kernel_rfl
theorem elR : ElT Try.prog 38 43 2 16 := by
  obtain ⟨i0, hi, hz0, hz1, hz2⟩ := info_parts infoR
  exact ⟨underR, ⟨i0, _, hi, hz0, hz1, hz2, rfl⟩, by decide⟩

theorem own_keepB {w w' : World} {base e size n : Nat} {v : Value} {xs : List Value} (h : w.ownsRow base e size v n xs) (hk : ∀ k, v.ownBlock = some k → w'.heap[k]? = w.heap[k]?) : w'.ownsRow base e size v n xs := by
  refine ⟨h.1, ?_⟩
  rcases h.2 with hn | ⟨g, cap, cur, hv, hbg, hg, rest⟩
  · exact Or.inl hn
  · exact Or.inr ⟨g, cap, cur, hv, hbg, (hk g (by rw [hv]; rfl)).trans hg, rest⟩
theorem append_ex {P : Program} {t e : TypeId} {size bytes base n m : Nat} {w : World} {o : Oper} {a : Act} {v sv : Value} {xs news : List Value} {K : Value → World → Prop} (T : ElT P t e size bytes) (s x : Operand) (ho : o.op = .call { callee := .builtin .append, args := #[s, x], argTypes := #[t, t] })
    (hs : a.eval s = v) (hx : a.eval x = sv) (hown : w.ownsRow base e size v n xs) (hsrc : Src w sv m size news) (h1 : ∀ u ∈ news, u.oneCell' = true) (h63 : n + m ≤ maxLen) (hbytes : (n + m) * bytes ≤ 140737488355328) (hbase : base ≤ w.heap.size)
    (hk : ∀ v' w', w'.ownsRow base e size v' (n + m) (xs ++ news) → w.grownBy w' v.ownBlock → K v' w') : ∃ u w', (execOp a.eval o).run P w = .ok (.value u) w' ∧ K u w' := by
  obtain ⟨v', w', h1, h2, h3⟩ := exec_append T s x ho hs hx hown hsrc h1 h63 hbytes hbase
  exact ⟨v', w', h1, hk v' w' h2 h3⟩

open Go.Sort in
set_option maxRecDepth 100000 in
set_option maxHeartbeats 8000000 in
theorem put_any (r : Nat) (v : Value) (l : List (Int × Int)) (x : Int × Int) (w : World) (h : Rb w r v l) (hH : Heap l) (hl : l.length ≤ 100000) :
    Calls Try.prog 17 #[.pointer (some ⟨r, 0, none⟩), .agg #[.int .i64 x.1, .int .i64 x.2]] w fun e w' => e = .returned (.tuple #[]) ∧ (∃ g cap l', Rk w' r g cap l' ∧ Heap l' ∧ l'.Perm (l ++ [x])) ∧ Below r w w' := by
  have hrlt : r < w.heap.size := (Array.getElem?_eq_some_iff.1 h.box).1
  obtain ⟨W, hW⟩ : ∃ W, W = w.alloc (.cells #[.int .i64 x.1, .int .i64 x.2] 43) := ⟨_, rfl⟩
  have hBW : Hid (Below w.heap.size w W) := by rw [hW]; exact (Below.refl _ _).alloc (Nat.le_refl _) _
  have hsW : W.heap.size = w.heap.size + 1 := by rw [hW]; simp
  have n0 : W.cell? ⟨w.heap.size, 0, none⟩ = some (.int .i64 x.1) := by rw [hW]; exact (cell_row (heap_alloc_new w _) 0 _ rfl).1
  have n1 : W.cell? ⟨w.heap.size, 1, none⟩ = some (.int .i64 x.2) := by rw [hW]; exact (cell_row (heap_alloc_new w _) 1 _ rfl).1
  have hbox : W.heap[r]? = some (.cells #[v, fnR] 40 (0, 0)) := (hBW.out.block r hrlt).trans h.box
  have HOW : Hid (W.ownsRow (r + 1) 43 2 v l.length (flat l)) := by
    show W.ownsRow _ _ _ _ _ _
    rw [hW]; exact h.own.alloc _
  have b0 : W.cell? ⟨r, 0, none⟩ = some v := (cell_row hbox 0 _ rfl).1
  have b0f : W.frozen? ⟨r, 0, none⟩ = false := (cell_row hbox 0 _ rfl).2
  have HB : Hid _ := hbox
  have HH : Hid (Heap l) := hH
  clear hbox h hH
  have q0 := fun d os => cell_regrown b0 d os
  have q1 := fun d os => cell_regrown n0 d os
  have q2 := fun d os => cell_regrown n1 d os
  go_enter Try.func17, Try.ntmps17
  go_wp2
  rw [← hW]
  clear hW
  refine wp_region_two 8 [0] 7 [1, 2, 3, 4, 5] (by kernel_rfl) (by kernel_rfl) ?_
  simp only [List.filterMap_cons, List.filterMap_nil, List.getElem?_cons_succ, List.getElem?_cons_zero, mvs, mvOf, Act.put]
  repeat (first | go_big_quiet_step (fail) | quiet_step (fail))
  refine wpQuiet_nil ?_
  refine oneH (f := 0) (i := 6) (.slice (some ⟨W.heap.size, 0, none⟩) 1 1) (W.drew.alloc (.cells #[.int .i64 x.1, .int .i64 x.2] 43)) ⟨rfl, by decide⟩ (by kernel_rfl) rfl ?run6 (regrown_of_below (((Below.refl _ _).drew).alloc (Nat.le_refl _) _)) ?_
  case run6 => go_simp
  have hmx : maxLen = 9223372036854775807 := by unfold maxLen; omega
  refine rest_of [7] (by kernel_rfl) (by decide) ?_
  refine oneX (f := 0) (i := 7) ⟨rfl, by decide⟩ (by kernel_rfl) rfl ?_
  refine append_ex (n := l.length) (m := 1) (xs := flat l) (news := flat [x]) elR (.tmp 9) (.tmp 11) rfl rfl rfl (HOW.out.alloc _) ⟨rfl, .inr ⟨_, _, rfl, fun j u hj => ?_⟩⟩ (fun u hu => ?_) (by omega) (by omega) (by show r + 1 ≤ (W.drew.alloc _).heap.size; simp; omega) ?_
  · have hrow := heap_alloc_new W.drew (.cells #[.int .i64 x.1, .int .i64 x.2] 43)
    rw [add_at]
    match j, hj with
    | 0, hj => cases hj; exact (cell_row hrow 0 _ rfl).1
    | 1, hj => cases hj; exact (cell_row hrow 1 _ rfl).1
  · simp only [flat, List.flatMap_cons, List.flatMap_nil, List.append_nil, List.mem_cons, List.not_mem_nil, or_false] at hu
    rcases hu with rfl | rfl <;> rfl
  intro v' w3 hown' hgrow
  have hoB : ∀ k, v.ownBlock = some k → r + 1 ≤ k := fun k hk => by
    rcases HOW.out.2 with ⟨hv, _⟩ | ⟨g, cap, cur, hv, hb, _⟩
    · rw [hv] at hk; cases hk
    · rw [hv] at hk; cases hk; exact hb
  have hB3 : Hid (Below (r + 1) W w3) := (((Below.refl (r + 1) W).drew).alloc (by show r + 1 ≤ W.heap.size; omega) _).grown hgrow (by show r + 1 ≤ (W.drew.alloc _).heap.size; simp; omega) hoB
  have hbox3 : Hid (w3.heap[r]? = some (.cells #[v, fnR] 40 (0, 0))) := (hB3.out.block r (by omega)).trans HB.out
  have c0 := (cell_row hbox3.out 0 v rfl).1
  have c0f := (cell_row hbox3.out 0 v rfl).2
  refine ⟨trivial, ?_⟩
  refine ⟨by kernel_rfl, ?_⟩
  simp only [List.drop_succ_cons, List.drop_zero, Act.put, List.setIfInBounds_toArray]
  clear q0 q1 q2 b0 b0f n0 n1
  have hR4 : Hid (Rb (w3.setCell ⟨r, 0, none⟩ v') r v' (l ++ [x])) := by
    refine ⟨set_row hbox3.out 0 v', ?_⟩
    have h5 := own_keepB (w' := w3.setCell ⟨r, 0, none⟩ v') hown' (fun k hk => Below.heap_setCell _ _ _ _ (by
      rcases hown'.2 with ⟨hv, _⟩ | ⟨g, cap, cur, hv, hb, _⟩
      · rw [hv] at hk; cases hk
      · rw [hv] at hk; cases hk; show g ≠ r; omega))
    rw [flat_append, List.length_append]
    exact h5
  obtain ⟨g, cap, hv', hRk⟩ := hR4.out.toRk (by simp)
  subst hv'
  have hle : (l ++ [x]).length = l.length + 1 := by simp
  have hBW4 : Hid (Below r w (w3.setCell ⟨r, 0, none⟩ (.slice (some ⟨g, 0, none⟩) (l ++ [x]).length cap))) := Below.setCell (p := ⟨r, 0, none⟩) (show Below r w w3 from (hBW.out.mono (by omega)).trans (hB3.out.mono (by omega))) (Nat.le_refl _) _
  have HK : Hid (Rk (w3.setCell ⟨r, 0, none⟩ (.slice (some ⟨g, 0, none⟩) (l ++ [x]).length cap)) r g cap (l ++ [x])) := hRk
  clear hRk hR4 hown' hgrow hbox3
  go_wp2
  rw [hle] at HK hBW4
  generalize w3.setCell ⟨r, 0, none⟩ (.slice (some ⟨g, 0, none⟩) (l.length + 1) cap) = w4 at HK hBW4 ⊢
  go_loopw [4] (fun c wr => ∃ (t : Nat) (l2 : List (Int × Int)), c = .int .i64 t ∧ t < l2.length ∧ l2.length = l.length + 1 ∧ Hid (Rk wr r g cap l2) ∧ Hid (Up l2 t) ∧ Hid (l2.Perm (l ++ [x])) ∧ Hid (Below r w wr)) (fun c _ => (intOf c).toNat)
  case atStart => exact ⟨l.length, l ++ [x], rfl, by simp, by simp, HK, up_push HH.out x, List.Perm.refl _, hBW4⟩
  case round =>
    obtain ⟨t, l2, rfl, htl, hlen, hRk, hUp, hPm, hBl⟩ := hrel
    clear HK hBW4
    rcases t with _ | s
    · go_wp2
      go_end0
      exact ⟨rfl, ⟨g, cap, l2, hRk.out, up_end hUp.out (Or.inl rfl), hPm.out⟩, hBl.out⟩
    · have hpar : par (s + 1) = s / 2 := by unfold par; rw [Nat.add_sub_cancel]
      have hs2 : s / 2 < l2.length := by omega
      have hsw := swap_any r g cap l2 (s + 1) (s / 2) wr hRk.out htl hs2
      rw [show ((s + 1 : Nat) : Int) = (s : Int) + 1 by omega, show ((s / 2 : Nat) : Int) = (s : Int) / 2 by omega] at hsw
      have HSW : Hid _ := hsw
      clear hsw
      cases ha : ahd (nE l2 (s + 1)) (nE l2 (s / 2))
      · go_wp2_with fail
        refine Calls.mono HSW.out ?_
        rintro e w5 ⟨rfl, hk5, hb5, _⟩
        rw [ha] at hk5 ⊢
        go_wp2
        go_end0
        exact ⟨rfl, ⟨g, cap, l2, hk5, up_end hUp.out (Or.inr (by rw [hpar]; exact ha)), hPm.out⟩, hBl.out.trans hb5⟩
      · go_wp2_with fail
        refine Calls.mono HSW.out ?_
        rintro e w5 ⟨rfl, hk5, hb5, _⟩
        rw [ha] at hk5 ⊢
        have hst := up_step hUp.out htl (by omega) (by rw [hpar]; exact ha)
        rw [hpar] at hst
        have HST : Hid _ := hst
        clear hst
        have hk6 : Hid (Rk w5 r g cap (sw l2 (s + 1) (s / 2))) := hk5
        clear hk5
        go_wp2
        go_roundw
        case rel => exact ⟨s / 2, sw l2 (s + 1) (s / 2), by go_num, by rw [sw_len]; exact hs2, by rw [sw_len]; exact hlen, hk6, HST, (sw_perm l2 (s + 1) (s / 2) htl hs2).trans hPm.out, hBl.out.trans hb5⟩
        case measure => simp [intOf]; omega

end Go.Proofs.Ytkmgogfgdpldbab
