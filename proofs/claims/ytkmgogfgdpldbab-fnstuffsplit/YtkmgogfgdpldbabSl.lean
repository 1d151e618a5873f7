/-
  The program's StuffSplit: what it answers, in memory of its own.
-/
import Derived.Test.YtkmgogfgdpldbabSk
import Derived.Test.YtkmgogfgdpldbabSi
import Derived.Laws.EntriesVeiled
namespace Go.Proofs.Ytkmgogfgdpldbab
open Go.RowKit

def ints (l : List Int) : Array Value := (l.map (Value.int .i64)).toArray
theorem ints_size (l : List Int) : (ints l).size = l.length := by simp [ints]
theorem ints_at (l : List Int) (i : Nat) (h : i < l.length) : (ints l)[i]? = some (.int .i64 (l.getD i 0)) := by simp [ints, h]
theorem ints_set (l : List Int) (i : Nat) (x : Int) : (ints l).setIfInBounds i (.int .i64 x) = ints (l.set i x) := by
  unfold ints
  rw [List.setIfInBounds_toArray, List.map_set]
/-- The shares, the first k told. -/
def shK (W : List Int) (k : Nat) : List Int := W.take k ++ List.replicate (W.length - k) 0
theorem shK_len (W : List Int) (k : Nat) (h : k ≤ W.length) : (shK W k).length = W.length := by simp [shK]; omega
theorem shK_zero (W : List Int) : shK W 0 = List.replicate W.length 0 := by simp [shK]
theorem shK_all (W : List Int) : shK W W.length = W := by simp [shK]
theorem shK_succ (W : List Int) (k : Nat) (h : k < W.length) : (shK W k).set k (W.getD k 0) = shK W (k + 1) := by
  have hl : (W.take k).length = k := by simp; omega
  have e : W.length - k = (W.length - (k + 1)) + 1 := by omega
  have e2 : W.take (k + 1) = W.take k ++ [W.getD k 0] := by
    rw [List.take_add_one, List.getElem?_eq_getElem h]; simp [h]
  unfold shK
  rw [List.set_append_right _ _ (by omega), hl, Nat.sub_self, e, List.replicate_succ, List.set_cons_zero, e2, List.append_assoc]
  rfl
theorem whole_len (A : List Int) (N : Int) : (whole A N).length = A.length := by simp [whole]
theorem over_len (A : List Int) (N : Int) : (over A N).length = A.length := by simp [over]
theorem whole_at (A : List Int) (N : Int) (k : Nat) (h : k < A.length) : (whole A N).getD k 0 = N * A[k] / A.sum := by simp [whole, h]
theorem over_at (A : List Int) (N : Int) (k : Nat) (h : k < A.length) : (over A N).getD k 0 = N * A[k] % A.sum := by simp [over, h]
theorem heap_nil : Heap [] := fun i h hi => by simp at hi

theorem infoN : (Try.prog.info? 3).map (fun i => (i.zero, i.size, i.bytes)) = some (some (.int .i64 0), 1, 8) := by kernel_rfl
theorem underN : Try.prog.underlying 23 = some (.slice 3) := by kernel_rfl
theorem make_ints (W : World) (n : Nat) (hn : n ≤ 1048576) : (Instr.makeSlice 23 (.int .i64 (n : Int)) (.int .i64 (n : Int))).run Try.prog W = .ok (.slice (some ⟨W.heap.size, 0, none⟩) n n) (W.alloc (.cells (ints (List.replicate n 0)) 3)) := by
  obtain ⟨i0, hi, hz0, hz1, hz2⟩ := info_parts infoN
  have h := run_make (P := Try.prog) W 23 3 i0 (.int .i64 0) underN hi hz0 .i64 .i64 (n : Int) (n : Int) (by omega) (by omega) (by rw [hz2]; omega) (by omega)
  have e : madeCells (Value.int .i64 0).cells ((n : Int).toNat * i0.size) = ints (List.replicate n 0) := by
    apply Array.ext'
    rw [hz1, Int.toNat_natCast, Nat.mul_one]
    show (madeCells #[Value.int .i64 0] n).toList = _
    rw [toList_madeCells_one]
    simp [ints]
  rw [e] at h
  simpa using h
theorem own_ints {w : World} {b sh : Nat} {l : List Int} (h : w.heap[sh]? = some (.cells (ints l) 3 (0, 0))) (hb : b ≤ sh) (hm : l.length ≤ 1048576) : w.ownsRow b 3 1 (.slice (some ⟨sh, 0, none⟩) l.length l.length) l.length (l.map (Value.int .i64)) := by
  refine ⟨by simp, Or.inr ⟨sh, l.length, ints l, rfl, hb, h, Nat.le_refl _, by unfold maxLen; omega, by rw [ints_size]; omega, ?_⟩⟩
  show (l.map (Value.int .i64)).take (l.length * 1) = _
  rw [List.take_of_length_le (by simp)]

set_option maxRecDepth 100000 in
set_option maxHeartbeats 8000000 in
theorem splitI_any (S : Nat → Prop) (v : Value) (A : List Int) (N : Int) (w : World) (h : AtL S w A v) (hS : ∀ b, S b → b < w.heap.size) :
    Calls Try.prog 6 #[v, .int .i64 N] w fun e w' => ∃ r, e = .returned r ∧ w'.ownsRow w.heap.size 3 1 r (splitL A N).length ((splitL A N).map (Value.int .i64)) ∧ Below w.heap.size w w' := by
  have hnil : Hid (w.ownsRow w.heap.size 3 1 (.slice none 0 0) 0 []) := ⟨rfl, Or.inl ⟨rfl, rfl⟩⟩
  have H : Hid (AtL S w A v) := h
  obtain ⟨oa, cap, hv, hn, hc⟩ := h
  subst hv
  obtain ⟨n, en⟩ : ∃ n, A.length = n := ⟨_, rfl⟩
  rw [en] at hn H
  rw [en]
  unfold maxLen at hn
  have HC : Hid _ := hc
  clear hc
  by_cases hA : OkA A
  · have hsb := sum_bound A hA.2
    have h16 := hA.1
    rw [en] at hsb h16
    obtain ⟨T, eT⟩ : ∃ T, A.sum = T := ⟨_, rfl⟩
    have SUM : Hid _ := fun w' (h : AtL S w' A (.slice oa n cap)) => sumI_yes S _ A w' h hA
    rw [eT] at hsb SUM
    by_cases hN0 : N < 0
    · have d0 : decide (N < 0) = true := decide_eq_true hN0
      rw [split_no (fun h => by have := h.2.1; omega)]
      go_enter Try.func6, Try.ntmps6
      go_wp2_with fail
      refine Calls.mono (SUM.out _ H.out) ?_
      rintro e w1 ⟨rfl, rfl⟩
      go_wp2
      go_ret
      exact ⟨_, rfl, hnil.out, Below.refl _ _⟩
    · have d0 : decide (N < 0) = false := decide_eq_false hN0
      by_cases hNT : T < N
      · have d1 : decide (T < N) = true := decide_eq_true hNT
        rw [split_no (fun h => by have := h.2.2; rw [eT] at this; omega)]
        go_enter Try.func6, Try.ntmps6
        go_wp2_with fail
        refine Calls.mono (SUM.out _ H.out) ?_
        rintro e w1 ⟨rfl, rfl⟩
        go_wp2
        go_ret
        exact ⟨_, rfl, hnil.out, Below.refl _ _⟩
      · have d1 : decide (T < N) = false := decide_eq_false hNT
        have hOk : OkN A N := ⟨hA, by omega, by rw [eT]; omega⟩
        have hmk := fun W => make_ints W n (by omega)
        by_cases hT : T = 0
        · have dT : (T == 0) = true := by simp [hT]
          rw [split_zero hOk (by rw [eT]; exact hT)]
          go_enter Try.func6, Try.ntmps6
          go_wp2_with fail
          refine Calls.mono (SUM.out _ H.out) ?_
          rintro e w1 ⟨rfl, rfl⟩
          go_wp2
          go_ret
          have hz : A.map (fun _ => (0 : Int)) = List.replicate n 0 := by rw [← en]; show A.map (Function.const Int (0 : Int)) = _; exact List.map_const
          rw [hz]
          have := own_ints (w := w1.alloc (.cells (ints (List.replicate n 0)) 3)) (b := w1.heap.size) (l := List.replicate n 0) (heap_alloc_new w1 _) (Nat.le_refl _) (by rw [List.length_replicate]; omega)
          simp only [List.length_replicate] at this
          refine ⟨_, rfl, ?_, (Below.refl _ _).alloc (Nat.le_refl _) _⟩
          rw [List.length_replicate]
          exact this
        · have dT : (T == 0) = false := by simp [hT]
          rw [split_run hOk (by rw [eT]; exact hT)]
          have hms := miss_bound hOk (by rw [eT]; exact hT)
          rw [en] at hms
          obtain ⟨mN, emN⟩ : ∃ m : Nat, miss A N = (m : Int) := ⟨(miss A N).toNat, by omega⟩
          rw [emN, Int.toNat_natCast]
          have hmk' : mN ≤ n := by omega
          have EMN : Hid (miss A N = (mN : Int)) := emN
          clear hms emN
          go_enter Try.func6, Try.ntmps6
          go_wp2_with fail
          refine Calls.mono (SUM.out _ H.out) ?_
          rintro e w1 ⟨rfl, rfl⟩
          have hwl := whole_len A N
          have hol := over_len A N
          rw [en] at hwl hol
          obtain ⟨Z, hZ⟩ : ∃ Z, Z = (w1.alloc (.cells (ints (List.replicate n 0)) 3)).alloc (.cells #[.slice none 0 0, fnR] 40) := ⟨_, rfl⟩
          have hBZ : Hid (Below w1.heap.size w1 Z) := by rw [hZ]; exact ((Below.refl _ _).alloc (Nat.le_refl _) _).alloc (by simp) _
          have hRZ : Hid (Rb Z (w1.heap.size + 1) (.slice none 0 0) []) := by
            refine ⟨?_, rfl, Or.inl ⟨rfl, rfl⟩⟩
            rw [hZ]
            have := heap_alloc_new (w1.alloc (.cells (ints (List.replicate n 0)) 3)) (.cells #[.slice none 0 0, fnR] 40)
            simpa using this
          have hSZ : Hid (Z.heap[w1.heap.size]? = some (.cells (ints (shK (whole A N) 0)) 3 (0, 0))) := by
            show Z.heap[w1.heap.size]? = _
            rw [hZ, Below.heap_alloc _ _ _ (by simp), shK_zero, hwl]
            exact heap_alloc_new w1 _
          have HWB : Hid (∀ k, k ≤ n → 0 ≤ ((whole A N).take k).sum ∧ ((whole A N).take k).sum ≤ 256000000) := fun k hk => by
            have h := sum_boundB 16000000 (by omega) ((whole A N).take k) (fun y hy => by
              obtain ⟨x, hx, rfl⟩ := List.mem_map.1 (List.mem_of_mem_take hy)
              rw [eT]
              exact (part_bound (N := N) (x := x) (T := T) ⟨by omega, by omega⟩ (hA.2 x hx) (by omega)).2.1)
            have hl : ((whole A N).take k).length ≤ 16 := by rw [List.length_take, hwl]; omega
            omega
          go_wp2
          rw [← hZ]
          clear hZ
          go_loopw [8, 38] (fun s i wr => ∃ (k : Nat) (vv : Value) (L : List (Int × Int)), k ≤ n ∧ i = .int .i64 k ∧ s = .int .i64 (N - ((whole A N).take k).sum) ∧ Hid (wr.heap[w1.heap.size]? = some (.cells (ints (shK (whole A N) k)) 3 (0, 0))) ∧ Hid (Rb wr (w1.heap.size + 1) vv L) ∧ Hid (Heap L) ∧ Hid (L.Perm (prs (over A N) k)) ∧ Hid (Below w1.heap.size w1 wr)) (fun _ i _ => n - (intOf i).toNat)
          case atStart => exact ⟨0, _, [], Nat.zero_le _, rfl, by simp, hSZ, hRZ, heap_nil, List.Perm.refl _, hBZ⟩
          case round =>
            obtain ⟨k, vv, L, hk, rfl, rfl, hSh, hRb, hHp, hPm, hBl⟩ := hrel
            clear hBZ hRZ hSZ
            by_cases hlt : k < n
            · obtain ⟨b, off, rfl, hbS, cc, hcell, hat⟩ := HC.out k (by omega)
              have hbb := hS b hbS
              rw [width_int] at hcell
              have hcell := hcell 0 (by omega)
              rw [Nat.mul_one, Nat.add_zero] at hcell
              rw [at_int] at hat
              rw [hat.1] at hcell
              have c0 := (hBl.out.cell (p := ⟨b, off + k, none⟩) (by show b < _; omega)).trans hcell
              have hx := hA.2 _ (List.getElem_mem (by omega : k < A.length))
              have hwk := whole_at A N k (by omega)
              have hok := over_at A N k (by omega)
              obtain ⟨x, ex⟩ : ∃ x, A[k]'(by omega) = x := ⟨_, rfl⟩
              rw [ex] at c0 hx hwk hok
              rw [eT] at hwk hok
              clear hat hcell
              have hsl := shK_len (whole A N) k (by omega)
              rw [hwl] at hsl
              have e0 := (cell_row hSh.out k _ (ints_at (shK (whole A N) k) k (by omega))).1
              have e0f := (cell_row hSh.out k _ (ints_at (shK (whole A N) k) k (by omega))).2
              obtain ⟨⟨m1, m2⟩, ⟨q1, q2⟩, ⟨r1, r2⟩⟩ := part_bound (N := N) (x := x) (T := T) ⟨by omega, by omega⟩ hx (by omega)
              have hps := HWB.out k (by omega)
              have hts : Hid (((whole A N).take (k + 1)).sum = ((whole A N).take k).sum + N * x / T) := by
                show _ = _
                rw [take_sum (whole A N) k (by omega), ← hwk]
                simp [hwl, hlt]
              have hY : Hid ((wr.setCell ⟨w1.heap.size, k, none⟩ (.int .i64 (N * x / T))).heap[w1.heap.size]? = some (.cells (ints (shK (whole A N) (k + 1))) 3 (0, 0))) := by
                show _ = _
                rw [set_row hSh.out k _, ints_set, ← hwk, shK_succ (whole A N) k (by omega)]
              have hRY : Hid (Rb (wr.setCell ⟨w1.heap.size, k, none⟩ (.int .i64 (N * x / T))) (w1.heap.size + 1) vv L) := by
                refine ⟨(Below.heap_setCell _ _ _ _ (by show w1.heap.size + 1 ≠ w1.heap.size; omega)).trans hRb.out.box, own_keepB hRb.out.own (fun j hj => Below.heap_setCell _ _ _ _ (by
                  have := (hRb.out.own.lt j hj).1
                  show j ≠ w1.heap.size; omega))⟩
              have hBY : Hid (Below w1.heap.size w1 (wr.setCell ⟨w1.heap.size, k, none⟩ (.int .i64 (N * x / T)))) := Below.setCell (p := ⟨w1.heap.size, k, none⟩) hBl.out (Nat.le_refl _) _
              have hLl : L.length ≤ 100000 := by have := hPm.out.length_eq; simp [prs] at this; omega
              have hpr : Hid (prs (over A N) (k + 1) = prs (over A N) k ++ [((k : Int), N * x % T)]) := by show _ = _; rw [prs_succ, hok]
              generalize hpp : ((whole A N).take k).sum = p at *
              have PUT : Hid _ := put_any (w1.heap.size + 1) vv L ((k : Int), N * x % T) _ hRY.out hHp.out hLl
              clear hwk hok
              go_wp2_with (go_at_call 17; refine Calls.mono PUT.out ?_; rintro e w5 ⟨rfl, ⟨g, cp, l', hk5, hh5, hp5⟩, hb5⟩)
              go_roundw
              case rel => exact ⟨k + 1, _, l', by omega, by go_num, by rw [hts.out]; congr 1; omega, (hb5.block _ (by omega)).trans hY.out, hk5.toRb, hh5, by rw [hpr.out]; exact hp5.trans (hPm.out.append_right _), hBY.out.trans (hb5.mono (by omega))⟩
              case measure => simp [intOf]; omega
            · have hkn : k = n := by omega
              subst hkn
              have hmiss : Hid (N - ((whole A N).take k).sum = miss A N) := by
                show _ = _
                rw [show (whole A N).take k = whole A N by rw [← hwl]; exact List.take_length]; rfl
              rw [hmiss.out]
              have hnn : ∀ x ∈ over A N, 0 ≤ x := fun x hx => by
                obtain ⟨y, hy, rfl⟩ := List.mem_map.1 hx
                exact Int.emod_nonneg _ (by rw [eT]; exact hT)
              have hInv : Hid (Inv L (over A N)) := inv_prs hnn (by rw [hol]; exact hPm.out)
              have hLl : L.length = k := by have := hPm.out.length_eq; simpa [prs] using this
              have hSh' : Hid (wr.heap[w1.heap.size]? = some (.cells (ints (whole A N)) 3 (0, 0))) := by
                have := hSh.out
                rw [show shK (whole A N) k = whole A N by rw [← hwl]; exact shK_all _] at this
                exact this
              have hWB : ∀ x ∈ whole A N, 0 ≤ x ∧ x ≤ 16000000 := fun y hy => by
                obtain ⟨x, hx, rfl⟩ := List.mem_map.1 hy
                rw [eT]
                exact (part_bound (N := N) (x := x) (T := T) ⟨by omega, by omega⟩ (hA.2 x hx) (by omega)).2.1
              have RBD : Hid (∀ j : Nat, ∀ x ∈ (runS j (whole A N, over A N)).1, 0 ≤ x ∧ x ≤ 16000000 + j) := runS_bound _ 16000000 hWB (by omega)
              have RLN : Hid (∀ j : Nat, (runS j (whole A N, over A N)).1.length = k ∧ (runS j (whole A N, over A N)).2.length = k) := fun j => by
                have := runS_len (whole A N, over A N) j
                simp only [hwl, hol] at this; exact this
              rw [EMN.out]
              clear hmiss hPm hSh
              go_wp2
              go_loopw [67] (fun i wr2 => ∃ (j : Nat) (vv2 : Value) (L2 : List (Int × Int)), j ≤ mN ∧ i = .int .i64 j ∧ Hid (wr2.heap[w1.heap.size]? = some (.cells (ints (runS j (whole A N, over A N)).1) 3 (0, 0))) ∧ Hid (Rb wr2 (w1.heap.size + 1) vv2 L2) ∧ Hid (Heap L2) ∧ Hid (Inv L2 (runS j (whole A N, over A N)).2) ∧ L2.length + j = k ∧ Hid (Below w1.heap.size w1 wr2)) (fun i _ => mN - (intOf i).toNat)
              case atStart => exact ⟨0, vv, L, Nat.zero_le _, rfl, hSh', hRb, hHp, hInv, by omega, hBl⟩
              case round =>
                clear hSh' hRb hHp hInv hBl
                rename_i wr0
                obtain ⟨j, vv2, L2, hj, rfl, hSh, hRb, hHp, hInv, hL2, hBl⟩ := hrel
                by_cases hlj : j < mN
                · obtain ⟨g, cp, hvv, hRk⟩ := hRb.out.toRk (by omega)
                  have HT : Hid _ := take_any (w1.heap.size + 1) g cp L2 _ hRk hHp.out (by omega) (by omega)
                  obtain ⟨hml, hfst, _⟩ := inv_pop hInv.out hHp.out (by omega) (List.perm_cons_erase (List.getElem_mem (show 0 < L2.length by omega)) |>.symm |> fun h => by rw [nE_at (show 0 < L2.length by omega)]; exact h)
                  have INV' : Hid (∀ L', (nE L2 0 :: L').Perm L2 → Inv L' ((runS j (whole A N, over A N)).2.set (mostI (runS j (whole A N, over A N)).2) (-1))) := fun L' hp => (inv_pop hInv.out hHp.out (by omega) hp).2.2
                  obtain ⟨rl1, rl2⟩ := RLN.out j
                  rw [rl2] at hml
                  obtain ⟨o, eo⟩ : ∃ o, (runS j (whole A N, over A N)).1 = o := ⟨_, rfl⟩
                  obtain ⟨pp, epp⟩ : ∃ p, mostI (runS j (whole A N, over A N)).2 = p := ⟨_, rfl⟩
                  have hstep : Hid ((runS (j + 1) (whole A N, over A N)).1 = o.set pp (o.getD pp 0 + 1) ∧ (runS (j + 1) (whole A N, over A N)).2 = (runS j (whole A N, over A N)).2.set pp (-1)) := by
                    constructor <;> simp only [runS, stepS, eo, epp]
                  have hob := RBD.out j
                  rw [eo] at hob rl1 hSh
                  rw [epp] at hml hfst INV'
                  have hopp : 0 ≤ o.getD pp 0 ∧ o.getD pp 0 ≤ 16000000 + j := by
                    have := hob _ (List.getElem_mem (show pp < o.length by omega))
                    simpa [List.getD_eq_getElem?_getD, show pp < o.length by omega] using this
                  obtain ⟨sz, esz⟩ : ∃ s, (runS j (whole A N, over A N)).2.getD pp 0 = s := ⟨_, rfl⟩
                  rw [esz] at hfst
                  rw [hfst] at HT
                  clear esz
                  obtain ⟨y, ey⟩ : ∃ y, o.getD pp 0 = y := ⟨_, rfl⟩
                  rw [ey] at hopp
                  have HT2 : Hid _ := HT
                  clear HT
                  go_wp2_with fail
                  refine Calls.mono HT2.out ?_
                  rintro e w5 ⟨rfl, ⟨l', hk5, hh5, hp5⟩, hb5⟩
                  have hSh5 : Hid (w5.heap[w1.heap.size]? = some (.cells (ints o) 3 (0, 0))) := (hb5.block _ (by omega)).trans hSh.out
                  have e0 := (cell_row hSh5.out pp _ (ints_at o pp (by omega))).1
                  have e0f := (cell_row hSh5.out pp _ (ints_at o pp (by omega))).2
                  rw [ey] at e0
                  have hk6 : Hid (Rb (w5.setCell ⟨w1.heap.size, pp, none⟩ (.int .i64 (y + 1))) (w1.heap.size + 1) _ l') := (hk5.other _ _ (by show w1.heap.size ≠ w1.heap.size + 1; omega) (by have := hk5.lt; show w1.heap.size ≠ g; omega)).toRb
                  have hSh6 : Hid ((w5.setCell ⟨w1.heap.size, pp, none⟩ (.int .i64 (y + 1))).heap[w1.heap.size]? = some (.cells (ints (runS (j + 1) (whole A N, over A N)).1) 3 (0, 0))) := by
                    show _ = _
                    rw [set_row hSh5.out pp _, ints_set, hstep.out.1, ey]
                  have hB6 : Hid (Below w1.heap.size w1 (w5.setCell ⟨w1.heap.size, pp, none⟩ (.int .i64 (y + 1)))) := Below.setCell (p := ⟨w1.heap.size, pp, none⟩) (hBl.out.trans (hb5.mono (by omega))) (Nat.le_refl _) _
                  have hIn6 : Hid (Inv l' (runS (j + 1) (whole A N, over A N)).2) := by
                    show Inv _ _
                    rw [hstep.out.2]
                    exact INV'.out l' (by rw [hfst]; exact hp5)
                  have hl' : l'.length + (j + 1) = k := by have := hp5.length_eq; simp at this; omega
                  have hh6 : Hid (Heap l') := hh5
                  clear hk5 hh5 hp5 hb5
                  have hfld : ∀ W : World, (Instr.field 43 (.agg #[.int .i64 (pp : Int), .int .i64 sz]) 0).run Try.prog W = .ok (.int .i64 (pp : Int)) W := fun W => by rfl
                  go_wp2
                  go_roundw
                  case rel => exact ⟨j + 1, _, l', by omega, by go_num, hSh6, hk6, hh6, hIn6, hl', hB6⟩
                  case measure => simp [intOf]; omega
                · have hjm : j = mN := by omega
                  subst hjm
                  obtain ⟨rl1, rl2⟩ := RLN.out j
                  go_wp2
                  go_ret
                  have := own_ints (b := w1.heap.size) hSh.out (Nat.le_refl _) (by omega)
                  rw [rl1] at this ⊢
                  exact ⟨_, rfl, this, hBl.out⟩
  · rw [split_no (fun h => hA h.1)]
    go_enter Try.func6, Try.ntmps6
    go_wp2_with fail
    refine (sumI_no S _ A _ H.out hA).mono ?_
    rintro e w1 ⟨rfl, rfl⟩
    go_wp2
    go_ret
    exact ⟨_, rfl, hnil.out, Below.refl _ _⟩

end Go.Proofs.Ytkmgogfgdpldbab
