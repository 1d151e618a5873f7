/-
  A contract of the program's plant without the valves that are not among some names.
-/
import Derived.Test.YtbdhlcfcmennjacGreatZd
import Derived.Test.YtbdhlcfcmennjacGreatTb
import Derived.Test.YtbdhlcfcmennjacGreatHi
import Derived.Test.YtbdhlcfcmennjacGreatRz
import Derived.Maps.AppendAt
import Derived.Laws.ResultCell
import Derived.Deep.Cut
namespace Go.Proofs.YtbdhlcfcmennjacGreat
open Go.RowKit

/-- The valves, of the first k, whose names are among some. -/
def opN (f : Nat → ByteArray × ByteArray × ByteArray × ByteArray) (no : Nat) (fo : Nat → ByteArray) (k : Nat) : List (ByteArray × ByteArray × ByteArray × ByteArray) := ((List.range k).filter fun i => hasB no fo (f i).1).map f
def nthV (l : List (ByteArray × ByteArray × ByteArray × ByteArray)) (i : Nat) : ByteArray × ByteArray × ByteArray × ByteArray := l.getD i (⟨#[]⟩, ⟨#[]⟩, ⟨#[]⟩, ⟨#[]⟩)
def vCells (l : List (ByteArray × ByteArray × ByteArray × ByteArray)) : List Value := l.flatMap fun g => [.string g.1, .string g.2.1, .string g.2.2.1, .string g.2.2.2]
theorem opN_yes {f : Nat → ByteArray × ByteArray × ByteArray × ByteArray} {no : Nat} {fo : Nat → ByteArray} {k : Nat} (h : hasB no fo (f k).1 = true) : opN f no fo (k + 1) = opN f no fo k ++ [f k] := by
  simp [opN, List.range_succ, List.filter_append, h]
theorem opN_no {f : Nat → ByteArray × ByteArray × ByteArray × ByteArray} {no : Nat} {fo : Nat → ByteArray} {k : Nat} (h : hasB no fo (f k).1 = false) : opN f no fo (k + 1) = opN f no fo k := by
  simp [opN, List.range_succ, List.filter_append, h]
theorem opN_len (f : Nat → ByteArray × ByteArray × ByteArray × ByteArray) (no : Nat) (fo : Nat → ByteArray) (k : Nat) : (opN f no fo k).length ≤ k := by
  have := List.length_filter_le (fun i => hasB no fo (f i).1) (List.range k)
  simp only [opN, List.length_map]
  simpa using this
theorem vCells_len : ∀ l, (vCells l).length = l.length * 4
  | [] => rfl
  | _ :: l => by
    have := vCells_len l
    unfold vCells at this ⊢
    simp only [List.flatMap_cons, List.length_append, this, List.length_cons, List.length_nil]
    omega
theorem vCells_at : ∀ (l : List (ByteArray × ByteArray × ByteArray × ByteArray)) (i j : Nat), i < l.length → j < 4 → (vCells l)[i * 4 + j]? = some (cV (nthV l) i j)
  | [], i, _, h, _ => by simp at h
  | g :: l, 0, j, _, hj => by
    rcases (show j = 0 ∨ j = 1 ∨ j = 2 ∨ j = 3 by omega) with rfl | rfl | rfl | rfl <;> rfl
  | g :: l, i + 1, j, h, hj => by
    have := vCells_at l i j (by simpa using h) hj
    have e : vCells (g :: l) = [.string g.1, .string g.2.1, .string g.2.2.1, .string g.2.2.2] ++ vCells l := rfl
    rw [e, List.getElem?_append_right (by simp; omega)]
    have e2 : (i + 1) * 4 + j - [Value.string g.1, .string g.2.1, .string g.2.2.1, .string g.2.2.2].length = i * 4 + j := by simp; omega
    rw [e2, this]
    rfl
theorem own_lstV {B T : Nat} {w : World} {v : Value} {l : List (ByteArray × ByteArray × ByteArray × ByteArray)} (h : w.ownsRow B T 4 v l.length (vCells l)) (hm : l.length ≤ 1048576) : Lst w.heap.size w v l.length 4 (cV (nthV l)) := by
  rcases h.2 with ⟨rfl, hn⟩ | ⟨g, cap, cur, rfl, hb, hg, hc, hm', hs, ht⟩
  · rw [hn]; exact ⟨none, 0, rfl, Nat.zero_le _, fun i hi => by omega⟩
  · refine ⟨_, _, rfl, by unfold maxLen; omega, fun i hi => ⟨g, 0, rfl, (Array.getElem?_eq_some_iff.1 hg).1, fun j hj => ?_⟩⟩
    have e1 : cur.toList[i * 4 + j]? = (vCells l)[i * 4 + j]? := by
      rw [← ht, List.getElem?_take_of_lt (by omega)]
    have e2 : cur[0 + i * 4 + j]? = some (cV (nthV l) i j) := by
      rw [Nat.zero_add, ← Array.getElem?_toList, e1]
      exact vCells_at l i j hi hj
    exact (cell_row hg _ _ e2).1
theorem cells_new (w : World) (c : List Value) (t : TypeId) (j : Nat) (u : Value) (h : c[j]? = some u) : (w.alloc (.cells c.toArray t)).cell? ((⟨w.heap.size, 0, none⟩ : Addr).add j) = some u := by
  rw [add_at, Nat.zero_add]
  exact new_cell w c.toArray t j u (by simpa using h)

theorem Lst.setOther {B : Nat} {w : World} {v : Value} {n k : Nat} {c : Nat → Nat → Value} (h : Lst B w v n k c) (p : Addr) (x : Value) (hne : ∀ b, v.ownBlock = some b → b ≠ p.block) : Lst B (w.setCell p x) v n k c := by
  obtain ⟨oa, cap, rfl, hn, hc⟩ := h
  refine ⟨oa, cap, rfl, hn, fun i hi => ?_⟩
  obtain ⟨b, off, rfl, h2, h3⟩ := hc i hi
  exact ⟨b, off, rfl, h2, fun j hj => (World.cell?_of_block (w := w) (a := ⟨b, off + i * k + j, none⟩) (Below.heap_setCell w p x b (hne b rfl))).trans (h3 j hj)⟩

set_option maxRecDepth 100000 in
set_option maxHeartbeats 8000000 in
theorem opened_any (B : Nat) (v0 v1 v3 vo : Value) (o2 : Option Addr) (n2 c2 : Nat) (nv : Nat) (f : Nat → ByteArray × ByteArray × ByteArray × ByteArray) (no : Nat) (fo : Nat → ByteArray) (w : World) (h : Lst B w v3 nv 4 (cV f)) (ho : Lst B w vo no 1 (cS fo)) (hB : B ≤ w.heap.size) (hnv : nv ≤ 18) :
    Calls Tryz.prog 32 #[.agg #[v0, v1, .slice o2 n2 c2, v3], vo] w fun e w' => ∃ v, e = .returned (.agg #[.slice none 0 0, .slice none 0 0, .slice o2 n2 c2, v]) ∧ Lst w'.heap.size w' v (opN f no fo nv).length 4 (cV (nthV (opN f no fo nv))) ∧ Below w.heap.size w w' := by
  obtain ⟨i0, hi, hz0, hz1, hz2⟩ := info_parts info94'
  have HO : Hid (∀ w', Below w.heap.size w w' → Lst B w' vo no 1 (cS fo)) := fun w' hb => ho.kept hb hB
  have HL : Hid (∀ w', Below w.heap.size w w' → Lst B w' v3 nv 4 (cV f)) := fun w' hb => h.kept hb hB
  obtain ⟨oa, cap, rfl, _, _⟩ := h
  clear ho
  obtain ⟨W, hW⟩ : ∃ W, W = (w.alloc (.cells #[v0, v1, .slice o2 n2 c2, .slice oa nv cap] 36)).alloc (.cells #[.slice none 0 0, .slice none 0 0, .slice none 0 0, .slice none 0 0] 36) := ⟨_, rfl⟩
  have eW : Hid (W = (w.alloc (.cells #[v0, v1, .slice o2 n2 c2, .slice oa nv cap] 36)).alloc (.cells #[.slice none 0 0, .slice none 0 0, .slice none 0 0, .slice none 0 0] 36)) := hW
  have sW : W.heap.size = w.heap.size + 1 + 1 := by rw [hW]; simp
  have kW : Hid (Below (w.heap.size + 1 + 1) W W) := Below.refl _ _
  have HP : Hid (W.heap[w.heap.size]? = some (.cells #[v0, v1, .slice o2 n2 c2, .slice oa nv cap] 36 (0, 0))) := by
    rw [hW]; exact (Below.heap_alloc _ _ _ (by simp)).trans (heap_alloc_new w _)
  have HR : Hid (W.heap[w.heap.size + 1]? = some (.cells #[.slice none 0 0, .slice none 0 0, .slice none 0 0, .slice none 0 0] 36 (0, 0))) := by
    have e : (w.alloc (.cells #[v0, v1, .slice o2 n2 c2, .slice oa nv cap] 36)).heap.size = w.heap.size + 1 := by simp
    rw [hW, ← e]; exact heap_alloc_new _ _
  have bW : Hid (Below w.heap.size w W) := by rw [hW]; exact ((Below.refl _ _).alloc (Nat.le_refl _) _).alloc (by simp) _
  clear hW
  have x3 := (cell_row HP.out 3 _ rfl).1
  simp only [List.getElem_toArray, List.getElem_cons_zero, List.getElem_cons_succ] at x3
  go_enter Tryz.func32, Tryz.ntmps32
  go_upto_region 1 with fail
  rw [← eW.out]
  go_wp2_with fail
  clear x3
  go_loopw [5, 11] (fun v i wr => ∃ q : Nat, q ≤ nv ∧ i = .int .i64 q ∧ Hid (wr.ownsRow (w.heap.size + 1 + 1) 86 4 v (opN f no fo q).length (vCells (opN f no fo q))) ∧ Hid (Below (w.heap.size + 1 + 1) W wr)) (fun _ i _ => nv - (intOf i).toNat)
  case atStart => exact ⟨0, Nat.zero_le _, rfl, by simpa [Hid, opN, vCells] using World.ownsRow_nil W (w.heap.size + 1 + 1) 86 4, kW⟩
  case round =>
    obtain ⟨q, hq, rfl, hown, hbel⟩ := hrel
    have hsr : w.heap.size + 1 + 1 ≤ wr.heap.size := by have := hbel.out.size; omega
    have hbw : Below w.heap.size w wr := bW.out.trans (hbel.out.mono (by omega))
    have hol := opN_len f no fo q
    by_cases hlt : q < nv
    · obtain ⟨oa', cap', hv, _, hcv⟩ := HL.out wr hbw
      cases hv
      obtain ⟨b, off, rfl, hbB, hcell⟩ := hcv q hlt
      have e0 : wr.cell? ⟨b, off + q * 4, none⟩ = some (.string (f q).1) := by simpa [cV] using hcell 0 (by omega)
      have e1 : wr.cell? ⟨b, off + q * 4 + 1, none⟩ = some (.string (f q).2.1) := by simpa [cV] using hcell 1 (by omega)
      have e2 : wr.cell? ⟨b, off + q * 4 + 2, none⟩ = some (.string (f q).2.2.1) := by simpa [cV] using hcell 2 (by omega)
      have e3 : wr.cell? ⟨b, off + q * 4 + 3, none⟩ = some (.string (f q).2.2.2) := by simpa [cV] using hcell 3 (by omega)
      clear hcell hcv
      have hU : Hid (Below (w.heap.size + 1 + 1) W (wr.alloc (.cells #[.string (f q).1, .string (f q).2.1, .string (f q).2.2.1, .string (f q).2.2.2] 86))) := hbel.out.alloc hsr _
      have HLO : Hid (Lst B (wr.alloc (.cells #[.string (f q).1, .string (f q).2.1, .string (f q).2.2.1, .string (f q).2.2.2] 86)) vo no 1 (cS fo)) := HO.out _ (hbw.alloc (by omega) _)
      cases hh : hasB no fo (f q).1
      · go_wp2_with fail
        refine (hasI_any B _ no fo _ _ HLO.out).mono ?_; rintro e w0 ⟨rfl, rfl⟩
        rw [hh]
        go_wp2_with fail
        go_roundw
        case rel => exact ⟨q + 1, by omega, by go_num, by show World.ownsRow _ _ _ _ _ _ _; rw [opN_no hh]; exact hown.out.alloc _, hU⟩
        case measure => simp [intOf]; omega
      · have HN : Hid (opN f no fo (q + 1) = opN f no fo q ++ [f q]) := opN_yes hh
        go_wp2_with fail
        refine (hasI_any B _ no fo _ _ HLO.out).mono ?_; rintro e w0 ⟨rfl, hw0⟩
        have hw1 := hw0.symm
        subst hw1
        rw [hh]
        go_wp2_with (first
          | (at_builtin; refine wpList_append_own _ rfl _ _ 34 rfl (w.heap.size + 1 + 1) 86 i0 (.agg #[.string ByteArray.empty, .string ByteArray.empty, .string ByteArray.empty, .string ByteArray.empty]) 4 64 under40' hi hz0 hz1 hz2 rfl (by decide) _ _ _ rfl ((hown.out.alloc _).alloc _) ⟨wr.heap.size + 1, 0, none⟩ 1 1 [.string (f q).1, .string (f q).2.1, .string (f q).2.2.1, .string (f q).2.2.2] rfl rfl (fun j u hj => by have := cells_new (wr.alloc (.cells #[.string (f q).1, .string (f q).2.1, .string (f q).2.2.1, .string (f q).2.2.2] 86)) [.string (f q).1, .string (f q).2.1, .string (f q).2.2.1, .string (f q).2.2.2] 86 j u hj; simpa using this) (fun x hx => by simp at hx; rcases hx with rfl | rfl | rfl | rfl <;> rfl) (by unfold maxLen; omega) (by omega) (by simp; omega) ?_; intro v' w3 hown' hgrow3 hnil3))
        go_roundw
        case rel =>
          have RR : ∃ q' : Nat, q' ≤ nv ∧ Value.int .i64 ((q : Int) + 1) = .int .i64 (q' : Int) ∧ Hid (w3.ownsRow (w.heap.size + 1 + 1) 86 4 v' (opN f no fo q').length (vCells (opN f no fo q'))) ∧ Hid (Below (w.heap.size + 1 + 1) W w3) :=
            ⟨q + 1, by omega, by go_num, by
              show World.ownsRow _ _ _ _ _ _ _
              rw [HN.out, List.length_append]
              have e : vCells (opN f no fo q ++ [f q]) = vCells (opN f no fo q) ++ [.string (f q).1, .string (f q).2.1, .string (f q).2.2.1, .string (f q).2.2.2] := by simp [vCells]
              rw [e]; exact hown', (hU.out.alloc (by simp; omega) _).grown hgrow3 (by simp; omega) (fun p hp => (hown.out.lt p hp).1)⟩
          first
            | exact RR
            | ((repeat apply Exists.intro); exact ⟨RR, rfl⟩)
        case measure => simp [intOf]; omega
    · obtain rfl : q = nv := by omega
      have hp := (hbel.out.block w.heap.size (by omega)).trans HP.out
      have hr := (hbel.out.block (w.heap.size + 1) (by omega)).trans HR.out
      have x2 := (cell_row hp 2 _ rfl).1
      simp only [List.getElem_toArray, List.getElem_cons_zero, List.getElem_cons_succ] at x2
      obtain ⟨r0, f0⟩ := cell_row hr 0 _ rfl
      obtain ⟨r1, f1⟩ := cell_row hr 1 _ rfl
      obtain ⟨r2, f2⟩ := cell_row hr 2 _ rfl
      obtain ⟨r3, f3⟩ := cell_row hr 3 _ rfl
      simp only [List.getElem_toArray, List.getElem_cons_zero, List.getElem_cons_succ] at r0 r1 r2 r3
      have HRR : Hid (wr.heap[w.heap.size + 1]? = some (.cells #[.slice none 0 0, .slice none 0 0, .slice none 0 0, .slice none 0 0] 36 (0, 0))) := hr
      clear hp hr
      have hLV := own_lstV hown.out (by omega)
      have h5 : ∃ o5 n5 c5, u5 = .slice o5 n5 c5 := by obtain ⟨o5, c5, e, _⟩ := hLV; exact ⟨o5, _, c5, e⟩
      obtain ⟨o5, n5, c5, rfl⟩ := h5
      have HLV : Hid (Lst wr.heap.size wr (.slice o5 n5 c5) (opN f no fo q).length 4 (cV (nthV (opN f no fo q)))) := hLV
      have HNB : Hid (∀ k, (Value.slice o5 n5 c5).ownBlock = some k → w.heap.size + 1 + 1 ≤ k) := fun k hk => (hown.out.lt k hk).1
      clear hLV
      have g0 := (cell_row (set_row (set_row (set_row (set_row HRR.out 0 (.slice none 0 0)) 1 (.slice none 0 0)) 2 (.slice o2 n2 c2)) 3 (.slice o5 n5 c5)) 0 (.slice none 0 0) rfl).1
      have g1 := (cell_row (set_row (set_row (set_row (set_row HRR.out 0 (.slice none 0 0)) 1 (.slice none 0 0)) 2 (.slice o2 n2 c2)) 3 (.slice o5 n5 c5)) 1 (.slice none 0 0) rfl).1
      have g2 := (cell_row (set_row (set_row (set_row (set_row HRR.out 0 (.slice none 0 0)) 1 (.slice none 0 0)) 2 (.slice o2 n2 c2)) 3 (.slice o5 n5 c5)) 2 (.slice o2 n2 c2) rfl).1
      have g3 := (cell_row (set_row (set_row (set_row (set_row HRR.out 0 (.slice none 0 0)) 1 (.slice none 0 0)) 2 (.slice o2 n2 c2)) 3 (.slice o5 n5 c5)) 3 (.slice o5 n5 c5) rfl).1
      have hne : ∀ (i : Nat) (b : Nat), (Value.slice o5 n5 c5).ownBlock = some b → b ≠ (⟨w.heap.size + 1, i, none⟩ : Addr).block := fun i b hb => by
        have := HNB.out b hb
        show b ≠ w.heap.size + 1
        omega
      have hFL : Hid (Lst wr.heap.size _ (.slice o5 n5 c5) (opN f no fo q).length 4 (cV (nthV (opN f no fo q)))) := (((HLV.out.setOther ⟨w.heap.size + 1, 0, none⟩ (.slice none 0 0) (hne 0)).setOther ⟨w.heap.size + 1, 1, none⟩ (.slice none 0 0) (hne 1)).setOther ⟨w.heap.size + 1, 2, none⟩ (.slice o2 n2 c2) (hne 2)).setOther ⟨w.heap.size + 1, 3, none⟩ (.slice o5 n5 c5) (hne 3)
      have hFB : Hid (Below w.heap.size w _) := (((hbw.setCell (p := ⟨w.heap.size + 1, 0, none⟩) (by show w.heap.size ≤ w.heap.size + 1; omega) (.slice none 0 0)).setCell (p := ⟨w.heap.size + 1, 1, none⟩) (by show w.heap.size ≤ w.heap.size + 1; omega) (.slice none 0 0)).setCell (p := ⟨w.heap.size + 1, 2, none⟩) (by show w.heap.size ≤ w.heap.size + 1; omega) (.slice o2 n2 c2)).setCell (p := ⟨w.heap.size + 1, 3, none⟩) (by show w.heap.size ≤ w.heap.size + 1; omega) (.slice o5 n5 c5)
      clear hne
      go_wp2_with fail
      exact bodyPost_ret (v := .agg #[.slice none 0 0, .slice none 0 0, .slice o2 n2 c2, .slice o5 n5 c5]) (by simp [results, Tryz.results32, go_sem, g0, g1, g2, g3]) rfl ⟨_, rfl, by simpa using hFL.out, hFB.out⟩

end Go.Proofs.YtbdhlcfcmennjacGreat
