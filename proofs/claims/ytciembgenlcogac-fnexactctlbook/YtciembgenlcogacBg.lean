/-
  The places and the valves of a station, as the program tells them: function values that hand them on one by one.
-/
import Derived.Test.YtciembgenlcogacBmd
import Derived.Test.YtciembgenlcogacZs
import Derived.Test.YtciembgenlcogacRva
import Derived.RangeFuncCalls
import Derived.Shelf.Abstract
import Derived.Shelf.RegionOpen
import Derived.OwnWalkIn
import Derived.TacticsInMore
import Derived.LoopNIn
import Derived.LoopIn
import Derived.Sort.CutIn
namespace Go.Proofs.Ytciembgenlcogac
open Go.RowKit Go.Shelf

attribute [local go_sem] Oper.semAt_some

/-- The places of a station, of the first k; the names of its valves. -/
def plA (D : PD) (st : ByteArray) (k : Nat) : List (ByteArray × Int × ByteArray) := ((List.range k).filter fun i => eqB (D.fp i).2.2 st).map D.fp
def vlA (D : PD) (st : ByteArray) (k : Nat) : List ByteArray := ((List.range k).filter fun i => eqB (D.fv i).2.2.2 st).map fun i => (D.fv i).1
theorem plA_yes {D : PD} {st : ByteArray} {k : Nat} (h : eqB (D.fp k).2.2 st = true) : plA D st (k + 1) = plA D st k ++ [D.fp k] := by simp [plA, List.range_succ, List.filter_append, h]
theorem plA_no {D : PD} {st : ByteArray} {k : Nat} (h : eqB (D.fp k).2.2 st = false) : plA D st (k + 1) = plA D st k := by simp [plA, List.range_succ, List.filter_append, h]
theorem plA_len (D : PD) (st : ByteArray) (k : Nat) : (plA D st k).length ≤ k := by
  have := List.length_filter_le (fun i => eqB (D.fp i).2.2 st) (List.range k)
  simp only [plA, List.length_map]
  simpa using this
theorem vlA_yes {D : PD} {st : ByteArray} {k : Nat} (h : eqB (D.fv k).2.2.2 st = true) : vlA D st (k + 1) = vlA D st k ++ [(D.fv k).1] := by simp [vlA, List.range_succ, List.filter_append, h]
theorem vlA_no {D : PD} {st : ByteArray} {k : Nat} (h : eqB (D.fv k).2.2.2 st = false) : vlA D st (k + 1) = vlA D st k := by simp [vlA, List.range_succ, List.filter_append, h]
theorem vlA_len (D : PD) (st : ByteArray) (k : Nat) : (vlA D st k).length ≤ k := by
  have := List.length_filter_le (fun i => eqB (D.fv i).2.2.2 st) (List.range k)
  simp only [vlA, List.length_map]
  simpa using this

set_option maxRecDepth 100000 in
set_option maxHeartbeats 1000000 in
theorem placesOf_any (v0 v1 v2 v3 : Value) (st : ByteArray) (w : World) :
    Calls Try.prog 24 #[.agg #[v0, v1, v2, v3], .string st] w fun e w' => e = .returned (.func (.func 58) #[] #[.pointer (some ⟨w.heap.size, 0, none⟩), .pointer (some ⟨w.heap.size + 1, 0, none⟩)]) ∧
      w' = (w.alloc (.cells #[v0, v1, v2, v3] 39)).alloc (.cells #[.string st] 9) := by
  go_enter Try.func24, Try.ntmps24
  go_wp2
  go_ret
  exact ⟨by simp, rfl⟩

set_option maxRecDepth 100000 in
set_option maxHeartbeats 1000000 in
theorem valvesOf_any (v0 v1 v2 v3 : Value) (st : ByteArray) (w : World) :
    Calls Try.prog 25 #[.agg #[v0, v1, v2, v3], .string st] w fun e w' => e = .returned (.func (.func 59) #[] #[.pointer (some ⟨w.heap.size, 0, none⟩), .pointer (some ⟨w.heap.size + 1, 0, none⟩)]) ∧
      w' = (w.alloc (.cells #[v0, v1, v2, v3] 39)).alloc (.cells #[.string st] 9) := by
  go_enter Try.func25, Try.ntmps25
  go_wp2
  go_ret
  exact ⟨by simp, rfl⟩

set_option maxRecDepth 100000 in
set_option maxHeartbeats 4000000 in
theorem places_fit (n b1 b2 n₀ : Nat) (hn : 2 ≤ n) (v0 v1 v3 : Value) (oa : Option Addr) (cap : Nat) (D : PD) (st : ByteArray) (own : World → Nat → Prop) (w : World)
    (hb1 : w.heap[b1]? = some (.cells #[v0, v1, .slice oa D.np cap, v3] 39 (0, 0))) (hb2 : w.heap[b2]? = some (.cells #[.string st] 9 (0, 0))) (h : Lst n₀ w (.slice oa D.np cap) D.np 3 (cP D.fp)) (h8 : ∀ i, i < D.np → (D.fp i).1.size ≤ 8) (hn₀ : n₀ ≤ w.heap.size) (hm : D.np ≤ 1000) :
    SeqFit Fence.wide n Try.prog 58 #[.pointer (some ⟨b1, 0, none⟩), .pointer (some ⟨b2, 0, none⟩)] (fun y : ByteArray × Int × ByteArray => #[Value.agg #[.string y.1, .int .i64 y.2.1, .string y.2.2]]) own n₀ (fun k => k < n₀ ∨ k = b1 ∨ k = b2) (fun _ y _ => y.1.size ≤ 8) (fun ys => ys = plA D st D.np) D.np w := by
  intro l J W hW hJ hst hno hY h0
  have hc1 := (hW.block b1 (Array.getElem?_eq_some_iff.1 hb1).1).trans hb1
  have hc2 := (hW.block b2 (Array.getElem?_eq_some_iff.1 hb2).1).trans hb2
  obtain ⟨oa', cap', hv, _, hc⟩ := h.kept hW hn₀
  cases hv
  have HC : Hid _ := hc
  have HY : Hid _ := hY
  have HJ : Hid (OwnFrom W.heap.size J) := hJ
  have HST : Hid (∀ pre W1, J pre W1 → OwnSt own W1) := hst
  have HNO : Hid _ := hno
  have H8 : Hid _ := h8
  have HC2 : Hid (W.heap[b2]? = some (.cells #[.string st] 9 (0, 0))) := hc2
  have H0 : Hid (J [] W) := h0
  have hn₀' : n₀ ≤ W.heap.size := Nat.le_trans hn₀ hW.size
  have l2 := (Array.getElem?_eq_some_iff.1 hc2).1
  obtain ⟨x2, _⟩ := cell_row hc1 2 _ rfl
  simp only [List.getElem_toArray, List.getElem_cons_zero, List.getElem_cons_succ] at x2
  clear hY hJ hst hno h8 h hb1 hb2 hc hc1 hc2 h0 hW
  refine callsIn_of_wp Try.func58 rfl trivial ?_ rfl
  simp only [Try.ntmps58, List.size_toArray, List.length_cons, List.length_nil, Nat.reduceAdd, Nat.reduceSub, Array.replicate_succ, Array.replicate_zero, List.push_toArray, List.append_toArray, List.nil_append, List.cons_append]
  gi_wp2
  gi_loopw [9] (fun i wr => ∃ k : Nat, k ≤ D.np ∧ i = .int .i64 k ∧ Hid (J (plA D st k) wr) ∧ Hid (KpO own n₀ W wr))
    (fun i _ => D.np - (intOf i).toNat)
  case atStart => exact ⟨0, Nat.zero_le _, rfl, H0, KpO.refl _ _ _⟩
  case round =>
    obtain ⟨k, hk, rfl, hJs, hkp⟩ := hrel
    by_cases hlt : k < D.np
    · obtain ⟨b, off, rfl, hbB, hcell⟩ := HC.out k hlt
      have hsz := hkp.out.size
      have rd : ∀ j, j < 3 → wr.cell? ⟨b, off + k * 3 + j, none⟩ = some (cP D.fp k j) := fun j hj => (World.cell?_of_block (w := W) (a := ⟨b, off + k * 3 + j, none⟩) (hkp.out.low b hbB)).trans (hcell j hj)
      have e0 : wr.cell? ⟨b, off + k * 3, none⟩ = some (.string (D.fp k).1) := rd 0 (by omega)
      have e1 : wr.cell? ⟨b, off + k * 3 + 1, none⟩ = some (.int .i64 (D.fp k).2.1) := rd 1 (by omega)
      have e2 : wr.cell? ⟨b, off + k * 3 + 2, none⟩ = some (.string (D.fp k).2.2) := rd 2 (by omega)
      clear rd hcell
      have kb2 := hkp.out.blk b2 _ _ _ HC2.out (HNO.out b2 (.inr (.inr rfl)))
      obtain ⟨ep, _⟩ := cell_row kb2 0 (.string st) rfl
      obtain ⟨U, hU⟩ : ∃ U, U = wr.alloc (.cells #[.string (D.fp k).1, .int .i64 (D.fp k).2.1, .string (D.fp k).2.2] 55) := ⟨_, rfl⟩
      have EU : Hid (U = wr.alloc (.cells #[.string (D.fp k).1, .int .i64 (D.fp k).2.1, .string (D.fp k).2.2] 55)) := hU
      have bU : Hid (Below wr.heap.size wr U) := by rw [hU]; exact (Below.refl _ _).alloc (Nat.le_refl _) _
      have hJU : Hid (J (plA D st k) U) := by rw [hU]; exact HJ.out.alloc _ hJs.out
      have hKU : Hid (KpO own n₀ W U) := by rw [hU]; exact hkp.out.trans ((HST.out _ _ hJs.out).kp (by omega) (World.grownBy_alloc _ _ none) (fun r e => by cases e))
      have XU : U.heap[wr.heap.size]? = some (.cells #[.string (D.fp k).1, .int .i64 (D.fp k).2.1, .string (D.fp k).2.2] 55 (0, 0)) := by rw [hU]; exact heap_alloc_new wr _
      have ep' : U.cell? ⟨b2, 0, none⟩ = some (.string st) := by rw [hU]; exact cell_past ep (by omega) _
      obtain ⟨n0, _⟩ := cell_row XU 0 (.string (D.fp k).1) rfl
      obtain ⟨n1, _⟩ := cell_row XU 1 (.int .i64 (D.fp k).2.1) rfl
      obtain ⟨n2, _⟩ := cell_row XU 2 (.string (D.fp k).2.2) rfl
      clear hU XU kb2
      cases hE : eqB (D.fp k).2.2 st
      · have hE2 : ((D.fp k).2.2.toList == st.toList) = false := hE
        gi_upto_region 3 with fail
        rw [← EU.out]
        gi_wp2
        refine ⟨fun _ h => (by cases h), ?_⟩
        gi_wp2
        go_roundw
        case rel => exact ⟨k + 1, by omega, by go_num, by show J _ _; rw [plA_no hE]; exact hJU.out, hKU⟩
        case measure => simp [intOf]; omega
      · have hE2 : ((D.fp k).2.2.toList == st.toList) = true := hE
        obtain ⟨fn, tmps, assign, body, hy, hR⟩ := HY.out _ (D.fp k) U U hJU.out hJU.out (H8.out k hlt) (by have := plA_len D st k; omega)
        gi_upto_region 3 with fail
        rw [← EU.out]
        gi_wp2
        refine ⟨(fun _ => by omega), hR.mono ?_⟩
        rintro e W3 ⟨rfl, hJ3, hk3, _⟩
        gi_wp2
        go_roundw
        case rel => exact ⟨k + 1, by omega, by go_num, by show J _ _; rw [plA_yes hE]; exact hJ3, hKU.out.trans hk3⟩
        case measure => simp [intOf]; omega
    · obtain rfl : k = D.np := by omega
      gi_wp2
      go_end0
      exact ⟨⟨_, rfl⟩, _, rfl, hJs.out⟩

set_option maxRecDepth 100000 in
set_option maxHeartbeats 4000000 in
theorem valves_fit (n b1 b2 n₀ : Nat) (hn : 2 ≤ n) (v0 v1 v2 : Value) (oa : Option Addr) (cap : Nat) (D : PD) (st : ByteArray) (own : World → Nat → Prop) (w : World)
    (hb1 : w.heap[b1]? = some (.cells #[v0, v1, v2, .slice oa D.nv cap] 39 (0, 0))) (hb2 : w.heap[b2]? = some (.cells #[.string st] 9 (0, 0))) (h : Lst n₀ w (.slice oa D.nv cap) D.nv 4 (cV D.fv)) (h8 : ∀ i, i < D.nv → (D.fv i).1.size ≤ 8) (hn₀ : n₀ ≤ w.heap.size) (hm : D.nv ≤ 1000) :
    SeqFit Fence.wide n Try.prog 59 #[.pointer (some ⟨b1, 0, none⟩), .pointer (some ⟨b2, 0, none⟩)] (fun y : ByteArray => #[Value.string y]) own n₀ (fun k => k < n₀ ∨ k = b1 ∨ k = b2) (fun _ y _ => y.size ≤ 8) (fun ys => ys = vlA D st D.nv) D.nv w := by
  intro l J W hW hJ hst hno hY h0
  have hc1 := (hW.block b1 (Array.getElem?_eq_some_iff.1 hb1).1).trans hb1
  have hc2 := (hW.block b2 (Array.getElem?_eq_some_iff.1 hb2).1).trans hb2
  obtain ⟨oa', cap', hv, _, hc⟩ := h.kept hW hn₀
  cases hv
  have HC : Hid _ := hc
  have HY : Hid _ := hY
  have HJ : Hid (OwnFrom W.heap.size J) := hJ
  have HST : Hid (∀ pre W1, J pre W1 → OwnSt own W1) := hst
  have HNO : Hid _ := hno
  have H8 : Hid _ := h8
  have HC2 : Hid (W.heap[b2]? = some (.cells #[.string st] 9 (0, 0))) := hc2
  have H0 : Hid (J [] W) := h0
  have hn₀' : n₀ ≤ W.heap.size := Nat.le_trans hn₀ hW.size
  have l2 := (Array.getElem?_eq_some_iff.1 hc2).1
  obtain ⟨x3, _⟩ := cell_row hc1 3 _ rfl
  simp only [List.getElem_toArray, List.getElem_cons_zero, List.getElem_cons_succ] at x3
  clear hY hJ hst hno h8 h hb1 hb2 hc hc1 hc2 h0 hW
  refine callsIn_of_wp Try.func59 rfl trivial ?_ rfl
  simp only [Try.ntmps59, List.size_toArray, List.length_cons, List.length_nil, Nat.reduceAdd, Nat.reduceSub, Array.replicate_succ, Array.replicate_zero, List.push_toArray, List.append_toArray, List.nil_append, List.cons_append]
  gi_wp2
  gi_loopw [9] (fun i wr => ∃ k : Nat, k ≤ D.nv ∧ i = .int .i64 k ∧ Hid (J (vlA D st k) wr) ∧ Hid (KpO own n₀ W wr))
    (fun i _ => D.nv - (intOf i).toNat)
  case atStart => exact ⟨0, Nat.zero_le _, rfl, H0, KpO.refl _ _ _⟩
  case round =>
    obtain ⟨k, hk, rfl, hJs, hkp⟩ := hrel
    by_cases hlt : k < D.nv
    · obtain ⟨b, off, rfl, hbB, hcell⟩ := HC.out k hlt
      have hsz := hkp.out.size
      have rd : ∀ j, j < 4 → wr.cell? ⟨b, off + k * 4 + j, none⟩ = some (cV D.fv k j) := fun j hj => (World.cell?_of_block (w := W) (a := ⟨b, off + k * 4 + j, none⟩) (hkp.out.low b hbB)).trans (hcell j hj)
      have e0 : wr.cell? ⟨b, off + k * 4, none⟩ = some (.string (D.fv k).1) := rd 0 (by omega)
      have e1 : wr.cell? ⟨b, off + k * 4 + 1, none⟩ = some (.string (D.fv k).2.1) := rd 1 (by omega)
      have e2 : wr.cell? ⟨b, off + k * 4 + 2, none⟩ = some (.string (D.fv k).2.2.1) := rd 2 (by omega)
      have e3 : wr.cell? ⟨b, off + k * 4 + 3, none⟩ = some (.string (D.fv k).2.2.2) := rd 3 (by omega)
      clear rd hcell
      have kb2 := hkp.out.blk b2 _ _ _ HC2.out (HNO.out b2 (.inr (.inr rfl)))
      obtain ⟨ep, _⟩ := cell_row kb2 0 (.string st) rfl
      obtain ⟨U, hU⟩ : ∃ U, U = wr.alloc (.cells #[.string (D.fv k).1, .string (D.fv k).2.1, .string (D.fv k).2.2.1, .string (D.fv k).2.2.2] 59) := ⟨_, rfl⟩
      have EU : Hid (U = wr.alloc (.cells #[.string (D.fv k).1, .string (D.fv k).2.1, .string (D.fv k).2.2.1, .string (D.fv k).2.2.2] 59)) := hU
      have bU : Hid (Below wr.heap.size wr U) := by rw [hU]; exact (Below.refl _ _).alloc (Nat.le_refl _) _
      have hJU : Hid (J (vlA D st k) U) := by rw [hU]; exact HJ.out.alloc _ hJs.out
      have hKU : Hid (KpO own n₀ W U) := by rw [hU]; exact hkp.out.trans ((HST.out _ _ hJs.out).kp (by omega) (World.grownBy_alloc _ _ none) (fun r e => by cases e))
      have XU : U.heap[wr.heap.size]? = some (.cells #[.string (D.fv k).1, .string (D.fv k).2.1, .string (D.fv k).2.2.1, .string (D.fv k).2.2.2] 59 (0, 0)) := by rw [hU]; exact heap_alloc_new wr _
      have ep' : U.cell? ⟨b2, 0, none⟩ = some (.string st) := by rw [hU]; exact cell_past ep (by omega) _
      obtain ⟨n0, _⟩ := cell_row XU 0 (.string (D.fv k).1) rfl
      obtain ⟨n1, _⟩ := cell_row XU 1 (.string (D.fv k).2.1) rfl
      obtain ⟨n2, _⟩ := cell_row XU 2 (.string (D.fv k).2.2.1) rfl
      obtain ⟨n3, _⟩ := cell_row XU 3 (.string (D.fv k).2.2.2) rfl
      clear hU XU kb2
      cases hE : eqB (D.fv k).2.2.2 st
      · have hE2 : ((D.fv k).2.2.2.toList == st.toList) = false := hE
        gi_upto_region 3 with fail
        rw [← EU.out]
        gi_wp2
        refine ⟨fun _ h => (by cases h), ?_⟩
        gi_wp2
        go_roundw
        case rel => exact ⟨k + 1, by omega, by go_num, by show J _ _; rw [vlA_no hE]; exact hJU.out, hKU⟩
        case measure => simp [intOf]; omega
      · have hE2 : ((D.fv k).2.2.2.toList == st.toList) = true := hE
        obtain ⟨fn, tmps, assign, body, hy, hR⟩ := HY.out _ ((D.fv k).1) U U hJU.out hJU.out (H8.out k hlt) (by have := vlA_len D st k; omega)
        gi_upto_region 3 with fail
        rw [← EU.out]
        gi_wp2
        refine ⟨(fun _ => by omega), hR.mono ?_⟩
        rintro e W3 ⟨rfl, hJ3, hk3, _⟩
        gi_wp2
        go_roundw
        case rel => exact ⟨k + 1, by omega, by go_num, by show J _ _; rw [vlA_yes hE]; exact hJ3, hKU.out.trans hk3⟩
        case measure => simp [intOf]; omega
    · obtain rfl : k = D.nv := by omega
      gi_wp2
      go_end0
      exact ⟨⟨_, rfl⟩, _, rfl, hJs.out⟩

end Go.Proofs.Ytciembgenlcogac
