/-
  Several texts in one.
-/
import Derived.Test.YtndacfockllehaaGreatM15
import Derived.Test.YtndacfockllehaaGreatM3
import Derived.Test.YtndacfockllehaaGreatRva
import Derived.RangeFuncCalls
import Derived.Shelf.Abstract
import Derived.Shelf.RegionOpen
import Derived.OwnWalkIn
import Derived.TacticsInMore
import Derived.LoopNIn
import Derived.LoopIn
import Derived.Sort.CutIn
import Derived.Test.YtndacfockllehaaGreatM27
import Derived.Test.YtndacfockllehaaGreatM29
/-
  The places and the valves of a station, as the program tells them: function values that hand them on one by one.
-/
namespace Go.Proofs.YtndacfockllehaaGreat
open Go.RowKit Go.Shelf

attribute [local go_sem] Oper.semAt_some

/-- The places of a station, of the first k; the names of its valves. -/
def plA (D : PD) (st : ByteArray) (k : Nat) : List (ByteArray × Int × ByteArray) := ((List.range k).filter fun i => eqB (D.fp i).2.2 st).map D.fp
def vlA (D : PD) (st : ByteArray) (k : Nat) : List ByteArray := ((List.range k).filter fun i => eqB (D.fv i).2.2.2 st).map fun i => (D.fv i).1
theorem plA_yes {D : PD} {st : ByteArray} {k : Nat} (h : eqB (D.fp k).2.2 st = true) : plA D st (k + 1) = plA D st k ++ [D.fp k] := by simp [plA, List.range_succ, List.filter_append, h]
theorem plA_no {D : PD} {st : ByteArray} {k : Nat} (h : eqB (D.fp k).2.2 st = false) : plA D st (k + 1) = plA D st k := by simp [plA, List.range_succ, List.filter_append, h]
theorem plA_len (D : PD) (st : ByteArray) (k : Nat) : (plA D st k).length ≤ k := by
  have := List.length_filter_le (fun i => eqB (D.fp i).2.2 st) (List.range k)
  simp only [plA, List.length_map]
  simpa using this
theorem vlA_yes {D : PD} {st : ByteArray} {k : Nat} (h : eqB (D.fv k).2.2.2 st = true) : vlA D st (k + 1) = vlA D st k ++ [(D.fv k).1] := by simp [vlA, List.range_succ, List.filter_append, h]
theorem vlA_no {D : PD} {st : ByteArray} {k : Nat} (h : eqB (D.fv k).2.2.2 st = false) : vlA D st (k + 1) = vlA D st k := by simp [vlA, List.range_succ, List.filter_append, h]
theorem vlA_len (D : PD) (st : ByteArray) (k : Nat) : (vlA D st k).length ≤ k := by
  have := List.length_filter_le (fun i => eqB (D.fv i).2.2.2 st) (List.range k)
  simp only [vlA, List.length_map]
  simpa using this

set_option maxRecDepth 100000 in
set_option maxHeartbeats 1000000 in
theorem placesOf_any (v0 v1 v2 v3 : Value) (st : ByteArray) (w : World) :
    Calls Tryz.prog 89 #[.agg #[v0, v1, v2, v3], .string st] w fun e w' => e = .returned (.func (.func 128) #[] #[.pointer (some ⟨w.heap.size, 0, none⟩), .pointer (some ⟨w.heap.size + 1, 0, none⟩)]) ∧
      w' = (w.alloc (.cells #[v0, v1, v2, v3] 40)).alloc (.cells #[.string st] 9) := by
  go_enter Tryz.func89, Tryz.ntmps89
  go_wp2
  go_ret
  exact ⟨by simp, rfl⟩

set_option maxRecDepth 100000 in
set_option maxHeartbeats 1000000 in
theorem valvesOf_any (v0 v1 v2 v3 : Value) (st : ByteArray) (w : World) :
    Calls Tryz.prog 91 #[.agg #[v0, v1, v2, v3], .string st] w fun e w' => e = .returned (.func (.func 129) #[] #[.pointer (some ⟨w.heap.size, 0, none⟩), .pointer (some ⟨w.heap.size + 1, 0, none⟩)]) ∧
      w' = (w.alloc (.cells #[v0, v1, v2, v3] 40)).alloc (.cells #[.string st] 9) := by
  go_enter Tryz.func91, Tryz.ntmps91
  go_wp2
  go_ret
  exact ⟨by simp, rfl⟩

set_option maxRecDepth 100000 in
set_option maxHeartbeats 4000000 in
theorem places_fit (n b1 b2 n₀ : Nat) (hn : 2 ≤ n) (v0 v1 v3 : Value) (oa : Option Addr) (cap : Nat) (D : PD) (st : ByteArray) (own : World → Nat → Prop) (w : World)
    (hb1 : w.heap[b1]? = some (.cells #[v0, v1, .slice oa D.np cap, v3] 40 (0, 0))) (hb2 : w.heap[b2]? = some (.cells #[.string st] 9 (0, 0))) (h : Lst n₀ w (.slice oa D.np cap) D.np 3 (cP D.fp)) (h8 : ∀ i, i < D.np → (D.fp i).1.size ≤ 8) (hn₀ : n₀ ≤ w.heap.size) (hm : D.np ≤ 1000) :
    SeqFit Fence.wide n Tryz.prog 128 #[.pointer (some ⟨b1, 0, none⟩), .pointer (some ⟨b2, 0, none⟩)] (fun y : ByteArray × Int × ByteArray => #[Value.agg #[.string y.1, .int .i64 y.2.1, .string y.2.2]]) own n₀ (fun k => k < n₀ ∨ k = b1 ∨ k = b2) (fun _ y _ => y.1.size ≤ 8) (fun ys => ys = plA D st D.np) D.np w := by
  intro l J W hW hJ hst hno hY h0
  have hc1 := (hW.block b1 (Array.getElem?_eq_some_iff.1 hb1).1).trans hb1
  have hc2 := (hW.block b2 (Array.getElem?_eq_some_iff.1 hb2).1).trans hb2
  obtain ⟨oa', cap', hv, _, hc⟩ := h.kept hW hn₀
  cases hv
  have HC : Hid _ := hc
  have HY : Hid _ := hY
  have HJ : Hid (OwnFrom W.heap.size J) := hJ
  have HST : Hid (∀ pre W1, J pre W1 → OwnSt own W1) := hst
  have HNO : Hid _ := hno
  have H8 : Hid _ := h8
  have HC2 : Hid (W.heap[b2]? = some (.cells #[.string st] 9 (0, 0))) := hc2
  have H0 : Hid (J [] W) := h0
  have hn₀' : n₀ ≤ W.heap.size := Nat.le_trans hn₀ hW.size
  have l2 := (Array.getElem?_eq_some_iff.1 hc2).1
  obtain ⟨x2, _⟩ := cell_row hc1 2 _ rfl
  simp only [List.getElem_toArray, List.getElem_cons_zero, List.getElem_cons_succ] at x2
  clear hY hJ hst hno h8 h hb1 hb2 hc hc1 hc2 h0 hW
  refine callsIn_of_wp Tryz.func128 rfl trivial ?_ rfl
  simp only [Tryz.ntmps128, List.size_toArray, List.length_cons, List.length_nil, Nat.reduceAdd, Nat.reduceSub, Array.replicate_succ, Array.replicate_zero, List.push_toArray, List.append_toArray, List.nil_append, List.cons_append]
  gi_wp2
  gi_loopw [9] (fun i wr => ∃ k : Nat, k ≤ D.np ∧ i = .int .i64 k ∧ Hid (J (plA D st k) wr) ∧ Hid (KpO own n₀ W wr))
    (fun i _ => D.np - (intOf i).toNat)
  case atStart => exact ⟨0, Nat.zero_le _, rfl, H0, KpO.refl _ _ _⟩
  case round =>
    obtain ⟨k, hk, rfl, hJs, hkp⟩ := hrel
    by_cases hlt : k < D.np
    · obtain ⟨b, off, rfl, hbB, hcell⟩ := HC.out k hlt
      have hsz := hkp.out.size
      have rd : ∀ j, j < 3 → wr.cell? ⟨b, off + k * 3 + j, none⟩ = some (cP D.fp k j) := fun j hj => (World.cell?_of_block (w := W) (a := ⟨b, off + k * 3 + j, none⟩) (hkp.out.low b hbB)).trans (hcell j hj)
      have e0 : wr.cell? ⟨b, off + k * 3, none⟩ = some (.string (D.fp k).1) := rd 0 (by omega)
      have e1 : wr.cell? ⟨b, off + k * 3 + 1, none⟩ = some (.int .i64 (D.fp k).2.1) := rd 1 (by omega)
      have e2 : wr.cell? ⟨b, off + k * 3 + 2, none⟩ = some (.string (D.fp k).2.2) := rd 2 (by omega)
      clear rd hcell
      have kb2 := hkp.out.blk b2 _ _ _ HC2.out (HNO.out b2 (.inr (.inr rfl)))
      obtain ⟨ep, _⟩ := cell_row kb2 0 (.string st) rfl
      obtain ⟨U, hU⟩ : ∃ U, U = wr.alloc (.cells #[.string (D.fp k).1, .int .i64 (D.fp k).2.1, .string (D.fp k).2.2] 103) := ⟨_, rfl⟩
      have EU : Hid (U = wr.alloc (.cells #[.string (D.fp k).1, .int .i64 (D.fp k).2.1, .string (D.fp k).2.2] 103)) := hU
      have bU : Hid (Below wr.heap.size wr U) := by rw [hU]; exact (Below.refl _ _).alloc (Nat.le_refl _) _
      have hJU : Hid (J (plA D st k) U) := by rw [hU]; exact HJ.out.alloc _ hJs.out
      have hKU : Hid (KpO own n₀ W U) := by rw [hU]; exact hkp.out.trans ((HST.out _ _ hJs.out).kp (by omega) (World.grownBy_alloc _ _ none) (fun r e => by cases e))
      have XU : U.heap[wr.heap.size]? = some (.cells #[.string (D.fp k).1, .int .i64 (D.fp k).2.1, .string (D.fp k).2.2] 103 (0, 0)) := by rw [hU]; exact heap_alloc_new wr _
      have ep' : U.cell? ⟨b2, 0, none⟩ = some (.string st) := by rw [hU]; exact cell_past ep (by omega) _
      obtain ⟨n0, _⟩ := cell_row XU 0 (.string (D.fp k).1) rfl
      obtain ⟨n1, _⟩ := cell_row XU 1 (.int .i64 (D.fp k).2.1) rfl
      obtain ⟨n2, _⟩ := cell_row XU 2 (.string (D.fp k).2.2) rfl
      clear hU XU kb2
      cases hE : eqB (D.fp k).2.2 st
      · have hE2 : ((D.fp k).2.2.toList == st.toList) = false := hE
        gi_upto_region 3 with fail
        rw [← EU.out]
        gi_wp2
        refine ⟨fun _ h => (by cases h), ?_⟩
        gi_wp2
        go_roundw
        case rel => exact ⟨k + 1, by omega, by go_num, by show J _ _; rw [plA_no hE]; exact hJU.out, hKU⟩
        case measure => simp [intOf]; omega
      · have hE2 : ((D.fp k).2.2.toList == st.toList) = true := hE
        obtain ⟨fn, tmps, assign, body, hy, hR⟩ := HY.out _ (D.fp k) U U hJU.out hJU.out (H8.out k hlt) (by have := plA_len D st k; omega)
        gi_upto_region 3 with fail
        rw [← EU.out]
        gi_wp2
        refine ⟨(fun _ => by omega), hR.mono ?_⟩
        rintro e W3 ⟨rfl, hJ3, hk3, _⟩
        gi_wp2
        go_roundw
        case rel => exact ⟨k + 1, by omega, by go_num, by show J _ _; rw [plA_yes hE]; exact hJ3, hKU.out.trans hk3⟩
        case measure => simp [intOf]; omega
    · obtain rfl : k = D.np := by omega
      gi_wp2
      go_end0
      exact ⟨⟨_, rfl⟩, _, rfl, hJs.out⟩

set_option maxRecDepth 100000 in
set_option maxHeartbeats 4000000 in
theorem valves_fit (n b1 b2 n₀ : Nat) (hn : 2 ≤ n) (v0 v1 v2 : Value) (oa : Option Addr) (cap : Nat) (D : PD) (st : ByteArray) (own : World → Nat → Prop) (w : World)
    (hb1 : w.heap[b1]? = some (.cells #[v0, v1, v2, .slice oa D.nv cap] 40 (0, 0))) (hb2 : w.heap[b2]? = some (.cells #[.string st] 9 (0, 0))) (h : Lst n₀ w (.slice oa D.nv cap) D.nv 4 (cV D.fv)) (h8 : ∀ i, i < D.nv → (D.fv i).1.size ≤ 8) (hn₀ : n₀ ≤ w.heap.size) (hm : D.nv ≤ 1000) :
    SeqFit Fence.wide n Tryz.prog 129 #[.pointer (some ⟨b1, 0, none⟩), .pointer (some ⟨b2, 0, none⟩)] (fun y : ByteArray => #[Value.string y]) own n₀ (fun k => k < n₀ ∨ k = b1 ∨ k = b2) (fun _ y _ => y.size ≤ 8) (fun ys => ys = vlA D st D.nv) D.nv w := by
  intro l J W hW hJ hst hno hY h0
  have hc1 := (hW.block b1 (Array.getElem?_eq_some_iff.1 hb1).1).trans hb1
  have hc2 := (hW.block b2 (Array.getElem?_eq_some_iff.1 hb2).1).trans hb2
  obtain ⟨oa', cap', hv, _, hc⟩ := h.kept hW hn₀
  cases hv
  have HC : Hid _ := hc
  have HY : Hid _ := hY
  have HJ : Hid (OwnFrom W.heap.size J) := hJ
  have HST : Hid (∀ pre W1, J pre W1 → OwnSt own W1) := hst
  have HNO : Hid _ := hno
  have H8 : Hid _ := h8
  have HC2 : Hid (W.heap[b2]? = some (.cells #[.string st] 9 (0, 0))) := hc2
  have H0 : Hid (J [] W) := h0
  have hn₀' : n₀ ≤ W.heap.size := Nat.le_trans hn₀ hW.size
  have l2 := (Array.getElem?_eq_some_iff.1 hc2).1
  obtain ⟨x3, _⟩ := cell_row hc1 3 _ rfl
  simp only [List.getElem_toArray, List.getElem_cons_zero, List.getElem_cons_succ] at x3
  clear hY hJ hst hno h8 h hb1 hb2 hc hc1 hc2 h0 hW
  refine callsIn_of_wp Tryz.func129 rfl trivial ?_ rfl
  simp only [Tryz.ntmps129, List.size_toArray, List.length_cons, List.length_nil, Nat.reduceAdd, Nat.reduceSub, Array.replicate_succ, Array.replicate_zero, List.push_toArray, List.append_toArray, List.nil_append, List.cons_append]
  gi_wp2
  gi_loopw [9] (fun i wr => ∃ k : Nat, k ≤ D.nv ∧ i = .int .i64 k ∧ Hid (J (vlA D st k) wr) ∧ Hid (KpO own n₀ W wr))
    (fun i _ => D.nv - (intOf i).toNat)
  case atStart => exact ⟨0, Nat.zero_le _, rfl, H0, KpO.refl _ _ _⟩
  case round =>
    obtain ⟨k, hk, rfl, hJs, hkp⟩ := hrel
    by_cases hlt : k < D.nv
    · obtain ⟨b, off, rfl, hbB, hcell⟩ := HC.out k hlt
      have hsz := hkp.out.size
      have rd : ∀ j, j < 4 → wr.cell? ⟨b, off + k * 4 + j, none⟩ = some (cV D.fv k j) := fun j hj => (World.cell?_of_block (w := W) (a := ⟨b, off + k * 4 + j, none⟩) (hkp.out.low b hbB)).trans (hcell j hj)
      have e0 : wr.cell? ⟨b, off + k * 4, none⟩ = some (.string (D.fv k).1) := rd 0 (by omega)
      have e1 : wr.cell? ⟨b, off + k * 4 + 1, none⟩ = some (.string (D.fv k).2.1) := rd 1 (by omega)
      have e2 : wr.cell? ⟨b, off + k * 4 + 2, none⟩ = some (.string (D.fv k).2.2.1) := rd 2 (by omega)
      have e3 : wr.cell? ⟨b, off + k * 4 + 3, none⟩ = some (.string (D.fv k).2.2.2) := rd 3 (by omega)
      clear rd hcell
      have kb2 := hkp.out.blk b2 _ _ _ HC2.out (HNO.out b2 (.inr (.inr rfl)))
      obtain ⟨ep, _⟩ := cell_row kb2 0 (.string st) rfl
      obtain ⟨U, hU⟩ : ∃ U, U = wr.alloc (.cells #[.string (D.fv k).1, .string (D.fv k).2.1, .string (D.fv k).2.2.1, .string (D.fv k).2.2.2] 105) := ⟨_, rfl⟩
      have EU : Hid (U = wr.alloc (.cells #[.string (D.fv k).1, .string (D.fv k).2.1, .string (D.fv k).2.2.1, .string (D.fv k).2.2.2] 105)) := hU
      have bU : Hid (Below wr.heap.size wr U) := by rw [hU]; exact (Below.refl _ _).alloc (Nat.le_refl _) _
      have hJU : Hid (J (vlA D st k) U) := by rw [hU]; exact HJ.out.alloc _ hJs.out
      have hKU : Hid (KpO own n₀ W U) := by rw [hU]; exact hkp.out.trans ((HST.out _ _ hJs.out).kp (by omega) (World.grownBy_alloc _ _ none) (fun r e => by cases e))
      have XU : U.heap[wr.heap.size]? = some (.cells #[.string (D.fv k).1, .string (D.fv k).2.1, .string (D.fv k).2.2.1, .string (D.fv k).2.2.2] 105 (0, 0)) := by rw [hU]; exact heap_alloc_new wr _
      have ep' : U.cell? ⟨b2, 0, none⟩ = some (.string st) := by rw [hU]; exact cell_past ep (by omega) _
      obtain ⟨n0, _⟩ := cell_row XU 0 (.string (D.fv k).1) rfl
      obtain ⟨n1, _⟩ := cell_row XU 1 (.string (D.fv k).2.1) rfl
      obtain ⟨n2, _⟩ := cell_row XU 2 (.string (D.fv k).2.2.1) rfl
      obtain ⟨n3, _⟩ := cell_row XU 3 (.string (D.fv k).2.2.2) rfl
      clear hU XU kb2
      cases hE : eqB (D.fv k).2.2.2 st
      · have hE2 : ((D.fv k).2.2.2.toList == st.toList) = false := hE
        gi_upto_region 3 with fail
        rw [← EU.out]
        gi_wp2
        refine ⟨fun _ h => (by cases h), ?_⟩
        gi_wp2
        go_roundw
        case rel => exact ⟨k + 1, by omega, by go_num, by show J _ _; rw [vlA_no hE]; exact hJU.out, hKU⟩
        case measure => simp [intOf]; omega
      · have hE2 : ((D.fv k).2.2.2.toList == st.toList) = true := hE
        obtain ⟨fn, tmps, assign, body, hy, hR⟩ := HY.out _ ((D.fv k).1) U U hJU.out hJU.out (H8.out k hlt) (by have := vlA_len D st k; omega)
        gi_upto_region 3 with fail
        rw [← EU.out]
        gi_wp2
        refine ⟨(fun _ => by omega), hR.mono ?_⟩
        rintro e W3 ⟨rfl, hJ3, hk3, _⟩
        gi_wp2
        go_roundw
        case rel => exact ⟨k + 1, by omega, by go_num, by show J _ _; rw [vlA_yes hE]; exact hJ3, hKU.out.trans hk3⟩
        case measure => simp [intOf]; omega
    · obtain rfl : k = D.nv := by omega
      gi_wp2
      go_end0
      exact ⟨⟨_, rfl⟩, _, rfl, hJs.out⟩

end Go.Proofs.YtndacfockllehaaGreat

/-
  Marks that loops over functions leave; data that own blocks of cells; what each station is asked, as the program shares it out.
-/
namespace Go.Proofs.YtndacfockllehaaGreat
open Go.RowKit Go.Shelf

/-- The marks that loops over functions have left with an activation. -/
structure MarksOk (b : Nat) (W : World) (Ds : List Nat) : Prop where
  once : Ds.Nodup
  all : ∀ D ∈ Ds, b ≤ D ∧ W.heap[D]? = some (.deferred (some []))

def markOf (D : Nat) : Deferred := { target := .collected D, args := #[] }

/-- What a world is when the marks have been taken in. -/
def closeM (W : World) : List Nat → World
  | [] => W
  | D :: Ds => closeM (W.putObj D (.deferred none)) Ds

theorem leaves_marks {F : Fence} {n : Nat} {P : Program} {fn : Func} {tmps : Array Value} {R : Ending → World → Prop} {b : Nat} : ∀ (Ds : List Nat) (W : World), MarksOk b W Ds → LeavesIn F n P fn tmps R [] .returning (closeM W Ds) → LeavesInM F n P fn tmps R (Ds.map markOf) .returning W
  | [], _, _, h => h
  | D :: Ds, W, hm, h => by
    have hn := List.nodup_cons.1 hm.once
    refine ⟨by simp, .inl ⟨D, _, rfl, run_takeDeferred (hm.all D List.mem_cons_self).2, leaves_marks (b := b) Ds _ ⟨hn.2, fun E hE => ?_⟩ h⟩⟩
    have := hm.all E (List.mem_cons_of_mem _ hE)
    exact ⟨this.1, (World.putObj_heap_other (fun e => hn.1 (by rw [← e]; exact hE))).trans this.2⟩

theorem close_below {b : Nat} {w : World} : ∀ (Ds : List Nat) (W : World), (∀ D ∈ Ds, b ≤ D) → Below b w W → Below b w (closeM W Ds)
  | [], _, _, h => h
  | D :: Ds, W, hm, h => by
    refine close_below Ds _ (fun E hE => hm E (List.mem_cons_of_mem _ hE)) (h.trans ⟨rfl, rfl, rfl, by simp, fun k hk => World.putObj_heap_other ?_⟩)
    have := hm D List.mem_cons_self
    omega

theorem close_cells {b : Nat} : ∀ (Ds : List Nat) (W : World), MarksOk b W Ds → ∀ (k : Nat) (c : Array Value) (t : TypeId) (z : Nat × Nat), W.heap[k]? = some (.cells c t z) → (closeM W Ds).heap[k]? = some (.cells c t z)
  | [], _, _, k, c, t, z, h => h
  | D :: Ds, W, hm, k, c, t, z, h => by
    have hn := List.nodup_cons.1 hm.once
    have hD := (hm.all D List.mem_cons_self).2
    refine close_cells (b := b) Ds _ ⟨hn.2, fun E hE => ?_⟩ k c t z ((World.putObj_heap_other (fun e => ?_)).trans h)
    · have := hm.all E (List.mem_cons_of_mem _ hE)
      exact ⟨this.1, (World.putObj_heap_other (fun e => hn.1 (by rw [← e]; exact hE))).trans this.2⟩
    · rw [e, hD] at h; cases h

def isC (w : World) (b : Nat) : Prop := ∃ c t z, w.heap[b]? = some (.cells c t z)
/-- Data of which the blocks that are cells are enough. -/
class Shr (α : Type) [Own α] : Prop where
  shr : ∀ {S : Nat → Prop} {w : World} {a : α} {c : Nat → Value}, Own.On S w a c → Own.On (fun b => S b ∧ isC w b) w a c
instance : Shr ByteArray := ⟨fun h => h⟩
instance : Shr Int := ⟨fun h => h⟩
instance {α β : Type} [Own α] [Own β] [Shr α] [Shr β] : Shr (α × β) := ⟨fun ⟨_, _, h1, h2, ha, hb⟩ => ⟨_, _, fun b hb => ⟨⟨(h1 b hb.1).1, hb.2⟩, fun h => (h1 b hb.1).2 h.1⟩, fun b hb => ⟨h2 b hb.1, hb.2⟩, Shr.shr ha, Shr.shr hb⟩⟩
theorem OnL.shr {α : Type} [Own α] [Shr α] {S : Nat → Prop} {w : World} {l : List α} {v : Value} (h : OnL S w l v) : OnL (fun b => S b ∧ isC w b) w l v := by
  obtain ⟨oa, cap, hv, hn, h⟩ := h
  refine ⟨oa, cap, hv, hn, h.imp id ?_⟩
  rintro ⟨g, off, Ss, cur, t, ho, f, hf, h⟩
  exact ⟨g, off, fun i b => Ss i b ∧ isC w b, cur, t, ho, f, hf, ⟨h.row, ⟨h.own, _, _, _, h.row⟩, fun i b hb => ⟨⟨(h.sub i b hb.1).1, hb.2⟩, (h.sub i b hb.1).2⟩, fun i j b h1 h2 => h.dis i j b h1.1 h2.1, fun i hi => by
    obtain ⟨c, h1, h2⟩ := h.el i hi
    exact ⟨c, h1, Shr.shr h2⟩⟩⟩
instance {α : Type} [Own α] [Shr α] : Shr (List α) := ⟨fun {_ _ _ c} h => OnL.shr (v := c 0) h⟩
theorem on_close {α : Type} [Own α] [Shr α] {b : Nat} {S : Nat → Prop} {W : World} {l : List α} {v : Value} {Ds : List Nat} (h : OnL S W l v) (hm : MarksOk b W Ds) : OnL S (closeM W Ds) l v :=
  (h.shr.same (fun b hb => by obtain ⟨c, t, z, hc⟩ := hb.2; exact (close_cells Ds W hm b c t z hc).trans hc.symm)).up (fun b hb => hb.1)
theorem close_size (W : World) (Ds : List Nat) : (closeM W Ds).heap.size = W.heap.size := by
  induction Ds generalizing W with
  | nil => rfl
  | cons D Ds ih => rw [closeM, ih]; simp

/-- What a station is asked, by the plant's order. -/
def tkU (us : List DClaimUse) (pre : List (ByteArray × Int × ByteArray)) : List DClaimUse := pre.flatMap fun y => takU y.1 us
def tkV (l pre : List ByteArray) : List ByteArray := pre.flatMap fun x => takV x l
theorem tkU_snoc (us : List DClaimUse) (pre : List (ByteArray × Int × ByteArray)) (y : ByteArray × Int × ByteArray) : tkU us (pre ++ [y]) = tkU us pre ++ takU y.1 us := by simp [tkU]
theorem tkV_snoc (l pre : List ByteArray) (x : ByteArray) : tkV l (pre ++ [x]) = tkV l pre ++ takV x l := by simp [tkV]
theorem tkU_len (us : List DClaimUse) : ∀ pre : List (ByteArray × Int × ByteArray), (tkU us pre).length ≤ pre.length * us.length
  | [] => by simp [tkU]
  | y :: pre => by
    have h1 := tkU_len us pre
    have h2 := takU_len y.1 us
    have e : tkU us (y :: pre) = takU y.1 us ++ tkU us pre := rfl
    rw [e, List.length_append, List.length_cons, Nat.add_mul]
    omega
theorem takV_len (x : ByteArray) (l : List ByteArray) : (takV x l).length ≤ 1 := by unfold takV; cases hasL l x <;> simp
theorem tkV_len (l : List ByteArray) : ∀ pre : List ByteArray, (tkV l pre).length ≤ pre.length
  | [] => by simp [tkV]
  | x :: pre => by
    have h1 := tkV_len l pre
    have h2 := takV_len x l
    have e : tkV l (x :: pre) = takV x l ++ tkV l pre := rfl
    rw [e, List.length_append, List.length_cons]
    omega
def shD (D : PD) (st : ByteArray) (a : DClaimWant) : DClaimWant := (a.1, a.2.1, a.2.2.1, tkU a.2.2.2.1 (plA D st D.np), tkV a.2.2.2.2.1 (vlA D st D.nv), tkV a.2.2.2.2.2 (vlA D st D.nv))
def shrL (D : PD) (a : DClaimWant) (l : List ByteArray) : List DCtlAsk := (l.filter fun st => decide (0 < askN (shD D st a))).map fun st => (st, shD D st a)
theorem shrL_yes {D : PD} {a : DClaimWant} {l : List ByteArray} {y : ByteArray} (h : 0 < askN (shD D y a)) : shrL D a (l ++ [y]) = shrL D a l ++ [(y, shD D y a)] := by simp [shrL, List.filter_append, h]
theorem shrL_no {D : PD} {a : DClaimWant} {l : List ByteArray} {y : ByteArray} (h : ¬ 0 < askN (shD D y a)) : shrL D a (l ++ [y]) = shrL D a l := by simp [shrL, List.filter_append, h]
theorem shrL_len (D : PD) (a : DClaimWant) (l : List ByteArray) : (shrL D a l).length ≤ l.length := by
  unfold shrL
  rw [List.length_map]
  exact List.length_filter_le _ _

theorem tkV_ok {D : PD} (hV : D.V) {l : List ByteArray} {st x : ByteArray} (h : x ∈ tkV l (vlA D st D.nv)) : OkS x := by
  obtain ⟨y, hy, hx⟩ := List.mem_flatMap.1 h
  have e : x = y := by
    unfold takV at hx
    cases e : hasL l y
    · rw [e] at hx; exact nomatch hx
    · rw [e] at hx; exact List.mem_singleton.1 hx
  subst e
  obtain ⟨i, hi, rfl⟩ := List.mem_map.1 hy
  have := name_size (hV.2.2.2 i (List.mem_range.1 (List.mem_filter.1 hi).1)).1
  show _ ≤ maxLen
  unfold maxLen; omega

variable {bf : Value → Value → Value → Array Value} {tb : TypeId} {gx n0 : Nat} {u : List DClaimUse} {o s : List ByteArray} {vu vo vs : Value} {A C U X : World}
theorem Stp.grown (hbf : BF bf) (h : Bx bf tb gx n0 u o s vu vo vs A) (k : Stp gx tb U A) {row : Option Nat} (hg : A.grownBy C row) (hr : ∀ r, row = some r → U.heap.size ≤ r ∧ ∃ o : Obj, A.heap[r]? = some o ∧ o.isCells = false) : Stp gx tb U C :=
  ⟨⟨hg.os.trans k.but.os, hg.tape.trans k.but.tape, hg.output.trans k.but.output, Nat.le_trans k.but.size hg.size, fun b hb hn => (hg.block b (Nat.lt_of_lt_of_le hb k.but.size) (fun e => by have := (hr b e.symm).1; omega)).trans (k.but.block b hb hn)⟩, fun i hi => k.own i ((h.st hbf).2 C row hg (fun r e => (hr r e).2) i hi)⟩
/-- A builder's lists, and a list that was there ahead of it, are a want. -/
theorem want_on {T : Nat} {t : List ByteArray} {vt : Value} {num kind : Int} (hn : OkI num) (hk : OkI kind) (h : Bx bf tb gx n0 u o s vu vo vs X) (hst : X.ownsRow T 9 1 vt t.length (enc 1 eS t)) (ht : ∀ g, vt.ownBlock = some g → g < n0) (hT : T ≤ n0)
    (okt : ∀ x ∈ t, OkS x) (oku : ∀ x ∈ u, OkS x.1 ∧ OkI x.2.1 ∧ OkI x.2.2) (oko : ∀ x ∈ o, OkS x) (oks : ∀ x ∈ s, OkS x) : Own.On (fun b => T ≤ b ∧ b < X.heap.size) X ((num, kind, t, u, o, s) : DClaimWant) (cs [.int .i64 num, .int .i64 kind, vt, vu, vo, vs]) := by
  refine on_DClaimWant.2 ⟨fun _ => False, fun b => T ≤ b ∧ b < X.heap.size, fun _ h => h.elim, fun b hb => hb, ⟨rfl, hn⟩, fun _ => False, fun b => T ≤ b ∧ b < X.heap.size, fun _ h => h.elim, fun b hb => hb, ⟨rfl, hk⟩, fun b => vt.ownBlock = some b, fun b => n0 ≤ b ∧ b < X.heap.size, fun b hb => ?_, fun b hb => ⟨by omega, hb.2⟩, onS_row hst (fun g hg => hg) okt,
    fun b => vu.ownBlock = some b, fun b => vo.ownBlock = some b ∨ vs.ownBlock = some b, fun b hb => ?_, fun b hb => ?_, onU_row h.ru (fun g hg => hg) oku, fun b => vo.ownBlock = some b, fun b => vs.ownBlock = some b, fun b hb => ⟨.inl hb, fun hs => h.sep b hb hs⟩, fun b hb => .inr hb, onS_row h.ro (fun g hg => hg) oko, onS_row h.rs (fun g hg => hg) oks⟩
  · have h1 := World.ownsRow.lt hst b hb
    have h2 := ht b hb
    exact ⟨h1, fun h3 => by omega⟩
  · refine ⟨World.ownsRow.lt h.ru b hb, fun h3 => ?_⟩
    rcases h3 with h3 | h3
    · exact rows_neB h.ru h.ro (by decide) b hb h3
    · exact rows_neB h.ru h.rs (by decide) b hb h3
  · rcases hb with hb | hb
    · exact World.ownsRow.lt h.ro b hb
    · exact World.ownsRow.lt h.rs b hb

end Go.Proofs.YtndacfockllehaaGreat

/-
  The uses of a route's places, as data.
-/
namespace Go.Proofs.YtndacfockllehaaGreat
open Go.RowKit

/-- The use of the place i of a route of m places. -/
def usI (m : Nat) (P : Nat → ByteArray) (am : Int) (i : Nat) : DClaimUse := (P i, if i = 0 then 1 else if i + 1 = m then 2 else 3, if i = 0 ∨ i + 1 = m then am else 0)
def usR (m : Nat) (P : Nat → ByteArray) (am : Int) (k : Nat) : List DClaimUse := (List.range k).map (usI m P am)
theorem usR_succ (m : Nat) (P : Nat → ByteArray) (am : Int) (k : Nat) : usR m P am (k + 1) = usR m P am k ++ [usI m P am k] := by simp [usR, List.range_succ]
theorem usR_len (m : Nat) (P : Nat → ByteArray) (am : Int) (k : Nat) : (usR m P am k).length = k := by simp [usR]
theorem usI_first {m : Nat} (P : Nat → ByteArray) (am : Int) : usI m P am 0 = (P 0, 1, am) := by simp [usI]
theorem usI_mid {m : Nat} (P : Nat → ByteArray) (am : Int) {i : Nat} (h0 : 0 < i) (h1 : i + 1 < m) : usI m P am i = (P i, 3, 0) := by
  have e0 : ¬ i = 0 := by omega
  have e1 : ¬ i + 1 = m := by omega
  simp [usI, e0, e1]
theorem usI_last {m : Nat} (P : Nat → ByteArray) (am : Int) {i : Nat} (h0 : 0 < i) (h1 : i + 1 = m) : usI m P am i = (P i, 2, am) := by
  have e0 : ¬ i = 0 := by omega
  simp [usI, e0, h1]

end Go.Proofs.YtndacfockllehaaGreat
