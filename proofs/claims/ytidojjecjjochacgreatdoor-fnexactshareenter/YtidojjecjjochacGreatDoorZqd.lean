/-
  One batch taken out of a list of batches of the call's own: the library's slices.Delete.
-/
import Derived.Test.YtidojjecjjochacGreatDoorM21
import Derived.Test.YtidojjecjjochacGreatDoorEt
import Derived.Shelf.RegionOpenPlain
import Derived.Lib.Walk
import Derived.Lib.SliceRun
namespace Go.Proofs.YtidojjecjjochacGreatDoor
open Go.RowKit

theorem run_append_room_k {P : Program} (w : World) (t ty e : TypeId) (i : TypeInfo) (K : Nat) (ht : P.underlying t = some (.slice e)) (hi : P.info? e = some i) (hs : i.size = K)
    (g n cap : Nat) (a : Addr) (m c : Nat) (cur : Array Value) (et : TypeId) (news : List Value) (hg : w.heap[g]? = some (.cells cur et (0, 0))) (hl : news.length = m * K) (hsrc : ∀ j u, news[j]? = some u → w.cell? (a.add j) = some u) (h1 : ∀ u ∈ news, u.oneCell' = true)
    (hroom : n + m ≤ cap) (hfit : n * K + news.length ≤ cur.size) :
    (Builtin.append_ #[t, t] ty #[.slice (some ⟨g, 0, none⟩) n cap, .slice (some a) m c]).run P w = .ok (.slice (some ⟨g, 0, none⟩) (n + m) cap) (w.setRow g (cur.toList.take (n * K) ++ news ++ cur.toList.drop (n * K + news.length)).toArray) := by
  subst hs
  have hfc := run_firstCells_some (P := P) w i.size m a m c news hl hsrc
  have hst := run_storeCells_at P g (n * i.size) et news 0 cur w hg (by simpa using hfit) h1
  simp only [Nat.add_zero] at hst
  simp [Builtin.append_, run_underlying ht, sizeOf, typeInfo, hi, Builtin.lenOf, hroom, hfc, Addr.add_lit, hst]
theorem wp_append_k {P : Program} (w : World) {o : Oper} {a : Act} {K : Act → World → Prop} {Q : Exit → Act → World → Prop} (d s : Operand) (t t' : TypeId)
    (ho : o.op = .call { callee := .builtin .append, args := #[d, s], argTypes := #[t, t'] }) (v u : Value) (hd : a.eval d = v) (hs : a.eval s = u) {v' : Value} {w' : World}
    (hr : (Builtin.append_ #[t, t'] o.type #[v, u]).run P w = .ok v' w') (h : K (a.put o.dst v') w') : o.wp P a w K Q := by
  unfold Oper.wp execOp
  simp only [ho, resolve, invoke, builtin, Sem.run_bind, Sem.run_pure, Result.andThen_ok, List.map_toArray, List.map_cons, List.map_nil, hd, hs, hr]
  exact h
theorem step_append_k {P : Program} {ops : Array Oper} {o : Oper} {a : Act} {w : World} {K : Act → World → Prop} {Q : Exit → Act → World → Prop} {E : Prop}
    (hg : o.guard = none) (d x : Operand) (dT sT : TypeId) (hop : o.op = Op.call { callee := Callee.builtin Builtin.append, args := #[d, x], argTypes := #[dT, sT] })
    (v u : Value) (hd : a.eval d = v) (hx : a.eval x = u) {v' : Value} {w' : World} (hr : (Builtin.append_ #[dT, sT] o.type #[v, u]).run P w = .ok v' w') (hK : K (a.put o.dst v') w') :
    if Region.wanted o (yielded ops a.tmps) = true then Oper.wp P o a w K Q else E := by
  have hw : Region.wanted o (yielded ops a.tmps) = true := by simp [Region.wanted, hg]
  rw [if_pos hw]
  exact wp_append_k w d x dT sT hop v u hd hx hr hK
/-- 'clear(s)' on elements of whatever size. -/
theorem run_clear_k {P : Program} (w : World) (t e ty : TypeId) (z : Value) (ht : P.underlying t = some (.slice e)) (hv : ∀ w, (zeroValue e).run P w = .ok z w) (g o n c : Nat) (hn : 0 < n) (cur : Array Value) (et : TypeId) (hg : w.heap[g]? = some (.cells cur et (0, 0))) (zs : List Value) (hz : (Builtin.zeroCells z.cells n).toList = zs) (hfit : o + zs.length ≤ cur.size) (h1 : ∀ u ∈ zs, u.oneCell' = true) :
    (Builtin.clear_ #[t] ty #[.slice (some ⟨g, o, none⟩) n c]).run P w = .ok (.tuple #[]) (w.setRow g (cur.toList.take o ++ zs ++ cur.toList.drop (o + zs.length)).toArray) := by
  have hst := run_storeCells_at P g o et zs 0 cur w hg (by simpa using hfit) h1
  simp only [Nat.add_zero] at hst
  obtain ⟨m, rfl⟩ : ∃ m, n = m + 1 := ⟨n - 1, by omega⟩
  simp [Builtin.clear_, run_underlying ht, hv, hz, hst]

set_option maxRecDepth 100000 in
set_option maxHeartbeats 8000000 in
theorem delB_any (g cap n i : Nat) (cur : Array Value) (xs : List Value) (w : World) (hg : w.heap[g]? = some (.cells cur 45 (0, 0))) (hc : cur.size = cap * 3) (hxs : cur.toList.take (n * 3) = xs) (hxl : xs.length = n * 3) (hi : i < n) (hnc : n ≤ cap) (h1c : ∀ u ∈ xs, u.oneCell' = true) :
    Calls Tryz.prog 67 #[.slice (some ⟨g, 0, none⟩) n cap, .int .i64 i, .int .i64 ((i : Int) + 1)] w fun e w' => e = .returned (.slice (some ⟨g, 0, none⟩) (n - 1) cap) ∧ ∃ R : Array Value, w'.heap[g]? = some (.cells R 45 (0, 0)) ∧ R.size = cap * 3 ∧ R.toList.take ((n - 1) * 3) = xs.take (i * 3) ++ xs.drop ((i + 1) * 3) ∧ w.grownBy w' (some g) := by
  obtain ⟨i0, z0, hi0, hz0, hzs, hzb, _⟩ := elB.info
  have hzv : ∀ w, (zeroValue 45).run Tryz.prog w = .ok (.agg #[.string ByteArray.empty, .slice none 0 0, .slice none 0 0]) w := fun w => by kernel_rfl
  have hadd : ∀ (b o j : Nat), (⟨b, o, none⟩ : Addr).add j = ⟨b, o + j, none⟩ := fun b o j => by unfold Addr.add; split <;> simp_all
  have hcell : ∀ j v, xs[j]? = some v → w.cell? ⟨g, j, none⟩ = some v := fun j v hj => by
    rw [← hxs, List.getElem?_take] at hj
    split at hj
    · simp [World.cell?, hg]; simpa using hj
    · cases hj
  have hD : (xs.drop ((i + 1) * 3)).length = (n - (i + 1)) * 3 := by rw [List.length_drop, hxl, Nat.sub_mul]
  obtain ⟨A, hA, hsrc⟩ : ∃ A : Addr, (if cap = i + 1 then some (⟨g, 0, none⟩ : Addr) else some ⟨g, (i + 1) * 3, none⟩) = some A ∧ Hid (∀ t u, (xs.drop ((i + 1) * 3))[t]? = some u → w.drew.cell? (A.add t) = some u) := by
    by_cases h : cap = i + 1
    · refine ⟨⟨g, 0, none⟩, by simp [h], fun t u hu => ?_⟩
      have h0 : (xs.drop ((i + 1) * 3)).length = 0 := by rw [hD]; omega
      rw [List.length_eq_zero_iff.1 h0] at hu
      simp at hu
    · refine ⟨⟨g, (i + 1) * 3, none⟩, by simp [h], fun t u hu => ?_⟩
      rw [hadd]
      exact hcell _ u (by rw [List.getElem?_drop] at hu; exact hu)
  obtain ⟨c1, ec1⟩ : ∃ c1 : Array Value, c1 = (cur.toList.take (i * 3) ++ xs.drop ((i + 1) * 3) ++ cur.toList.drop (i * 3 + (xs.drop ((i + 1) * 3)).length)).toArray := ⟨_, rfl⟩
  have hc1 : c1.size = cap * 3 := by rw [ec1, List.size_toArray, List.length_append, List.length_append, hD, List.length_take, List.length_drop, Array.length_toList, hc]; omega
  have happ : ∀ ty, (Builtin.append_ #[28, 28] ty #[.slice (some ⟨g, 0, none⟩) i cap, .slice (some A) (n - (i + 1)) (cap - (i + 1))]).run Tryz.prog w.drew = .ok (.slice (some ⟨g, 0, none⟩) (n - 1) cap) (w.drew.setRow g c1) := fun ty => by
    have h := run_append_room_k w.drew 28 ty 45 i0 3 elB.ht hi0 hzs g i cap A (n - (i + 1)) (cap - (i + 1)) cur 45 (xs.drop ((i + 1) * 3)) hg hD hsrc.out (fun u hu => h1c u (List.mem_of_mem_drop hu)) (by omega) (by rw [hD, hc]; omega)
    rw [← ec1, show i + (n - (i + 1)) = n - 1 by omega] at h
    exact h
  obtain ⟨W1, hW1⟩ : ∃ W1, W1 = w.drew.setRow g c1 := ⟨_, rfl⟩
  have hgW : W1.heap[g]? = some (.cells c1 45 (0, 0)) := by rw [hW1]; exact setRow_heap w.drew g cur c1 _ _ hg
  rw [← hW1] at happ
  obtain ⟨R, eR⟩ : ∃ R : Array Value, R = (c1.toList.take ((n - 1) * 3) ++ ([.string ByteArray.empty, .slice none 0 0, .slice none 0 0] : List Value) ++ c1.toList.drop ((n - 1) * 3 + 3)).toArray := ⟨_, rfl⟩
  have hcl : ∀ ty, (Builtin.clear_ #[28] ty #[.slice (some ⟨g, (n - 1) * 3, none⟩) (n - (n - 1)) (cap - (n - 1))]).run Tryz.prog W1 = .ok (.tuple #[]) (W1.setRow g R) := fun ty => by
    have h := run_clear_k W1 28 45 ty _ elB.ht hzv g ((n - 1) * 3) (n - (n - 1)) (cap - (n - 1)) (by omega) c1 _ hgW [.string ByteArray.empty, .slice none 0 0, .slice none 0 0] (by rw [show n - (n - 1) = 1 by omega]; kernel_rfl) (by rw [hc1]; simp; omega) (by intro u hu; simp at hu; rcases hu with rfl | rfl <;> rfl)
    rw [show ((n - 1) * 3 + ([Value.string ByteArray.empty, .slice none 0 0, .slice none 0 0] : List Value).length) = (n - 1) * 3 + 3 from rfl, ← eR] at h
    exact h
  have hT : (cur.toList.take (i * 3)) = xs.take (i * 3) := by rw [← hxs, List.take_take, Nat.min_eq_left (by omega)]
  have hTl : (xs.take (i * 3)).length = i * 3 := by rw [List.length_take, hxl]; omega
  have hfin : R.size = cap * 3 ∧ R.toList.take ((n - 1) * 3) = xs.take (i * 3) ++ xs.drop ((i + 1) * 3) := by
    constructor
    · rw [eR, List.size_toArray, List.length_append, List.length_append, List.length_take, List.length_drop, Array.length_toList, hc1]; simp; omega
    · rw [eR]
      simp only [List.append_assoc]
      rw [List.take_append_of_le_length (by rw [List.length_take, Array.length_toList, hc1]; omega), List.take_take, Nat.min_self, ec1]
      simp only [hT]
      rw [List.take_append_of_le_length (by rw [List.length_append, hTl, hD]; omega), List.take_of_length_le (by rw [List.length_append, hTl, hD]; omega)]
  have mixed : Tryz.prog.follows .mixedOrders = true := by kernel_rfl
  have hz2 : ¬ ((i : Int) = (i : Int) + 1) := by omega
  have hb1 : (0 : Int) ≤ (i : Int) + 1 := by omega
  have hb2 : (i : Int) + 1 ≤ (n : Int) := by omega
  have hb3 : (i : Int) + 1 ≤ (cap : Int) := by omega
  have htn : ((i : Int) + 1).toNat = i + 1 := by omega
  have hic : i ≤ cap := by omega
  have hjc : i + 1 ≤ cap := by omega
  have hb4 : ¬ (cap = n - 1) := by omega
  have hb5 : n - 1 ≤ n := by omega
  have hb6 : n - 1 ≤ cap := by omega
  have HF : Hid _ := hfin
  have HG : Hid (w.heap[g]? = some (.cells cur 45 (0, 0))) := hg
  have HW : Hid (W1 = w.drew.setRow g c1) := hW1
  clear hfin eR ec1 hcell hD hc1 hg hc hxs hxl hW1 hgW hT hTl hsrc
  go_enter Tryz.func67, Tryz.ntmps67
  go_wp2_with fail
  go_region_law_o (refine step_append_k rfl (.tmp 22) (.tmp 25) 28 28 rfl _ _ (by simp [Act.eval, Act.put]) (by simp [Act.eval, Act.put]) (happ _) ?_)
  go_wp2
  go_ret
  refine ⟨rfl, R, ?_, HF.out.1, HF.out.2, ?_⟩
  · rw [HW.out, setRow_setRow]; exact setRow_heap w.drew g cur R _ _ HG.out
  · rw [HW.out]
    exact ⟨rfl, rfl, rfl, Nat.le_of_eq (by rw [setRow_size, setRow_size]; rfl), fun q hq hne => by
      rw [setRow_setRow, setRow_other w.drew g q R (fun e => hne (by rw [e]))]; rfl⟩

end Go.Proofs.YtidojjecjjochacGreatDoor
