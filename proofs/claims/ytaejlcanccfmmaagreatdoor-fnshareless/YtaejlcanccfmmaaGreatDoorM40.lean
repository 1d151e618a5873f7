/-
  Several texts in one.
-/
import Derived.Test.YtaejlcanccfmmaaGreatDoorM36
import Derived.Test.YtaejlcanccfmmaaGreatDoorM39
import Derived.Shelf.RegionOpenPlain
import Derived.Lib.Walk
import Derived.Lib.SliceRun
import Derived.Test.YtaejlcanccfmmaaGreatDoorZrs
import Derived.Test.YtaejlcanccfmmaaGreatDoorM16
import Derived.Test.YtaejlcanccfmmaaGreatDoorM1
namespace Go.Proofs.YtaejlcanccfmmaaGreatDoor
open Go.RowKit
theorem run_append_room_k {P : Program} (w : World) (t ty e : TypeId) (i : TypeInfo) (K : Nat) (ht : P.underlying t = some (.slice e)) (hi : P.info? e = some i) (hs : i.size = K)
    (g n cap : Nat) (a : Addr) (m c : Nat) (cur : Array Value) (et : TypeId) (news : List Value) (hg : w.heap[g]? = some (.cells cur et (0, 0))) (hl : news.length = m * K) (hsrc : ∀ j u, news[j]? = some u → w.cell? (a.add j) = some u) (h1 : ∀ u ∈ news, u.oneCell' = true)
    (hroom : n + m ≤ cap) (hfit : n * K + news.length ≤ cur.size) :
    (Builtin.append_ #[t, t] ty #[.slice (some ⟨g, 0, none⟩) n cap, .slice (some a) m c]).run P w = .ok (.slice (some ⟨g, 0, none⟩) (n + m) cap) (w.setRow g (cur.toList.take (n * K) ++ news ++ cur.toList.drop (n * K + news.length)).toArray) := by
  subst hs
  have hfc := run_firstCells_some (P := P) w i.size m a m c news hl hsrc
  have hst := run_storeCells_at P g (n * i.size) et news 0 cur w hg (by simpa using hfit) h1
  simp only [Nat.add_zero] at hst
  simp [Builtin.append_, run_underlying ht, sizeOf, typeInfo, hi, Builtin.lenOf, hroom, hfc, Addr.add_lit, hst]
theorem wp_append_k {P : Program} (w : World) {o : Oper} {a : Act} {K : Act → World → Prop} {Q : Exit → Act → World → Prop} (d s : Operand) (t t' : TypeId)
    (ho : o.op = .call { callee := .builtin .append, args := #[d, s], argTypes := #[t, t'] }) (v u : Value) (hd : a.eval d = v) (hs : a.eval s = u) {v' : Value} {w' : World}
    (hr : (Builtin.append_ #[t, t'] o.type #[v, u]).run P w = .ok v' w') (h : K (a.put o.dst v') w') : o.wp P a w K Q := by
  unfold Oper.wp execOp
  simp only [ho, resolve, invoke, builtin, Sem.run_bind, Sem.run_pure, Result.andThen_ok, List.map_toArray, List.map_cons, List.map_nil, hd, hs, hr]
  exact h
theorem step_append_k {P : Program} {ops : Array Oper} {o : Oper} {a : Act} {w : World} {K : Act → World → Prop} {Q : Exit → Act → World → Prop} {E : Prop}
    (hg : o.guard = none) (d x : Operand) (dT sT : TypeId) (hop : o.op = Op.call { callee := Callee.builtin Builtin.append, args := #[d, x], argTypes := #[dT, sT] })
    (v u : Value) (hd : a.eval d = v) (hx : a.eval x = u) {v' : Value} {w' : World} (hr : (Builtin.append_ #[dT, sT] o.type #[v, u]).run P w = .ok v' w') (hK : K (a.put o.dst v') w') :
    if Region.wanted o (yielded ops a.tmps) = true then Oper.wp P o a w K Q else E := by
  have hw : Region.wanted o (yielded ops a.tmps) = true := by simp [Region.wanted, hg]
  rw [if_pos hw]
  exact wp_append_k w d x dT sT hop v u hd hx hr hK
theorem run_clear_k {P : Program} (w : World) (t e ty : TypeId) (z : Value) (ht : P.underlying t = some (.slice e)) (hv : ∀ w, (zeroValue e).run P w = .ok z w) (g o n c : Nat) (hn : 0 < n) (cur : Array Value) (et : TypeId) (hg : w.heap[g]? = some (.cells cur et (0, 0))) (zs : List Value) (hz : (Builtin.zeroCells z.cells n).toList = zs) (hfit : o + zs.length ≤ cur.size) (h1 : ∀ u ∈ zs, u.oneCell' = true) :
    (Builtin.clear_ #[t] ty #[.slice (some ⟨g, o, none⟩) n c]).run P w = .ok (.tuple #[]) (w.setRow g (cur.toList.take o ++ zs ++ cur.toList.drop (o + zs.length)).toArray) := by
  have hst := run_storeCells_at P g o et zs 0 cur w hg (by simpa using hfit) h1
  simp only [Nat.add_zero] at hst
  obtain ⟨m, rfl⟩ : ∃ m, n = m + 1 := ⟨n - 1, by omega⟩
  simp [Builtin.clear_, run_underlying ht, hv, hz, hst]
set_option maxRecDepth 100000 in
set_option maxHeartbeats 8000000 in
theorem delB_any (g cap n i : Nat) (cur : Array Value) (xs : List Value) (w : World) (hg : w.heap[g]? = some (.cells cur 43 (0, 0))) (hc : cur.size = cap * 3) (hxs : cur.toList.take (n * 3) = xs) (hxl : xs.length = n * 3) (hi : i < n) (hnc : n ≤ cap) (h1c : ∀ u ∈ xs, u.oneCell' = true) :
    Calls Tryz.prog 81 #[.slice (some ⟨g, 0, none⟩) n cap, .int .i64 i, .int .i64 ((i : Int) + 1)] w fun e w' => e = .returned (.slice (some ⟨g, 0, none⟩) (n - 1) cap) ∧ ∃ R : Array Value, w'.heap[g]? = some (.cells R 43 (0, 0)) ∧ R.size = cap * 3 ∧ R.toList.take ((n - 1) * 3) = xs.take (i * 3) ++ xs.drop ((i + 1) * 3) ∧ w.grownBy w' (some g) := by
  obtain ⟨i0, z0, hi0, hz0, hzs, hzb, _⟩ := elB.info
  have hzv : ∀ w, (zeroValue 43).run Tryz.prog w = .ok (.agg #[.string ByteArray.empty, .slice none 0 0, .slice none 0 0]) w := fun w => by kernel_rfl
  have hadd : ∀ (b o j : Nat), (⟨b, o, none⟩ : Addr).add j = ⟨b, o + j, none⟩ := fun b o j => by unfold Addr.add; split <;> simp_all
  have hcell : ∀ j v, xs[j]? = some v → w.cell? ⟨g, j, none⟩ = some v := fun j v hj => by
    rw [← hxs, List.getElem?_take] at hj
    split at hj
    · simp [World.cell?, hg]; simpa using hj
    · cases hj
  have hD : (xs.drop ((i + 1) * 3)).length = (n - (i + 1)) * 3 := by rw [List.length_drop, hxl, Nat.sub_mul]
  obtain ⟨A, hA, hsrc⟩ : ∃ A : Addr, (if cap = i + 1 then some (⟨g, 0, none⟩ : Addr) else some ⟨g, (i + 1) * 3, none⟩) = some A ∧ Hid (∀ t u, (xs.drop ((i + 1) * 3))[t]? = some u → w.drew.cell? (A.add t) = some u) := by
    by_cases h : cap = i + 1
    · refine ⟨⟨g, 0, none⟩, by simp [h], fun t u hu => ?_⟩
      have h0 : (xs.drop ((i + 1) * 3)).length = 0 := by rw [hD]; omega
      rw [List.length_eq_zero_iff.1 h0] at hu
      simp at hu
    · refine ⟨⟨g, (i + 1) * 3, none⟩, by simp [h], fun t u hu => ?_⟩
      rw [hadd]
      exact hcell _ u (by rw [List.getElem?_drop] at hu; exact hu)
  obtain ⟨c1, ec1⟩ : ∃ c1 : Array Value, c1 = (cur.toList.take (i * 3) ++ xs.drop ((i + 1) * 3) ++ cur.toList.drop (i * 3 + (xs.drop ((i + 1) * 3)).length)).toArray := ⟨_, rfl⟩
  have hc1 : c1.size = cap * 3 := by rw [ec1, List.size_toArray, List.length_append, List.length_append, hD, List.length_take, List.length_drop, Array.length_toList, hc]; omega
  have happ : ∀ ty, (Builtin.append_ #[24, 24] ty #[.slice (some ⟨g, 0, none⟩) i cap, .slice (some A) (n - (i + 1)) (cap - (i + 1))]).run Tryz.prog w.drew = .ok (.slice (some ⟨g, 0, none⟩) (n - 1) cap) (w.drew.setRow g c1) := fun ty => by
    have h := run_append_room_k w.drew 24 ty 43 i0 3 elB.ht hi0 hzs g i cap A (n - (i + 1)) (cap - (i + 1)) cur 43 (xs.drop ((i + 1) * 3)) hg hD hsrc.out (fun u hu => h1c u (List.mem_of_mem_drop hu)) (by omega) (by rw [hD, hc]; omega)
    rw [← ec1, show i + (n - (i + 1)) = n - 1 by omega] at h
    exact h
  obtain ⟨W1, hW1⟩ : ∃ W1, W1 = w.drew.setRow g c1 := ⟨_, rfl⟩
  have hgW : W1.heap[g]? = some (.cells c1 43 (0, 0)) := by rw [hW1]; exact setRow_heap w.drew g cur c1 _ _ hg
  rw [← hW1] at happ
  obtain ⟨R, eR⟩ : ∃ R : Array Value, R = (c1.toList.take ((n - 1) * 3) ++ ([.string ByteArray.empty, .slice none 0 0, .slice none 0 0] : List Value) ++ c1.toList.drop ((n - 1) * 3 + 3)).toArray := ⟨_, rfl⟩
  have hcl : ∀ ty, (Builtin.clear_ #[24] ty #[.slice (some ⟨g, (n - 1) * 3, none⟩) (n - (n - 1)) (cap - (n - 1))]).run Tryz.prog W1 = .ok (.tuple #[]) (W1.setRow g R) := fun ty => by
    have h := run_clear_k W1 24 43 ty _ elB.ht hzv g ((n - 1) * 3) (n - (n - 1)) (cap - (n - 1)) (by omega) c1 _ hgW [.string ByteArray.empty, .slice none 0 0, .slice none 0 0] (by rw [show n - (n - 1) = 1 by omega]; kernel_rfl) (by rw [hc1]; simp; omega) (by intro u hu; simp at hu; rcases hu with rfl | rfl <;> rfl)
    rw [show ((n - 1) * 3 + ([Value.string ByteArray.empty, .slice none 0 0, .slice none 0 0] : List Value).length) = (n - 1) * 3 + 3 from rfl, ← eR] at h
    exact h
  have hT : (cur.toList.take (i * 3)) = xs.take (i * 3) := by rw [← hxs, List.take_take, Nat.min_eq_left (by omega)]
  have hTl : (xs.take (i * 3)).length = i * 3 := by rw [List.length_take, hxl]; omega
  have hfin : R.size = cap * 3 ∧ R.toList.take ((n - 1) * 3) = xs.take (i * 3) ++ xs.drop ((i + 1) * 3) := by
    constructor
    · rw [eR, List.size_toArray, List.length_append, List.length_append, List.length_take, List.length_drop, Array.length_toList, hc1]; simp; omega
    · rw [eR]
      simp only [List.append_assoc]
      rw [List.take_append_of_le_length (by rw [List.length_take, Array.length_toList, hc1]; omega), List.take_take, Nat.min_self, ec1]
      simp only [hT]
      rw [List.take_append_of_le_length (by rw [List.length_append, hTl, hD]; omega), List.take_of_length_le (by rw [List.length_append, hTl, hD]; omega)]
  have mixed : Tryz.prog.follows .mixedOrders = true := by kernel_rfl
  have hz2 : ¬ ((i : Int) = (i : Int) + 1) := by omega
  have hb1 : (0 : Int) ≤ (i : Int) + 1 := by omega
  have hb2 : (i : Int) + 1 ≤ (n : Int) := by omega
  have hb3 : (i : Int) + 1 ≤ (cap : Int) := by omega
  have htn : ((i : Int) + 1).toNat = i + 1 := by omega
  have hic : i ≤ cap := by omega
  have hjc : i + 1 ≤ cap := by omega
  have hb4 : ¬ (cap = n - 1) := by omega
  have hb5 : n - 1 ≤ n := by omega
  have hb6 : n - 1 ≤ cap := by omega
  have HF : Hid _ := hfin
  have HG : Hid (w.heap[g]? = some (.cells cur 43 (0, 0))) := hg
  have HW : Hid (W1 = w.drew.setRow g c1) := hW1
  clear hfin eR ec1 hcell hD hc1 hg hc hxs hxl hW1 hgW hT hTl hsrc
  go_enter Tryz.func81, Tryz.ntmps81
  go_wp2_with fail
  go_region_law_o (refine step_append_k rfl (.tmp 22) (.tmp 25) 24 24 rfl _ _ (by simp [Act.eval, Act.put]) (by simp [Act.eval, Act.put]) (happ _) ?_)
  go_wp2
  go_ret
  refine ⟨rfl, R, ?_, HF.out.1, HF.out.2, ?_⟩
  · rw [HW.out, setRow_setRow]; exact setRow_heap w.drew g cur R _ _ HG.out
  · rw [HW.out]
    exact ⟨rfl, rfl, rfl, Nat.le_of_eq (by rw [setRow_size, setRow_size]; rfl), fun q hq hne => by
      rw [setRow_setRow, setRow_other w.drew g q R (fun e => hne (by rw [e]))]; rfl⟩
end Go.Proofs.YtaejlcanccfmmaaGreatDoor

namespace Go.Proofs.YtaejlcanccfmmaaGreatDoor
open Go.RowKit Go.Sort
theorem eH_one (L : List HB) (h : ∀ x ∈ L, ∃ a b c a' b' c', x.2.1.1 = .slice a b c ∧ x.2.2.1 = .slice a' b' c') : ∀ u ∈ enc 3 eH L, u.oneCell' = true := fun u hu => by
  obtain ⟨x, hx, j, hj, rfl⟩ := enc_mem hu
  obtain ⟨a, b, c, a', b', c', e1, e2⟩ := h x hx
  match j, hj with
  | 0, _ => rfl
  | 1, _ => show x.2.1.1.oneCell' = true; rw [e1]; rfl
  | 2, _ => show x.2.2.1.oneCell' = true; rw [e2]; rfl
theorem BsO.one {B : Nat} {w : World} {v1 : Value} {L : List HB} (h : BsO B w v1 L) : ∀ u ∈ enc 3 eH L, u.oneCell' = true :=
  eH_one L fun x hx => by
    obtain ⟨a, b, e1⟩ := Row.form (h.el x hx).h
    obtain ⟨a', b', e2⟩ := Row.form (h.el x hx).n
    exact ⟨_, _, _, _, _, _, e1, e2⟩
theorem tyK_ne {w : World} {g : Nat} {c c' : Array Value} (h : w.heap[g]? = some (.cells c 26 (0, 0))) (h' : w.heap[g]? = some (.cells c' 43 (0, 0))) : False := by
  rw [h] at h'
  injection h' with h1
  injection h1 with _ h2
  revert h2
  decide
theorem tyKS_ne {w : World} {g : Nat} {c c' : Array Value} (h : w.heap[g]? = some (.cells c 26 (0, 0))) (h' : w.heap[g]? = some (.cells c' 9 (0, 0))) : False := by
  rw [h] at h'
  injection h' with h1
  injection h1 with _ h2
  revert h2
  decide
theorem PkO.turn {B gb g : Nat} {w w2 : World} {v0 v1 v' : Value} {T : List ByteArray} {L L' : List HB} (h : PkO B w v0 v1 T L) (hbx : ∃ c, w.heap[gb]? = some (.cells c 26 (0, 0))) (hgt : ∃ c, w.heap[g]? = some (.cells c 43 (0, 0))) (hk : ∀ b, b < w.heap.size → b ≠ g → b ≠ gb → w2.heap[b]? = w.heap[b]?) (hr : Row w2 B 43 3 eH v' L') (hs : L'.Sublist L) : PkO B w2 v0 v' T L' := by
  obtain ⟨cb, hbx⟩ := hbx
  obtain ⟨cg, hgt⟩ := hgt
  have kp : ∀ (q : Nat) (c : Array Value), w.heap[q]? = some (.cells c 9 (0, 0)) → w2.heap[q]? = w.heap[q]? := fun q c hc => hk q (Array.getElem?_eq_some_iff.1 hc).1 (fun e => by subst e; exact tyS_ne hc hgt) (fun e => by subst e; exact tyKS_ne hbx hc)
  refine ⟨strRow_kept h.th kp, h.zt, ⟨hr, fun x hx => ((h.bs.el x (hs.subset hx)).kept kp)⟩, ?_⟩
  exact h.nd.sublist (List.Sublist.append (List.Sublist.refl _) (hdB_sub hs))
set_option maxRecDepth 100000 in
set_option maxHeartbeats 8000000 in
theorem letLv_any (B gb q : Nat) (v0 v1 : Value) (T : List ByteArray) (L : List HB) (x : ByteArray) (w : World) (hbx : w.heap[gb]? = some (.cells #[v0, v1] 26 (0, 0))) (hp : PkO B w v0 v1 T L) (hgb : B ≤ gb) (hq : atZI (L.map dH) x = (q : Int)) (hql : q < L.length) (hL : L.length ≤ 64) :
    Calls Tryz.prog 53 #[.pointer (some ⟨gb, 0, none⟩), .agg #[.string x]] w fun e w' => e = .returned (.tuple #[]) ∧ ∃ v1', w'.heap[gb]? = some (.cells #[v0, v1'] 26 (0, 0)) ∧ PkO B w' v0 v1' T (L.take q ++ L.drop (q + 1)) ∧ Below B w w' := by
  have hro := hp.bs.ro
  obtain ⟨o0, k0, rfl⟩ := Row.form hp.th
  rcases hro.2 with ⟨_, h0⟩ | ⟨g, cap, cur, rfl, hbg, hg, hnc, hm, hcs, hxs⟩
  · omega
  have hgl := (Array.getElem?_eq_some_iff.1 hg).1
  have hbl := (Array.getElem?_eq_some_iff.1 hbx).1
  have hne : gb ≠ g := fun e => by subst e; exact tyK_ne hbx hg
  obtain ⟨n, en⟩ : ∃ n, L.length = n := ⟨_, rfl⟩
  obtain ⟨nt, ent⟩ : ∃ n, T.length = n := ⟨_, rfl⟩
  have HXL : Hid ((enc 3 eH L).length = n * 3) := by show _ = _; rw [enc_len, en]
  rw [en] at hql hL hnc hxs hbx hp hro
  rw [ent] at hbx hp
  rw [ent]
  obtain ⟨W, EW, BW, RX, -⟩ := box_new w #[.string x] 49
  have HP : Hid (PkO B w (.slice o0 nt k0) (.slice (some ⟨g, 0, none⟩) n cap) T L) := hp
  have HBX : Hid (w.heap[gb]? = some (.cells #[.slice o0 nt k0, .slice (some ⟨g, 0, none⟩) n cap] 26 (0, 0))) := hbx
  have HG : Hid (w.heap[g]? = some (.cells cur 43 (0, 0))) := hg
  have HAT : Hid (∀ u, Below w.heap.size w u → AtL (fun b => b < w.heap.size) u (L.map dH) (.slice (some ⟨g, 0, none⟩) n cap)) := fun u hu => (hp.at_.2.up (fun b hb => hb.2)).same (Same.of_below hu (fun b hb => hb))
  have HEN : Hid (L.length = n) := en
  have HQ : Hid (idxI (L.map dH) (fun p : DShareBatch => eqB p.1 x) = (q : Int)) := hq
  have HXS : Hid (cur.toList.take (n * 3) = enc 3 eH L) := hxs
  have HON : Hid (∀ u ∈ enc 3 eH L, u.oneCell' = true) := hp.bs.one
  have HM : Hid (cap ≤ maxLen) := hm
  have HCS : Hid (cur.size = cap * 3) := hcs
  have HB : Hid (B ≤ g ∧ B ≤ gb) := ⟨hbg, hgb⟩
  clear hp hbx hg hq hxs hro hm en ent hcs hbg hgb
  have RB := (BW.out.block gb hbl).trans HBX.out
  have z0 := (cell_row RB 0 (.slice o0 nt k0) rfl).1
  have z1 := (cell_row RB 1 (.slice (some ⟨g, 0, none⟩) n cap) rfl).1
  have z2 := (cell_row RX.out 0 (.string x) rfl).1
  have q0 := fun d os => cell_regrown z0 d os
  have q1 := fun d os => cell_regrown z1 d os
  have q2 := fun d os => cell_regrown z2 d os
  go_enter Tryz.func53, Tryz.ntmps53
  go_upto_region 1 with fail
  rw [← EW.out]
  refine wp_region_head_tail 5 (by kernel_rfl) (by kernel_rfl) ?_
  simp only [List.take_succ_cons, List.take_zero, List.drop_succ_cons, List.drop_zero]
  repeat (first | go_big_quiet_step (fail) | quiet_step (fail))
  refine wpQuiet_nil ?_
  intro _ hw'
  obtain ⟨⟨dq, osq⟩, hw''⟩ := hw'
  subst hw''
  have HU0 : Hid (Below W.heap.size W (grow (redrawn W dq) osq)) := below_regrown W dq osq
  generalize grow (redrawn W dq) osq = u at HU0 ⊢
  have HU : Hid (Below w.heap.size w u) := BW.out.trans (HU0.out.mono BW.out.size)
  clear q0 q1 q2 z0 z1 z2 RB HU0 RX BW EW
  go_wp2_with fail
  refine (batchAtI_any (fun b => b < w.heap.size) _ _ (L.map dH) x u (HAT.out u HU.out) (fun b hb => Nat.lt_of_lt_of_le hb HU.out.size)).mono ?_
  rintro e w1 ⟨rfl, hb1⟩
  rw [HQ.out]
  have HW1 : Hid (Below w.heap.size w w1) := HU.out.trans (hb1.mono HU.out.size)
  clear hb1 HU HAT
  have RB := (HW1.out.block gb hbl).trans HBX.out
  have z1 := (cell_row RB 1 (.slice (some ⟨g, 0, none⟩) n cap) rfl).1
  go_wp2_with fail
  refine (delB_any g cap n q cur (enc 3 eH L) w1 ((HW1.out.block g hgl).trans HG.out) HCS.out HXS.out HXL.out hql hnc HON.out).mono ?_
  rintro e w2 ⟨rfl, R, hR, hRs, hRt, hgr⟩
  have HR : Hid (w2.heap[g]? = some (.cells R 43 (0, 0)) ∧ R.size = cap * 3 ∧ R.toList.take ((n - 1) * 3) = (enc 3 eH L).take (q * 3) ++ (enc 3 eH L).drop ((q + 1) * 3)) := ⟨hR, hRs, hRt⟩
  have HGR : Hid (w1.grownBy w2 (some g)) := hgr
  have RB2 : Hid (w2.heap[gb]? = some (.cells #[.slice o0 nt k0, .slice (some ⟨g, 0, none⟩) n cap] 26 (0, 0))) := (hgr.block gb (Nat.lt_of_lt_of_le hbl HW1.out.size) (fun e => hne (by injection e))).trans RB
  clear hR hRs hRt hgr RB z1
  obtain ⟨z1, f1⟩ := cell_row RB2.out 1 (.slice (some ⟨g, 0, none⟩) n cap) rfl
  go_wp2_with fail
  go_end0
  have b12 : Below B w w2 := ((HW1.out.mono (Nat.le_trans HB.out.1 (Nat.le_of_lt hgl))).grown HGR.out (Nat.le_trans (Nat.le_trans HB.out.1 (Nat.le_of_lt hgl)) HW1.out.size) (fun p hp => by injection hp with h; subst h; exact HB.out.1))
  refine ⟨rfl, .slice (some ⟨g, 0, none⟩) (n - 1) cap, by rw [set_row RB2.out 1 _]; rfl, ?_, b12.setCell (p := ⟨gb, 1, none⟩) HB.out.2 _⟩
  have hlen : (L.take q ++ L.drop (q + 1)).length = n - 1 := by have := HEN.out; rw [List.length_append, List.length_take, List.length_drop]; omega
  refine HP.out.turn (gb := gb) (g := g) ⟨_, HBX.out⟩ ⟨_, HG.out⟩ (fun b hb h1 h2 => ?_) ?_ ?_
  · exact (Below.heap_setCell _ _ _ _ (show b ≠ gb from h2)).trans ((HGR.out.block b (Nat.lt_of_lt_of_le hb HW1.out.size) (fun e => h1 (by injection e))).trans (HW1.out.block b hb))
  · refine ⟨by rw [enc_len], .inr ⟨g, cap, R, by rw [hlen], HB.out.1, (Below.heap_setCell _ _ _ _ (show g ≠ gb from fun e => hne e.symm)).trans HR.out.1, by rw [hlen]; omega, HM.out, HR.out.2.1, ?_⟩⟩
    rw [hlen, HR.out.2.2, enc_append, enc_take, enc_drop]
  · have : (L.take q ++ L.drop (q + 1)).Sublist (L.take q ++ L.drop q) := List.Sublist.append (List.Sublist.refl _) (by rw [← List.drop_drop]; exact List.drop_sublist _ _)
    rwa [List.take_append_drop] at this
end Go.Proofs.YtaejlcanccfmmaaGreatDoor

namespace Go.Proofs.YtaejlcanccfmmaaGreatDoor
open Go.RowKit Go.Sort
def lvC (Bs : List DShareBatch) (x : ByteArray) : Int := if atZI Bs x < 0 then 3 else 0
theorem lvC_yes {Bs : List DShareBatch} {x : ByteArray} (h : atZI Bs x < 0) : lvC Bs x = 3 := by unfold lvC; rw [if_pos h]
theorem lvC_no {Bs : List DShareBatch} {x : ByteArray} (h : ¬ atZI Bs x < 0) : lvC Bs x = 0 := by unfold lvC; rw [if_neg h]
def lvR (D : DShareBook) (x : ByteArray) : DShareBook := if atZI D.2 x < 0 then D else (D.1, D.2.take (atZI D.2 x).toNat ++ D.2.drop ((atZI D.2 x).toNat + 1))
theorem lev_is (D : DShareBook) (x : ByteArray) : (if bokB D = true then lvR D x else ([], [])) = (levS D x).1 ∧ (if bokB D = true then lvC D.2 x else 1) = (levS D x).2 := by
  unfold levS lvR lvC
  by_cases h : bokB D = true
  · simp only [if_pos h]
    by_cases h2 : atZI D.2 x < 0
    · simp only [if_pos h2]; exact ⟨trivial, trivial⟩
    · simp only [if_neg h2]; exact ⟨trivial, trivial⟩
  · simp only [if_neg h]; exact ⟨trivial, trivial⟩
set_option maxRecDepth 100000 in
set_option maxHeartbeats 4000000 in
theorem refLv_any (S : Nat → Prop) (Bs : List DShareBatch) (o0 oa : Option Addr) (n0 k0 nb kb : Nat) (x : ByteArray) (w : World) (h1 : AtL S w Bs (.slice oa nb kb)) (hS : ∀ b, S b → b < w.heap.size) :
    Calls Tryz.prog 140 #[.agg #[.string x], .agg #[.slice o0 n0 k0, .slice oa nb kb]] w fun e w' => e = .returned (errW x (lvC Bs x)) ∧ Below w.heap.size w w' := by
  have H : Hid (∀ o1 o2, AtL S ((w.alloc o1).alloc o2) Bs (.slice oa nb kb)) := fun o1 o2 => h1.same (Same.of_below (((Below.refl _ _).alloc (Nat.le_refl _) o1).alloc (by simp) o2) hS)
  have HS : Hid (∀ o1 o2 b, S b → b < ((w.alloc o1).alloc o2).heap.size) := fun o1 o2 b hb => by have := hS b hb; simp; omega
  have BW : Hid (∀ o1 o2, Below w.heap.size w ((w.alloc o1).alloc o2)) := fun o1 o2 => ((Below.refl _ _).alloc (Nat.le_refl _) _).alloc (by simp) _
  have BS : Hid (∀ o1 o2, ((w.alloc o1).alloc o2).heap.size = w.heap.size + 2 ∧ ((w.alloc o1).alloc o2).heap[w.heap.size]? = some o1) := fun o1 o2 => ⟨by simp, (Below.heap_alloc _ _ _ (by simp)).trans (heap_alloc_new w _)⟩
  clear h1 hS
  obtain ⟨RV, eRV⟩ : ∃ v, errW x (lvC Bs x) = v := ⟨_, rfl⟩
  rw [eRV]
  have ERV : Hid (errW x (lvC Bs x) = RV) := eRV
  clear eRV
  go_enter Tryz.func140, Tryz.ntmps140
  go_wp2_with fail
  refine (batchAtI_any S _ _ Bs x _ (H.out _ _) (HS.out _ _)).mono ?_
  rintro e w1 ⟨rfl, hb1⟩
  have B1 : Hid (Below w.heap.size w w1) := (BW.out _ _).trans (hb1.mono (by rw [(BS.out _ _).1]; omega))
  have X1 : Hid (w1.heap[w.heap.size]? = some (.cells #[.string x] 49 (0, 0))) := (hb1.block _ (by rw [(BS.out _ _).1]; omega)).trans (BS.out _ _).2
  clear hb1
  have y0 := (cell_row X1.out 0 (.string x) rfl).1
  obtain ⟨i, ei⟩ : ∃ i, idxI Bs (fun p : DShareBatch => eqB p.1 x) = i := ⟨_, rfl⟩
  have EI : Hid (atZI Bs x = i) := ei
  rw [ei]
  clear ei
  by_cases hi : i < 0
  · have e3 : errW x (lvC Bs x) = refV x 3 := by rw [lvC_yes (by rw [EI.out]; exact hi), errW_yes x (by decide)]; rfl
    have E3 : Hid (RV = refV x 3) := ERV.out.symm.trans e3
    clear e3
    go_wp2_with (first
      | (go_at_call 139; refine (refused_any _ _ _).mono ?_; rintro e w2 ⟨rfl, rfl⟩))
    go_ret
    exact ⟨by rw [E3.out]; rfl, B1.out⟩
  · have e3 : errW x (lvC Bs x) = .nilIface := by rw [lvC_no (by rw [EI.out]; exact hi), errW_no]
    have E3 : Hid (RV = .nilIface) := ERV.out.symm.trans e3
    clear e3
    go_wp2_with fail
    go_ret
    exact ⟨by rw [E3.out]; rfl, B1.out⟩
theorem levP_any (S : Nat → Prop) (T : List ByteArray) (Bs : List DShareBatch) (o0 oa : Option Addr) (n0 k0 nb kb : Nat) (x : ByteArray) (w : World) (h0 : AtL S w T (.slice o0 n0 k0)) (h1 : AtL S w Bs (.slice oa nb kb)) (hS : ∀ b, S b → b < w.heap.size) (hl : Laid0 w) :
    Calls Tryz.prog 9 #[.agg #[.slice o0 n0 k0, .slice oa nb kb], .string x] w (AnsW w (levS (T, Bs) x).1 (levS (T, Bs) x).2) := by
  rw [← (lev_is (T, Bs) x).1, ← (lev_is (T, Bs) x).2]
  refine topW_L x _ _ o0 oa n0 k0 nb kb w fun u hu => ?_
  have h0u := h0.same (Same.of_below hu hS)
  have h1u := h1.same (Same.of_below hu hS)
  have hSu : ∀ b, S b → b < u.heap.size := fun b hb => Nat.lt_of_lt_of_le (hS b hb) hu.size
  refine ansW_L x (lvC Bs x) (lvR (T, Bs) x) S T Bs o0 oa n0 k0 nb kb u h0u h1u hSu (hl.below hu) (fun _ v hv => ?_) (fun hok hc v hv => ?_) (fun hc => ?_)
  · exact refLv_any S Bs o0 oa n0 k0 nb kb x v (h1u.same (Same.of_below hv hSu)) (fun b hb => Nat.lt_of_lt_of_le (hSu b hb) hv.size)
  · have hsm := bok_small (bok_iff.1 hok)
    have hn : ¬ atZI Bs x < 0 := fun h => by rw [lvC_yes h] at hc; exact absurd hc (by decide)
    obtain ⟨q, eq, hq⟩ := at_lt hn
    refine behW_L x (lvR (T, Bs) x) S T Bs o0 oa n0 k0 nb kb v (h0u.same (Same.of_below hv hSu)) (h1u.same (Same.of_below hv hSu)) (fun b hb => Nat.lt_of_lt_of_le (hSu b hb) hv.size) hsm.1 (fun B gb v0 v1 L z _ _ hgb hbx hp hm => ?_)
    have hlen : L.length = Bs.length := by rw [← hm, List.length_map]
    refine (letLv_any B gb q v0 v1 T L x z hbx hp hgb (by rw [hm]; exact eq) (by omega) (by have := hsm.2.2; simp only at this; omega)).mono ?_
    rintro e w' ⟨he, v1', hb', hp', hbe⟩
    refine ⟨he, v0, v1', L.take q ++ L.drop (q + 1), hb', ?_, ?_, hbe⟩
    · unfold lvR
      rw [if_neg hn]
      exact hp'
    · unfold lvR
      rw [if_neg hn, eq, Int.toNat_natCast]
      simp only
      rw [List.map_append, List.map_take, List.map_drop, hm]
  · have hn : atZI Bs x < 0 := by
      by_cases h : atZI Bs x < 0
      · exact h
      · exact absurd (lvC_no h) hc
    unfold lvR
    rw [if_pos hn]
end Go.Proofs.YtaejlcanccfmmaaGreatDoor
