/-
  Several texts in one.
-/
import Derived.Test.YtffmfomonmhkcabGreatBs
import Derived.Test.YtffmfomonmhkcabGreatM39
import Derived.Test.YtffmfomonmhkcabGreatM38
import Derived.Test.YtffmfomonmhkcabGreatM6
import Derived.Test.YtffmfomonmhkcabGreatM13
import Derived.Deep.Cut
import Derived.Test.YtffmfomonmhkcabGreatM16
import Derived.Test.YtffmfomonmhkcabGreatM32
/-
  A contract of the program's CtlRouteAsks.
-/
namespace Go.Proofs.YtffmfomonmhkcabGreat
open Go.RowKit

attribute [local go_sem] Oper.semAt_some
theorem none_onA {S : Nat → Prop} {w : World} : OnL S w ([] : List DCtlAsk) (.slice none 0 0) := ⟨none, 0, rfl, ⟨Nat.zero_le _, Nat.le_refl 0, fun _ => rfl⟩, .inl rfl⟩
set_option maxRecDepth 100000 in
set_option maxHeartbeats 16000000 in
theorem routeAsksI_any (B : Nat) (S : Nat → Prop) (v0 v1 v2 v3 : Value) (D : PD) (num am : Int) (op ov : Option Addr) (m k cm ck : Nat) (P Q : Nat → ByteArray) (ts : List ByteArray) (vt : Value) (w : World) (h : PAt B w v0 v1 v2 v3 D) (hP : Lst B w (.slice op m cm) m 1 (cS P)) (hQ : Lst B w (.slice ov k ck) k 1 (cS Q)) (hB : B ≤ w.heap.size) (hz : D.Sz) (hcm : m ≤ cm)
    (ht : AtL S w ts vt) (hS : ∀ b, S b → b < w.heap.size) (hl : ts.length ≤ 1048576) (hs : ∀ x ∈ ts, x.size ≤ 1048576) (hn : OkI num) (ha : OkI am) (hsl : D.V → (stnL D).length ≤ 1048576) :
    Calls Tryz.prog 11 #[.agg #[v0, v1, v2, v3], .int .i64 num, .agg #[.slice op m cm, .slice ov k ck], vt, .int .i64 am] w fun e w' => RaE D num am m P k Q ts (fun b => w.heap.size ≤ b ∧ b < w'.heap.size) w' e ∧ Below w.heap.size w w' := by
  have H : Hid (∀ w', Below w.heap.size w w' → PAt B w' v0 v1 v2 v3 D ∧ Lst B w' (.slice op m cm) m 1 (cS P) ∧ Lst B w' (.slice ov k ck) k 1 (cS Q)) := fun w' hb => ⟨h.kept hb hB, hP.kept hb hB, hQ.kept hb hB⟩
  have HT : Hid (∀ w', Below w.heap.size w w' → AtL S w' ts vt) := fun w' hb => ht.same (Same.of_below hb hS)
  have HS : Hid (∀ x ∈ ts, x.size ≤ 1048576) := hs
  obtain ⟨ot, ct, et, hx⟩ := id ht
  subst et
  clear h hP hQ ht hx hs
  obtain ⟨W, hW⟩ : ∃ W, W = (w.alloc (.cells #[v0, v1, v2, v3] 39)).alloc (.cells #[.slice op m cm, .slice ov k ck] 41) := ⟨_, rfl⟩
  have EW : Hid (W = (w.alloc (.cells #[v0, v1, v2, v3] 39)).alloc (.cells #[.slice op m cm, .slice ov k ck] 41)) := hW
  have BW : Hid (Below w.heap.size w W) := by rw [hW]; exact ((Below.refl _ _).alloc (Nat.le_refl _) _).alloc (by simp) _
  have sW : W.heap.size ≤ w.heap.size + 1 + 1 ∧ w.heap.size + 1 + 1 ≤ W.heap.size := by rw [hW]; simp
  have X0 : Hid (W.heap[w.heap.size]? = some (.cells #[v0, v1, v2, v3] 39 (0, 0))) := by rw [hW]; exact (Below.heap_alloc _ _ _ (by simp)).trans (heap_alloc_new w _)
  have R0 : Hid (W.heap[w.heap.size + 1]? = some (.cells #[.slice op m cm, .slice ov k ck] 41 (0, 0))) := by rw [hW]; have := heap_alloc_new (w.alloc (.cells #[v0, v1, v2, v3] 39)) (.cells #[.slice op m cm, .slice ov k ck] 41); rw [World.size_alloc] at this; exact this
  clear hW
  have y0 := (cell_row X0.out 0 (v0) rfl).1
  have y1 := (cell_row X0.out 1 (v1) rfl).1
  have y2 := (cell_row X0.out 2 (v2) rfl).1
  have y3 := (cell_row X0.out 3 (v3) rfl).1
  have z0 := (cell_row R0.out 0 (.slice op m cm) rfl).1
  have z1 := (cell_row R0.out 1 (.slice ov k ck) rfl).1
  have HVA : Hid (Calls Tryz.prog 33 #[.agg #[v0, v1, v2, v3]] W fun e w' => ∃ b, e = .returned (.bool b) ∧ (b = true ↔ D.V) ∧ Below W.heap.size W w') := validI_any B _ _ _ _ D W (H.out W BW.out).1 (by have := BW.out.size; omega) hz
  have HRO : Hid (∀ w', Below w.heap.size w w' → Calls Tryz.prog 34 #[.agg #[v0, v1, v2, v3], .agg #[.slice op m cm, .slice ov k ck]] w' fun e w'' => ∃ b, e = .returned (.bool b) ∧ (b = true ↔ RI D m P k Q) ∧ Below w'.heap.size w' w'') := fun w' hb => isRoute_any B v0 v1 v2 v3 D op ov m k cm ck P Q w' (H.out w' hb).1 (H.out w' hb).2.1 (H.out w' hb).2.2 (Nat.le_trans hB hb.size) hcm
  go_enter Tryz.func11, Tryz.ntmps11
  go_upto_region 1 with fail
  rw [← EW.out]
  go_wp2_with fail
  refine (HVA.out).mono ?_
  rintro e w1 ⟨b, rfl, is, hb1⟩
  have IS : Hid _ := is
  have B1 : Hid (Below w.heap.size w w1) := BW.out.trans (hb1.mono BW.out.size)
  have X1 : Hid (w1.heap[w.heap.size]? = some (.cells #[v0, v1, v2, v3] 39 (0, 0))) := box_stable hb1 X0.out
  have R1 : Hid (w1.heap[w.heap.size + 1]? = some (.cells #[.slice op m cm, .slice ov k ck] 41 (0, 0))) := box_stable hb1 R0.out
  clear is hb1 y0 y1 y2 y3 z0 z1
  cases b
  · go_wp2_with fail
    go_ret
    exact ⟨⟨_, [], rfl, ⟨fun h => absurd (IS.out.2 h.1) (by decide), fun _ => rfl⟩, none_onA⟩, B1.out⟩
  have HV : Hid D.V := IS.out.1 rfl
  have HI1 : Hid _ := HRO.out w1 B1.out
  have y0 := (cell_row X1.out 0 (v0) rfl).1
  have y1 := (cell_row X1.out 1 (v1) rfl).1
  have y2 := (cell_row X1.out 2 (v2) rfl).1
  have y3 := (cell_row X1.out 3 (v3) rfl).1
  have z0 := (cell_row R1.out 0 (.slice op m cm) rfl).1
  have z1 := (cell_row R1.out 1 (.slice ov k ck) rfl).1
  go_wp2_with fail
  refine Calls.mono HI1.out ?_
  rintro e w2 ⟨b, rfl, is, hb2⟩
  have IT : Hid (b = true ↔ RS D m P k Q) := is.trans (RI_iff HV.out m P k Q)
  have B2 : Hid (Below w.heap.size w w2) := B1.out.trans (hb2.mono B1.out.size)
  have X2 : Hid (w2.heap[w.heap.size]? = some (.cells #[v0, v1, v2, v3] 39 (0, 0))) := box_stable hb2 X1.out
  have R2 : Hid (w2.heap[w.heap.size + 1]? = some (.cells #[.slice op m cm, .slice ov k ck] 41 (0, 0))) := box_stable hb2 R1.out
  clear is hb2 y0 y1 y2 y3 z0 z1
  cases b
  · go_wp2_with fail
    go_ret
    exact ⟨⟨_, [], rfl, ⟨fun h => absurd (IT.out.2 h.2) (by decide), fun _ => rfl⟩, none_onA⟩, B2.out⟩
  have y0 := (cell_row X2.out 0 (v0) rfl).1
  have y1 := (cell_row X2.out 1 (v1) rfl).1
  have y2 := (cell_row X2.out 2 (v2) rfl).1
  have y3 := (cell_row X2.out 3 (v3) rfl).1
  have z0 := (cell_row R2.out 0 (.slice op m cm) rfl).1
  have z1 := (cell_row R2.out 1 (.slice ov k ck) rfl).1
  have HR : Hid (RS D m P k Q) := IT.out.1 rfl
  go_upto_region 3 with fail
  have q0 := fun d os => cell_regrown y0 d os
  have q1 := fun d os => cell_regrown y1 d os
  have q2 := fun d os => cell_regrown y2 d os
  have q3 := fun d os => cell_regrown y3 d os
  have r0 := fun d os => cell_regrown z0 d os
  have r1 := fun d os => cell_regrown z1 d os
  have hdr : Hid (Below w2.heap.size w2 w2.drew) := (Below.refl _ _).drew
  have BD : Hid (Below w.heap.size w w2.drew) := B2.out.trans (hdr.out.mono B2.out.size)
  have hm2 : 2 ≤ m := HR.out.1.1
  have hm14 : m ≤ 14 := Nat.le_trans (rt_len HR.out) HV.out.2.1.1
  have hkm : k + 1 ≤ m := by have := HR.out.1.2; omega
  have HZP : Hid (∀ i, i < m → (P i).size ≤ 1048576) := fun i hi => by
    obtain ⟨a, ha, e⟩ := rt_place HR.out hi
    rw [← e]
    have := name_size (HV.out.2.1.2 a ha).1
    omega
  have HZQ : Hid (∀ i, i < k → (Q i).size ≤ 1048576) := fun i hi => by
    obtain ⟨a, ha, e⟩ := rt_valve HR.out hi
    rw [← e]
    have := name_size (HV.out.2.2.2 a ha).1
    omega
  refine wp_region_mix 8 [0, 1, 2, 3, 4, 5] (by kernel_rfl) (by kernel_rfl) ?_
  simp only [List.filterMap_cons, List.filterMap_nil, List.getElem?_cons_succ, List.getElem?_cons_zero]
  repeat (first | go_big_quiet_step (fail) | quiet_step (fail))
  refine wpQuiet_nil ?_
  clear y0 q0 y1 q1 y2 q2 y3 q3 z0 r0 z1 r1
  refine call1 (md := .any) (f := 1) (i := 6) (dc := 26) (fn := 36) ⟨rfl, rfl, rfl, by decide⟩ (by kernel_rfl) ?run5 ((wantAlong_any B S v0 v1 v2 v3 D num am op ov m k cm ck P Q ts (.slice ot ts.length ct) w2.drew (H.out _ BD.out).1 (H.out _ BD.out).2.1 (H.out _ BD.out).2.2 (Nat.le_trans hB BD.out.size) HV.out hm2 (by omega) (by omega) hcm (HT.out _ BD.out) (fun b hs => Nat.lt_of_lt_of_le (hS b hs) BD.out.size) hl HS.out HZP.out HZQ.out).mono ?_)
  case run5 => go_simp
  rintro e w3 ⟨r2, k2, r3, k3, r4, k4, r5, k5, rfl, K2, K3, K4, K5, hb3⟩
  have B3 : Hid (Below w2.heap.size w2 w3) := hdr.out.trans (hb3.mono hdr.out.size)
  have BW3 : Hid (Below w.heap.size w w3) := B2.out.trans (B3.out.mono B2.out.size)
  refine ⟨_, rfl, regrown_of_below B3.out, ?_⟩
  simp only [Act.put, List.setIfInBounds_toArray, List.set_cons_zero, List.set_cons_succ]
  have A2 : AtL (fun b => b < w3.heap.size) w3 ts (.slice r2 ts.length k2) := (onS_row (l := ts) K2 (fun g hg => (World.ownsRow.lt K2 g hg).2) (fun x hx => by have := HS.out x hx; show x.size ≤ maxLen; unfold maxLen; omega)).at_
  have A3 : AtL (fun b => b < w3.heap.size) w3 (usR m P am m) (.slice r3 (usR m P am m).length k3) := by
    have e : (usR m P am m).length = m := usR_len _ _ _ _
    rw [e]
    exact (onU_row (l := usR m P am m) (by show World.ownsRow _ _ _ _ _ _ _; rw [e]; exact K3) (fun g hg => (World.ownsRow.lt K3 g hg).2) (fun x hx => by
      obtain ⟨j, hj, rfl⟩ := List.mem_map.1 hx
      exact ⟨by have := HZP.out j (List.mem_range.1 hj); show (P j).size ≤ maxLen; unfold maxLen; omega, usI_ok ha j⟩)).at_
  have A4 : AtL (fun b => b < w3.heap.size) w3 ((List.range k).map Q) (.slice r4 ((List.range k).map Q).length k4) := by
    have e : ((List.range k).map Q).length = k := by simp
    rw [e]
    exact (onS_row (l := (List.range k).map Q) (by show World.ownsRow _ _ _ _ _ _ _; rw [e]; exact K4) (fun g hg => (World.ownsRow.lt K4 g hg).2) (fun x hx => by
      obtain ⟨j, hj, rfl⟩ := List.mem_map.1 hx
      have := HZQ.out j (List.mem_range.1 hj)
      show _ ≤ maxLen
      unfold maxLen; omega)).at_
  have A5 : AtL (fun b => b < w3.heap.size) w3 (gdN D m P k Q D.nv) (.slice r5 (gdN D m P k Q D.nv).length k5) := (onS_row K5 (fun g hg => (World.ownsRow.lt K5 g hg).2) (fun x hx => by
      obtain ⟨i, hi, rfl⟩ := List.mem_map.1 hx
      have := name_size (HV.out.2.2.2 i (List.mem_range.1 (List.mem_filter.1 hi).1)).1
      show _ ≤ maxLen
      unfold maxLen; omega)).at_
  have SO : Hid _ := shareOut_any B (fun b => b < w3.heap.size) v0 v1 v2 v3 D num 1 ts ((List.range k).map Q) (gdN D m P k Q D.nv) (usR m P am m) r2 r3 r4 r5 k2 k3 k4 k5 w3 (H.out w3 BW3.out).1 (Nat.le_trans hB BW3.out.size) HV.out A2 A3 A4 A5 (fun _ h => h) hn ⟨by decide, by decide⟩ hl (by rw [usR_len]; omega) HS.out (fun x hx => by
      obtain ⟨j, hj, rfl⟩ := List.mem_map.1 hx
      exact ⟨HZP.out j (List.mem_range.1 hj), usI_ok ha j⟩) (hsl HV.out)
  have eul : (usR m P am m).length = m := usR_len _ _ _ _
  have eql : ((List.range k).map Q).length = k := by simp
  rw [eul, eql] at SO
  clear eul eql A2 A3 A4 A5 K2 K3 K4 K5
  refine call1 (md := .any) (f := 0) (i := 7) (dc := 27) (fn := 35) ⟨rfl, rfl, rfl, by decide⟩ (by kernel_rfl) ?run6 (Calls.mono SO.out ?_)
  case run6 => go_simp
  rintro e w4 ⟨rv, rfl, hon, hb4⟩
  rw [share_sameR HV.out HR.out num am ts] at hon
  have B4 : Hid (Below w2.heap.size w2 w4) := B3.out.trans (hb4.mono B3.out.size)
  have BW4 : Hid (Below w.heap.size w w4) := B2.out.trans (B4.out.mono B2.out.size)
  have ON : Hid (OnL (fun b => w.heap.size ≤ b ∧ b < w4.heap.size) w4 (askL D (rtD D num am m P k Q ts) (stL true D)) rv) := hon.up (fun b hb => ⟨Nat.le_trans BW3.out.size hb.1, hb.2⟩)
  clear hon hb4
  refine ⟨_, rfl, regrown_of_below B4.out, ?_⟩
  simp only [Act.put, List.setIfInBounds_toArray, List.set_cons_zero, List.set_cons_succ]
  refine ⟨by kernel_rfl, ?_⟩
  simp only [List.drop_succ_cons, List.drop_zero]
  go_wp2_with fail
  go_ret
  exact ⟨⟨_, _, rfl, ⟨fun _ => rfl, fun h => absurd ⟨HV.out, HR.out⟩ h⟩, ON.out⟩, BW4.out⟩

end Go.Proofs.YtffmfomonmhkcabGreat

/-
  What is asked of types whose lists are made.
-/
namespace Go.Proofs.YtffmfomonmhkcabGreat
open Go.RowKit

theorem underStringS : Tryz.prog.underlying 22 = some (.slice 9) := by kernel_rfl
theorem infoStringS : (Tryz.prog.info? 9).map (fun i => (i.zero, i.size, i.bytes)) = some (some (.string ByteArray.empty), 1, 16) := by kernel_rfl
theorem underClaimUseS : Tryz.prog.underlying 58 = some (.slice 62) := by kernel_rfl
theorem infoClaimUseS : (Tryz.prog.info? 62).map (fun i => (i.zero, i.size, i.bytes)) = some (some (.agg #[.string ByteArray.empty, .int .i64 0, .int .i64 0]), 3, 32) := by kernel_rfl

end Go.Proofs.YtffmfomonmhkcabGreat

/-
  Contracts of the laws' own comparing of data that hold the same.
-/
namespace Go.Proofs.YtffmfomonmhkcabGreat
open Go.RowKit

set_option maxRecDepth 100000 in
set_option maxHeartbeats 4000000 in
theorem eqClaimUse_any (S S' : Nat → Prop) (a : DClaimUse) (c c' : Nat → Value) (w : World) (h : Lay.At S w a c) (h' : Lay.At S' w a c') (_hS : ∀ b, S b → b < w.heap.size) (_hS' : ∀ b, S' b → b < w.heap.size) :
    Calls Tryz.prog 128 #[.agg #[c 0, c 1, c 2], .agg #[c' 0, c' 1, c' 2]] w fun e w' => e = .returned (.bool true) ∧ Below w.heap.size w w' := by
  rw [at_DClaimUse] at h
  obtain ⟨⟨ep0, _⟩, ⟨ep1, _, _⟩, ⟨ep2, _, _⟩⟩ := h
  rw [ep0, ep1, ep2]
  clear ep0 ep1 ep2
  rw [at_DClaimUse] at h'
  obtain ⟨⟨eq0, _⟩, ⟨eq1, _, _⟩, ⟨eq2, _, _⟩⟩ := h'
  rw [eq0, eq1, eq2]
  clear eq0 eq1 eq2
  have k0 : Hid (Below w.heap.size w ((w.alloc (.cells #[.string a.1, .int .i64 a.2.1, .int .i64 a.2.2] 62)).alloc (.cells #[.string a.1, .int .i64 a.2.1, .int .i64 a.2.2] 62))) := ((Below.refl _ _).alloc (Nat.le_refl _) _).alloc (by simp) _
  go_enter Tryz.func128, Tryz.ntmps128
  go_wp2
  go_ret
  exact ⟨rfl, k0.out⟩
open Go.Sort in
theorem eqClaimUseq (S S' : Nat → Prop) (a : DClaimUse) (c c' : Nat → Value) (wr : World) (h : Lay.At S wr a c) (h' : Lay.At S' wr a c') (hS : ∀ b, S b → b < wr.heap.size) (hS' : ∀ b, S' b → b < wr.heap.size) (d : Nat) (os : Array Obj) : Calls Tryz.prog 128 #[.agg #[c 0, c 1, c 2], .agg #[c' 0, c' 1, c' 2]] (grow (redrawn wr d) os) fun e w'' => e = .returned (.bool true) ∧ ∃ p : Regrown, w'' = grow (redrawn wr p.d) p.os :=
  Calls.regrown_of (eqClaimUse_any S S' a c c' _ (Lay.same h (Same.of_below (below_regrown wr d os) hS)) (Lay.same h' (Same.of_below (below_regrown wr d os) hS')) (fun b hb => Nat.lt_of_lt_of_le (hS b hb) (below_regrown wr d os).size) (fun b hb => Nat.lt_of_lt_of_le (hS' b hb) (below_regrown wr d os).size))

set_option maxRecDepth 100000 in
set_option maxHeartbeats 4000000 in
theorem eqStringS_any (S S' : Nat → Prop) (l : List ByteArray) (va vb : Value) (w : World) (ha : AtL S w l va) (hb : AtL S' w l vb) (hS : ∀ b, S b → b < w.heap.size) (hS' : ∀ b, S' b → b < w.heap.size) :
    Calls Tryz.prog 15 #[va, vb] w fun e w' => e = .returned (.bool true) ∧ Below w.heap.size w w' := by
  obtain ⟨oa, ca, rfl, hn, hca⟩ := ha
  obtain ⟨ob, cb, rfl, _, hcb⟩ := hb
  obtain ⟨n, en⟩ : ∃ n, l.length = n := ⟨_, rfl⟩
  rw [en] at hn
  rw [en]
  unfold maxLen at hn
  have HA : Hid _ := hca
  have HB : Hid _ := hcb
  clear hca hcb
  go_enter Tryz.func15, Tryz.ntmps15
  go_wp2
  go_loopw [5] (fun i wr => ∃ k : Nat, k ≤ n ∧ i = .int .i64 k ∧ Hid (Below w.heap.size w wr)) (fun i _ => n - (intOf i).toNat)
  case atStart => exact ⟨0, Nat.zero_le _, rfl, Below.refl _ _⟩
  case round =>
    obtain ⟨k, hk, rfl, hbel⟩ := hrel
    have hs := hbel.out.size
    by_cases hlt : k < n
    · obtain ⟨ba, fa, rfl, hba, cc, hxa, hata⟩ := HA.out k (by omega)
      obtain ⟨bb, fb, rfl, hbb, dd, hxb, hatb⟩ := HB.out k (by omega)
      have hba' := hS ba hba
      have hbb' := hS' bb hbb
      rw [width_str] at hxa hxb
      have a0 : wr.cell? ⟨ba, fa + k, none⟩ = some (cc 0) := (hbel.out.cell (p := ⟨ba, fa + k, none⟩) (by show ba < _; omega)).trans (by simpa using hxa 0 (by omega))
      have c0 : wr.cell? ⟨bb, fb + k, none⟩ = some (dd 0) := (hbel.out.cell (p := ⟨bb, fb + k, none⟩) (by show bb < _; omega)).trans (by simpa using hxb 0 (by omega))
      rw [at_str] at hata hatb
      rw [hata.1] at a0
      rw [hatb.1] at c0
      clear hata hatb
      clear hxa hxb
      have qa0 := fun d os => cell_regrown a0 d os
      have qc0 := fun d os => cell_regrown c0 d os
      go_wp2
      refine wp_region_quiet_below (by kernel_rfl) (by kernel_rfl) ?_
      repeat (first | go_big_quiet_step (fail) | quiet_step (fail))
      refine wpQuiet_nil ?_
      intro _ hw'
      obtain ⟨⟨dq, osq⟩, hw''⟩ := hw'
      subst hw''
      go_wp2
      go_roundw
      case rel => exact ⟨k + 1, by omega, by go_num, hbel.out.trans ((below_regrown _ dq osq).mono hs)⟩
      case measure => simp [intOf]; omega
    · go_wp2
      go_ret
      exact ⟨rfl, hbel.out⟩

set_option maxRecDepth 100000 in
set_option maxHeartbeats 4000000 in
theorem eqClaimUseS_any (S S' : Nat → Prop) (l : List DClaimUse) (va vb : Value) (w : World) (ha : AtL S w l va) (hb : AtL S' w l vb) (hS : ∀ b, S b → b < w.heap.size) (hS' : ∀ b, S' b → b < w.heap.size) :
    Calls Tryz.prog 118 #[va, vb] w fun e w' => e = .returned (.bool true) ∧ Below w.heap.size w w' := by
  obtain ⟨oa, ca, rfl, hn, hca⟩ := ha
  obtain ⟨ob, cb, rfl, _, hcb⟩ := hb
  obtain ⟨n, en⟩ : ∃ n, l.length = n := ⟨_, rfl⟩
  rw [en] at hn
  rw [en]
  unfold maxLen at hn
  have HA : Hid _ := hca
  have HB : Hid _ := hcb
  clear hca hcb
  go_enter Tryz.func118, Tryz.ntmps118
  go_wp2
  go_loopw [5] (fun i wr => ∃ k : Nat, k ≤ n ∧ i = .int .i64 k ∧ Hid (Below w.heap.size w wr)) (fun i _ => n - (intOf i).toNat)
  case atStart => exact ⟨0, Nat.zero_le _, rfl, Below.refl _ _⟩
  case round =>
    obtain ⟨k, hk, rfl, hbel⟩ := hrel
    have hs := hbel.out.size
    by_cases hlt : k < n
    · obtain ⟨ba, fa, rfl, hba, cc, hxa, hata⟩ := HA.out k (by omega)
      obtain ⟨bb, fb, rfl, hbb, dd, hxb, hatb⟩ := HB.out k (by omega)
      have hba' := hS ba hba
      have hbb' := hS' bb hbb
      rw [width_DClaimUse] at hxa hxb
      have a0 : wr.cell? ⟨ba, fa + k * 3, none⟩ = some (cc 0) := (hbel.out.cell (p := ⟨ba, fa + k * 3, none⟩) (by show ba < _; omega)).trans (hxa 0 (by omega))
      have a1 : wr.cell? ⟨ba, fa + k * 3 + 1, none⟩ = some (cc 1) := (hbel.out.cell (p := ⟨ba, fa + k * 3 + 1, none⟩) (by show ba < _; omega)).trans (hxa 1 (by omega))
      have a2 : wr.cell? ⟨ba, fa + k * 3 + 2, none⟩ = some (cc 2) := (hbel.out.cell (p := ⟨ba, fa + k * 3 + 2, none⟩) (by show ba < _; omega)).trans (hxa 2 (by omega))
      have c0 : wr.cell? ⟨bb, fb + k * 3, none⟩ = some (dd 0) := (hbel.out.cell (p := ⟨bb, fb + k * 3, none⟩) (by show bb < _; omega)).trans (hxb 0 (by omega))
      have c1 : wr.cell? ⟨bb, fb + k * 3 + 1, none⟩ = some (dd 1) := (hbel.out.cell (p := ⟨bb, fb + k * 3 + 1, none⟩) (by show bb < _; omega)).trans (hxb 1 (by omega))
      have c2 : wr.cell? ⟨bb, fb + k * 3 + 2, none⟩ = some (dd 2) := (hbel.out.cell (p := ⟨bb, fb + k * 3 + 2, none⟩) (by show bb < _; omega)).trans (hxb 2 (by omega))
      have HAA : Hid (Lay.At S wr (l[k]'(by omega)) cc) := Lay.same hata (Same.of_below hbel.out hS)
      have HBB : Hid (Lay.At S' wr (l[k]'(by omega)) dd) := Lay.same hatb (Same.of_below hbel.out hS')
      clear hata hatb
      have hSr : ∀ b, S b → b < wr.heap.size := fun b hb => Nat.lt_of_lt_of_le (hS b hb) hs
      have hSr' : ∀ b, S' b → b < wr.heap.size := fun b hb => Nat.lt_of_lt_of_le (hS' b hb) hs
      clear hxa hxb
      have qa0 := fun d os => cell_regrown a0 d os
      have qa1 := fun d os => cell_regrown a1 d os
      have qa2 := fun d os => cell_regrown a2 d os
      have qc0 := fun d os => cell_regrown c0 d os
      have qc1 := fun d os => cell_regrown c1 d os
      have qc2 := fun d os => cell_regrown c2 d os
      go_wp2
      refine wp_region_quiet_below (by kernel_rfl) (by kernel_rfl) ?_
      repeat (first | go_big_quiet_step (with_reducible exact eqClaimUseq S S' _ _ _ _ HAA.out HBB.out hSr hSr' _ _) | quiet_step (with_reducible exact eqClaimUseq S S' _ _ _ _ HAA.out HBB.out hSr hSr' _ _))
      refine wpQuiet_nil ?_
      intro _ hw'
      obtain ⟨⟨dq, osq⟩, hw''⟩ := hw'
      subst hw''
      go_wp2
      go_roundw
      case rel => exact ⟨k + 1, by omega, by go_num, hbel.out.trans ((below_regrown _ dq osq).mono hs)⟩
      case measure => simp [intOf]; omega
    · go_wp2
      go_ret
      exact ⟨rfl, hbel.out⟩

set_option maxRecDepth 100000 in
set_option maxHeartbeats 4000000 in
theorem eqClaimWant_any (S S' : Nat → Prop) (a : DClaimWant) (c c' : Nat → Value) (w : World) (h : Lay.At S w a c) (h' : Lay.At S' w a c') (hS : ∀ b, S b → b < w.heap.size) (hS' : ∀ b, S' b → b < w.heap.size) :
    Calls Tryz.prog 83 #[.agg #[c 0, c 1, c 2, c 3, c 4, c 5], .agg #[c' 0, c' 1, c' 2, c' 3, c' 4, c' 5]] w fun e w' => e = .returned (.bool true) ∧ Below w.heap.size w w' := by
  rw [at_DClaimWant] at h
  obtain ⟨⟨ep0, _, _⟩, ⟨ep1, _, _⟩, Hp2, Hp3, Hp4, Hp5⟩ := h
  obtain ⟨vp2, ep2⟩ : ∃ v, c 2 = v := ⟨_, rfl⟩
  rw [ep2] at Hp2
  obtain ⟨vp3, ep3⟩ : ∃ v, c 3 = v := ⟨_, rfl⟩
  rw [ep3] at Hp3
  obtain ⟨vp4, ep4⟩ : ∃ v, c 4 = v := ⟨_, rfl⟩
  rw [ep4] at Hp4
  obtain ⟨vp5, ep5⟩ : ∃ v, c 5 = v := ⟨_, rfl⟩
  rw [ep5] at Hp5
  rw [ep0, ep1, ep2, ep3, ep4, ep5]
  clear ep0 ep1 ep2 ep3 ep4 ep5
  rw [at_DClaimWant] at h'
  obtain ⟨⟨eq0, _, _⟩, ⟨eq1, _, _⟩, Hq2, Hq3, Hq4, Hq5⟩ := h'
  obtain ⟨vq2, eq2⟩ : ∃ v, c' 2 = v := ⟨_, rfl⟩
  rw [eq2] at Hq2
  obtain ⟨vq3, eq3⟩ : ∃ v, c' 3 = v := ⟨_, rfl⟩
  rw [eq3] at Hq3
  obtain ⟨vq4, eq4⟩ : ∃ v, c' 4 = v := ⟨_, rfl⟩
  rw [eq4] at Hq4
  obtain ⟨vq5, eq5⟩ : ∃ v, c' 5 = v := ⟨_, rfl⟩
  rw [eq5] at Hq5
  rw [eq0, eq1, eq2, eq3, eq4, eq5]
  clear eq0 eq1 eq2 eq3 eq4 eq5
  have k0 : Hid (Below w.heap.size w ((w.alloc (.cells #[.int .i64 a.1, .int .i64 a.2.1, vp2, vp3, vp4, vp5] 60)).alloc (.cells #[.int .i64 a.1, .int .i64 a.2.1, vq2, vq3, vq4, vq5] 60))) := ((Below.refl _ _).alloc (Nat.le_refl _) _).alloc (by simp) _
  go_enter Tryz.func83, Tryz.ntmps83
  go_wp2_with fail
  refine (eqStringS_any S S' _ vp2 vq2 _ (Hp2.same (Same.of_below k0.out hS)) (Hq2.same (Same.of_below k0.out hS')) (fun b hb => by have := hS b hb; simp; omega) (fun b hb => by have := hS' b hb; simp; omega)).mono ?_
  rintro e w1 ⟨rfl, hb1⟩
  have k1 : Hid (Below w.heap.size w w1) := k0.out.trans (hb1.mono (by simp; omega))
  have x1_3 : w1.cell? ⟨w.heap.size, 3, none⟩ = some (vp3) := (hb1.cell (p := ⟨w.heap.size, 3, none⟩) (by simp; omega)).trans (cell_past (cell_row (heap_alloc_new w (.cells #[.int .i64 a.1, .int .i64 a.2.1, vp2, vp3, vp4, vp5] 60)) 3 _ rfl).1 (by simp) _)
  have y1_3 : w1.cell? ⟨w.heap.size + 1, 3, none⟩ = some (vq3) := (hb1.cell (p := ⟨w.heap.size + 1, 3, none⟩) (by simp)).trans (by simp)
  have x1_4 : w1.cell? ⟨w.heap.size, 4, none⟩ = some (vp4) := (hb1.cell (p := ⟨w.heap.size, 4, none⟩) (by simp; omega)).trans (cell_past (cell_row (heap_alloc_new w (.cells #[.int .i64 a.1, .int .i64 a.2.1, vp2, vp3, vp4, vp5] 60)) 4 _ rfl).1 (by simp) _)
  have y1_4 : w1.cell? ⟨w.heap.size + 1, 4, none⟩ = some (vq4) := (hb1.cell (p := ⟨w.heap.size + 1, 4, none⟩) (by simp)).trans (by simp)
  have x1_5 : w1.cell? ⟨w.heap.size, 5, none⟩ = some (vp5) := (hb1.cell (p := ⟨w.heap.size, 5, none⟩) (by simp; omega)).trans (cell_past (cell_row (heap_alloc_new w (.cells #[.int .i64 a.1, .int .i64 a.2.1, vp2, vp3, vp4, vp5] 60)) 5 _ rfl).1 (by simp) _)
  have y1_5 : w1.cell? ⟨w.heap.size + 1, 5, none⟩ = some (vq5) := (hb1.cell (p := ⟨w.heap.size + 1, 5, none⟩) (by simp)).trans (by simp)
  have s1 : w.heap.size + 2 ≤ w1.heap.size := by have := hb1.size; simp at this; omega
  go_wp2_with fail
  refine (eqClaimUseS_any S S' _ vp3 vq3 _ (Hp3.same (Same.of_below k1.out hS)) (Hq3.same (Same.of_below k1.out hS')) (fun b hb => by have := hS b hb; omega) (fun b hb => by have := hS' b hb; omega)).mono ?_
  rintro e w2 ⟨rfl, hb2⟩
  have k2 : Hid (Below w.heap.size w w2) := k1.out.trans (hb2.mono (by omega))
  have x2_4 : w2.cell? ⟨w.heap.size, 4, none⟩ = some (vp4) := (hb2.cell (p := ⟨w.heap.size, 4, none⟩) (by show w.heap.size < _; omega)).trans x1_4
  have y2_4 : w2.cell? ⟨w.heap.size + 1, 4, none⟩ = some (vq4) := (hb2.cell (p := ⟨w.heap.size + 1, 4, none⟩) (by show w.heap.size + 1 < _; omega)).trans y1_4
  have x2_5 : w2.cell? ⟨w.heap.size, 5, none⟩ = some (vp5) := (hb2.cell (p := ⟨w.heap.size, 5, none⟩) (by show w.heap.size < _; omega)).trans x1_5
  have y2_5 : w2.cell? ⟨w.heap.size + 1, 5, none⟩ = some (vq5) := (hb2.cell (p := ⟨w.heap.size + 1, 5, none⟩) (by show w.heap.size + 1 < _; omega)).trans y1_5
  have s2 : w.heap.size + 2 ≤ w2.heap.size := by have := hb2.size; omega
  go_wp2_with fail
  refine (eqStringS_any S S' _ vp4 vq4 _ (Hp4.same (Same.of_below k2.out hS)) (Hq4.same (Same.of_below k2.out hS')) (fun b hb => by have := hS b hb; omega) (fun b hb => by have := hS' b hb; omega)).mono ?_
  rintro e w3 ⟨rfl, hb3⟩
  have k3 : Hid (Below w.heap.size w w3) := k2.out.trans (hb3.mono (by omega))
  have x3_5 : w3.cell? ⟨w.heap.size, 5, none⟩ = some (vp5) := (hb3.cell (p := ⟨w.heap.size, 5, none⟩) (by show w.heap.size < _; omega)).trans x2_5
  have y3_5 : w3.cell? ⟨w.heap.size + 1, 5, none⟩ = some (vq5) := (hb3.cell (p := ⟨w.heap.size + 1, 5, none⟩) (by show w.heap.size + 1 < _; omega)).trans y2_5
  have s3 : w.heap.size + 2 ≤ w3.heap.size := by have := hb3.size; omega
  go_wp2_with fail
  refine (eqStringS_any S S' _ vp5 vq5 _ (Hp5.same (Same.of_below k3.out hS)) (Hq5.same (Same.of_below k3.out hS')) (fun b hb => by have := hS b hb; omega) (fun b hb => by have := hS' b hb; omega)).mono ?_
  rintro e w4 ⟨rfl, hb4⟩
  have k4 : Hid (Below w.heap.size w w4) := k3.out.trans (hb4.mono (by omega))
  have s4 : w.heap.size + 2 ≤ w4.heap.size := by have := hb4.size; omega
  go_wp2_with fail
  go_ret
  exact ⟨rfl, k4.out⟩
open Go.Sort in
theorem eqClaimWantq (S S' : Nat → Prop) (a : DClaimWant) (c c' : Nat → Value) (wr : World) (h : Lay.At S wr a c) (h' : Lay.At S' wr a c') (hS : ∀ b, S b → b < wr.heap.size) (hS' : ∀ b, S' b → b < wr.heap.size) (d : Nat) (os : Array Obj) : Calls Tryz.prog 83 #[.agg #[c 0, c 1, c 2, c 3, c 4, c 5], .agg #[c' 0, c' 1, c' 2, c' 3, c' 4, c' 5]] (grow (redrawn wr d) os) fun e w'' => e = .returned (.bool true) ∧ ∃ p : Regrown, w'' = grow (redrawn wr p.d) p.os :=
  Calls.regrown_of (eqClaimWant_any S S' a c c' _ (Lay.same h (Same.of_below (below_regrown wr d os) hS)) (Lay.same h' (Same.of_below (below_regrown wr d os) hS')) (fun b hb => Nat.lt_of_lt_of_le (hS b hb) (below_regrown wr d os).size) (fun b hb => Nat.lt_of_lt_of_le (hS' b hb) (below_regrown wr d os).size))

end Go.Proofs.YtffmfomonmhkcabGreat

/-
  Contracts of the laws' own comparing of asks that hold the same.
-/
namespace Go.Proofs.YtffmfomonmhkcabGreat
open Go.RowKit

set_option maxRecDepth 100000 in
set_option maxHeartbeats 4000000 in
theorem eqCtlAsk_any (S S' : Nat → Prop) (a : DCtlAsk) (c c' : Nat → Value) (w : World) (h : Lay.At S w a c) (h' : Lay.At S' w a c') (hS : ∀ b, S b → b < w.heap.size) (hS' : ∀ b, S' b → b < w.heap.size) :
    Calls Tryz.prog 37 #[.agg #[c 0, c 1, c 2, c 3, c 4, c 5, c 6], .agg #[c' 0, c' 1, c' 2, c' 3, c' 4, c' 5, c' 6]] w fun e w' => e = .returned (.bool true) ∧ Below w.heap.size w w' := by
  rw [at_DCtlAsk] at h h'
  obtain ⟨⟨ep0, _⟩, hp⟩ := h
  obtain ⟨⟨eq0, _⟩, hq⟩ := h'
  have HP : Lay.At S w a.2 (fun j => c (j + 1)) := at_DClaimWant.2 hp
  have HQ : Lay.At S' w a.2 (fun j => c' (j + 1)) := at_DClaimWant.2 hq
  rw [ep0, eq0]
  clear ep0 eq0 hp hq
  obtain ⟨W, hW⟩ : ∃ u, u = (w.alloc (.cells #[.string a.1, c 1, c 2, c 3, c 4, c 5, c 6] 74)).alloc (.cells #[.string a.1, c' 1, c' 2, c' 3, c' 4, c' 5, c' 6] 74) := ⟨_, rfl⟩
  have EW : Hid (W = (w.alloc (.cells #[.string a.1, c 1, c 2, c 3, c 4, c 5, c 6] 74)).alloc (.cells #[.string a.1, c' 1, c' 2, c' 3, c' 4, c' 5, c' 6] 74)) := hW
  have bW : Hid (Below w.heap.size w W) := by rw [hW]; exact ((Below.refl _ _).alloc (Nat.le_refl _) _).alloc (by simp) _
  have bx : Hid (∀ w', Below (w.heap.size + 1 + 1) W w' → (w'.cell? ⟨w.heap.size, 0, none⟩ = some (.string a.1) ∧ w'.cell? ⟨w.heap.size, 1, none⟩ = some (c 1) ∧ w'.cell? ⟨w.heap.size, 2, none⟩ = some (c 2) ∧ w'.cell? ⟨w.heap.size, 3, none⟩ = some (c 3) ∧ w'.cell? ⟨w.heap.size, 4, none⟩ = some (c 4) ∧ w'.cell? ⟨w.heap.size, 5, none⟩ = some (c 5) ∧ w'.cell? ⟨w.heap.size, 6, none⟩ = some (c 6)) ∧ w'.cell? ⟨w.heap.size + 1, 0, none⟩ = some (.string a.1) ∧ w'.cell? ⟨w.heap.size + 1, 1, none⟩ = some (c' 1) ∧ w'.cell? ⟨w.heap.size + 1, 2, none⟩ = some (c' 2) ∧ w'.cell? ⟨w.heap.size + 1, 3, none⟩ = some (c' 3) ∧ w'.cell? ⟨w.heap.size + 1, 4, none⟩ = some (c' 4) ∧ w'.cell? ⟨w.heap.size + 1, 5, none⟩ = some (c' 5) ∧ w'.cell? ⟨w.heap.size + 1, 6, none⟩ = some (c' 6)) := fun w' hb => by
    rw [hW] at hb
    obtain ⟨h1, h2⟩ := two_box hb
    exact ⟨⟨h1 0 _ rfl, h1 1 _ rfl, h1 2 _ rfl, h1 3 _ rfl, h1 4 _ rfl, h1 5 _ rfl, h1 6 _ rfl⟩, h2 0 _ rfl, h2 1 _ rfl, h2 2 _ rfl, h2 3 _ rfl, h2 4 _ rfl, h2 5 _ rfl, h2 6 _ rfl⟩
  have sW : w.heap.size + 1 + 1 ≤ W.heap.size := by rw [hW]; simp
  clear hW
  have kP : Hid (Lay.At S W a.2 (fun j => c (j + 1))) := Lay.same HP (Same.of_below bW.out hS)
  have kQ : Hid (Lay.At S' W a.2 (fun j => c' (j + 1))) := Lay.same HQ (Same.of_below bW.out hS')
  clear HP HQ
  go_enter Tryz.func37, Tryz.ntmps37
  go_upto_region 1 with fail
  rw [← EW.out]
  obtain ⟨⟨x0, x1, x2, x3, x4, x5, x6⟩, y0, y1, y2, y3, y4, y5, y6⟩ := bx.out W (Below.refl _ _)
  go_wp2_with fail
  refine (eqClaimWant_any S S' a.2 (fun j => c (j + 1)) (fun j => c' (j + 1)) _ kP.out kQ.out (fun b hb => Nat.lt_of_lt_of_le (hS b hb) bW.out.size) (fun b hb => Nat.lt_of_lt_of_le (hS' b hb) bW.out.size)).mono ?_
  rintro e w1 ⟨rfl, hb1⟩
  have b1 : Hid (Below w.heap.size w w1) := bW.out.trans (hb1.mono bW.out.size)
  clear hb1
  go_wp2_with fail
  go_ret
  exact ⟨rfl, b1.out⟩
open Go.Sort in
theorem eqCtlAskq (S S' : Nat → Prop) (a : DCtlAsk) (c c' : Nat → Value) (wr : World) (h : Lay.At S wr a c) (h' : Lay.At S' wr a c') (hS : ∀ b, S b → b < wr.heap.size) (hS' : ∀ b, S' b → b < wr.heap.size) (d : Nat) (os : Array Obj) : Calls Tryz.prog 37 #[.agg #[c 0, c 1, c 2, c 3, c 4, c 5, c 6], .agg #[c' 0, c' 1, c' 2, c' 3, c' 4, c' 5, c' 6]] (grow (redrawn wr d) os) fun e w'' => e = .returned (.bool true) ∧ ∃ p : Regrown, w'' = grow (redrawn wr p.d) p.os :=
  Calls.regrown_of (eqCtlAsk_any S S' a c c' _ (Lay.same h (Same.of_below (below_regrown wr d os) hS)) (Lay.same h' (Same.of_below (below_regrown wr d os) hS')) (fun b hb => Nat.lt_of_lt_of_le (hS b hb) (below_regrown wr d os).size) (fun b hb => Nat.lt_of_lt_of_le (hS' b hb) (below_regrown wr d os).size))

set_option maxRecDepth 100000 in
set_option maxHeartbeats 4000000 in
theorem eqCtlAskS_any (S S' : Nat → Prop) (l : List DCtlAsk) (va vb : Value) (w : World) (ha : AtL S w l va) (hb : AtL S' w l vb) (hS : ∀ b, S b → b < w.heap.size) (hS' : ∀ b, S' b → b < w.heap.size) :
    Calls Tryz.prog 12 #[va, vb] w fun e w' => e = .returned (.bool true) ∧ Below w.heap.size w w' := by
  obtain ⟨oa, ca, rfl, hn, hca⟩ := ha
  obtain ⟨ob, cb, rfl, _, hcb⟩ := hb
  obtain ⟨n, en⟩ : ∃ n, l.length = n := ⟨_, rfl⟩
  rw [en] at hn
  rw [en]
  unfold maxLen at hn
  have HA : Hid _ := hca
  have HB : Hid _ := hcb
  clear hca hcb
  go_enter Tryz.func12, Tryz.ntmps12
  go_wp2
  go_loopw [5] (fun i wr => ∃ k : Nat, k ≤ n ∧ i = .int .i64 k ∧ Hid (Below w.heap.size w wr)) (fun i _ => n - (intOf i).toNat)
  case atStart => exact ⟨0, Nat.zero_le _, rfl, Below.refl _ _⟩
  case round =>
    obtain ⟨k, hk, rfl, hbel⟩ := hrel
    have hs := hbel.out.size
    by_cases hlt : k < n
    · obtain ⟨ba, fa, rfl, hba, cc, hxa, hata⟩ := HA.out k (by omega)
      obtain ⟨bb, fb, rfl, hbb, dd, hxb, hatb⟩ := HB.out k (by omega)
      have hba' := hS ba hba
      have hbb' := hS' bb hbb
      rw [width_DCtlAsk] at hxa hxb
      have a0 : wr.cell? ⟨ba, fa + k * 7, none⟩ = some (cc 0) := (hbel.out.cell (p := ⟨ba, fa + k * 7, none⟩) (by show ba < _; omega)).trans (hxa 0 (by omega))
      have a1 : wr.cell? ⟨ba, fa + k * 7 + 1, none⟩ = some (cc 1) := (hbel.out.cell (p := ⟨ba, fa + k * 7 + 1, none⟩) (by show ba < _; omega)).trans (hxa 1 (by omega))
      have a2 : wr.cell? ⟨ba, fa + k * 7 + 2, none⟩ = some (cc 2) := (hbel.out.cell (p := ⟨ba, fa + k * 7 + 2, none⟩) (by show ba < _; omega)).trans (hxa 2 (by omega))
      have a3 : wr.cell? ⟨ba, fa + k * 7 + 3, none⟩ = some (cc 3) := (hbel.out.cell (p := ⟨ba, fa + k * 7 + 3, none⟩) (by show ba < _; omega)).trans (hxa 3 (by omega))
      have a4 : wr.cell? ⟨ba, fa + k * 7 + 4, none⟩ = some (cc 4) := (hbel.out.cell (p := ⟨ba, fa + k * 7 + 4, none⟩) (by show ba < _; omega)).trans (hxa 4 (by omega))
      have a5 : wr.cell? ⟨ba, fa + k * 7 + 5, none⟩ = some (cc 5) := (hbel.out.cell (p := ⟨ba, fa + k * 7 + 5, none⟩) (by show ba < _; omega)).trans (hxa 5 (by omega))
      have a6 : wr.cell? ⟨ba, fa + k * 7 + 6, none⟩ = some (cc 6) := (hbel.out.cell (p := ⟨ba, fa + k * 7 + 6, none⟩) (by show ba < _; omega)).trans (hxa 6 (by omega))
      have c0 : wr.cell? ⟨bb, fb + k * 7, none⟩ = some (dd 0) := (hbel.out.cell (p := ⟨bb, fb + k * 7, none⟩) (by show bb < _; omega)).trans (hxb 0 (by omega))
      have c1 : wr.cell? ⟨bb, fb + k * 7 + 1, none⟩ = some (dd 1) := (hbel.out.cell (p := ⟨bb, fb + k * 7 + 1, none⟩) (by show bb < _; omega)).trans (hxb 1 (by omega))
      have c2 : wr.cell? ⟨bb, fb + k * 7 + 2, none⟩ = some (dd 2) := (hbel.out.cell (p := ⟨bb, fb + k * 7 + 2, none⟩) (by show bb < _; omega)).trans (hxb 2 (by omega))
      have c3 : wr.cell? ⟨bb, fb + k * 7 + 3, none⟩ = some (dd 3) := (hbel.out.cell (p := ⟨bb, fb + k * 7 + 3, none⟩) (by show bb < _; omega)).trans (hxb 3 (by omega))
      have c4 : wr.cell? ⟨bb, fb + k * 7 + 4, none⟩ = some (dd 4) := (hbel.out.cell (p := ⟨bb, fb + k * 7 + 4, none⟩) (by show bb < _; omega)).trans (hxb 4 (by omega))
      have c5 : wr.cell? ⟨bb, fb + k * 7 + 5, none⟩ = some (dd 5) := (hbel.out.cell (p := ⟨bb, fb + k * 7 + 5, none⟩) (by show bb < _; omega)).trans (hxb 5 (by omega))
      have c6 : wr.cell? ⟨bb, fb + k * 7 + 6, none⟩ = some (dd 6) := (hbel.out.cell (p := ⟨bb, fb + k * 7 + 6, none⟩) (by show bb < _; omega)).trans (hxb 6 (by omega))
      have HAA : Hid (Lay.At S wr (l[k]'(by omega)) cc) := Lay.same hata (Same.of_below hbel.out hS)
      have HBB : Hid (Lay.At S' wr (l[k]'(by omega)) dd) := Lay.same hatb (Same.of_below hbel.out hS')
      clear hata hatb
      have hSr : ∀ b, S b → b < wr.heap.size := fun b hb => Nat.lt_of_lt_of_le (hS b hb) hs
      have hSr' : ∀ b, S' b → b < wr.heap.size := fun b hb => Nat.lt_of_lt_of_le (hS' b hb) hs
      clear hxa hxb
      have qa0 := fun d os => cell_regrown a0 d os
      have qa1 := fun d os => cell_regrown a1 d os
      have qa2 := fun d os => cell_regrown a2 d os
      have qa3 := fun d os => cell_regrown a3 d os
      have qa4 := fun d os => cell_regrown a4 d os
      have qa5 := fun d os => cell_regrown a5 d os
      have qa6 := fun d os => cell_regrown a6 d os
      have qc0 := fun d os => cell_regrown c0 d os
      have qc1 := fun d os => cell_regrown c1 d os
      have qc2 := fun d os => cell_regrown c2 d os
      have qc3 := fun d os => cell_regrown c3 d os
      have qc4 := fun d os => cell_regrown c4 d os
      have qc5 := fun d os => cell_regrown c5 d os
      have qc6 := fun d os => cell_regrown c6 d os
      go_wp2
      refine wp_region_quiet_below (by kernel_rfl) (by kernel_rfl) ?_
      repeat (first | go_big_quiet_step (with_reducible exact eqCtlAskq S S' _ _ _ _ HAA.out HBB.out hSr hSr' _ _) | quiet_step (with_reducible exact eqCtlAskq S S' _ _ _ _ HAA.out HBB.out hSr hSr' _ _))
      refine wpQuiet_nil ?_
      intro _ hw'
      obtain ⟨⟨dq, osq⟩, hw''⟩ := hw'
      subst hw''
      go_wp2
      go_roundw
      case rel => exact ⟨k + 1, by omega, by go_num, hbel.out.trans ((below_regrown _ dq osq).mono hs)⟩
      case measure => simp [intOf]; omega
    · go_wp2
      go_ret
      exact ⟨rfl, hbel.out⟩

end Go.Proofs.YtffmfomonmhkcabGreat
