/-
  Several texts in one.
-/
import Derived.Test.YtciembgenlcogaeGreatBb
import Derived.Test.YtciembgenlcogaeGreatWmc
import Derived.Test.YtciembgenlcogaeGreatBy
import Derived.Test.YtciembgenlcogaeGreatCv

/-
  A contract of the model's stations of a plant: all that it tells of stations, put in one by one, in memory of its own.
-/
namespace Go.Proofs.YtciembgenlcogaeGreat
open Go.RowKit

set_option maxRecDepth 100000 in
set_option maxHeartbeats 4000000 in
theorem stationsS_any (B : Nat) (v0 v1 v2 v3 : Value) (D : PD) (w : World) (h : PAt B w v0 v1 v2 v3 D) (hB : B ≤ w.heap.size) (hz : D.Sz) :
    Calls Tryz.prog 20 #[.agg #[v0, v1, v2, v3]] w fun e w' => ∃ v b, e = .returned v ∧ (b = true ↔ D.V) ∧ w'.ownsRow w.heap.size 9 1 v (stL b D).length ((stL b D).map .string) ∧ Below w.heap.size w w' := by
  have H : Hid (∀ w', Below w.heap.size w w' → PAt B w' v0 v1 v2 v3 D) := fun w' hb => h.kept hb hB
  clear h
  obtain ⟨W, hW⟩ : ∃ W, W = (w.alloc (.cells #[v0, v1, v2, v3] 40)).alloc (.cells #[] 9) := ⟨_, rfl⟩
  have sW : W.heap.size = w.heap.size + 2 := by rw [hW]; simp
  have kW : Hid (Below (w.heap.size + 1) W W) := Below.refl _ _
  have EW : Hid (W = (w.alloc (.cells #[v0, v1, v2, v3] 40)).alloc (.cells #[] 9)) := hW
  have OW : Hid (W.ownsRow (w.heap.size + 1) 9 1 (.slice (some ⟨w.heap.size + 1, 0, none⟩) 0 0) 0 []) := by
    rw [hW]
    have := World.ownsRow_made (base := w.heap.size + 1) (e := 9) (size := 1) (w.alloc (.cells #[v0, v1, v2, v3] 40)) #[] 0 (by simp) (Nat.zero_le _) rfl
    simpa [Hid] using this
  have bx : Hid (∀ w', Below (w.heap.size + 1) W w' → (w'.cell? ⟨w.heap.size, 0, none⟩ = some v0 ∧ w'.cell? ⟨w.heap.size, 1, none⟩ = some v1 ∧ w'.cell? ⟨w.heap.size, 2, none⟩ = some v2 ∧ w'.cell? ⟨w.heap.size, 3, none⟩ = some v3) ∧ Below w.heap.size w w') := fun w' hb => by
    rw [hW] at hb
    have hb' : Below (w.heap.size + 1) (w.alloc (.cells #[v0, v1, v2, v3] 40)) w' := ((Below.refl _ _).alloc (by simp) _).trans hb
    exact ⟨⟨box_in hb' 0 _ rfl, box_in hb' 1 _ rfl, box_in hb' 2 _ rfl, box_in hb' 3 _ rfl⟩, below_end hb'⟩
  clear hW
  go_enter Tryz.func20, Tryz.ntmps20
  go_upto_region 2 with fail
  rw [← EW.out]
  obtain ⟨⟨a0, a1, a2, a3⟩, hbw⟩ := bx.out W kW.out
  go_wp2_with fail
  refine (validS_any B v0 v1 v2 v3 D _ (H.out _ hbw) (by have := hbw.size; omega) hz).mono ?_; rintro e w1 ⟨b, rfl, is, hb1⟩
  have IS : Hid _ := is
  have k1 : Hid (Below (w.heap.size + 1) W w1) := kW.out.trans (hb1.mono (by omega))
  have O1 : Hid (w1.ownsRow (w.heap.size + 1) 9 1 (.slice (some ⟨w.heap.size + 1, 0, none⟩) 0 0) 0 []) := own_belowR OW.out hb1
  clear is hb1 a0 a1 a2 a3 hbw
  cases b
  · go_wp2_with fail
    go_ret
    exact ⟨_, false, rfl, IS.out, own_leR O1.out (by omega), (bx.out _ k1.out).2⟩
  · have HV : Hid D.V := by have := IS.out; simpa [Hid] using this
    have hnp : D.np ≤ 14 := HV.out.2.1.1
    have hnv : D.nv ≤ 18 := HV.out.2.2.1
    go_wp2_with fail
    go_loopw [3, 4] (fun v i wr => ∃ (q g cap : Nat), q ≤ D.np ∧ i = .int .i64 q ∧ v = .slice (some ⟨g, 0, none⟩) (insA (stnP D q)).length cap ∧ Hid (wr.ownsRow (w.heap.size + 1) 9 1 (.slice (some ⟨g, 0, none⟩) (insA (stnP D q)).length cap) (insA (stnP D q)).length ((insA (stnP D q)).map .string)) ∧ Hid (Below (w.heap.size + 1) W wr)) (fun _ i _ => D.np - (intOf i).toNat)
    case atStart => exact ⟨0, _, 0, Nat.zero_le _, rfl, rfl, by simpa [Hid, stnP, insA] using O1.out, k1⟩
    case round =>
      obtain ⟨q, g, cap, hq, rfl, rfl, hown, hbel⟩ := hrel
      obtain ⟨⟨a0, a1, a2, a3⟩, hbw⟩ := bx.out wr hbel.out
      have hsr : w.heap.size + 1 ≤ wr.heap.size := by have := hbel.out.size; omega
      have hlen := insA_len (stnP D q)
      rw [stnP_len] at hlen
      by_cases hlt : q < D.np
      · obtain ⟨op, cp, hv2, _, hcv⟩ := (H.out wr hbw).p
        obtain ⟨b, off, rfl, hbB, hcell⟩ := hcv q hlt
        have e2 : wr.cell? ⟨b, off + q * 3 + 2, none⟩ = some (.string (D.fp q).2.2) := hcell 2 (by omega)
        clear hcv hcell
        have HI : Hid (insR (insA (stnP D q)) (D.fp q).2.2 = insA (stnP D (q + 1))) := by show _ = _; rw [stnP_succ, insA_snoc]
        generalize insA (stnP D q) = l at hown hlen HI
        subst hv2
        go_wp2_with fail
        refine (insS_any (w.heap.size + 1) g cap l (D.fp q).2.2 wr hown.out (by omega) hsr).mono ?_; rintro e w2 ⟨g', cap', rfl, ho, hb2⟩
        rw [HI.out] at ho ⊢
        have HO : Hid (w2.ownsRow (w.heap.size + 1) 9 1 (.slice (some ⟨g', 0, none⟩) (insA (stnP D (q + 1))).length cap') (insA (stnP D (q + 1))).length ((insA (stnP D (q + 1))).map .string)) := ho
        have k2 : Hid (Below (w.heap.size + 1) W w2) := hbel.out.trans (hb2.mono hsr)
        clear ho hb2
        go_wp2_with fail
        go_roundw
        case rel => exact ⟨q + 1, g', cap', by omega, by go_num, rfl, HO, k2⟩
        case measure => simp [intOf]; omega
      · obtain rfl : q = D.np := by omega
        obtain ⟨op, cp, hv2, _, hcV⟩ := (H.out wr hbw).p
        clear hcV
        subst hv2
        go_wp2_with fail
        have O2 := hown
        have K2 := hbel
        clear hown hbel a0 a1 a2 a3 hbw hsr
        go_loopw [3, 5] (fun v i wr => ∃ (q g cap : Nat), q ≤ D.nv ∧ i = .int .i64 q ∧ v = .slice (some ⟨g, 0, none⟩) (insA (stnP D D.np ++ stnV D q)).length cap ∧ Hid (wr.ownsRow (w.heap.size + 1) 9 1 (.slice (some ⟨g, 0, none⟩) (insA (stnP D D.np ++ stnV D q)).length cap) (insA (stnP D D.np ++ stnV D q)).length ((insA (stnP D D.np ++ stnV D q)).map .string)) ∧ Hid (Below (w.heap.size + 1) W wr)) (fun _ i _ => D.nv - (intOf i).toNat)
        case atStart => exact ⟨0, g, cap, Nat.zero_le _, rfl, by simp [stnV], by simpa [Hid, stnV] using O2.out, K2⟩
        case round =>
          obtain ⟨q, g, cap, hq, rfl, rfl, hown, hbel⟩ := hrel
          obtain ⟨⟨a0, a1, a2, a3⟩, hbw⟩ := bx.out wr hbel.out
          have hsr : w.heap.size + 1 ≤ wr.heap.size := by have := hbel.out.size; omega
          have hlen2 := insA_len (stnP D D.np ++ stnV D q)
          rw [List.length_append, stnP_len, stnV_len] at hlen2
          by_cases hlt : q < D.nv
          · obtain ⟨op', cp', hv3, _, hcv⟩ := (H.out wr hbw).v
            obtain ⟨b, off, rfl, hbB, hcell⟩ := hcv q hlt
            have e3 : wr.cell? ⟨b, off + q * 4 + 3, none⟩ = some (.string (D.fv q).2.2.2) := hcell 3 (by omega)
            clear hcv hcell
            have HI : Hid (insR (insA (stnP D D.np ++ stnV D q)) (D.fv q).2.2.2 = insA (stnP D D.np ++ stnV D (q + 1))) := by show _ = _; rw [stnV_succ, ← List.append_assoc, insA_snoc]
            generalize insA (stnP D D.np ++ stnV D q) = l at hown hlen2 HI
            subst hv3
            go_wp2_with fail
            refine (insS_any (w.heap.size + 1) g cap l (D.fv q).2.2.2 wr hown.out (by omega) hsr).mono ?_; rintro e w2 ⟨g', cap', rfl, ho, hb2⟩
            rw [HI.out] at ho ⊢
            have HO : Hid (w2.ownsRow (w.heap.size + 1) 9 1 (.slice (some ⟨g', 0, none⟩) (insA (stnP D D.np ++ stnV D (q + 1))).length cap') (insA (stnP D D.np ++ stnV D (q + 1))).length ((insA (stnP D D.np ++ stnV D (q + 1))).map .string)) := ho
            have k2 : Hid (Below (w.heap.size + 1) W w2) := hbel.out.trans (hb2.mono hsr)
            clear ho hb2
            go_wp2_with fail
            go_roundw
            case rel => exact ⟨q + 1, g', cap', by omega, by go_num, rfl, HO, k2⟩
            case measure => simp [intOf]; omega
          · obtain rfl : q = D.nv := by omega
            obtain ⟨op', cp', hv3, _, hcV⟩ := (H.out wr hbw).v
            clear hcV
            subst hv3
            go_wp2_with fail
            go_ret
            exact ⟨_, true, rfl, by simpa using IS.out, own_leR hown.out (by omega), hbw⟩

end Go.Proofs.YtciembgenlcogaeGreat

/-
  Small laws on two boxes of a call, and on the first part of a list.
-/
namespace Go.Proofs.YtciembgenlcogaeGreat
open Go.RowKit

/-- Two boxes, one behind the other. -/
theorem two_box {w wr : World} {c d : Array Value} {t u : TypeId} (hb : Below (w.heap.size + 1 + 1) ((w.alloc (.cells c t)).alloc (.cells d u)) wr) :
    (∀ (j : Nat) (v : Value), c[j]? = some v → wr.cell? ⟨w.heap.size, j, none⟩ = some v) ∧ ∀ (j : Nat) (v : Value), d[j]? = some v → wr.cell? ⟨w.heap.size + 1, j, none⟩ = some v := by
  have e : (w.alloc (.cells c t)).heap.size = w.heap.size + 1 := by simp
  constructor
  · intro j v h
    exact (hb.cell (p := ⟨w.heap.size, j, none⟩) (by show w.heap.size < _; omega)).trans (cell_past (new_cell w c t j v h) (by simp) _)
  · intro j v h
    have := new_cell (w.alloc (.cells c t)) d u j v h
    rw [e] at this
    exact (hb.cell (p := ⟨w.heap.size + 1, j, none⟩) (by show w.heap.size + 1 < _; omega)).trans this

theorem two_end {w wr : World} {o o' : Obj} (hb : Below (w.heap.size + 1 + 1) ((w.alloc o).alloc o') wr) : Below w.heap.size w wr :=
  (((Below.refl _ _).alloc (Nat.le_refl _) o).alloc (by simp) o').trans (hb.mono (by omega))

theorem two_of2 {w wr wr' : World} {o o' : Obj} (hb : Below (w.heap.size + 1 + 1) ((w.alloc o).alloc o') wr) (h : Below wr.heap.size wr wr') : Below (w.heap.size + 1 + 1) ((w.alloc o).alloc o') wr' :=
  hb.trans (h.mono (by have := hb.size; simp at this; exact this))

theorem Lst.first {B : Nat} {w : World} {oa : Option Addr} {n cap q k : Nat} {c : Nat → Nat → Value} (h : Lst B w (.slice oa n cap) n k c) (hq : q ≤ n) : Lst B w (.slice oa q cap) q k c := by
  obtain ⟨oa', cap', hv, hn, hc⟩ := h
  cases hv
  exact ⟨oa, cap, rfl, by omega, fun i hi => hc i (by omega)⟩

end Go.Proofs.YtciembgenlcogaeGreat

/-
  Contracts of the program's and of the model's test of a word: both answer the same.
-/
namespace Go.Proofs.YtciembgenlcogaeGreat
open Go.RowKit

/-- A word that is ok, by the model's text, where these are the stations. -/
noncomputable def wordB (k n : Int) (st : ByteArray) (a : C.DClaimWant) (mv : Int) (dn : Bool) (m : Nat) (f : Nat → ByteArray) : Bool :=
  inB k 1 10 && inB n 1 1000000 && !((decide (k < 9) != hasB m f st) || (decide (9 ≤ k) && !st.toList.isEmpty)) && !((!((k == 6) || (k == 7)) && (mv != 0)) || !inB mv 0 1000 || (dn && (k != 7))) && (bif k == 1 then C.wantB a && (a.1 == n) else zW a.1 a.2.1 a.2.2.1.length a.2.2.2.1.length a.2.2.2.2.1.length a.2.2.2.2.2.length)
theorem word_same (k n : Int) (st : ByteArray) (a : C.DClaimWant) (mv : Int) (dn : Bool) (m : Nat) (f : Nat → ByteArray) (hf : ∀ i, i < m → 0 < (f i).size) : isB k n st a mv dn m f = wordB k n st a mv dn m f := by
  have he : st.toList.isEmpty = true → hasB m f st = false := fun h => by
    cases hh : hasB m f st
    · rfl
    · unfold hasB at hh
      obtain ⟨i, hi, e⟩ := List.any_eq_true.1 hh
      have h1 := eqB_size e
      have h2 := hf i (List.mem_range.1 hi)
      have h3 : st.size = 0 := by
        have : st.toList = [] := by simpa using h
        rw [sz_list, ← ByteArray.toList_eq, this]; rfl
      omega
  unfold isB wordB sOk wOk mOk dOk inB
  generalize hasB m f st = H at he
  generalize st.toList.isEmpty = E at he
  generalize C.wantB a = WB
  generalize zW a.1 a.2.1 a.2.2.1.length a.2.2.2.1.length a.2.2.2.2.1.length a.2.2.2.2.2.length = ZB
  generalize (a.1 == n) = NB
  rw [Bool.eq_iff_iff]
  by_cases r : 1 ≤ k ∧ k ≤ 10
  · have hk : k = 1 ∨ k = 2 ∨ k = 3 ∨ k = 4 ∨ k = 5 ∨ k = 6 ∨ k = 7 ∨ k = 8 ∨ k = 9 ∨ k = 10 := by omega
    rcases hk with rfl | rfl | rfl | rfl | rfl | rfl | rfl | rfl | rfl | rfl <;> cases H <;> cases E <;> cases WB <;> cases ZB <;> cases NB <;> cases dn <;> simp at he ⊢ <;> omega
  · have n1 : ¬ (1 ≤ k ∧ k ≤ 8) := fun h => r ⟨h.1, by omega⟩
    have n2 : ¬ (k = 9 ∨ k = 10) := fun h => r (by omega)
    rw [if_neg n1, if_neg n2]
    simp
    intro h1 h2
    exact absurd ⟨h1, h2⟩ r

set_option maxRecDepth 100000 in
set_option maxHeartbeats 4000000 in
theorem wordI_any (B : Nat) (v0 v1 v2 v3 : Value) (D : PD) (S : Nat → Prop) (a : C.DClaimWant) (n mv k : Int) (st : ByteArray) (dn : Bool) (o2 o3 o4 o5 : Option Addr) (n2 n3 n4 n5 k2 k3 k4 k5 : Nat) (w : World) (hP : PAt B w v0 v1 v2 v3 D) (hB : B ≤ w.heap.size) (hz : D.Sz) (h2 : C.AtL S w a.2.2.1 (.slice o2 n2 k2)) (h3 : C.AtL S w a.2.2.2.1 (.slice o3 n3 k3)) (h4 : C.AtL S w a.2.2.2.2.1 (.slice o4 n4 k4)) (h5 : C.AtL S w a.2.2.2.2.2 (.slice o5 n5 k5)) (hS : ∀ b, S b → b < w.heap.size) (m2 : a.2.2.1.length = n2) (m3 : a.2.2.2.1.length = n3) (m4 : a.2.2.2.2.1.length = n4) (m5 : a.2.2.2.2.2.length = n5) (b2 : n2 ≤ maxLen) (b3 : n3 ≤ maxLen) (b4 : n4 ≤ maxLen) (b5 : n5 ≤ maxLen) :
    Calls Tryz.prog 9 #[.agg #[v0, v1, v2, v3], .agg #[.int .i64 k, .string st, .int .i64 n, .int .i64 a.1, .int .i64 a.2.1, .slice o2 n2 k2, .slice o3 n3 k3, .slice o4 n4 k4, .slice o5 n5 k5, .int .i64 mv, .bool dn]] w fun e w' => ∃ b, e = .returned (.bool (b && isB k n st a mv dn (stnL D).length (nthB (stnL D)))) ∧ (b = true ↔ D.V) ∧ Below w.heap.size w w' := by
  have HA : Hid (∀ w', Below w.heap.size w w' → C.AtL S w' a.2.2.1 (.slice o2 n2 k2) ∧ C.AtL S w' a.2.2.2.1 (.slice o3 n3 k3) ∧ C.AtL S w' a.2.2.2.2.1 (.slice o4 n4 k4) ∧ C.AtL S w' a.2.2.2.2.2 (.slice o5 n5 k5)) := fun w' hb => ⟨h2.same (C.Same.of_below hb hS), h3.same (C.Same.of_below hb hS), h4.same (C.Same.of_below hb hS), h5.same (C.Same.of_below hb hS)⟩
  have HS : Hid _ := hS
  have M2 : Hid (a.2.2.1.length = n2) := m2
  have M3 : Hid (a.2.2.2.1.length = n3) := m3
  have M4 : Hid (a.2.2.2.2.1.length = n4) := m4
  have M5 : Hid (a.2.2.2.2.2.length = n5) := m5
  clear h2 h3 h4 h5 hS m2 m3 m4 m5
  have HP : Hid (∀ w', Below w.heap.size w w' → PAt B w' v0 v1 v2 v3 D) := fun w' hb => hP.kept hb hB
  clear hP
  obtain ⟨W, hW⟩ : ∃ W, W = (w.alloc (.cells #[v0, v1, v2, v3] 40)).alloc (.cells #[.int .i64 k, .string st, .int .i64 n, .int .i64 a.1, .int .i64 a.2.1, .slice o2 n2 k2, .slice o3 n3 k3, .slice o4 n4 k4, .slice o5 n5 k5, .int .i64 mv, .bool dn] 46) := ⟨_, rfl⟩
  have EW : Hid (W = (w.alloc (.cells #[v0, v1, v2, v3] 40)).alloc (.cells #[.int .i64 k, .string st, .int .i64 n, .int .i64 a.1, .int .i64 a.2.1, .slice o2 n2 k2, .slice o3 n3 k3, .slice o4 n4 k4, .slice o5 n5 k5, .int .i64 mv, .bool dn] 46)) := hW
  have kW : Hid (Below (w.heap.size + 1 + 1) W W) := Below.refl _ _
  have sW : w.heap.size + 1 + 1 ≤ W.heap.size := by rw [hW]; simp
  have bx : Hid (∀ w', Below (w.heap.size + 1 + 1) W w' → (w'.cell? ⟨w.heap.size, 0, none⟩ = some v0 ∧ w'.cell? ⟨w.heap.size, 1, none⟩ = some v1 ∧ w'.cell? ⟨w.heap.size, 2, none⟩ = some v2 ∧ w'.cell? ⟨w.heap.size, 3, none⟩ = some v3) ∧ w'.cell? ⟨w.heap.size + 1, 0, none⟩ = some (.int .i64 k) ∧ w'.cell? ⟨w.heap.size + 1, 1, none⟩ = some (.string st) ∧ w'.cell? ⟨w.heap.size + 1, 2, none⟩ = some (.int .i64 n) ∧ w'.cell? ⟨w.heap.size + 1, 3, none⟩ = some (.int .i64 a.1) ∧ w'.cell? ⟨w.heap.size + 1, 4, none⟩ = some (.int .i64 a.2.1) ∧ w'.cell? ⟨w.heap.size + 1, 5, none⟩ = some (.slice o2 n2 k2) ∧ w'.cell? ⟨w.heap.size + 1, 6, none⟩ = some (.slice o3 n3 k3) ∧ w'.cell? ⟨w.heap.size + 1, 7, none⟩ = some (.slice o4 n4 k4) ∧ w'.cell? ⟨w.heap.size + 1, 8, none⟩ = some (.slice o5 n5 k5) ∧ w'.cell? ⟨w.heap.size + 1, 9, none⟩ = some (.int .i64 mv) ∧ w'.cell? ⟨w.heap.size + 1, 10, none⟩ = some (.bool dn)) := fun w' hb => by
    rw [hW] at hb
    obtain ⟨h1, h2⟩ := two_box hb
    exact ⟨⟨h1 0 _ rfl, h1 1 _ rfl, h1 2 _ rfl, h1 3 _ rfl⟩, h2 0 _ rfl, h2 1 _ rfl, h2 2 _ rfl, h2 3 _ rfl, h2 4 _ rfl, h2 5 _ rfl, h2 6 _ rfl, h2 7 _ rfl, h2 8 _ rfl, h2 9 _ rfl, h2 10 _ rfl⟩
  have be : Hid (∀ w', Below (w.heap.size + 1 + 1) W w' → Below w.heap.size w w') := fun w' hb => by
    rw [hW] at hb
    exact two_end hb
  clear hW
  go_enter Tryz.func9, Tryz.ntmps9
  go_upto_region 1 with fail
  rw [← EW.out]
  have hdr : Hid (Below (w.heap.size + 1 + 1) W W.drew) := kW.out.drew
  obtain ⟨⟨y0, y1, y2, y3⟩, x0, x1, x2, x3, x4, x5, x6, x7, x8, x9, x10⟩ := bx.out W kW.out
  by_cases hV : D.V
  · have HV : Hid D.V := hV
    have HL : Hid ((stnL D).length ≤ 1048576) := by
      show _ ≤ _
      have := stnL_len D
      have h1 := hV.2.1.1
      have h2 := hV.2.2.1
      omega
    clear hV
    go_region_with (first
      | (go_at_call 28; refine (validI_any B v0 v1 v2 v3 D W.drew (HP.out _ (be.out _ hdr.out)) (by have := (be.out _ hdr.out).size; omega) hz).mono ?_; rintro e w1 ⟨b1, rfl, i1, hb1⟩; obtain rfl : b1 = true := i1.2 HV.out; have K1 : Hid (Below (w.heap.size + 1 + 1) W w1) := hdr.out.trans (hb1.mono sW); clear i1 hb1; clear y0 y1 y2 y3 x0 x1 x2 x3 x4 x5 x6 x7 x8 x9 x10; obtain ⟨⟨y0, y1, y2, y3⟩, x0, x1, x2, x3, x4, x5, x6, x7, x8, x9, x10⟩ := bx.out w1 K1.out; skip)
      | (go_at_call 30; refine (stations_any B v0 v1 v2 v3 D w1 (HP.out _ (be.out _ K1.out)) (by have := (be.out _ K1.out).size; omega) HV.out).mono ?_; rintro e w2 ⟨vs, rfl, ho, hb2⟩; have LS : Hid (Lst w2.heap.size w2 vs (stnL D).length 1 (cS (nthB (stnL D)))) := own_lst ho HL.out; have k2' : Hid (Below (w.heap.size + 1 + 1) W w2) := K1.out.trans (hb2.mono (by have := K1.out.size; omega)); clear ho hb2; clear y0 y1 y2 y3 x0 x1 x2 x3 x4 x5 x6 x7 x8 x9 x10; obtain ⟨⟨y0, y1, y2, y3⟩, x0, x1, x2, x3, x4, x5, x6, x7, x8, x9, x10⟩ := bx.out w2 k2'.out; skip)
      | (go_at_call 29; refine (isOk_any w2.heap.size vs (stnL D).length (nthB (stnL D)) S a n mv k st dn o2 o3 o4 o5 n2 n3 n4 n5 k2 k3 k4 k5 w2 (HA.out _ (be.out _ k2'.out)).1 (HA.out _ (be.out _ k2'.out)).2.1 (HA.out _ (be.out _ k2'.out)).2.2.1 (HA.out _ (be.out _ k2'.out)).2.2.2 (fun b hb => by have := HS.out b hb; have := (be.out _ k2'.out).size; omega) M2.out M3.out M4.out M5.out b2 b3 b4 b5 LS.out (Nat.le_refl _)).mono ?_; rintro e w3 ⟨rfl, hb3⟩; have k3' : Hid (Below (w.heap.size + 1 + 1) W w3) := k2'.out.trans (hb3.mono (by have := k2'.out.size; omega)); clear hb3))
    all_goals
      go_wp2_with fail
      go_ret
      exact ⟨true, rfl, ⟨fun _ => HV.out, fun _ => rfl⟩, be.out _ k3'.out⟩
  · have HV : Hid (¬ D.V) := hV
    clear hV
    go_region_with (first
      | (go_at_call 28; refine (validI_any B v0 v1 v2 v3 D W.drew (HP.out _ (be.out _ hdr.out)) (by have := (be.out _ hdr.out).size; omega) hz).mono ?_; rintro e w1 ⟨b1, rfl, i1, hb1⟩; obtain rfl : b1 = false := (by cases b1; rfl; exact absurd (i1.1 rfl) HV.out); have K1 : Hid (Below (w.heap.size + 1 + 1) W w1) := hdr.out.trans (hb1.mono sW); clear i1 hb1; clear y0 y1 y2 y3 x0 x1 x2 x3 x4 x5 x6 x7 x8 x9 x10; obtain ⟨⟨y0, y1, y2, y3⟩, x0, x1, x2, x3, x4, x5, x6, x7, x8, x9, x10⟩ := bx.out w1 K1.out; skip))
    all_goals
      go_wp2_with fail
      go_ret
      exact ⟨false, rfl, ⟨fun h => (by cases h), fun h => absurd h HV.out⟩, be.out _ K1.out⟩

end Go.Proofs.YtciembgenlcogaeGreat
