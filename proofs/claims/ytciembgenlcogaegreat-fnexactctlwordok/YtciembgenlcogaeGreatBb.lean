/-
  Contracts of the program's and of the model's stations of a plant: both answer with all that it tells of stations, each once, ascending, in memory of their own.
-/
import Derived.Test.YtciembgenlcogaeGreatWme
import Derived.Test.YtciembgenlcogaeGreatKe
import Derived.Test.YtciembgenlcogaeGreatZh
namespace Go.Proofs.YtciembgenlcogaeGreat
open Go.RowKit

theorem stn_size {D : PD} (hV : D.V) {y : ByteArray} (h : y ∈ stnP D D.np ++ stnV D D.nv) : y.size ≤ 8 := by
  rcases List.mem_append.1 h with h | h
  · obtain ⟨i, hi, rfl⟩ := List.mem_map.1 h
    exact name_size (hV.2.1.2 i (List.mem_range.1 hi)).2.2.2
  · obtain ⟨i, hi, rfl⟩ := List.mem_map.1 h
    exact name_size (hV.2.2.2 i (List.mem_range.1 hi)).2.2.2.2.2
/-- The answer: the stations, or nothing. -/
def stL (b : Bool) (D : PD) : List ByteArray := bif b then stnL D else []

set_option maxRecDepth 100000 in
set_option maxHeartbeats 4000000 in
theorem stations_any (B : Nat) (v0 v1 v2 v3 : Value) (D : PD) (w : World) (h : PAt B w v0 v1 v2 v3 D) (hB : B ≤ w.heap.size) (hV : D.V) :
    Calls Tryz.prog 30 #[.agg #[v0, v1, v2, v3]] w fun e w' => ∃ v, e = .returned v ∧ w'.ownsRow w.heap.size 9 1 v (stnL D).length ((stnL D).map .string) ∧ Below w.heap.size w w' := by
  obtain ⟨i0, hi, hz0, hz1, hz2⟩ := info_parts info9b
  have HV : Hid D.V := hV
  have hnp : D.np ≤ 14 := hV.2.1.1
  have hnv : D.nv ≤ 18 := hV.2.2.1
  clear hV
  have H : Hid (∀ w', Below w.heap.size w w' → PAt B w' v0 v1 v2 v3 D) := fun w' hb => h.kept hb hB
  clear h
  obtain ⟨W, hW⟩ : ∃ W, W = w.alloc (.cells #[v0, v1, v2, v3] 40) := ⟨_, rfl⟩
  have sW : W.heap.size = w.heap.size + 1 := by rw [hW]; simp
  have kW : Hid (Below (w.heap.size + 1) W W) := Below.refl _ _
  have EW : Hid (W = w.alloc (.cells #[v0, v1, v2, v3] 40)) := hW
  have bx : Hid (∀ w', Below (w.heap.size + 1) W w' → (w'.cell? ⟨w.heap.size, 2, none⟩ = some v2 ∧ w'.cell? ⟨w.heap.size, 3, none⟩ = some v3) ∧ Below w.heap.size w w') := fun w' hb => by
    rw [hW] at hb
    exact ⟨⟨box_in hb 2 _ rfl, box_in hb 3 _ rfl⟩, below_end hb⟩
  clear hW
  go_enter Tryz.func30, Tryz.ntmps30
  go_upto_region 2 with fail
  rw [← EW.out]
  obtain ⟨⟨a2, a3⟩, hbw⟩ := bx.out W kW.out
  obtain ⟨op, cp, rfl, _, hcV⟩ := (H.out W hbw).p
  clear hcV
  go_wp2_with fail
  clear a2 a3 hbw
  go_loopw [3, 11] (fun v i wr => ∃ q : Nat, q ≤ D.np ∧ i = .int .i64 q ∧ Hid (wr.ownsRow (w.heap.size + 1) 9 1 v (stnP D q).length ((stnP D q).map .string)) ∧ Hid (Below (w.heap.size + 1) W wr)) (fun _ i _ => D.np - (intOf i).toNat)
  case atStart => exact ⟨0, Nat.zero_le _, rfl, by simpa [Hid, stnP] using World.ownsRow_nil W (w.heap.size + 1) 9 1, kW⟩
  case round =>
    obtain ⟨q, hq, rfl, hown, hbel⟩ := hrel
    obtain ⟨⟨a2, a3⟩, hbw⟩ := bx.out wr hbel.out
    have hsr : w.heap.size + 1 ≤ wr.heap.size := by have := hbel.out.size; omega
    have hlen := stnP_len D q
    by_cases hlt : q < D.np
    · obtain ⟨oa', cap', hv, _, hcv⟩ := (H.out wr hbw).p
      cases hv
      obtain ⟨b, off, rfl, hbB, hcell⟩ := hcv q hlt
      have e0 : wr.cell? ⟨b, off + q * 3, none⟩ = some (.string (D.fp q).1) := hcell 0 (by omega)
      have e1 : wr.cell? ⟨b, off + q * 3 + 1, none⟩ = some (.int .i64 (D.fp q).2.1) := hcell 1 (by omega)
      have e2 : wr.cell? ⟨b, off + q * 3 + 2, none⟩ = some (.string (D.fp q).2.2) := hcell 2 (by omega)
      clear hcv hcell
      go_wp2_with (first
        | (at_builtin; refine wpList_append_own _ rfl _ _ 22 rfl (w.heap.size + 1) 9 i0 (.string ByteArray.empty) 1 16 under24b hi hz0 hz1 hz2 rfl (by decide) _ _ _ rfl ((hown.out.alloc _).alloc _) ⟨wr.heap.size + 1, 0, none⟩ 1 1 [.string (D.fp q).2.2] rfl rfl (by have := cell_one_new (wr.alloc (.cells #[.string (D.fp q).1, .int .i64 (D.fp q).2.1, .string (D.fp q).2.2] 84)) (.string (D.fp q).2.2) 9; simpa using this) (fun x hx => by simp at hx; subst hx; rfl) (by unfold maxLen; omega) (by omega) (by simp; omega) ?_; intro v' w3 hown' hgrow3 hnil3))
      go_roundw
      case rel =>
        have RR : ∃ q' : Nat, q' ≤ D.np ∧ Value.int .i64 ((q : Int) + 1) = .int .i64 (q' : Int) ∧ Hid (w3.ownsRow (w.heap.size + 1) 9 1 v' (stnP D q').length ((stnP D q').map .string)) ∧ Hid (Below (w.heap.size + 1) W w3) :=
          ⟨q + 1, by omega, by go_num, by show World.ownsRow _ _ _ _ _ _ _; rw [stnP_succ]; exact own_push hown', (((hbel.out.alloc hsr _).alloc (by simp; omega) _).grown hgrow3 (by simp; omega) (fun p hp => (hown.out.lt p hp).1))⟩
        first
          | exact RR
          | ((repeat apply Exists.intro); exact ⟨RR, rfl⟩)
      case measure => simp [intOf]; omega
    · obtain rfl : q = D.np := by omega
      obtain ⟨ov, cv, rfl, _, hcV⟩ := (H.out wr hbw).v
      clear hcV
      go_wp2_with fail
      clear a2 a3 hbw
      have O0 := hown
      have K0 := hbel
      clear hown hbel hsr
      go_loopw [3, 24] (fun v i wr => ∃ q : Nat, q ≤ D.nv ∧ i = .int .i64 q ∧ Hid (wr.ownsRow (w.heap.size + 1) 9 1 v (stnP D D.np ++ stnV D q).length ((stnP D D.np ++ stnV D q).map .string)) ∧ Hid (Below (w.heap.size + 1) W wr)) (fun _ i _ => D.nv - (intOf i).toNat)
      case atStart => exact ⟨0, Nat.zero_le _, rfl, by simpa [Hid, stnV] using O0.out, K0⟩
      case round =>
        obtain ⟨q, hq, rfl, hown, hbel⟩ := hrel
        obtain ⟨⟨a2, a3⟩, hbw⟩ := bx.out wr hbel.out
        have hsr : w.heap.size + 1 ≤ wr.heap.size := by have := hbel.out.size; omega
        have hlen2 : (stnP D D.np ++ stnV D q).length ≤ 32 := by rw [List.length_append, stnP_len, stnV_len]; omega
        by_cases hlt : q < D.nv
        · obtain ⟨oa', cap', hv, _, hcv⟩ := (H.out wr hbw).v
          cases hv
          obtain ⟨b, off, rfl, hbB, hcell⟩ := hcv q hlt
          have e0 : wr.cell? ⟨b, off + q * 4, none⟩ = some (.string (D.fv q).1) := hcell 0 (by omega)
          have e1 : wr.cell? ⟨b, off + q * 4 + 1, none⟩ = some (.string (D.fv q).2.1) := hcell 1 (by omega)
          have e2 : wr.cell? ⟨b, off + q * 4 + 2, none⟩ = some (.string (D.fv q).2.2.1) := hcell 2 (by omega)
          have e3 : wr.cell? ⟨b, off + q * 4 + 3, none⟩ = some (.string (D.fv q).2.2.2) := hcell 3 (by omega)
          clear hcv hcell
          go_wp2_with (first
            | (at_builtin; refine wpList_append_own _ rfl _ _ 22 rfl (w.heap.size + 1) 9 i0 (.string ByteArray.empty) 1 16 under24b hi hz0 hz1 hz2 rfl (by decide) _ _ _ rfl ((hown.out.alloc _).alloc _) ⟨wr.heap.size + 1, 0, none⟩ 1 1 [.string (D.fv q).2.2.2] rfl rfl (by have := cell_one_new (wr.alloc (.cells #[.string (D.fv q).1, .string (D.fv q).2.1, .string (D.fv q).2.2.1, .string (D.fv q).2.2.2] 85)) (.string (D.fv q).2.2.2) 9; simpa using this) (fun x hx => by simp at hx; subst hx; rfl) (by unfold maxLen; omega) (by omega) (by simp; omega) ?_; intro v' w3 hown' hgrow3 hnil3))
          go_roundw
          case rel =>
            have RR : ∃ q' : Nat, q' ≤ D.nv ∧ Value.int .i64 ((q : Int) + 1) = .int .i64 (q' : Int) ∧ Hid (w3.ownsRow (w.heap.size + 1) 9 1 v' (stnP D D.np ++ stnV D q').length ((stnP D D.np ++ stnV D q').map .string)) ∧ Hid (Below (w.heap.size + 1) W w3) :=
              ⟨q + 1, by omega, by go_num, by show World.ownsRow _ _ _ _ _ _ _; rw [stnV_succ, ← List.append_assoc]; exact own_push hown', (((hbel.out.alloc hsr _).alloc (by simp; omega) _).grown hgrow3 (by simp; omega) (fun p hp => (hown.out.lt p hp).1))⟩
            first
              | exact RR
              | ((repeat apply Exists.intro); exact ⟨RR, rfl⟩)
          case measure => simp [intOf]; omega
        · obtain rfl : q = D.nv := by omega
          have HM : Hid (∀ y, y ∈ stnL D → y.size ≤ 8) := fun y hy => stn_size HV.out (((insA_both _).2 y).1 hy)
          have HS : Hid (cmpL (sortL (stnP D D.np ++ stnV D D.nv)) = stnL D) := cmp_ins _
          have hl2 := stnL_len D
          generalize stnP D D.np ++ stnV D D.nv = LL at hown HS hlen2
          clear a2 a3 hbw
          go_wp2_with fail
          refine (sortN_any (w.heap.size + 1) _ LL wr hown.out (by omega) hsr).mono ?_; rintro e w1 ⟨rfl, o1, hb1⟩
          have O1 : Hid (w1.ownsRow (w.heap.size + 1) 9 1 u3 (sortL LL).length ((sortL LL).map .string)) := o1
          have k1 : Hid (Below (w.heap.size + 1) W w1) := hbel.out.trans hb1
          have s1 := hb1.size
          have hsl := sort_len LL
          clear o1 hb1 hown hbel
          go_wp2_with fail
          refine (compact_any (w.heap.size + 1) _ (sortL LL) w1 O1.out (by omega) (by omega)).mono ?_; rintro e w2 ⟨v2', rfl, o2, hb2⟩
          rw [HS.out] at o2
          have L2 := own_lst o2 (by omega)
          have k2 : Hid (Below (w.heap.size + 1) W w2) := k1.out.trans hb2
          have s2 := hb2.size
          have HZ : Hid (∀ i, i < (stnL D).length → (nthB (stnL D) i).size ≤ 1048576) := fun i hi => by
            have := HM.out _ (List.mem_of_getElem? (nth_at hi)); omega
          clear o2 hb2
          go_wp2_with fail
          refine (freshI_any w2.heap.size _ (stnL D) w2 L2 (Nat.le_refl _) (by omega) HZ.out).mono ?_; rintro e w3 ⟨v3', rfl, o3, hb3⟩
          have O3 : Hid (w3.ownsRow w2.heap.size 9 1 v3' (stnL D).length ((stnL D).map .string)) := o3
          have k3 : Hid (Below (w.heap.size + 1) W w3) := k2.out.trans (hb3.mono (by omega))
          clear o3 hb3 L2
          go_wp2_with fail
          go_ret
          exact ⟨_, rfl, own_leR O3.out (by omega), (bx.out _ k3.out).2⟩

end Go.Proofs.YtciembgenlcogaeGreat
