/-
  Contracts of PlantAlone, of the model and of the program: the plant is valid, this is a route, all of its valves are open, and its places are a whole group.
-/
import Derived.Test.YtbdhlcfcmennjacGreatRm
import Derived.Test.YtbdhlcfcmennjacGreatKg
namespace Go.Proofs.YtbdhlcfcmennjacGreat
open Go.RowKit

/-- All valves of the route are open, and the group of its first place has as many places as the route. -/
def AL (D : PD) (m : Nat) (P : Nat → ByteArray) (k : Nat) (Q : Nat → ByteArray) (no : Nat) (fo : Nat → ByteArray) : Prop :=
  (∀ j, j < k → hasB no fo (Q j) = true) ∧ (itG D.fv no fo D.nv D.np [P 0]).length = m

theorem cap_place {n : Nat} {f : Nat → ByteArray × Int × ByteArray} {x : ByteArray} (h : 1 ≤ capI n f x) : 0 ≤ placeI n f x := by
  unfold capI at h
  split at h <;> omega

set_option maxRecDepth 100000 in
set_option maxHeartbeats 16000000 in
theorem aloneS_any (B : Nat) (v0 v1 v2 v3 vo : Value) (D : PD) (op ov : Option Addr) (m k cm ck no : Nat) (P Q fo : Nat → ByteArray) (w : World) (h : PAt B w v0 v1 v2 v3 D) (hP : Lst B w (.slice op m cm) m 1 (cS P)) (hQ : Lst B w (.slice ov k ck) k 1 (cS Q)) (ho : Lst B w vo no 1 (cS fo)) (hB : B ≤ w.heap.size) (hcm : m ≤ cm) (hz : D.Sz) :
    Calls Tryz.prog 19 #[.agg #[v0, v1, v2, v3], vo, .agg #[.slice op m cm, .slice ov k ck]] w fun e w' => ∃ b, e = .returned (.bool b) ∧ (b = true ↔ D.V ∧ RS D m P k Q ∧ AL D m P k Q no fo) ∧ Below w.heap.size w w' := by
  have H : Hid (∀ w', Below w.heap.size w w' → PAt B w' v0 v1 v2 v3 D ∧ Lst B w' (.slice op m cm) m 1 (cS P) ∧ Lst B w' (.slice ov k ck) k 1 (cS Q) ∧ Lst B w' vo no 1 (cS fo)) := fun w' hb => ⟨h.kept hb hB, hP.kept hb hB, hQ.kept hb hB, ho.kept hb hB⟩
  have hm : m ≤ 9223372036854775807 := by obtain ⟨_, _, hv, hn, _⟩ := hP; cases hv; unfold maxLen at hn; omega
  have hkm : k ≤ 9223372036854775807 := by obtain ⟨_, _, hv, hn, _⟩ := hQ; cases hv; unfold maxLen at hn; omega
  clear h hP hQ ho
  obtain ⟨W, hW⟩ : ∃ W, W = (w.alloc (.cells #[v0, v1, v2, v3] 36)).alloc (.cells #[.slice op m cm, .slice ov k ck] 49) := ⟨_, rfl⟩
  have kW : Hid (Below (w.heap.size + 1 + 1) W W) := Below.refl _ _
  have sW : w.heap.size + 1 + 1 ≤ W.heap.size := by rw [hW]; simp
  have eW : Hid (W = (w.alloc (.cells #[v0, v1, v2, v3] 36)).alloc (.cells #[.slice op m cm, .slice ov k ck] 49)) := hW
  have bx : Hid (∀ wr, Below (w.heap.size + 1 + 1) W wr → ((wr.cell? ⟨w.heap.size, 0, none⟩ = some v0 ∧ wr.cell? ⟨w.heap.size, 1, none⟩ = some v1 ∧ wr.cell? ⟨w.heap.size, 2, none⟩ = some v2 ∧ wr.cell? ⟨w.heap.size, 3, none⟩ = some v3) ∧ wr.cell? ⟨w.heap.size + 1, 0, none⟩ = some (.slice op m cm) ∧ wr.cell? ⟨w.heap.size + 1, 1, none⟩ = some (.slice ov k ck)) ∧ Below w.heap.size w wr) := fun wr hb => by
    rw [hW] at hb
    obtain ⟨h1, h2⟩ := two_box hb
    exact ⟨⟨⟨h1 0 _ rfl, h1 1 _ rfl, h1 2 _ rfl, h1 3 _ rfl⟩, h2 0 _ rfl, h2 1 _ rfl⟩, two_end hb⟩
  clear hW
  go_enter Tryz.func19, Tryz.ntmps19
  go_upto_region 1 with fail
  rw [← eW.out]
  obtain ⟨⟨⟨x0, x1, x2, x3⟩, y0, y1⟩, hbw⟩ := bx.out W kW.out
  obtain ⟨LP, LR, LQ, LO⟩ := H.out W hbw
  go_wp2_with fail
  refine (validS_any B v0 v1 v2 v3 D _ LP (Nat.le_trans hB hbw.size) hz).mono ?_; rintro e w1 ⟨b1, rfl, i1, hb1⟩
  have IS1 : Hid _ := i1
  have k2 : Hid (Below (w.heap.size + 1 + 1) W w1) := kW.out.trans (hb1.mono (by omega))
  clear i1 x0 x1 x2 x3 y0 y1 LP LR LQ LO hbw hb1
  cases b1
  · go_wp2_with fail
    go_ret
    exact ⟨false, rfl, ⟨(fun h => by cases h), fun h => IS1.out.2 h.1⟩, (bx.out _ k2.out).2⟩
  · obtain ⟨⟨⟨x0, x1, x2, x3⟩, y0, y1⟩, hbw⟩ := bx.out w1 k2.out
    obtain ⟨LP, LR, LQ, LO⟩ := H.out w1 hbw
    have hV : Hid D.V := by have := IS1.out; simpa [Hid] using this
    go_wp2_with fail
    refine (routeS_any B v0 v1 v2 v3 D op ov m k cm ck P Q _ LP LR LQ (Nat.le_trans hB hbw.size) hcm).mono ?_; rintro e w2 ⟨b2, rfl, i2, hb2⟩
    have IS2 : Hid _ := i2
    have k3 : Hid (Below (w.heap.size + 1 + 1) W w2) := k2.out.trans (hb2.mono (by have := k2.out.size; omega))
    clear i2 x0 x1 x2 x3 y0 y1 LP LR LQ LO hbw hb2
    cases b2
    · go_wp2_with fail
      go_ret
      exact ⟨false, rfl, ⟨(fun h => by cases h), fun h => IS2.out.2 h.2.1⟩, (bx.out _ k3.out).2⟩
    · have hR : Hid (RS D m P k Q) := by have := IS2.out; simpa [Hid] using this
      go_wp2_with fail
      go_loopw [7] (fun i wr => ∃ q : Nat, q ≤ k ∧ i = .int .i64 q ∧ Hid (∀ j, j < q → hasB no fo (Q j) = true) ∧ Hid (Below (w.heap.size + 1 + 1) W wr)) (fun i _ => k - (intOf i).toNat)
      case atStart => exact ⟨0, Nat.zero_le _, rfl, fun _ h => by omega, k3⟩
      case round =>
        obtain ⟨q, hq, rfl, hall, hbel⟩ := hrel
        obtain ⟨⟨⟨x0, x1, x2, x3⟩, y0, y1⟩, hbw⟩ := bx.out wr hbel.out
        have hsr : w.heap.size + 1 + 1 ≤ wr.heap.size := by have := hbel.out.size; omega
        by_cases hlq : q < k
        · obtain ⟨LP, LR, LQ, LO⟩ := H.out wr hbw
          have HLO : Hid (Lst B wr vo no 1 (cS fo)) := LO
          obtain ⟨ov', ck', hv, _, hcQ⟩ := LQ
          cases hv
          obtain ⟨b, off, rfl, hbB, hc0⟩ := hcQ q hlq
          have zq := hc0 0 (by omega)
          simp only [Nat.mul_one, Nat.add_zero, cS] at zq
          clear hcQ hc0 LP LR LO
          cases hh : hasB no fo (Q q)
          · go_wp2_with fail
            refine (hasS_any B vo no fo (Q q) _ HLO.out).mono ?_; rintro e w0 ⟨rfl, hw0⟩
            have hw1 := hw0.symm
            subst hw1
            rw [hh]
            go_wp2_with fail
            go_ret
            exact ⟨false, rfl, ⟨(fun h => by cases h), fun h => by rw [h.2.2.1 q hlq] at hh; cases hh⟩, hbw⟩
          · go_wp2_with fail
            refine (hasS_any B vo no fo (Q q) _ HLO.out).mono ?_; rintro e w0 ⟨rfl, hw0⟩
            have hw1 := hw0.symm
            subst hw1
            rw [hh]
            go_wp2_with fail
            go_roundw
            case rel => exact ⟨q + 1, by omega, by go_num, fun j hj => by
              by_cases hjq : j < q
              · exact hall.out j hjq
              · have e : j = q := by omega
                subst e; exact hh, hbel⟩
            case measure => simp [intOf]; omega
        · have hqk : q = k := by omega
          have HALL : Hid (∀ j, j < k → hasB no fo (Q j) = true) := fun j hj => hall.out j (by omega)
          have hd : decide ((q : Int) < (k : Int)) = false := by simp; omega
          obtain ⟨LP, LR, LQ, LO⟩ := H.out wr hbw
          have HLO : Hid (Lst B wr vo no 1 (cS fo)) := LO
          have HLP : Hid (PAt B wr v0 v1 v2 v3 D) := LP
          obtain ⟨op', cm', hv, _, hcP⟩ := LR
          cases hv
          obtain ⟨b, off, rfl, hbB, hc0⟩ := hcP 0 (by have := hR.out.1.1; omega)
          have z0 := hc0 0 (by omega)
          simp only [Nat.zero_mul, Nat.add_zero, cS] at z0
          have HQK : Hid (q = k) := hqk
          have hm2 : 2 ≤ m := hR.out.1.1
          have hm0 : 0 < m := by omega
          clear hcP hc0 LP LQ LO hqk hall
          have qx0 := fun d os => cell_regrown x0 d os
          have qx1 := fun d os => cell_regrown x1 d os
          have qx2 := fun d os => cell_regrown x2 d os
          have qx3 := fun d os => cell_regrown x3 d os
          have qy0 := fun d os => cell_regrown y0 d os
          have qz0 := fun d os => cell_regrown z0 d os
          go_wp2_with fail
          have hdr : Hid (Below wr.heap.size wr wr.drew) := (Below.refl _ _).drew
          have hdw : Hid (Below w.heap.size w wr.drew) := hbw.trans (hdr.out.mono (by omega))
          refine wp_region_mix 12 [0, 1, 2, 3, 4, 5, 8, 9, 10] (by kernel_rfl) (by kernel_rfl) ?_
          simp only [List.filterMap_cons, List.filterMap_nil, List.getElem?_cons_succ, List.getElem?_cons_zero]
          repeat (first | go_big_quiet_step (fail) | quiet_step (fail))
          refine wpQuiet_nil ?_
          refine call1 (md := .any) (f := 2) (i := 6) (dc := 38) (fn := 27) ⟨rfl, rfl, rfl, by decide⟩ (by kernel_rfl) ?run ((l4Group_any B v0 v1 v2 v3 vo D no fo (P 0) wr.drew (H.out _ hdw.out).1 (H.out _ hdw.out).2.2.2 (by have := hdr.out.size; omega) hV.out.2.2.1).mono ?_)
          case run => go_simp
          rintro e w4 ⟨g, cap, rfl, _, hb4⟩
          have HB4 : Hid (Below wr.heap.size wr w4) := hdr.out.trans hb4
          clear hb4 qx0 qx1 qx2 qx3 qy0 qz0 x0 x1 x2 x3 y0 y1 z0
          refine ⟨_, rfl, regrown_of_below HB4.out, ?_⟩
          refine anyC_step (f := 1) [7] (by kernel_rfl) (by simp) (one_list ⟨by decide, _, rfl, rfl, .int .i64 ((itG D.fv no fo D.nv D.np [P 0]).length : Int), w4, ?run7, regrown_of_below HB4.out, ?_⟩)
          case run7 => go_simp
          refine anyC_step (f := 0) [11] (by kernel_rfl) (by simp) (one_list ⟨by decide, _, rfl, rfl, .bool (((itG D.fv no fo D.nv D.np [P 0]).length : Int) == (m : Int)), w4, ?run11, regrown_of_below HB4.out, ?_⟩)
          case run11 => go_simp
          refine ⟨by kernel_rfl, ?_⟩
          simp only [List.drop_succ_cons, List.drop_zero, Act.put, List.setIfInBounds_toArray, List.set_cons_zero, List.set_cons_succ]
          go_wp2_with fail
          go_ret
          exact ⟨_, rfl, ⟨fun h => ⟨hV.out, hR.out, HALL.out, by have h1 := h; simp only [beq_iff_eq] at h1; omega⟩, fun h => by have h1 := h.2.2.2; simp only [beq_iff_eq]; omega⟩, hbw.trans (HB4.out.mono (by omega))⟩

end Go.Proofs.YtbdhlcfcmennjacGreat
