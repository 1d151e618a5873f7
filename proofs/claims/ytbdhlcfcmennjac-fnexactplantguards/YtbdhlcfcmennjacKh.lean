/-
  A contract of the program's PlantGuards: it answers with the names of the valves at a route's places that are not its own, in memory of its own.
-/
import Derived.Test.YtbdhlcfcmennjacKf
import Derived.Test.YtbdhlcfcmennjacKg
import Derived.Test.YtbdhlcfcmennjacZh
namespace Go.Proofs.Ytbdhlcfcmennjac
open Go.RowKit

theorem gdN_sizes {D : PD} (hV : D.V) (m : Nat) (P : Nat → ByteArray) (k : Nat) (Q : Nat → ByteArray) (i : Nat) (hi : i < (gdN D m P k Q D.nv).length) : (nthB (gdN D m P k Q D.nv) i).size ≤ 1048576 := by
  have h1 : nthB (gdN D m P k Q D.nv) i ∈ gdN D m P k Q D.nv := List.mem_of_getElem? (nth_at hi)
  obtain ⟨t, ht, e⟩ := List.mem_map.1 h1
  have := (V_sizes hV t (List.mem_range.1 (List.mem_filter.1 ht).1)).1
  rw [← e]; omega

set_option maxRecDepth 100000 in
set_option maxHeartbeats 16000000 in
theorem guardsI_any (B : Nat) (v0 v1 v2 v3 : Value) (D : PD) (op ov : Option Addr) (m k cm ck : Nat) (P Q : Nat → ByteArray) (w : World) (h : PAt B w v0 v1 v2 v3 D) (hP : Lst B w (.slice op m cm) m 1 (cS P)) (hQ : Lst B w (.slice ov k ck) k 1 (cS Q)) (hB : B ≤ w.heap.size) (hcm : m ≤ cm) (hz : D.Sz) (hnv : D.nv ≤ 1048576) :
    Calls Try.prog 17 #[.agg #[v0, v1, v2, v3], .agg #[.slice op m cm, .slice ov k ck]] w fun e w' => ∃ v b, e = .returned v ∧ (b = true ↔ D.V ∧ RI D m P k Q) ∧ w'.ownsRow w.heap.size 9 1 v (gdL b D m P k Q).length ((gdL b D m P k Q).map .string) ∧ Below w.heap.size w w' := by
  obtain ⟨i0, hi, hz0, hz1, hz2⟩ := info_parts info9b
  have H : Hid (∀ w', Below w.heap.size w w' → PAt B w' v0 v1 v2 v3 D ∧ Lst B w' (.slice op m cm) m 1 (cS P) ∧ Lst B w' (.slice ov k ck) k 1 (cS Q)) := fun w' hb => ⟨h.kept hb hB, hP.kept hb hB, hQ.kept hb hB⟩
  clear h hP hQ
  obtain ⟨W, hW⟩ : ∃ W, W = (w.alloc (.cells #[v0, v1, v2, v3] 35)).alloc (.cells #[.slice op m cm, .slice ov k ck] 46) := ⟨_, rfl⟩
  have kW : Hid (Below (w.heap.size + 1 + 1) W W) := Below.refl _ _
  have sW : W.heap.size = w.heap.size + 1 + 1 := by rw [hW]; simp
  have eW : Hid (W = (w.alloc (.cells #[v0, v1, v2, v3] 35)).alloc (.cells #[.slice op m cm, .slice ov k ck] 46)) := hW
  have bx : Hid (∀ wr, Below (w.heap.size + 1 + 1) W wr → ((wr.cell? ⟨w.heap.size, 0, none⟩ = some v0 ∧ wr.cell? ⟨w.heap.size, 1, none⟩ = some v1 ∧ wr.cell? ⟨w.heap.size, 2, none⟩ = some v2 ∧ wr.cell? ⟨w.heap.size, 3, none⟩ = some v3) ∧ wr.cell? ⟨w.heap.size + 1, 0, none⟩ = some (.slice op m cm) ∧ wr.cell? ⟨w.heap.size + 1, 1, none⟩ = some (.slice ov k ck)) ∧ Below w.heap.size w wr) := fun wr hb => by
    rw [hW] at hb
    obtain ⟨h1, h2⟩ := two_box hb
    exact ⟨⟨⟨h1 0 _ rfl, h1 1 _ rfl, h1 2 _ rfl, h1 3 _ rfl⟩, h2 0 _ rfl, h2 1 _ rfl⟩, two_end hb⟩
  clear hW
  go_enter Try.func17, Try.ntmps17
  go_upto_region 1 with fail
  rw [← eW.out]
  obtain ⟨⟨⟨x0, x1, x2, x3⟩, y0, y1⟩, hbw⟩ := bx.out W kW.out
  obtain ⟨LP, LR, LQ⟩ := H.out W hbw
  go_wp2_with fail
  refine (validI_any B v0 v1 v2 v3 D _ LP (Nat.le_trans hB hbw.size) hz).mono ?_; rintro e w1 ⟨b1, rfl, i1, hb1⟩
  have IS1 : Hid _ := i1
  have k2 : Hid (Below (w.heap.size + 1 + 1) W w1) := kW.out.trans (hb1.mono (by omega))
  clear i1 x0 x1 x2 x3 y0 y1 LP LR LQ hbw hb1
  cases b1
  · go_wp2_with fail
    go_ret
    exact ⟨_, false, rfl, ⟨(fun h => by cases h), fun h => IS1.out.2 h.1⟩, World.ownsRow_nil _ _ _ _, (bx.out _ k2.out).2⟩
  · obtain ⟨⟨⟨x0, x1, x2, x3⟩, y0, y1⟩, hbw⟩ := bx.out w1 k2.out
    obtain ⟨LP, LR, LQ⟩ := H.out w1 hbw
    have hV : Hid D.V := by have := IS1.out; simpa [Hid] using this
    go_wp2_with fail
    refine (isRoute_any B v0 v1 v2 v3 D op ov m k cm ck P Q _ LP LR LQ (Nat.le_trans hB hbw.size) hcm).mono ?_; rintro e w2 ⟨b2, rfl, i2, hb2⟩
    have IS2 : Hid _ := i2
    have k3 : Hid (Below (w.heap.size + 1 + 1) W w2) := k2.out.trans (hb2.mono (by have := k2.out.size; omega))
    clear i2 x0 x1 x2 x3 y0 y1 LP LR LQ hbw hb2
    cases b2
    · go_wp2_with fail
      go_ret
      exact ⟨_, false, rfl, ⟨(fun h => by cases h), fun h => IS2.out.2 h.2⟩, World.ownsRow_nil _ _ _ _, (bx.out _ k3.out).2⟩
    · obtain ⟨⟨⟨x0, x1, x2, x3⟩, y0, y1⟩, hbw⟩ := bx.out w2 k3.out
      have LV := (H.out w2 hbw).1.v
      obtain ⟨oa, cap, rfl, _, hcV⟩ := LV
      have HCV : Hid _ := hcV
      clear hcV
      go_wp2_with fail
      clear x0 x1 x2 x3 y0 y1 hbw
      go_loopw [5, 21] (fun v i wr => ∃ q : Nat, q ≤ D.nv ∧ i = .int .i64 q ∧ Hid (wr.ownsRow (w.heap.size + 1 + 1) 9 1 v (gdN D m P k Q q).length ((gdN D m P k Q q).map .string)) ∧ Hid (Below (w.heap.size + 1 + 1) W wr)) (fun _ i _ => D.nv - (intOf i).toNat)
      case atStart => exact ⟨0, Nat.zero_le _, rfl, by simpa [Hid, gdN] using World.ownsRow_nil w2 (w.heap.size + 1 + 1) 9 1, k3⟩
      case round =>
        obtain ⟨q, hq, rfl, hown, hbel⟩ := hrel
        obtain ⟨⟨⟨x0, x1, x2, x3⟩, y0, y1⟩, hbw⟩ := bx.out wr hbel.out
        have hsr : w.heap.size + 1 + 1 ≤ wr.heap.size := by have := hbel.out.size; omega
        have hgl := gdN_len D m P k Q q
        by_cases hlq : q < D.nv
        · obtain ⟨LP, LR, LQ⟩ := H.out wr hbw
          obtain ⟨oa', cap', hv, _, hcv⟩ := LP.v
          cases hv
          obtain ⟨b, off, rfl, hbB, hcell⟩ := hcv q hlq
          have e0 : wr.cell? ⟨b, off + q * 4, none⟩ = some (.string (D.fv q).1) := by simpa [cV] using hcell 0 (by omega)
          have e1 : wr.cell? ⟨b, off + q * 4 + 1, none⟩ = some (.string (D.fv q).2.1) := by simpa [cV] using hcell 1 (by omega)
          have e2 : wr.cell? ⟨b, off + q * 4 + 2, none⟩ = some (.string (D.fv q).2.2.1) := by simpa [cV] using hcell 2 (by omega)
          have e3 : wr.cell? ⟨b, off + q * 4 + 3, none⟩ = some (.string (D.fv q).2.2.2) := by simpa [cV] using hcell 3 (by omega)
          have hU : Hid (Below (w.heap.size + 1 + 1) W (wr.alloc (.cells #[.string (D.fv q).1, .string (D.fv q).2.1, .string (D.fv q).2.2.1, .string (D.fv q).2.2.2] 78))) := hbel.out.alloc hsr _
          have hUw := (bx.out _ hU.out).2
          have HLR : Hid (Lst B (wr.alloc (.cells #[.string (D.fv q).1, .string (D.fv q).2.1, .string (D.fv q).2.2.1, .string (D.fv q).2.2.2] 78)) (.slice op m cm) m 1 (cS P)) := (H.out _ hUw).2.1
          have HLQ : Hid (Lst B (wr.alloc (.cells #[.string (D.fv q).1, .string (D.fv q).2.1, .string (D.fv q).2.2.1, .string (D.fv q).2.2.2] 78)) (.slice ov k ck) k 1 (cS Q)) := (H.out _ hUw).2.2
          have y0' := cell_past y0 (by omega) (.cells #[.string (D.fv q).1, .string (D.fv q).2.1, .string (D.fv q).2.2.1, .string (D.fv q).2.2.2] 78)
          have y1' := cell_past y1 (by omega) (.cells #[.string (D.fv q).1, .string (D.fv q).2.1, .string (D.fv q).2.2.1, .string (D.fv q).2.2.2] 78)
          clear hcv hcell LP LR LQ
          cases hA : hasB m P (D.fv q).2.1
          · cases hC : hasB m P (D.fv q).2.2.1
            · go_wp2_with fail
              refine (hasI_any B _ m P _ _ HLR.out).mono ?_; rintro e w0 ⟨rfl, rfl⟩
              rw [hA]
              go_wp2_with fail
              refine (hasI_any B _ m P _ _ HLR.out).mono ?_; rintro e w0 ⟨rfl, rfl⟩
              rw [hC]
              go_wp2_with fail
              go_roundw
              case rel => exact ⟨q + 1, by omega, by go_num, by show World.ownsRow _ _ _ _ _ _ _; rw [gdN_no (by unfold gdB; rw [hA, hC]; rfl)]; exact hown.out.alloc _, hU.out⟩
              case measure => simp [intOf]; omega
            · cases hO : hasB k Q (D.fv q).1
              · go_wp2_with fail
                refine (hasI_any B _ m P _ _ HLR.out).mono ?_; rintro e w0 ⟨rfl, rfl⟩
                rw [hA]
                go_wp2_with fail
                refine (hasI_any B _ m P _ _ HLR.out).mono ?_; rintro e w0 ⟨rfl, rfl⟩
                rw [hC]
                go_wp2_with fail
                refine (hasI_any B _ k Q _ _ HLQ.out).mono ?_; rintro e w0 ⟨rfl, rfl⟩
                rw [hO]
                go_wp2_with (first
                  | (at_builtin; refine wpList_append_own _ rfl _ _ 22 rfl (w.heap.size + 1 + 1) 9 i0 (.string ByteArray.empty) 1 16 under24b hi hz0 hz1 hz2 rfl (by decide) _ _ _ rfl ((hown.out.alloc _).alloc _) ⟨wr.heap.size + 1, 0, none⟩ 1 1 [.string (D.fv q).1] rfl rfl (by have := cell_one_new (wr.alloc (.cells #[.string (D.fv q).1, .string (D.fv q).2.1, .string (D.fv q).2.2.1, .string (D.fv q).2.2.2] 78)) (.string (D.fv q).1) 9; simpa using this) (fun x hx => by simp at hx; subst hx; rfl) (by unfold maxLen; omega) (by omega) (by simp; omega) ?_; intro v' w3 hown' hgrow3 hnil3))
                go_roundw
                case rel =>
                  have RR : ∃ q' : Nat, q' ≤ D.nv ∧ Value.int .i64 ((q : Int) + 1) = .int .i64 (q' : Int) ∧ Hid (w3.ownsRow (w.heap.size + 1 + 1) 9 1 v' (gdN D m P k Q q').length ((gdN D m P k Q q').map .string)) ∧ Hid (Below (w.heap.size + 1 + 1) W w3) :=
                    ⟨q + 1, by omega, by go_num, by show World.ownsRow _ _ _ _ _ _ _; rw [gdN_yes (by unfold gdB; rw [hA, hC, hO]; rfl)]; exact own_push hown', (hU.out.alloc (by simp; omega) _).grown hgrow3 (by simp; omega) (fun p hp => (hown.out.lt p hp).1)⟩
                  first
                    | exact RR
                    | ((repeat apply Exists.intro); exact ⟨RR, rfl⟩)
                case measure => simp [intOf]; omega
              · go_wp2_with fail
                refine (hasI_any B _ m P _ _ HLR.out).mono ?_; rintro e w0 ⟨rfl, rfl⟩
                rw [hA]
                go_wp2_with fail
                refine (hasI_any B _ m P _ _ HLR.out).mono ?_; rintro e w0 ⟨rfl, rfl⟩
                rw [hC]
                go_wp2_with fail
                refine (hasI_any B _ k Q _ _ HLQ.out).mono ?_; rintro e w0 ⟨rfl, rfl⟩
                rw [hO]
                go_wp2_with fail
                go_roundw
                case rel => exact ⟨q + 1, by omega, by go_num, by show World.ownsRow _ _ _ _ _ _ _; rw [gdN_no (by unfold gdB; rw [hA, hC, hO]; rfl)]; exact hown.out.alloc _, hU.out⟩
                case measure => simp [intOf]; omega
          · cases hO : hasB k Q (D.fv q).1
            · go_wp2_with fail
              refine (hasI_any B _ m P _ _ HLR.out).mono ?_; rintro e w0 ⟨rfl, rfl⟩
              rw [hA]
              go_wp2_with fail
              refine (hasI_any B _ k Q _ _ HLQ.out).mono ?_; rintro e w0 ⟨rfl, rfl⟩
              rw [hO]
              go_wp2_with (first
                | (at_builtin; refine wpList_append_own _ rfl _ _ 22 rfl (w.heap.size + 1 + 1) 9 i0 (.string ByteArray.empty) 1 16 under24b hi hz0 hz1 hz2 rfl (by decide) _ _ _ rfl ((hown.out.alloc _).alloc _) ⟨wr.heap.size + 1, 0, none⟩ 1 1 [.string (D.fv q).1] rfl rfl (by have := cell_one_new (wr.alloc (.cells #[.string (D.fv q).1, .string (D.fv q).2.1, .string (D.fv q).2.2.1, .string (D.fv q).2.2.2] 78)) (.string (D.fv q).1) 9; simpa using this) (fun x hx => by simp at hx; subst hx; rfl) (by unfold maxLen; omega) (by omega) (by simp; omega) ?_; intro v' w3 hown' hgrow3 hnil3))
              go_roundw
              case rel =>
                have RR : ∃ q' : Nat, q' ≤ D.nv ∧ Value.int .i64 ((q : Int) + 1) = .int .i64 (q' : Int) ∧ Hid (w3.ownsRow (w.heap.size + 1 + 1) 9 1 v' (gdN D m P k Q q').length ((gdN D m P k Q q').map .string)) ∧ Hid (Below (w.heap.size + 1 + 1) W w3) :=
                  ⟨q + 1, by omega, by go_num, by show World.ownsRow _ _ _ _ _ _ _; rw [gdN_yes (by unfold gdB; rw [hA, hO]; rfl)]; exact own_push hown', (hU.out.alloc (by simp; omega) _).grown hgrow3 (by simp; omega) (fun p hp => (hown.out.lt p hp).1)⟩
                first
                  | exact RR
                  | ((repeat apply Exists.intro); exact ⟨RR, rfl⟩)
              case measure => simp [intOf]; omega
            · go_wp2_with fail
              refine (hasI_any B _ m P _ _ HLR.out).mono ?_; rintro e w0 ⟨rfl, rfl⟩
              rw [hA]
              go_wp2_with fail
              refine (hasI_any B _ k Q _ _ HLQ.out).mono ?_; rintro e w0 ⟨rfl, rfl⟩
              rw [hO]
              go_wp2_with fail
              go_roundw
              case rel => exact ⟨q + 1, by omega, by go_num, by show World.ownsRow _ _ _ _ _ _ _; rw [gdN_no (by unfold gdB; rw [hA, hO]; rfl)]; exact hown.out.alloc _, hU.out⟩
              case measure => simp [intOf]; omega
        · obtain rfl : q = D.nv := by omega
          have hV' := hV.out
          have OL := own_lst hown.out (by omega)
          have GS : Hid (∀ i, i < (gdN D m P k Q D.nv).length → (nthB (gdN D m P k Q D.nv) i).size ≤ 1048576) := fun i hi => gdN_sizes hV.out m P k Q i hi
          clear hV'
          go_wp2_with fail
          refine (freshI_any wr.heap.size _ (gdN D m P k Q D.nv) wr OL (Nat.le_refl _) (by omega) GS.out).mono ?_; rintro e w6 ⟨v6, rfl, o6, hb6⟩
          have O6 : Hid (w6.ownsRow wr.heap.size 9 1 v6 (gdN D m P k Q D.nv).length ((gdN D m P k Q D.nv).map .string)) := o6
          clear o6 OL
          go_wp2_with fail
          go_ret
          exact ⟨v6, true, rfl, ⟨fun _ => ⟨hV.out, by have := IS2.out; simpa using this⟩, fun _ => rfl⟩, own_leR O6.out (by omega), hbw.trans (hb6.mono (by omega))⟩

end Go.Proofs.Ytbdhlcfcmennjac
