/-
  A contract of the program's PlantGuards: it answers with the names of the valves at a route's places that are not its own, in memory of its own.
-/
import Derived.Test.YtciembgenlcogabKf
import Derived.Test.YtciembgenlcogabKg
import Derived.Test.YtciembgenlcogabZh
namespace Go.Proofs.Ytciembgenlcogab
open Go.RowKit

theorem gdN_sizes {D : PD} (hV : D.V) (m : Nat) (P : Nat → ByteArray) (k : Nat) (Q : Nat → ByteArray) (i : Nat) (hi : i < (gdN D m P k Q D.nv).length) : (nthB (gdN D m P k Q D.nv) i).size ≤ 1048576 := by
  have h1 : nthB (gdN D m P k Q D.nv) i ∈ gdN D m P k Q D.nv := List.mem_of_getElem? (nth_at hi)
  obtain ⟨t, ht, e⟩ := List.mem_map.1 h1
  have := (V_sizes hV t (List.mem_range.1 (List.mem_filter.1 ht).1)).1
  rw [← e]; omega

set_option maxRecDepth 100000 in
set_option maxHeartbeats 2000000 in
theorem atAny_any (B : Nat) (v : Value) (m : Nat) (P : Nat → ByteArray) (x0 a b x3 : ByteArray) (w : World) (h : Lst B w v m 1 (cS P)) (hB : B ≤ w.heap.size) :
    Calls Try.prog 61 #[.agg #[.string x0, .string a, .string b, .string x3], v] w fun e w' => e = .returned (.bool (hasB m P a || hasB m P b)) ∧ Below w.heap.size w w' := by
  have HL : Hid (Lst B (w.alloc (.cells #[.string x0, .string a, .string b, .string x3] 80)) v m 1 (cS P)) := h.kept ((Below.refl _ _).alloc (Nat.le_refl _) _) hB
  clear h
  go_enter Try.func61, Try.ntmps61
  cases hA : hasB m P a
  · go_wp2_with fail
    refine (hasI_any B _ m P _ _ HL.out).mono ?_; rintro e w0 ⟨rfl, rfl⟩
    rw [hA]
    go_wp2_with fail
    refine (hasI_any B _ m P _ _ HL.out).mono ?_; rintro e w0 ⟨rfl, rfl⟩
    go_wp2_with fail
    go_ret
    exact ⟨rfl, (Below.refl _ _).alloc (Nat.le_refl _) _⟩
  · go_wp2_with fail
    refine (hasI_any B _ m P _ _ HL.out).mono ?_; rintro e w0 ⟨rfl, rfl⟩
    rw [hA]
    go_wp2_with fail
    go_ret
    exact ⟨rfl, (Below.refl _ _).alloc (Nat.le_refl _) _⟩

set_option maxRecDepth 100000 in
set_option maxHeartbeats 8000000 in
theorem guardsOf_any (B : Nat) (v0 v1 v2 v3 : Value) (D : PD) (op ov : Option Addr) (m k cm ck : Nat) (P Q : Nat → ByteArray) (w : World) (h : PAt B w v0 v1 v2 v3 D) (hP : Lst B w (.slice op m cm) m 1 (cS P)) (hQ : Lst B w (.slice ov k ck) k 1 (cS Q)) (hB : B ≤ w.heap.size) (hnv : D.nv ≤ 1048576) :
    Calls Try.prog 33 #[.agg #[v0, v1, v2, v3], .agg #[.slice op m cm, .slice ov k ck]] w fun e w' => ∃ v, e = .returned v ∧ w'.ownsRow w.heap.size 9 1 v (gdN D m P k Q D.nv).length ((gdN D m P k Q D.nv).map .string) ∧ Below w.heap.size w w' := by
  obtain ⟨i0, hi, hz0, hz1, hz2⟩ := info_parts info9b
  have H : Hid (∀ w', Below w.heap.size w w' → PAt B w' v0 v1 v2 v3 D ∧ Lst B w' (.slice op m cm) m 1 (cS P) ∧ Lst B w' (.slice ov k ck) k 1 (cS Q)) := fun w' hb => ⟨h.kept hb hB, hP.kept hb hB, hQ.kept hb hB⟩
  clear h hP hQ
  obtain ⟨W, hW⟩ : ∃ W, W = (w.alloc (.cells #[v0, v1, v2, v3] 37)).alloc (.cells #[.slice op m cm, .slice ov k ck] 39) := ⟨_, rfl⟩
  have kW : Hid (Below (w.heap.size + 1 + 1) W W) := Below.refl _ _
  have sW : W.heap.size = w.heap.size + 1 + 1 := by rw [hW]; simp
  have eW : Hid (W = (w.alloc (.cells #[v0, v1, v2, v3] 37)).alloc (.cells #[.slice op m cm, .slice ov k ck] 39)) := hW
  have bx : Hid (∀ wr, Below (w.heap.size + 1 + 1) W wr → ((wr.cell? ⟨w.heap.size, 0, none⟩ = some v0 ∧ wr.cell? ⟨w.heap.size, 1, none⟩ = some v1 ∧ wr.cell? ⟨w.heap.size, 2, none⟩ = some v2 ∧ wr.cell? ⟨w.heap.size, 3, none⟩ = some v3) ∧ wr.cell? ⟨w.heap.size + 1, 0, none⟩ = some (.slice op m cm) ∧ wr.cell? ⟨w.heap.size + 1, 1, none⟩ = some (.slice ov k ck)) ∧ Below w.heap.size w wr) := fun wr hb => by
    rw [hW] at hb
    obtain ⟨h1, h2⟩ := two_box hb
    exact ⟨⟨⟨h1 0 _ rfl, h1 1 _ rfl, h1 2 _ rfl, h1 3 _ rfl⟩, h2 0 _ rfl, h2 1 _ rfl⟩, two_end hb⟩
  clear hW
  go_enter Try.func33, Try.ntmps33
  go_upto_region 2 with fail
  rw [← eW.out]
  obtain ⟨⟨⟨x0, x1, x2, x3⟩, y0, y1⟩, hbw⟩ := bx.out W kW.out
  have LV := (H.out W hbw).1.v
  obtain ⟨oa, cap, rfl, _, hcV⟩ := LV
  clear hcV
  go_wp2_with fail
  clear x0 x1 x2 x3 y0 y1 hbw
  go_loopw [5, 11] (fun v i wr => ∃ q : Nat, q ≤ D.nv ∧ i = .int .i64 q ∧ Hid (wr.ownsRow (w.heap.size + 1 + 1) 9 1 v (gdN D m P k Q q).length ((gdN D m P k Q q).map .string)) ∧ Hid (Below (w.heap.size + 1 + 1) W wr)) (fun _ i _ => D.nv - (intOf i).toNat)
  case atStart => exact ⟨0, Nat.zero_le _, rfl, by simpa [Hid, gdN] using World.ownsRow_nil W (w.heap.size + 1 + 1) 9 1, kW⟩
  case round =>
    obtain ⟨q, hq, rfl, hown, hbel⟩ := hrel
    obtain ⟨⟨⟨x0, x1, x2, x3⟩, y0, y1⟩, hbw⟩ := bx.out wr hbel.out
    have hsr : w.heap.size + 1 + 1 ≤ wr.heap.size := by have := hbel.out.size; omega
    have hgl := gdN_len D m P k Q q
    by_cases hlq : q < D.nv
    · obtain ⟨LP, LR, LQ⟩ := H.out wr hbw
      obtain ⟨oa', cap', hv, _, hcv⟩ := LP.v
      cases hv
      obtain ⟨b, off, rfl, hbB, hcell⟩ := hcv q hlq
      have e0 : wr.cell? ⟨b, off + q * 4, none⟩ = some (.string (D.fv q).1) := by simpa [cV] using hcell 0 (by omega)
      have e1 : wr.cell? ⟨b, off + q * 4 + 1, none⟩ = some (.string (D.fv q).2.1) := by simpa [cV] using hcell 1 (by omega)
      have e2 : wr.cell? ⟨b, off + q * 4 + 2, none⟩ = some (.string (D.fv q).2.2.1) := by simpa [cV] using hcell 2 (by omega)
      have e3 : wr.cell? ⟨b, off + q * 4 + 3, none⟩ = some (.string (D.fv q).2.2.2) := by simpa [cV] using hcell 3 (by omega)
      obtain ⟨U, hU⟩ : ∃ U, U = wr.alloc (.cells #[.string (D.fv q).1, .string (D.fv q).2.1, .string (D.fv q).2.2.1, .string (D.fv q).2.2.2] 80) := ⟨_, rfl⟩
      have EU : Hid (U = wr.alloc (.cells #[.string (D.fv q).1, .string (D.fv q).2.1, .string (D.fv q).2.2.1, .string (D.fv q).2.2.2] 80)) := hU
      have kU : Hid (Below (w.heap.size + 1 + 1) W U) := by rw [hU]; exact hbel.out.alloc hsr _
      have sU : wr.heap.size + 1 ≤ U.heap.size := by rw [hU]; simp
      have sU' : U.heap.size ≤ wr.heap.size + 1 := by rw [hU]; simp
      have ownU' := hown.out.alloc (.cells #[.string (D.fv q).1, .string (D.fv q).2.1, .string (D.fv q).2.2.1, .string (D.fv q).2.2.2] 80)
      rw [← hU] at ownU'
      have ownU : Hid (U.ownsRow (w.heap.size + 1 + 1) 9 1 u5 (gdN D m P k Q q).length ((gdN D m P k Q q).map .string)) := ownU'
      clear ownU'
      have bv : Hid (∀ u, Below (wr.heap.size + 1) U u → u.cell? ⟨wr.heap.size, 0, none⟩ = some (.string (D.fv q).1) ∧ u.cell? ⟨wr.heap.size, 1, none⟩ = some (.string (D.fv q).2.1) ∧ u.cell? ⟨wr.heap.size, 2, none⟩ = some (.string (D.fv q).2.2.1) ∧ u.cell? ⟨wr.heap.size, 3, none⟩ = some (.string (D.fv q).2.2.2)) := fun u hb => by rw [hU] at hb; exact ⟨box_in hb 0 _ rfl, box_in hb 1 _ rfl, box_in hb 2 _ rfl, box_in hb 3 _ rfl⟩
      clear hcv hcell LP LR LQ hU
      go_upto_region 5 with fail
      rw [← EU.out]
      clear x0 x1 x2 x3 y0 y1 e0 e1 e2 e3
      obtain ⟨⟨_, y0, y1⟩, hUw⟩ := bx.out U kU.out
      obtain ⟨z0, z1, z2, z3⟩ := bv.out U (Below.refl _ _)
      go_wp2_with fail
      refine (atAny_any B _ m P _ _ _ _ U (H.out U hUw).2.1 (by have := hUw.size; omega)).mono ?_; rintro e w1 ⟨rfl, hb1⟩
      have kb1 : Hid (Below U.heap.size U w1) := hb1
      have k1 : Hid (Below (w.heap.size + 1 + 1) W w1) := kU.out.trans (hb1.mono (by omega))
      have own1' := own_belowR ownU.out hb1
      have own1 : Hid (w1.ownsRow (w.heap.size + 1 + 1) 9 1 u5 (gdN D m P k Q q).length ((gdN D m P k Q q).map .string)) := own1'
      clear own1'
      have s1 := hb1.size
      have s2 : w.heap.size + 1 + 1 ≤ w1.heap.size := by omega
      clear y0 y1 z0 z1 z2 z3 hUw hb1
      obtain ⟨⟨_, y0, y1⟩, hUw⟩ := bx.out w1 k1.out
      obtain ⟨z0, z1, z2, z3⟩ := bv.out w1 (kb1.out.mono (by omega))
      have LQ : Hid (Lst B w1 (.slice ov k ck) k 1 (cS Q)) := (H.out w1 hUw).2.2
      cases hA : (hasB m P (D.fv q).2.1 || hasB m P (D.fv q).2.2.1)
      · have hAA : (hasB m P (D.fv q).2.1 || hasB m P (D.fv q).2.2.1) = false := hA
        go_wp2_with fail
        go_roundw
        case rel => exact ⟨q + 1, by omega, by go_num, by show World.ownsRow _ _ _ _ _ _ _; rw [gdN_no (by unfold gdB; rw [hAA]; rfl)]; exact own1.out, k1.out⟩
        case measure => simp [intOf]; omega
      · cases hO : hasB k Q (D.fv q).1
        · go_wp2_with fail
          refine (hasI_any B _ k Q _ _ LQ.out).mono ?_; rintro e w0 ⟨rfl, rfl⟩
          rw [hO]
          go_wp2_with (first
            | (at_builtin; refine wpList_append_own _ rfl _ _ 22 rfl (w.heap.size + 1 + 1) 9 i0 (.string ByteArray.empty) 1 16 under24b hi hz0 hz1 hz2 rfl (by decide) _ _ _ rfl (own1.out.alloc _) ⟨w0.heap.size, 0, none⟩ 1 1 [.string (D.fv q).1] rfl rfl (cell_one_new _ _ _) (fun x hx => by simp at hx; subst hx; rfl) (by unfold maxLen; omega) (by omega) (by simp; omega) ?_; intro v' w3 hown' hgrow3 hnil3))
          go_roundw
          case rel =>
            have RR : ∃ q' : Nat, q' ≤ D.nv ∧ Value.int .i64 ((q : Int) + 1) = .int .i64 (q' : Int) ∧ Hid (w3.ownsRow (w.heap.size + 1 + 1) 9 1 v' (gdN D m P k Q q').length ((gdN D m P k Q q').map .string)) ∧ Hid (Below (w.heap.size + 1 + 1) W w3) :=
              ⟨q + 1, by omega, by go_num, by show World.ownsRow _ _ _ _ _ _ _; rw [gdN_yes (by unfold gdB; rw [hA, hO]; rfl)]; exact own_push hown', (k1.out.alloc (by omega) _).grown hgrow3 (by simp; omega) (fun p hp => (own1.out.lt p hp).1)⟩
            first
              | exact RR
              | ((repeat apply Exists.intro); exact ⟨RR, rfl⟩)
          case measure => simp [intOf]; omega
        · go_wp2_with fail
          refine (hasI_any B _ k Q _ _ LQ.out).mono ?_; rintro e w0 ⟨rfl, rfl⟩
          rw [hO]
          go_wp2_with fail
          go_roundw
          case rel => exact ⟨q + 1, by omega, by go_num, by show World.ownsRow _ _ _ _ _ _ _; rw [gdN_no (by unfold gdB; rw [hA, hO]; rfl)]; exact own1.out, k1.out⟩
          case measure => simp [intOf]; omega
    · obtain rfl : q = D.nv := by omega
      go_wp2_with fail
      go_ret
      exact ⟨_, rfl, own_leR hown.out (by omega), hbw⟩

set_option maxRecDepth 100000 in
set_option maxHeartbeats 16000000 in
theorem guardsI_any (B : Nat) (v0 v1 v2 v3 : Value) (D : PD) (op ov : Option Addr) (m k cm ck : Nat) (P Q : Nat → ByteArray) (w : World) (h : PAt B w v0 v1 v2 v3 D) (hP : Lst B w (.slice op m cm) m 1 (cS P)) (hQ : Lst B w (.slice ov k ck) k 1 (cS Q)) (hB : B ≤ w.heap.size) (hcm : m ≤ cm) (hz : D.Sz) (hnv : D.nv ≤ 1048576) :
    Calls Try.prog 9 #[.agg #[v0, v1, v2, v3], .agg #[.slice op m cm, .slice ov k ck]] w fun e w' => ∃ v b, e = .returned v ∧ (b = true ↔ D.V ∧ RI D m P k Q) ∧ w'.ownsRow w.heap.size 9 1 v (gdL b D m P k Q).length ((gdL b D m P k Q).map .string) ∧ Below w.heap.size w w' := by
  have H : Hid (∀ w', Below w.heap.size w w' → PAt B w' v0 v1 v2 v3 D ∧ Lst B w' (.slice op m cm) m 1 (cS P) ∧ Lst B w' (.slice ov k ck) k 1 (cS Q)) := fun w' hb => ⟨h.kept hb hB, hP.kept hb hB, hQ.kept hb hB⟩
  clear h hP hQ
  obtain ⟨W, hW⟩ : ∃ W, W = (w.alloc (.cells #[v0, v1, v2, v3] 37)).alloc (.cells #[.slice op m cm, .slice ov k ck] 39) := ⟨_, rfl⟩
  have kW : Hid (Below (w.heap.size + 1 + 1) W W) := Below.refl _ _
  have sW : W.heap.size = w.heap.size + 1 + 1 := by rw [hW]; simp
  have eW : Hid (W = (w.alloc (.cells #[v0, v1, v2, v3] 37)).alloc (.cells #[.slice op m cm, .slice ov k ck] 39)) := hW
  have bx : Hid (∀ wr, Below (w.heap.size + 1 + 1) W wr → ((wr.cell? ⟨w.heap.size, 0, none⟩ = some v0 ∧ wr.cell? ⟨w.heap.size, 1, none⟩ = some v1 ∧ wr.cell? ⟨w.heap.size, 2, none⟩ = some v2 ∧ wr.cell? ⟨w.heap.size, 3, none⟩ = some v3) ∧ wr.cell? ⟨w.heap.size + 1, 0, none⟩ = some (.slice op m cm) ∧ wr.cell? ⟨w.heap.size + 1, 1, none⟩ = some (.slice ov k ck)) ∧ Below w.heap.size w wr) := fun wr hb => by
    rw [hW] at hb
    obtain ⟨h1, h2⟩ := two_box hb
    exact ⟨⟨⟨h1 0 _ rfl, h1 1 _ rfl, h1 2 _ rfl, h1 3 _ rfl⟩, h2 0 _ rfl, h2 1 _ rfl⟩, two_end hb⟩
  clear hW
  go_enter Try.func9, Try.ntmps9
  go_upto_region 1 with fail
  rw [← eW.out]
  obtain ⟨⟨⟨x0, x1, x2, x3⟩, y0, y1⟩, hbw⟩ := bx.out W kW.out
  obtain ⟨LP, LR, LQ⟩ := H.out W hbw
  go_wp2_with fail
  refine (validI_any B v0 v1 v2 v3 D _ LP (Nat.le_trans hB hbw.size) hz).mono ?_; rintro e w1 ⟨b1, rfl, i1, hb1⟩
  have IS1 : Hid _ := i1
  have k2 : Hid (Below (w.heap.size + 1 + 1) W w1) := kW.out.trans (hb1.mono (by omega))
  clear i1 x0 x1 x2 x3 y0 y1 LP LR LQ hbw hb1
  cases b1
  · go_wp2_with fail
    go_ret
    exact ⟨_, false, rfl, ⟨(fun h => by cases h), fun h => IS1.out.2 h.1⟩, World.ownsRow_nil _ _ _ _, (bx.out _ k2.out).2⟩
  · obtain ⟨⟨⟨x0, x1, x2, x3⟩, y0, y1⟩, hbw⟩ := bx.out w1 k2.out
    obtain ⟨LP, LR, LQ⟩ := H.out w1 hbw
    have hV : Hid D.V := by have := IS1.out; simpa [Hid] using this
    go_wp2_with fail
    refine (isRoute_any B v0 v1 v2 v3 D op ov m k cm ck P Q _ LP LR LQ (Nat.le_trans hB hbw.size) hcm).mono ?_; rintro e w2 ⟨b2, rfl, i2, hb2⟩
    have IS2 : Hid _ := i2
    have k3 : Hid (Below (w.heap.size + 1 + 1) W w2) := k2.out.trans (hb2.mono (by have := k2.out.size; omega))
    clear i2 x0 x1 x2 x3 y0 y1 LP LR LQ hbw hb2
    cases b2
    · go_wp2_with fail
      go_ret
      exact ⟨_, false, rfl, ⟨(fun h => by cases h), fun h => IS2.out.2 h.2⟩, World.ownsRow_nil _ _ _ _, (bx.out _ k3.out).2⟩
    · obtain ⟨⟨⟨x0, x1, x2, x3⟩, y0, y1⟩, hbw⟩ := bx.out w2 k3.out
      obtain ⟨LP, LR, LQ⟩ := H.out w2 hbw
      go_wp2_with fail
      refine (guardsOf_any B v0 v1 v2 v3 D op ov m k cm ck P Q _ LP LR LQ (Nat.le_trans hB hbw.size) hnv).mono ?_; rintro e w3 ⟨v, rfl, o3, hb3⟩
      have k4 : Hid (Below (w.heap.size + 1 + 1) W w3) := k3.out.trans (hb3.mono (by have := k3.out.size; omega))
      have OL := own_lst o3 (by have := gdN_len D m P k Q D.nv; omega)
      have GS : Hid (∀ i, i < (gdN D m P k Q D.nv).length → (nthB (gdN D m P k Q D.nv) i).size ≤ 1048576) := fun i hi => gdN_sizes hV.out m P k Q i hi
      have GL : (gdN D m P k Q D.nv).length ≤ 1048576 := by have := gdN_len D m P k Q D.nv; omega
      clear o3 hb3 x0 x1 x2 x3 y0 y1 LP LR LQ hbw
      go_wp2_with fail
      refine (freshI_any w3.heap.size _ (gdN D m P k Q D.nv) w3 OL (Nat.le_refl _) GL GS.out).mono ?_; rintro e w6 ⟨v6, rfl, o6, hb6⟩
      have O6 : Hid (w6.ownsRow w3.heap.size 9 1 v6 (gdN D m P k Q D.nv).length ((gdN D m P k Q D.nv).map .string)) := o6
      have s3 := k4.out.size
      have k6 : Hid (Below (w.heap.size + 1 + 1) W w6) := k4.out.trans (hb6.mono (by omega))
      clear o6 OL hb6
      go_wp2_with fail
      go_ret
      exact ⟨v6, true, rfl, ⟨fun _ => ⟨hV.out, by have := IS2.out; simpa using this⟩, fun _ => rfl⟩, own_leR O6.out (by omega), (bx.out _ k6.out).2⟩

end Go.Proofs.Ytciembgenlcogab
