/-
  A contract of the model's book of a station: all in memory of its own.
-/
import Derived.Test.YtciembgenlcogacBfa
import Derived.Test.YtciembgenlcogacBmf
import Derived.Test.YtciembgenlcogacHc
import Derived.Deep.Cut
namespace Go.Proofs.Ytciembgenlcogac
open Go.RowKit

set_option maxRecDepth 100000 in
set_option maxHeartbeats 8000000 in
theorem bookS_any (B : Nat) (v0 v1 v2 v3 : Value) (D : PD) (st : ByteArray) (w : World) (h : PAt B w v0 v1 v2 v3 D) (hB : B ≤ w.heap.size) (hz : D.Sz) :
    Calls Try.prog 5 #[.agg #[v0, v1, v2, v3], .string st] w fun e w' => ∃ (g : Nat → Value) (b : Bool), e = .returned (.agg #[g 0, g 1, g 2, g 3, g 4]) ∧ (b = true ↔ D.V) ∧ Own.On (fun x => w.heap.size ≤ x ∧ x < w'.heap.size) w' (bookD b D st) g ∧ Below w.heap.size w w' := by
  obtain ⟨o1, c1, e1, hx1⟩ := id h.f
  obtain ⟨o2, c2, e2, hx2⟩ := id h.p
  obtain ⟨o3, c3, e3, hx3⟩ := id h.v
  subst e1 e2 e3
  clear hx1 hx2 hx3
  have H : Hid (∀ w', Below w.heap.size w w' → PAt B w' v0 (.slice o1 D.nf c1) (.slice o2 D.np c2) (.slice o3 D.nv c3) D) := fun w' hb => h.kept hb hB
  clear h
  obtain ⟨W, hW⟩ : ∃ W, W = ((w.alloc (.cells #[v0, .slice o1 D.nf c1, .slice o2 D.np c2, .slice o3 D.nv c3] 39)).alloc (.cells #[.slice none 0 0, .slice none 0 0, .slice none 0 0, .slice none 0 0, .int .i64 0] 33)).alloc (.cells #[.slice none 0 0, .slice none 0 0, .slice none 0 0, .slice none 0 0, .int .i64 0] 33) := ⟨_, rfl⟩
  have EW : Hid (W = ((w.alloc (.cells #[v0, .slice o1 D.nf c1, .slice o2 D.np c2, .slice o3 D.nv c3] 39)).alloc (.cells #[.slice none 0 0, .slice none 0 0, .slice none 0 0, .slice none 0 0, .int .i64 0] 33)).alloc (.cells #[.slice none 0 0, .slice none 0 0, .slice none 0 0, .slice none 0 0, .int .i64 0] 33)) := hW
  have BW : Hid (Below w.heap.size w W) := by rw [hW]; exact (((Below.refl _ _).alloc (Nat.le_refl _) _).alloc (by simp) _).alloc (by simp; omega) _
  have sW : w.heap.size + 1 + 1 + 1 ≤ W.heap.size := by rw [hW]; simp
  have X0 : Hid (W.heap[w.heap.size]? = some (.cells #[v0, .slice o1 D.nf c1, .slice o2 D.np c2, .slice o3 D.nv c3] 39 (0, 0))) := by rw [hW]; exact ((Below.heap_alloc _ _ _ (by simp; omega)).trans (Below.heap_alloc _ _ _ (by simp))).trans (heap_alloc_new w _)
  have Y0 : Hid (W.heap[w.heap.size + 1]? = some (.cells #[.slice none 0 0, .slice none 0 0, .slice none 0 0, .slice none 0 0, .int .i64 0] 33 (0, 0))) := by rw [hW]; refine (Below.heap_alloc _ _ _ (by simp)).trans ?_; have := heap_alloc_new (w.alloc (.cells #[v0, .slice o1 D.nf c1, .slice o2 D.np c2, .slice o3 D.nv c3] 39)) (.cells #[.slice none 0 0, .slice none 0 0, .slice none 0 0, .slice none 0 0, .int .i64 0] 33); rw [World.size_alloc] at this; exact this
  have G0 : Hid (W.heap[w.heap.size + 1 + 1]? = some (.cells #[.slice none 0 0, .slice none 0 0, .slice none 0 0, .slice none 0 0, .int .i64 0] 33 (0, 0))) := by rw [hW]; have := heap_alloc_new ((w.alloc (.cells #[v0, .slice o1 D.nf c1, .slice o2 D.np c2, .slice o3 D.nv c3] 39)).alloc (.cells #[.slice none 0 0, .slice none 0 0, .slice none 0 0, .slice none 0 0, .int .i64 0] 33)) (.cells #[.slice none 0 0, .slice none 0 0, .slice none 0 0, .slice none 0 0, .int .i64 0] 33); rw [World.size_alloc, World.size_alloc] at this; exact this
  clear hW
  go_enter Try.func5, Try.ntmps5
  go_upto_region 2 with fail
  rw [← EW.out]
  obtain ⟨y0, _⟩ := cell_row X0.out 0 _ rfl
  obtain ⟨y1, _⟩ := cell_row X0.out 1 _ rfl
  obtain ⟨y2, _⟩ := cell_row X0.out 2 _ rfl
  obtain ⟨y3, _⟩ := cell_row X0.out 3 _ rfl
  simp only [List.getElem_toArray, List.getElem_cons_zero, List.getElem_cons_succ] at y0 y1 y2 y3
  go_wp2_with fail
  refine (validS_any B _ _ _ _ D W (H.out W BW.out) (by have := BW.out.size; omega) hz).mono ?_; rintro e w1 ⟨b, rfl, is, hb1⟩
  have IS : Hid _ := is
  have B1 : Hid (Below w.heap.size w w1) := BW.out.trans (hb1.mono BW.out.size)
  have X1 : Hid (w1.heap[w.heap.size]? = some (.cells #[v0, .slice o1 D.nf c1, .slice o2 D.np c2, .slice o3 D.nv c3] 39 (0, 0))) := box_keep hb1 X0.out
  have Y1 : Hid (w1.heap[w.heap.size + 1]? = some (.cells #[.slice none 0 0, .slice none 0 0, .slice none 0 0, .slice none 0 0, .int .i64 0] 33 (0, 0))) := box_keep hb1 Y0.out
  have G1 : Hid (w1.heap[w.heap.size + 1 + 1]? = some (.cells #[.slice none 0 0, .slice none 0 0, .slice none 0 0, .slice none 0 0, .int .i64 0] 33 (0, 0))) := box_keep hb1 G0.out
  have s1 : w.heap.size + 1 + 1 + 1 ≤ w1.heap.size := Nat.le_trans sW hb1.size
  clear is hb1 y0 y1 y2 y3
  cases b
  · have GXF := G1
    obtain ⟨l0, _⟩ := cell_row GXF.out 0 (.slice none 0 0) rfl
    obtain ⟨r0', f0'⟩ := cell_row Y1.out 0 (.slice none 0 0) rfl
    obtain ⟨l1, _⟩ := cell_row GXF.out 1 (.slice none 0 0) rfl
    obtain ⟨r1', f1'⟩ := cell_row Y1.out 1 (.slice none 0 0) rfl
    obtain ⟨l2, _⟩ := cell_row GXF.out 2 (.slice none 0 0) rfl
    obtain ⟨r2', f2'⟩ := cell_row Y1.out 2 (.slice none 0 0) rfl
    obtain ⟨l3, _⟩ := cell_row GXF.out 3 (.slice none 0 0) rfl
    obtain ⟨r3', f3'⟩ := cell_row Y1.out 3 (.slice none 0 0) rfl
    obtain ⟨l4, _⟩ := cell_row GXF.out 4 (.int .i64 0) rfl
    obtain ⟨r4', f4'⟩ := cell_row Y1.out 4 (.int .i64 0) rfl
    obtain ⟨F0, F1, F2, F3⟩ := ret5 Y1.out (.slice none 0 0) (.slice none 0 0) (.slice none 0 0) (.slice none 0 0) (.int .i64 0)
    go_wp2_with fail
    obtain ⟨FW, hF⟩ : ∃ u, u = (((((w1.setCell ⟨w.heap.size + 1, 0, none⟩ (.slice none 0 0)).setCell ⟨w.heap.size + 1, 1, none⟩ (.slice none 0 0)).setCell ⟨w.heap.size + 1, 2, none⟩ (.slice none 0 0)).setCell ⟨w.heap.size + 1, 3, none⟩ (.slice none 0 0)).setCell ⟨w.heap.size + 1, 4, none⟩ (.int .i64 0)) := ⟨_, rfl⟩
    rw [← hF]
    rw [← hF] at F0 F1 F2 F3
    have t0 := (cell_row F0 0 (.slice none 0 0) rfl).1
    have t1 := (cell_row F0 1 (.slice none 0 0) rfl).1
    have t2 := (cell_row F0 2 (.slice none 0 0) rfl).1
    have t3 := (cell_row F0 3 (.slice none 0 0) rfl).1
    have t4 := (cell_row F0 4 (.int .i64 0) rfl).1
    have BF : Below w.heap.size w FW := B1.out.trans (F3.mono (by omega))
    exact bodyPost_ret (v := .agg #[.slice none 0 0, .slice none 0 0, .slice none 0 0, .slice none 0 0, .int .i64 0]) (by simp [results, Try.results5, go_sem, t0, t1, t2, t3, t4]) rfl ⟨cs [.slice none 0 0, .slice none 0 0, .slice none 0 0, .slice none 0 0, .int .i64 0], false, rfl, IS.out, none_on, BF⟩
  · have HV : Hid D.V := by have := IS.out; simpa [Hid] using this
    have hnf : D.nf ≤ 12 := HV.out.1.2.1
    have hnp : D.np ≤ 14 := HV.out.2.1.1
    have hnv : D.nv ≤ 18 := HV.out.2.2.1
    obtain ⟨y0, _⟩ := cell_row X1.out 0 _ rfl
    obtain ⟨y1, _⟩ := cell_row X1.out 1 _ rfl
    obtain ⟨y2, _⟩ := cell_row X1.out 2 _ rfl
    obtain ⟨y3, _⟩ := cell_row X1.out 3 _ rfl
    simp only [List.getElem_toArray, List.getElem_cons_zero, List.getElem_cons_succ] at y0 y1 y2 y3
    go_wp2_with fail
    clear y0 y1 y2 y3
    go_loopw [6] (fun i wr => ∃ (k : Nat) (ov : Option Addr) (kv : Nat), k ≤ D.nf ∧ i = .int .i64 k ∧ Hid (wr.ownsRow w1.heap.size 53 2 (.slice ov (foL D k).length kv) (foL D k).length (enc 2 gF (foL D k))) ∧ Hid (wr.heap[w.heap.size + 1 + 1]? = some (.cells #[.slice ov (foL D k).length kv, .slice none 0 0, .slice none 0 0, .slice none 0 0, .int .i64 0] 33 (0, 0))) ∧ Hid (But (fun b => b = w.heap.size + 1 + 1) w1 wr)) (fun i _ => D.nf - (intOf i).toNat)
    case atStart => exact ⟨0, none, 0, Nat.zero_le _, rfl, World.ownsRow_nil _ _ _ _, G1.out, But.refl _ _⟩
    case round =>
      obtain ⟨k, ov, kv, hk, rfl, hO, hG, hN⟩ := hrel
      have hNs := hN.out.size
      have bwr : Hid (Below w.heap.size w wr) := B1.out.trans (hN.out.below (B := w.heap.size) (fun b hb => by omega) (by omega))
      have hA : wr.heap[w.heap.size]? = _ := (hN.out.block w.heap.size (by omega) (by omega)).trans X1.out
      obtain ⟨y0, _⟩ := cell_row hA 0 _ rfl
      obtain ⟨y1, _⟩ := cell_row hA 1 _ rfl
      obtain ⟨y2, _⟩ := cell_row hA 2 _ rfl
      obtain ⟨y3, _⟩ := cell_row hA 3 _ rfl
      simp only [List.getElem_toArray, List.getElem_cons_zero, List.getElem_cons_succ] at y0 y1 y2 y3
      by_cases hlt : k < D.nf
      · obtain ⟨oa, cp, ev, _, hcv⟩ := (H.out wr bwr.out).f
        obtain ⟨b, off, eo, hbB, hcell⟩ := hcv k hlt
        have eo1 : o1 = some ⟨b, off, none⟩ := by injection ev with h1 _ _; exact h1.trans eo
        subst eo1
        clear ev eo hcv
        have e0 : wr.cell? ⟨b, off + k * 2, none⟩ = some (.string (D.ff k).1) := hcell 0 (by omega)
        have e1 : wr.cell? ⟨b, off + k * 2 + 1, none⟩ = some (.string (D.ff k).2) := hcell 1 (by omega)
        clear hcell hbB
        have hll : (foL D k).length ≤ k := by rw [foL_len]; omega
        obtain ⟨yx, _⟩ := cell_row hG.out 0 (.slice ov (foL D k).length kv) rfl
        go_upto_region 7 with fail
        have qx := fun d os => cell_regrown yx d os
        have q_y1 := fun d os => cell_regrown y1 d os
        have q_e0 := fun d os => cell_regrown e0 d os
        have q_e1 := fun d os => cell_regrown e1 d os
        have hdr : Hid (Below wr.heap.size wr wr.drew) := (Below.refl _ _).drew
        refine wp_region_mix 16 [0, 1, 2, 3, 4, 5, 6, 7, 8, 9, 10, 11, 12, 13] (by kernel_rfl) (by kernel_rfl) ?_
        simp only [List.filterMap_cons, List.filterMap_nil, List.getElem?_cons_succ, List.getElem?_cons_zero]
        repeat (first | go_big_quiet_step (fail) | quiet_step (fail))
        refine wpQuiet_nil ?_
        clear yx qx q_y1 q_e0 q_e1
        obtain ⟨wd, hwd⟩ : ∃ V, V = wr.drew := ⟨_, rfl⟩
        have BD : Hid (Below wr.heap.size wr wd) := by rw [hwd]; exact hdr.out
        have sd : wr.heap.size ≤ wd.heap.size ∧ wd.heap.size ≤ wr.heap.size := by rw [hwd]; exact ⟨Nat.le_refl _, Nat.le_refl _⟩
        rw [← hwd]
        clear hwd
        have sUL := BD.out.size
        obtain ⟨ua, hua⟩ : ∃ V, V = wd.alloc (.cells #[.string (D.ff k).1, .string (D.ff k).2] 53) := ⟨_, rfl⟩
        have HUA : Hid (ua = wd.alloc (.cells #[.string (D.ff k).1, .string (D.ff k).2] 53)) := hua
        have sua : ua.heap.size ≤ wd.heap.size + 1 ∧ wd.heap.size + 1 ≤ ua.heap.size := by rw [hua]; simp
        have BA : Hid (Below wr.heap.size wr ua) := by rw [hua]; exact BD.out.alloc sUL _
        have HSRC : Hid (Src ua (.slice (some ⟨wd.heap.size, 0, none⟩) 1 1) 1 2 (#[.string (D.ff k).1, .string (D.ff k).2] : Array Value).toList) := by
          have h1 : ua.ownsRow 0 53 2 (.slice (some ⟨wd.heap.size, 0, none⟩) 1 1) 1 (#[.string (D.ff k).1, .string (D.ff k).2] : Array Value).toList := by
            rw [hua]; exact own_built (Nat.zero_le _) (by unfold maxLen; omega) rfl
          exact own_src h1
        have HOWN : Hid (ua.ownsRow w1.heap.size 53 2 (.slice ov (foL D k).length kv) (foL D k).length (enc 2 gF (foL D k))) := row_keep BA.out hO.out
        have HONE : Hid (∀ z ∈ (#[.string (D.ff k).1, .string (D.ff k).2] : Array Value).toList, z.oneCell' = true) := by intro z hz; simp at hz; rcases hz with rfl | rfl <;> rfl
        clear hua
        refine anyC_step (f := 1) [14] (by kernel_rfl) (by simp) (one_list ⟨by decide, _, rfl, rfl, .agg #[.string (D.ff k).1, .string (D.ff k).2], wd, ?runa, regrown_of_below BD.out, ?_⟩)
        case runa => go_simp
        refine anyC_step (f := 0) [15] (by kernel_rfl) (by simp) (one_list ⟨by decide, _, rfl, rfl, .slice (some ⟨wd.heap.size, 0, none⟩) 1 1, wd.alloc (.cells #[.string (D.ff k).1, .string (D.ff k).2] 53), ?runb, regrown_of_below (by have := BA.out; rw [HUA.out] at this; exact this), ?_⟩)
        case runb => go_simp
        refine ⟨by kernel_rfl, ?_⟩
        simp only [List.drop_succ_cons, List.drop_zero]
        rw [← HUA.out]
        go_wp2_with (first
          | (at_builtin; refine wpList_app elFg rfl _ _ rfl rfl rfl HOWN.out HSRC.out HONE.out (by unfold maxLen; omega) (by omega) (by omega) ?_; intro v' u8 hown hgr hbk; obtain ⟨ov', kv', rfl⟩ := ownsRow_shape hown; have hg8 : u8.heap[w.heap.size + 1 + 1]? = some (.cells #[.slice ov (foL D k).length kv, .slice none 0 0, .slice none 0 0, .slice none 0 0, .int .i64 0] 33 (0, 0)) := (hgr.block (w.heap.size + 1 + 1) (by omega) (fun e => by have := (World.ownsRow.lt HOWN.out (w.heap.size + 1 + 1) e.symm).1; omega)).trans ((BA.out.block (w.heap.size + 1 + 1) (by omega)).trans hG.out); obtain ⟨zc8, zf8⟩ := cell_row hg8 0 (.slice ov (foL D k).length kv) rfl))
        have SET := set_row hg8 0 (.slice ov' ((foL D k).length + 1) kv')
        have RN : Hid ((u8.setCell ⟨w.heap.size + 1 + 1, 0, none⟩ (.slice ov' ((foL D k).length + 1) kv')).ownsRow w1.heap.size 53 2 (.slice ov' (foL D (k + 1)).length kv') (foL D (k + 1)).length (enc 2 gF (foL D (k + 1)))) := by
          show World.ownsRow _ _ _ _ _ _ _
          rw [foL_succ D k, List.length_append, enc_append]
          exact ownsRow_kept hown (fun g hg => Below.heap_setCell _ _ _ _ (by have := (World.ownsRow.lt hown g hg).1; show g ≠ w.heap.size + 1 + 1; omega))
        have GN : Hid ((u8.setCell ⟨w.heap.size + 1 + 1, 0, none⟩ (.slice ov' ((foL D k).length + 1) kv')).heap[w.heap.size + 1 + 1]? = some (.cells #[.slice ov' (foL D (k + 1)).length kv', .slice none 0 0, .slice none 0 0, .slice none 0 0, .int .i64 0] 33 (0, 0))) := by
          show _ = _
          rw [foL_succ D k, List.length_append]
          exact SET
        have NN : Hid (But (fun b => b = w.heap.size + 1 + 1) w1 (u8.setCell ⟨w.heap.size + 1 + 1, 0, none⟩ (.slice ov' ((foL D k).length + 1) kv'))) := hN.out.round BA.out hgr (fun q hq => (World.ownsRow.lt HOWN.out q hq).1) 0 _
        go_roundw
        case rel => exact ⟨k + 1, ov', kv', by omega, by go_num, RN.out, GN.out, NN.out⟩
        case measure => simp [intOf]; omega
      · obtain rfl : k = D.nf := by omega
        have R0 : Hid (wr.ownsRow w1.heap.size 53 2 (.slice ov (foL D D.nf).length kv) (foL D D.nf).length (enc 2 gF (foL D D.nf))) := hO
        have Q0 : Hid (∀ g, (Value.slice ov (foL D D.nf).length kv).ownBlock = some g → w1.heap.size ≤ g ∧ g < wr.heap.size) := fun g hg => World.ownsRow.lt hO.out g hg
        have X2 : Hid (wr.heap[w.heap.size]? = some (.cells #[v0, .slice o1 D.nf c1, .slice o2 D.np c2, .slice o3 D.nv c3] 39 (0, 0))) := hA
        have Y2 : Hid (wr.heap[w.heap.size + 1]? = some (.cells #[.slice none 0 0, .slice none 0 0, .slice none 0 0, .slice none 0 0, .int .i64 0] 33 (0, 0))) := (hN.out.block (w.heap.size + 1) (by omega) (by omega)).trans Y1.out
        have GU0 := hG
        have BU0 := bwr
        have hs2 := hNs
        obtain ⟨r0, hr⟩ : ∃ x, ov = x := ⟨_, rfl⟩
        obtain ⟨q0, hq⟩ : ∃ x, kv = x := ⟨_, rfl⟩
        obtain ⟨U2, hu⟩ : ∃ x, wr = x := ⟨_, rfl⟩
        rw [hr, hq, hu] at R0
        rw [hr, hq, hu] at Q0
        rw [hr, hq, hu] at GU0
        rw [hu] at BU0 X2 Y2 hs2
        rw [hu]
        clear hO hG hN bwr hA hk hlt hNs y0 y1 y2 y3 hr hq hu
        obtain ⟨y0, _⟩ := cell_row X2.out 0 _ rfl
        obtain ⟨y1, _⟩ := cell_row X2.out 1 _ rfl
        obtain ⟨y2, _⟩ := cell_row X2.out 2 _ rfl
        obtain ⟨y3, _⟩ := cell_row X2.out 3 _ rfl
        simp only [List.getElem_toArray, List.getElem_cons_zero, List.getElem_cons_succ] at y0 y1 y2 y3
        go_wp2_with fail
        clear y0 y1 y2 y3
        go_loopw [7] (fun i wr => ∃ (k : Nat) (ov : Option Addr) (kv : Nat), k ≤ D.np ∧ i = .int .i64 k ∧ Hid (wr.ownsRow U2.heap.size 57 5 (.slice ov (spL D st k).length kv) (spL D st k).length (enc 5 gP (spL D st k))) ∧ Hid (wr.heap[w.heap.size + 1 + 1]? = some (.cells #[.slice r0 (foL D D.nf).length q0, .slice ov (spL D st k).length kv, .slice none 0 0, .slice none 0 0, .int .i64 0] 33 (0, 0))) ∧ Hid (But (fun b => b = w.heap.size + 1 + 1) U2 wr)) (fun i _ => D.np - (intOf i).toNat)
        case atStart => exact ⟨0, none, 0, Nat.zero_le _, rfl, World.ownsRow_nil _ _ _ _, GU0.out, But.refl _ _⟩
        case round =>
          obtain ⟨k, ov, kv, hk, rfl, hO, hG, hN⟩ := hrel
          have hNs := hN.out.size
          have bwr : Hid (Below w.heap.size w wr) := BU0.out.trans (hN.out.below (B := w.heap.size) (fun b hb => by omega) (by omega))
          have hA : wr.heap[w.heap.size]? = _ := (hN.out.block w.heap.size (by omega) (by omega)).trans X2.out
          obtain ⟨y0, _⟩ := cell_row hA 0 _ rfl
          obtain ⟨y1, _⟩ := cell_row hA 1 _ rfl
          obtain ⟨y2, _⟩ := cell_row hA 2 _ rfl
          obtain ⟨y3, _⟩ := cell_row hA 3 _ rfl
          simp only [List.getElem_toArray, List.getElem_cons_zero, List.getElem_cons_succ] at y0 y1 y2 y3
          by_cases hlt : k < D.np
          · obtain ⟨oa, cp, ev, _, hcv⟩ := (H.out wr bwr.out).p
            obtain ⟨b, off, eo, hbB, hcell⟩ := hcv k hlt
            have eo1 : o2 = some ⟨b, off, none⟩ := by injection ev with h1 _ _; exact h1.trans eo
            subst eo1
            clear ev eo hcv
            have e0 : wr.cell? ⟨b, off + k * 3, none⟩ = some (.string (D.fp k).1) := hcell 0 (by omega)
            have e1 : wr.cell? ⟨b, off + k * 3 + 1, none⟩ = some (.int .i64 (D.fp k).2.1) := hcell 1 (by omega)
            have e2 : wr.cell? ⟨b, off + k * 3 + 2, none⟩ = some (.string (D.fp k).2.2) := hcell 2 (by omega)
            clear hcell hbB
            cases c : (eqB (D.fp k).2.2 st)
            · have hc : ((D.fp k).2.2.toList == st.toList) = false := c
              go_wp2_with fail
              go_roundw
              case rel => exact ⟨k + 1, ov, kv, by omega, by go_num, by show World.ownsRow _ _ _ _ _ _ _; rw [spL_no c]; exact hO.out, by show _ = _; rw [spL_no c]; exact hG.out, hN⟩
              case measure => simp [intOf]; omega
            · have hc : ((D.fp k).2.2.toList == st.toList) = true := c
              have hll := spL_len D st k
              obtain ⟨yx, _⟩ := cell_row hG.out 1 (.slice ov (spL D st k).length kv) rfl
              go_upto_region 12 with fail
              have qx := fun d os => cell_regrown yx d os
              have q_y2 := fun d os => cell_regrown y2 d os
              have q_e0 := fun d os => cell_regrown e0 d os
              have q_e1 := fun d os => cell_regrown e1 d os
              have hdr : Hid (Below wr.heap.size wr wr.drew) := (Below.refl _ _).drew
              refine wp_region_mix 16 [0, 1, 2, 3, 4, 5, 6, 7, 8, 9, 10, 11, 12, 13] (by kernel_rfl) (by kernel_rfl) ?_
              simp only [List.filterMap_cons, List.filterMap_nil, List.getElem?_cons_succ, List.getElem?_cons_zero]
              repeat (first | go_big_quiet_step (fail) | quiet_step (fail))
              refine wpQuiet_nil ?_
              clear yx qx q_y2 q_e0 q_e1
              obtain ⟨wd, hwd⟩ : ∃ V, V = wr.drew := ⟨_, rfl⟩
              have BD : Hid (Below wr.heap.size wr wd) := by rw [hwd]; exact hdr.out
              have sd : wr.heap.size ≤ wd.heap.size ∧ wd.heap.size ≤ wr.heap.size := by rw [hwd]; exact ⟨Nat.le_refl _, Nat.le_refl _⟩
              rw [← hwd]
              clear hwd
              have sUL := BD.out.size
              obtain ⟨ua, hua⟩ : ∃ V, V = wd.alloc (.cells #[.string (D.fp k).1, .int .i64 (D.fp k).2.1, .int .i64 0, .int .i64 0, .slice none 0 0] 57) := ⟨_, rfl⟩
              have HUA : Hid (ua = wd.alloc (.cells #[.string (D.fp k).1, .int .i64 (D.fp k).2.1, .int .i64 0, .int .i64 0, .slice none 0 0] 57)) := hua
              have sua : ua.heap.size ≤ wd.heap.size + 1 ∧ wd.heap.size + 1 ≤ ua.heap.size := by rw [hua]; simp
              have BA : Hid (Below wr.heap.size wr ua) := by rw [hua]; exact BD.out.alloc sUL _
              have HSRC : Hid (Src ua (.slice (some ⟨wd.heap.size, 0, none⟩) 1 1) 1 5 (#[.string (D.fp k).1, .int .i64 (D.fp k).2.1, .int .i64 0, .int .i64 0, .slice none 0 0] : Array Value).toList) := by
                have h1 : ua.ownsRow 0 57 5 (.slice (some ⟨wd.heap.size, 0, none⟩) 1 1) 1 (#[.string (D.fp k).1, .int .i64 (D.fp k).2.1, .int .i64 0, .int .i64 0, .slice none 0 0] : Array Value).toList := by
                  rw [hua]; exact own_built (Nat.zero_le _) (by unfold maxLen; omega) rfl
                exact own_src h1
              have HOWN : Hid (ua.ownsRow U2.heap.size 57 5 (.slice ov (spL D st k).length kv) (spL D st k).length (enc 5 gP (spL D st k))) := row_keep BA.out hO.out
              have HONE : Hid (∀ z ∈ (#[.string (D.fp k).1, .int .i64 (D.fp k).2.1, .int .i64 0, .int .i64 0, .slice none 0 0] : Array Value).toList, z.oneCell' = true) := by intro z hz; simp at hz; rcases hz with rfl | rfl | rfl | rfl | rfl <;> rfl
              clear hua
              refine anyC_step (f := 1) [14] (by kernel_rfl) (by simp) (one_list ⟨by decide, _, rfl, rfl, .agg #[.string (D.fp k).1, .int .i64 (D.fp k).2.1, .int .i64 0, .int .i64 0, .slice none 0 0], wd, ?runa, regrown_of_below BD.out, ?_⟩)
              case runa => go_simp
              refine anyC_step (f := 0) [15] (by kernel_rfl) (by simp) (one_list ⟨by decide, _, rfl, rfl, .slice (some ⟨wd.heap.size, 0, none⟩) 1 1, wd.alloc (.cells #[.string (D.fp k).1, .int .i64 (D.fp k).2.1, .int .i64 0, .int .i64 0, .slice none 0 0] 57), ?runb, regrown_of_below (by have := BA.out; rw [HUA.out] at this; exact this), ?_⟩)
              case runb => go_simp
              refine ⟨by kernel_rfl, ?_⟩
              simp only [List.drop_succ_cons, List.drop_zero]
              rw [← HUA.out]
              go_wp2_with (first
                | (at_builtin; refine wpList_app elPg rfl _ _ rfl rfl rfl HOWN.out HSRC.out HONE.out (by unfold maxLen; omega) (by omega) (by omega) ?_; intro v' u8 hown hgr hbk; obtain ⟨ov', kv', rfl⟩ := ownsRow_shape hown; have hg8 : u8.heap[w.heap.size + 1 + 1]? = some (.cells #[.slice r0 (foL D D.nf).length q0, .slice ov (spL D st k).length kv, .slice none 0 0, .slice none 0 0, .int .i64 0] 33 (0, 0)) := (hgr.block (w.heap.size + 1 + 1) (by omega) (fun e => by have := (World.ownsRow.lt HOWN.out (w.heap.size + 1 + 1) e.symm).1; omega)).trans ((BA.out.block (w.heap.size + 1 + 1) (by omega)).trans hG.out); obtain ⟨zc8, zf8⟩ := cell_row hg8 1 (.slice ov (spL D st k).length kv) rfl))
              have SET := set_row hg8 1 (.slice ov' ((spL D st k).length + 1) kv')
              have RN : Hid ((u8.setCell ⟨w.heap.size + 1 + 1, 1, none⟩ (.slice ov' ((spL D st k).length + 1) kv')).ownsRow U2.heap.size 57 5 (.slice ov' (spL D st (k + 1)).length kv') (spL D st (k + 1)).length (enc 5 gP (spL D st (k + 1)))) := by
                show World.ownsRow _ _ _ _ _ _ _
                rw [spL_yes c, List.length_append, enc_append]
                exact ownsRow_kept hown (fun g hg => Below.heap_setCell _ _ _ _ (by have := (World.ownsRow.lt hown g hg).1; show g ≠ w.heap.size + 1 + 1; omega))
              have GN : Hid ((u8.setCell ⟨w.heap.size + 1 + 1, 1, none⟩ (.slice ov' ((spL D st k).length + 1) kv')).heap[w.heap.size + 1 + 1]? = some (.cells #[.slice r0 (foL D D.nf).length q0, .slice ov' (spL D st (k + 1)).length kv', .slice none 0 0, .slice none 0 0, .int .i64 0] 33 (0, 0))) := by
                show _ = _
                rw [spL_yes c, List.length_append]
                exact SET
              have NN : Hid (But (fun b => b = w.heap.size + 1 + 1) U2 (u8.setCell ⟨w.heap.size + 1 + 1, 1, none⟩ (.slice ov' ((spL D st k).length + 1) kv'))) := hN.out.round BA.out hgr (fun q hq => (World.ownsRow.lt HOWN.out q hq).1) 1 _
              go_roundw
              case rel => exact ⟨k + 1, ov', kv', by omega, by go_num, RN.out, GN.out, NN.out⟩
              case measure => simp [intOf]; omega
          · obtain rfl : k = D.np := by omega
            have R1 : Hid (wr.ownsRow U2.heap.size 57 5 (.slice ov (spL D st D.np).length kv) (spL D st D.np).length (enc 5 gP (spL D st D.np))) := hO
            have Q1 : Hid (∀ g, (Value.slice ov (spL D st D.np).length kv).ownBlock = some g → U2.heap.size ≤ g ∧ g < wr.heap.size) := fun g hg => World.ownsRow.lt hO.out g hg
            have X3 : Hid (wr.heap[w.heap.size]? = some (.cells #[v0, .slice o1 D.nf c1, .slice o2 D.np c2, .slice o3 D.nv c3] 39 (0, 0))) := hA
            have Y3 : Hid (wr.heap[w.heap.size + 1]? = some (.cells #[.slice none 0 0, .slice none 0 0, .slice none 0 0, .slice none 0 0, .int .i64 0] 33 (0, 0))) := (hN.out.block (w.heap.size + 1) (by omega) (by omega)).trans Y2.out
            have R0n := ownsRow_kept (w' := wr) R0.out (fun g hg => hN.out.block g (by have := (Q0.out g hg).2; omega) (by have := (Q0.out g hg).1; omega))
            have GU1 := hG
            have BU1 := bwr
            have hs3 := hNs
            obtain ⟨r1, hr⟩ : ∃ x, ov = x := ⟨_, rfl⟩
            obtain ⟨q1, hq⟩ : ∃ x, kv = x := ⟨_, rfl⟩
            obtain ⟨U3, hu⟩ : ∃ x, wr = x := ⟨_, rfl⟩
            rw [hr, hq, hu] at R1
            rw [hr, hq, hu] at Q1
            rw [hr, hq, hu] at GU1
            rw [hu] at BU1 X3 Y3 R0n hs3
            rw [hu]
            have R0 : Hid (U3.ownsRow w1.heap.size 53 2 (.slice r0 (foL D D.nf).length q0) (foL D D.nf).length (enc 2 gF (foL D D.nf))) := R0n
            clear R0n hO hG hN bwr hA hk hlt hNs y0 y1 y2 y3 hr hq hu
            obtain ⟨y0, _⟩ := cell_row X3.out 0 _ rfl
            obtain ⟨y1, _⟩ := cell_row X3.out 1 _ rfl
            obtain ⟨y2, _⟩ := cell_row X3.out 2 _ rfl
            obtain ⟨y3, _⟩ := cell_row X3.out 3 _ rfl
            simp only [List.getElem_toArray, List.getElem_cons_zero, List.getElem_cons_succ] at y0 y1 y2 y3
            go_wp2_with fail
            clear y0 y1 y2 y3
            go_loopw [8] (fun i wr => ∃ (k : Nat) (ov : Option Addr) (kv : Nat), k ≤ D.nv ∧ i = .int .i64 k ∧ Hid (wr.ownsRow U3.heap.size 9 1 (.slice ov (vaL D st k).length kv) (vaL D st k).length (enc 1 gS (vaL D st k))) ∧ Hid (wr.heap[w.heap.size + 1 + 1]? = some (.cells #[.slice r0 (foL D D.nf).length q0, .slice r1 (spL D st D.np).length q1, .slice ov (vaL D st k).length kv, .slice none 0 0, .int .i64 0] 33 (0, 0))) ∧ Hid (But (fun b => b = w.heap.size + 1 + 1) U3 wr)) (fun i _ => D.nv - (intOf i).toNat)
            case atStart => exact ⟨0, none, 0, Nat.zero_le _, rfl, World.ownsRow_nil _ _ _ _, GU1.out, But.refl _ _⟩
            case round =>
              obtain ⟨k, ov, kv, hk, rfl, hO, hG, hN⟩ := hrel
              have hNs := hN.out.size
              have bwr : Hid (Below w.heap.size w wr) := BU1.out.trans (hN.out.below (B := w.heap.size) (fun b hb => by omega) (by omega))
              have hA : wr.heap[w.heap.size]? = _ := (hN.out.block w.heap.size (by omega) (by omega)).trans X3.out
              obtain ⟨y0, _⟩ := cell_row hA 0 _ rfl
              obtain ⟨y1, _⟩ := cell_row hA 1 _ rfl
              obtain ⟨y2, _⟩ := cell_row hA 2 _ rfl
              obtain ⟨y3, _⟩ := cell_row hA 3 _ rfl
              simp only [List.getElem_toArray, List.getElem_cons_zero, List.getElem_cons_succ] at y0 y1 y2 y3
              by_cases hlt : k < D.nv
              · obtain ⟨oa, cp, ev, _, hcv⟩ := (H.out wr bwr.out).v
                obtain ⟨b, off, eo, hbB, hcell⟩ := hcv k hlt
                have eo1 : o3 = some ⟨b, off, none⟩ := by injection ev with h1 _ _; exact h1.trans eo
                subst eo1
                clear ev eo hcv
                have e0 : wr.cell? ⟨b, off + k * 4, none⟩ = some (.string (D.fv k).1) := hcell 0 (by omega)
                have e1 : wr.cell? ⟨b, off + k * 4 + 1, none⟩ = some (.string (D.fv k).2.1) := hcell 1 (by omega)
                have e2 : wr.cell? ⟨b, off + k * 4 + 2, none⟩ = some (.string (D.fv k).2.2.1) := hcell 2 (by omega)
                have e3 : wr.cell? ⟨b, off + k * 4 + 3, none⟩ = some (.string (D.fv k).2.2.2) := hcell 3 (by omega)
                clear hcell hbB
                cases c : (eqB (D.fv k).2.2.2 st)
                · have hc : ((D.fv k).2.2.2.toList == st.toList) = false := c
                  go_wp2_with fail
                  go_roundw
                  case rel => exact ⟨k + 1, ov, kv, by omega, by go_num, by show World.ownsRow _ _ _ _ _ _ _; rw [vaL_no c]; exact hO.out, by show _ = _; rw [vaL_no c]; exact hG.out, hN⟩
                  case measure => simp [intOf]; omega
                · have hc : ((D.fv k).2.2.2.toList == st.toList) = true := c
                  have hll := vaL_len D st k
                  obtain ⟨yx, _⟩ := cell_row hG.out 2 (.slice ov (vaL D st k).length kv) rfl
                  go_upto_region 17 with fail
                  have qx := fun d os => cell_regrown yx d os
                  have q_y3 := fun d os => cell_regrown y3 d os
                  have q_e0 := fun d os => cell_regrown e0 d os
                  have hdr : Hid (Below wr.heap.size wr wr.drew) := (Below.refl _ _).drew
                  refine wp_region_mix 9 [0, 1, 2, 3, 4, 5, 6, 7] (by kernel_rfl) (by kernel_rfl) ?_
                  simp only [List.filterMap_cons, List.filterMap_nil, List.getElem?_cons_succ, List.getElem?_cons_zero]
                  repeat (first | go_big_quiet_step (fail) | quiet_step (fail))
                  refine wpQuiet_nil ?_
                  clear yx qx q_y3 q_e0
                  obtain ⟨wd, hwd⟩ : ∃ V, V = wr.drew := ⟨_, rfl⟩
                  have BD : Hid (Below wr.heap.size wr wd) := by rw [hwd]; exact hdr.out
                  have sd : wr.heap.size ≤ wd.heap.size ∧ wd.heap.size ≤ wr.heap.size := by rw [hwd]; exact ⟨Nat.le_refl _, Nat.le_refl _⟩
                  rw [← hwd]
                  clear hwd
                  have sUL := BD.out.size
                  obtain ⟨ua, hua⟩ : ∃ V, V = wd.alloc (.cells #[.string (D.fv k).1] 9) := ⟨_, rfl⟩
                  have HUA : Hid (ua = wd.alloc (.cells #[.string (D.fv k).1] 9)) := hua
                  have sua : ua.heap.size ≤ wd.heap.size + 1 ∧ wd.heap.size + 1 ≤ ua.heap.size := by rw [hua]; simp
                  have BA : Hid (Below wr.heap.size wr ua) := by rw [hua]; exact BD.out.alloc sUL _
                  have HSRC : Hid (Src ua (.slice (some ⟨wd.heap.size, 0, none⟩) 1 1) 1 1 (#[.string (D.fv k).1] : Array Value).toList) := by
                    have h1 : ua.ownsRow 0 9 1 (.slice (some ⟨wd.heap.size, 0, none⟩) 1 1) 1 (#[.string (D.fv k).1] : Array Value).toList := by
                      rw [hua]; exact own_built (Nat.zero_le _) (by unfold maxLen; omega) rfl
                    exact own_src h1
                  have HOWN : Hid (ua.ownsRow U3.heap.size 9 1 (.slice ov (vaL D st k).length kv) (vaL D st k).length (enc 1 gS (vaL D st k))) := row_keep BA.out hO.out
                  have HONE : Hid (∀ z ∈ (#[.string (D.fv k).1] : Array Value).toList, z.oneCell' = true) := by intro z hz; simp at hz; subst hz; rfl
                  clear hua
                  refine anyC_step (f := 0) [8] (by kernel_rfl) (by simp) (one_list ⟨by decide, _, rfl, rfl, .slice (some ⟨wd.heap.size, 0, none⟩) 1 1, wd.alloc (.cells #[.string (D.fv k).1] 9), ?runb, regrown_of_below (by have := BA.out; rw [HUA.out] at this; exact this), ?_⟩)
                  case runb => go_simp
                  refine ⟨by kernel_rfl, ?_⟩
                  simp only [List.drop_succ_cons, List.drop_zero]
                  rw [← HUA.out]
                  go_wp2_with (first
                    | (at_builtin; refine wpList_app elSg rfl _ _ rfl rfl rfl HOWN.out HSRC.out HONE.out (by unfold maxLen; omega) (by omega) (by omega) ?_; intro v' u8 hown hgr hbk; obtain ⟨ov', kv', rfl⟩ := ownsRow_shape hown; have hg8 : u8.heap[w.heap.size + 1 + 1]? = some (.cells #[.slice r0 (foL D D.nf).length q0, .slice r1 (spL D st D.np).length q1, .slice ov (vaL D st k).length kv, .slice none 0 0, .int .i64 0] 33 (0, 0)) := (hgr.block (w.heap.size + 1 + 1) (by omega) (fun e => by have := (World.ownsRow.lt HOWN.out (w.heap.size + 1 + 1) e.symm).1; omega)).trans ((BA.out.block (w.heap.size + 1 + 1) (by omega)).trans hG.out); obtain ⟨zc8, zf8⟩ := cell_row hg8 2 (.slice ov (vaL D st k).length kv) rfl))
                  have SET := set_row hg8 2 (.slice ov' ((vaL D st k).length + 1) kv')
                  have RN : Hid ((u8.setCell ⟨w.heap.size + 1 + 1, 2, none⟩ (.slice ov' ((vaL D st k).length + 1) kv')).ownsRow U3.heap.size 9 1 (.slice ov' (vaL D st (k + 1)).length kv') (vaL D st (k + 1)).length (enc 1 gS (vaL D st (k + 1)))) := by
                    show World.ownsRow _ _ _ _ _ _ _
                    rw [vaL_yes c, List.length_append, enc_append]
                    exact ownsRow_kept hown (fun g hg => Below.heap_setCell _ _ _ _ (by have := (World.ownsRow.lt hown g hg).1; show g ≠ w.heap.size + 1 + 1; omega))
                  have GN : Hid ((u8.setCell ⟨w.heap.size + 1 + 1, 2, none⟩ (.slice ov' ((vaL D st k).length + 1) kv')).heap[w.heap.size + 1 + 1]? = some (.cells #[.slice r0 (foL D D.nf).length q0, .slice r1 (spL D st D.np).length q1, .slice ov' (vaL D st (k + 1)).length kv', .slice none 0 0, .int .i64 0] 33 (0, 0))) := by
                    show _ = _
                    rw [vaL_yes c, List.length_append]
                    exact SET
                  have NN : Hid (But (fun b => b = w.heap.size + 1 + 1) U3 (u8.setCell ⟨w.heap.size + 1 + 1, 2, none⟩ (.slice ov' ((vaL D st k).length + 1) kv'))) := hN.out.round BA.out hgr (fun q hq => (World.ownsRow.lt HOWN.out q hq).1) 2 _
                  go_roundw
                  case rel => exact ⟨k + 1, ov', kv', by omega, by go_num, RN.out, GN.out, NN.out⟩
                  case measure => simp [intOf]; omega
              · obtain rfl : k = D.nv := by omega
                have R2 : Hid (wr.ownsRow U3.heap.size 9 1 (.slice ov (vaL D st D.nv).length kv) (vaL D st D.nv).length (enc 1 gS (vaL D st D.nv))) := hO
                have Q2 : Hid (∀ g, (Value.slice ov (vaL D st D.nv).length kv).ownBlock = some g → U3.heap.size ≤ g ∧ g < wr.heap.size) := fun g hg => World.ownsRow.lt hO.out g hg
                have X4 : Hid (wr.heap[w.heap.size]? = some (.cells #[v0, .slice o1 D.nf c1, .slice o2 D.np c2, .slice o3 D.nv c3] 39 (0, 0))) := hA
                have Y4 : Hid (wr.heap[w.heap.size + 1]? = some (.cells #[.slice none 0 0, .slice none 0 0, .slice none 0 0, .slice none 0 0, .int .i64 0] 33 (0, 0))) := (hN.out.block (w.heap.size + 1) (by omega) (by omega)).trans Y3.out
                have R0n := ownsRow_kept (w' := wr) R0.out (fun g hg => hN.out.block g (by have := (Q0.out g hg).2; omega) (by have := (Q0.out g hg).1; omega))
                have R1n := ownsRow_kept (w' := wr) R1.out (fun g hg => hN.out.block g (by have := (Q1.out g hg).2; omega) (by have := (Q1.out g hg).1; omega))
                have GXF : Hid (wr.heap[w.heap.size + 1 + 1]? = some (.cells #[.slice r0 (foL D D.nf).length q0, .slice r1 (spL D st D.np).length q1, .slice ov (vaL D st D.nv).length kv, .slice none 0 0, .int .i64 0] 33 (0, 0))) := hG
                have Y4' := Y4
                obtain ⟨l0, _⟩ := cell_row GXF.out 0 (.slice r0 (foL D D.nf).length q0) rfl
                obtain ⟨r0', f0'⟩ := cell_row Y4.out 0 (.slice none 0 0) rfl
                obtain ⟨l1, _⟩ := cell_row GXF.out 1 (.slice r1 (spL D st D.np).length q1) rfl
                obtain ⟨r1', f1'⟩ := cell_row Y4.out 1 (.slice none 0 0) rfl
                obtain ⟨l2, _⟩ := cell_row GXF.out 2 (.slice ov (vaL D st D.nv).length kv) rfl
                obtain ⟨r2', f2'⟩ := cell_row Y4.out 2 (.slice none 0 0) rfl
                obtain ⟨l3, _⟩ := cell_row GXF.out 3 (.slice none 0 0) rfl
                obtain ⟨r3', f3'⟩ := cell_row Y4.out 3 (.slice none 0 0) rfl
                obtain ⟨l4, _⟩ := cell_row GXF.out 4 (.int .i64 0) rfl
                obtain ⟨r4', f4'⟩ := cell_row Y4.out 4 (.int .i64 0) rfl
                obtain ⟨F0, F1, F2, F3⟩ := ret5 Y4.out (.slice r0 (foL D D.nf).length q0) (.slice r1 (spL D st D.np).length q1) (.slice ov (vaL D st D.nv).length kv) (.slice none 0 0) (.int .i64 0)
                go_wp2_with fail
                obtain ⟨FW, hF⟩ : ∃ u, u = (((((wr.setCell ⟨w.heap.size + 1, 0, none⟩ (.slice r0 (foL D D.nf).length q0)).setCell ⟨w.heap.size + 1, 1, none⟩ (.slice r1 (spL D st D.np).length q1)).setCell ⟨w.heap.size + 1, 2, none⟩ (.slice ov (vaL D st D.nv).length kv)).setCell ⟨w.heap.size + 1, 3, none⟩ (.slice none 0 0)).setCell ⟨w.heap.size + 1, 4, none⟩ (.int .i64 0)) := ⟨_, rfl⟩
                rw [← hF]
                rw [← hF] at F0 F1 F2 F3
                have t0 := (cell_row F0 0 (.slice r0 (foL D D.nf).length q0) rfl).1
                have t1 := (cell_row F0 1 (.slice r1 (spL D st D.np).length q1) rfl).1
                have t2 := (cell_row F0 2 (.slice ov (vaL D st D.nv).length kv) rfl).1
                have t3 := (cell_row F0 3 (.slice none 0 0) rfl).1
                have t4 := (cell_row F0 4 (.int .i64 0) rfl).1
                have BF : Below w.heap.size w FW := bwr.out.trans (F3.mono (by omega))
                have K0 := ownsRow_kept (w' := FW) R0n (fun g hg => F1 g (by have := (Q0.out g hg).1; omega))
                have K1 := ownsRow_kept (w' := FW) R1n (fun g hg => F1 g (by have := (Q1.out g hg).1; omega))
                have K2 := ownsRow_kept (w' := FW) R2.out (fun g hg => F1 g (by have := (Q2.out g hg).1; omega))
                have ON := book_on (T := w1.heap.size) (s2 := U2.heap.size) (s3 := U3.heap.size) (e := FW.heap.size) HV.out K0 Q0.out K1 Q1.out K2 (fun g hg => ⟨(Q2.out g hg).1, by rw [F2]; exact (Q2.out g hg).2⟩) hs2 (by omega) (by rw [F2]; omega)
                exact bodyPost_ret (v := .agg #[.slice r0 (foL D D.nf).length q0, .slice r1 (spL D st D.np).length q1, .slice ov (vaL D st D.nv).length kv, .slice none 0 0, .int .i64 0]) (by simp [results, Try.results5, go_sem, t0, t1, t2, t3, t4]) rfl ⟨cs [.slice r0 (foL D D.nf).length q0, .slice r1 (spL D st D.np).length q1, .slice ov (vaL D st D.nv).length kv, .slice none 0 0, .int .i64 0], true, rfl, ⟨fun _ => HV.out, fun _ => rfl⟩, Own.on_up ON (fun b hb => ⟨by omega, hb.2⟩), BF⟩

end Go.Proofs.Ytciembgenlcogac
