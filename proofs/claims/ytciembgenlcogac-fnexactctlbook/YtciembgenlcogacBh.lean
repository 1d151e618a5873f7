/-
  A contract of the program's book of a station: all in memory of its own.
-/
import Derived.Test.YtciembgenlcogacBfa
import Derived.Test.YtciembgenlcogacBg
import Derived.Test.YtciembgenlcogacBme
import Derived.Test.YtciembgenlcogacGc
import Derived.Test.YtciembgenlcogacBmf
import Derived.Test.YtciembgenlcogacHc
import Derived.Test.YtciembgenlcogacHy
import Derived.Deep.Cut
import Derived.Maps.OwnIn
namespace Go.Proofs.Ytciembgenlcogac
open Go.RowKit Go.Shelf

attribute [local go_sem] Oper.semAt_some

theorem has_small {D : PD} (hV : D.V) {x : ByteArray} (h : hasB D.ns D.fs x = true) : x.size ≤ 1048576 := by
  unfold hasB at h
  obtain ⟨i, hi, e⟩ := List.any_eq_true.1 h
  have h1 := name_size (hV.1.2.2.1 i (List.mem_range.1 hi)).1
  have h2 := eqB_size e
  omega

set_option maxRecDepth 100000 in
set_option maxHeartbeats 8000000 in
theorem bookI_any (B : Nat) (v0 v1 v2 v3 : Value) (D : PD) (st : ByteArray) (w : World) (h : PAt B w v0 v1 v2 v3 D) (hB : B ≤ w.heap.size) (hz : D.Sz) :
    Calls Try.prog 7 #[.agg #[v0, v1, v2, v3], .string st] w fun e w' => ∃ (g : Nat → Value) (b : Bool), e = .returned (.agg #[g 0, g 1, g 2, g 3, g 4]) ∧ (b = true ↔ D.V) ∧ Own.On (fun x => w.heap.size ≤ x ∧ x < w'.heap.size) w' (bookD b D st) g ∧ Below w.heap.size w w' := by
  obtain ⟨o1, c1, e1, hx1⟩ := id h.f
  obtain ⟨o2, c2, e2, hx2⟩ := id h.p
  obtain ⟨o3, c3, e3, hx3⟩ := id h.v
  subst e1 e2 e3
  clear hx1 hx2 hx3
  have H : Hid (∀ w', Below w.heap.size w w' → PAt B w' v0 (.slice o1 D.nf c1) (.slice o2 D.np c2) (.slice o3 D.nv c3) D) := fun w' hb => h.kept hb hB
  clear h
  obtain ⟨W, hW⟩ : ∃ W, W = (w.alloc (.cells #[v0, .slice o1 D.nf c1, .slice o2 D.np c2, .slice o3 D.nv c3] 39)).alloc (.cells #[.slice none 0 0, .slice none 0 0, .slice none 0 0, .slice none 0 0, .int .i64 0] 33) := ⟨_, rfl⟩
  have EW : Hid (W = (w.alloc (.cells #[v0, .slice o1 D.nf c1, .slice o2 D.np c2, .slice o3 D.nv c3] 39)).alloc (.cells #[.slice none 0 0, .slice none 0 0, .slice none 0 0, .slice none 0 0, .int .i64 0] 33)) := hW
  have BW : Hid (Below w.heap.size w W) := by rw [hW]; exact ((Below.refl _ _).alloc (Nat.le_refl _) _).alloc (by simp) _
  have sW : w.heap.size + 1 + 1 ≤ W.heap.size := by rw [hW]; simp
  have X0 : Hid (W.heap[w.heap.size]? = some (.cells #[v0, .slice o1 D.nf c1, .slice o2 D.np c2, .slice o3 D.nv c3] 39 (0, 0))) := by rw [hW]; exact (Below.heap_alloc _ _ _ (by simp)).trans (heap_alloc_new w _)
  have Y0 : Hid (W.heap[w.heap.size + 1]? = some (.cells #[.slice none 0 0, .slice none 0 0, .slice none 0 0, .slice none 0 0, .int .i64 0] 33 (0, 0))) := by rw [hW]; have := heap_alloc_new (w.alloc (.cells #[v0, .slice o1 D.nf c1, .slice o2 D.np c2, .slice o3 D.nv c3] 39)) (.cells #[.slice none 0 0, .slice none 0 0, .slice none 0 0, .slice none 0 0, .int .i64 0] 33); rw [World.size_alloc] at this; exact this
  clear hW
  refine (callsIn_wide (n := 6)).1 ?_
  refine callsIn_of_wp_marks Try.func7 rfl trivial ?_ rfl
  simp only [Try.ntmps7, List.size_toArray, List.length_cons, List.length_nil, Nat.reduceAdd, Nat.reduceSub, Array.replicate_succ, Array.replicate_zero, List.push_toArray, List.append_toArray, List.nil_append, List.cons_append]
  refine wpIn_wide.2 ?_
  go_upto_region 1 with fail
  rw [← EW.out]
  obtain ⟨y0, _⟩ := cell_row X0.out 0 _ rfl
  obtain ⟨y1, _⟩ := cell_row X0.out 1 _ rfl
  obtain ⟨y2, _⟩ := cell_row X0.out 2 _ rfl
  obtain ⟨y3, _⟩ := cell_row X0.out 3 _ rfl
  simp only [List.getElem_toArray, List.getElem_cons_zero, List.getElem_cons_succ] at y0 y1 y2 y3
  go_wp2_with fail
  refine (validI_any B _ _ _ _ D W (H.out W BW.out) (by have := BW.out.size; omega) hz).mono ?_; rintro e w1 ⟨b, rfl, is, hb1⟩
  have IS : Hid _ := is
  have B1 : Hid (Below w.heap.size w w1) := BW.out.trans (hb1.mono BW.out.size)
  have X1 : Hid (w1.heap[w.heap.size]? = some (.cells #[v0, .slice o1 D.nf c1, .slice o2 D.np c2, .slice o3 D.nv c3] 39 (0, 0))) := box_keep hb1 X0.out
  have Y1 : Hid (w1.heap[w.heap.size + 1]? = some (.cells #[.slice none 0 0, .slice none 0 0, .slice none 0 0, .slice none 0 0, .int .i64 0] 33 (0, 0))) := box_keep hb1 Y0.out
  have s1 : w.heap.size + 1 + 1 ≤ w1.heap.size := Nat.le_trans sW hb1.size
  clear is hb1 y0 y1 y2 y3
  cases b
  · obtain ⟨r0', f0'⟩ := cell_row Y1.out 0 (.slice none 0 0) rfl
    obtain ⟨r1', f1'⟩ := cell_row Y1.out 1 (.slice none 0 0) rfl
    obtain ⟨r2', f2'⟩ := cell_row Y1.out 2 (.slice none 0 0) rfl
    obtain ⟨r3', f3'⟩ := cell_row Y1.out 3 (.slice none 0 0) rfl
    obtain ⟨r4', f4'⟩ := cell_row Y1.out 4 (.int .i64 0) rfl
    obtain ⟨F0, F1, F2, F3⟩ := ret5 Y1.out (.slice none 0 0) (.slice none 0 0) (.slice none 0 0) (.slice none 0 0) (.int .i64 0)
    go_wp2_with fail
    obtain ⟨FW, hF⟩ : ∃ u, u = (((((w1.setCell ⟨w.heap.size + 1, 0, none⟩ (.slice none 0 0)).setCell ⟨w.heap.size + 1, 1, none⟩ (.slice none 0 0)).setCell ⟨w.heap.size + 1, 2, none⟩ (.slice none 0 0)).setCell ⟨w.heap.size + 1, 3, none⟩ (.slice none 0 0)).setCell ⟨w.heap.size + 1, 4, none⟩ (.int .i64 0)) := ⟨_, rfl⟩
    rw [← hF]
    rw [← hF] at F0 F1 F2 F3
    have t0 := (cell_row F0 0 (.slice none 0 0) rfl).1
    have t1 := (cell_row F0 1 (.slice none 0 0) rfl).1
    have t2 := (cell_row F0 2 (.slice none 0 0) rfl).1
    have t3 := (cell_row F0 3 (.slice none 0 0) rfl).1
    have t4 := (cell_row F0 4 (.int .i64 0) rfl).1
    have BF : Below w.heap.size w FW := B1.out.trans (F3.mono (by omega))
    refine ⟨.agg #[.slice none 0 0, .slice none 0 0, .slice none 0 0, .slice none 0 0, .int .i64 0], (by simp [results, Try.results7, go_sem, t0, t1, t2, t3, t4]), cs [.slice none 0 0, .slice none 0 0, .slice none 0 0, .slice none 0 0, .int .i64 0], false, rfl, IS.out, none_on, BF⟩
  · have HV : Hid D.V := by have := IS.out; simpa [Hid] using this
    have hnf : D.nf ≤ 12 := HV.out.1.2.1
    have hnp : D.np ≤ 14 := HV.out.2.1.1
    have hnv : D.nv ≤ 18 := HV.out.2.2.1
    obtain ⟨U1, hU1⟩ : ∃ u, u = w1.alloc (.cells #[.slice none 0 0, .slice none 0 0, .slice none 0 0, .slice none 0 0, .int .i64 0] 33) := ⟨_, rfl⟩
    have EU1 : Hid (U1 = w1.alloc (.cells #[.slice none 0 0, .slice none 0 0, .slice none 0 0, .slice none 0 0, .int .i64 0] 33)) := hU1
    have BU : Hid (Below w.heap.size w U1) := by rw [hU1]; exact B1.out.alloc (by omega) _
    have sU1 : w1.heap.size + 1 ≤ U1.heap.size ∧ U1.heap.size ≤ w1.heap.size + 1 := by rw [hU1]; simp
    have XU : Hid (U1.heap[w.heap.size]? = some (.cells #[v0, .slice o1 D.nf c1, .slice o2 D.np c2, .slice o3 D.nv c3] 39 (0, 0))) := by rw [hU1]; exact (Below.heap_alloc _ _ _ (by omega)).trans X1.out
    have YU : Hid (U1.heap[w.heap.size + 1]? = some (.cells #[.slice none 0 0, .slice none 0 0, .slice none 0 0, .slice none 0 0, .int .i64 0] 33 (0, 0))) := by rw [hU1]; exact (Below.heap_alloc _ _ _ (by omega)).trans Y1.out
    have GU : Hid (U1.heap[w1.heap.size]? = some (.cells #[.slice none 0 0, .slice none 0 0, .slice none 0 0, .slice none 0 0, .int .i64 0] 33 (0, 0))) := by rw [hU1]; exact heap_alloc_new w1 _
    clear hU1
    go_upto_region 4 with fail
    rw [← EU1.out]
    obtain ⟨y0, _⟩ := cell_row XU.out 0 _ rfl
    obtain ⟨y1, _⟩ := cell_row XU.out 1 _ rfl
    obtain ⟨y2, _⟩ := cell_row XU.out 2 _ rfl
    obtain ⟨y3, _⟩ := cell_row XU.out 3 _ rfl
    simp only [List.getElem_toArray, List.getElem_cons_zero, List.getElem_cons_succ] at y0 y1 y2 y3
    go_wp2_with fail
    clear y0 y1 y2 y3
    go_loopw [17] (fun i wr => ∃ (k : Nat) (ov : Option Addr) (kv : Nat), k ≤ D.nf ∧ i = .int .i64 k ∧ Hid (wr.ownsRow U1.heap.size 53 2 (.slice ov (foL D k).length kv) (foL D k).length (enc 2 gF (foL D k))) ∧ Hid (wr.heap[w1.heap.size]? = some (.cells #[.slice ov (foL D k).length kv, .slice none 0 0, .slice none 0 0, .slice none 0 0, .int .i64 0] 33 (0, 0))) ∧ Hid (But (fun b => b = w1.heap.size) U1 wr)) (fun i _ => D.nf - (intOf i).toNat)
    case atStart => exact ⟨0, none, 0, Nat.zero_le _, rfl, World.ownsRow_nil _ _ _ _, GU.out, But.refl _ _⟩
    case round =>
      obtain ⟨k, ov, kv, hk, rfl, hO, hG, hN⟩ := hrel
      have hNs := hN.out.size
      have bwr : Hid (Below w.heap.size w wr) := BU.out.trans (hN.out.below (B := w.heap.size) (fun b hb => by omega) (by omega))
      have hA : wr.heap[w.heap.size]? = _ := (hN.out.block w.heap.size (by omega) (by omega)).trans XU.out
      by_cases hlt : k < D.nf
      · obtain ⟨oa, cp, ev, _, hcv⟩ := (H.out wr bwr.out).f
        obtain ⟨b, off, eo, hbB, hcell⟩ := hcv k hlt
        have eo1 : o1 = some ⟨b, off, none⟩ := by injection ev with h1 _ _; exact h1.trans eo
        subst eo1
        clear ev eo hcv
        have e0 : wr.cell? ⟨b, off + k * 2, none⟩ = some (.string (D.ff k).1) := hcell 0 (by omega)
        have e1 : wr.cell? ⟨b, off + k * 2 + 1, none⟩ = some (.string (D.ff k).2) := hcell 1 (by omega)
        clear hcell hbB
        have hll : (foL D k).length ≤ k := by rw [foL_len]; omega
        have hfz : Hid ((D.ff k).1.size ≤ 1048576 ∧ (D.ff k).2.size ≤ 1048576) := by
          have hf := HV.out.1.2.2.2 k hlt
          exact ⟨has_small HV.out hf.2.1, has_small HV.out hf.2.2.1⟩
        obtain ⟨U6, hU6⟩ : ∃ u, u = wr.alloc (.cells #[.string (D.ff k).1, .string (D.ff k).2] 52) := ⟨_, rfl⟩
        have EU6 : Hid (U6 = wr.alloc (.cells #[.string (D.ff k).1, .string (D.ff k).2] 52)) := hU6
        have B6 : Hid (Below wr.heap.size wr U6) := by rw [hU6]; exact (Below.refl _ _).alloc (Nat.le_refl _) _
        have X6 : Hid (U6.heap[wr.heap.size]? = some (.cells #[.string (D.ff k).1, .string (D.ff k).2] 52 (0, 0))) := by rw [hU6]; exact heap_alloc_new wr _
        clear hU6
        go_upto_region 7 with fail
        rw [← EU6.out]
        clear e0 e1
        have hG6 := box_keep B6.out hG.out
        obtain ⟨yx, _⟩ := cell_row hG6 0 (.slice ov (foL D k).length kv) rfl
        obtain ⟨z0, _⟩ := cell_row X6.out 0 (.string (D.ff k).1) rfl
        obtain ⟨z1, _⟩ := cell_row X6.out 1 (.string (D.ff k).2) rfl
        have qx := fun d os => cell_regrown yx d os
        have q0 := fun d os => cell_regrown z0 d os
        have q1 := fun d os => cell_regrown z1 d os
        have hdr : Hid (Below wr.heap.size wr U6.drew) := B6.out.drew
        have hd6 : Hid (Below U6.heap.size U6 U6.drew) := (Below.refl _ _).drew
        refine wp_region_mix 10 [0, 1, 2, 3, 5, 6] (by kernel_rfl) (by kernel_rfl) ?_
        simp only [List.filterMap_cons, List.filterMap_nil, List.getElem?_cons_succ, List.getElem?_cons_zero]
        repeat (first | go_big_quiet_step (fail) | quiet_step (fail))
        refine wpQuiet_nil ?_
        clear yx z0 z1 qx q0 q1 hG6
        refine call1 (md := .any) (f := 3) (i := 4) (dc := 25) (fn := 23) ⟨rfl, rfl, rfl, by decide⟩ (by kernel_rfl) ?run4 ((clones_any (D.ff k).1 U6.drew hfz.out.1).mono ?_)
        case run4 => go_simp
        rintro e u7 ⟨rfl, hb7⟩
        have C7 : Hid (Below U6.heap.size U6 u7) := hd6.out.trans hb7
        clear hb7
        refine ⟨_, rfl, regrown_of_below C7.out, ?_⟩
        simp only [Act.put, List.setIfInBounds_toArray, List.set_cons_zero, List.set_cons_succ]
        refine call1 (md := .any) (f := 2) (i := 7) (dc := 28) (fn := 23) ⟨rfl, rfl, rfl, by decide⟩ (by kernel_rfl) ?run7 ((clones_any (D.ff k).2 u7 hfz.out.2).mono ?_)
        case run7 => go_simp
        rintro e wd ⟨rfl, hb8⟩
        have C8 : Hid (Below U6.heap.size U6 wd) := C7.out.trans (hb8.mono C7.out.size)
        clear hb8
        refine ⟨_, rfl, regrown_of_below C8.out, ?_⟩
        simp only [Act.put, List.setIfInBounds_toArray, List.set_cons_zero, List.set_cons_succ]
        have BD : Hid (Below wr.heap.size wr wd) := B6.out.trans (C8.out.mono B6.out.size)
        have sUL := BD.out.size
        obtain ⟨ua, hua⟩ : ∃ V, V = wd.alloc (.cells #[.string (D.ff k).1, .string (D.ff k).2] 53) := ⟨_, rfl⟩
        have HUA : Hid (ua = wd.alloc (.cells #[.string (D.ff k).1, .string (D.ff k).2] 53)) := hua
        have sua : ua.heap.size ≤ wd.heap.size + 1 ∧ wd.heap.size + 1 ≤ ua.heap.size := by rw [hua]; simp
        have BA : Hid (Below wr.heap.size wr ua) := by rw [hua]; exact BD.out.alloc sUL _
        have HSRC : Hid (Src ua (.slice (some ⟨wd.heap.size, 0, none⟩) 1 1) 1 2 (#[.string (D.ff k).1, .string (D.ff k).2] : Array Value).toList) := by
          have h1 : ua.ownsRow 0 53 2 (.slice (some ⟨wd.heap.size, 0, none⟩) 1 1) 1 (#[.string (D.ff k).1, .string (D.ff k).2] : Array Value).toList := by
            rw [hua]; exact own_built (Nat.zero_le _) (by unfold maxLen; omega) rfl
          exact own_src h1
        have HOWN : Hid (ua.ownsRow U1.heap.size 53 2 (.slice ov (foL D k).length kv) (foL D k).length (enc 2 gF (foL D k))) := row_keep BA.out hO.out
        have HONE : Hid (∀ z ∈ (#[.string (D.ff k).1, .string (D.ff k).2] : Array Value).toList, z.oneCell' = true) := by intro z hz; simp at hz; rcases hz with rfl | rfl <;> rfl
        clear hua
        refine anyC_step (f := 1) [8] (by kernel_rfl) (by simp) (one_list ⟨by decide, _, rfl, rfl, .agg #[.string (D.ff k).1, .string (D.ff k).2], wd, ?runa, regrown_of_below C8.out, ?_⟩)
        case runa => go_simp
        refine anyC_step (f := 0) [9] (by kernel_rfl) (by simp) (one_list ⟨by decide, _, rfl, rfl, .slice (some ⟨wd.heap.size, 0, none⟩) 1 1, wd.alloc (.cells #[.string (D.ff k).1, .string (D.ff k).2] 53), ?runb, regrown_of_below (C8.out.alloc C8.out.size _), ?_⟩)
        case runb => go_simp
        refine ⟨by kernel_rfl, ?_⟩
        simp only [List.drop_succ_cons, List.drop_zero]
        rw [← HUA.out]
        go_wp2_with (first
          | (at_builtin; refine wpList_app elFg rfl _ _ rfl rfl rfl HOWN.out HSRC.out HONE.out (by unfold maxLen; omega) (by omega) (by omega) ?_; intro v' u8 hown hgr hbk; obtain ⟨ov', kv', rfl⟩ := ownsRow_shape hown; have hg8 : u8.heap[w1.heap.size]? = some (.cells #[.slice ov (foL D k).length kv, .slice none 0 0, .slice none 0 0, .slice none 0 0, .int .i64 0] 33 (0, 0)) := (hgr.block (w1.heap.size) (by omega) (fun e => by have := (World.ownsRow.lt HOWN.out (w1.heap.size) e.symm).1; omega)).trans ((BA.out.block (w1.heap.size) (by omega)).trans hG.out); obtain ⟨zc8, zf8⟩ := cell_row hg8 0 (.slice ov (foL D k).length kv) rfl))
        have SET := set_row hg8 0 (.slice ov' ((foL D k).length + 1) kv')
        have RN : Hid ((u8.setCell ⟨w1.heap.size, 0, none⟩ (.slice ov' ((foL D k).length + 1) kv')).ownsRow U1.heap.size 53 2 (.slice ov' (foL D (k + 1)).length kv') (foL D (k + 1)).length (enc 2 gF (foL D (k + 1)))) := by
          show World.ownsRow _ _ _ _ _ _ _
          rw [foL_succ D k, List.length_append, enc_append]
          exact ownsRow_kept hown (fun g hg => Below.heap_setCell _ _ _ _ (by have := (World.ownsRow.lt hown g hg).1; show g ≠ w1.heap.size; omega))
        have GN : Hid ((u8.setCell ⟨w1.heap.size, 0, none⟩ (.slice ov' ((foL D k).length + 1) kv')).heap[w1.heap.size]? = some (.cells #[.slice ov' (foL D (k + 1)).length kv', .slice none 0 0, .slice none 0 0, .slice none 0 0, .int .i64 0] 33 (0, 0))) := by
          show _ = _
          rw [foL_succ D k, List.length_append]
          exact SET
        have NN : Hid (But (fun b => b = w1.heap.size) U1 (u8.setCell ⟨w1.heap.size, 0, none⟩ (.slice ov' ((foL D k).length + 1) kv'))) := hN.out.round BA.out hgr (fun q hq => (World.ownsRow.lt HOWN.out q hq).1) 0 _
        go_roundw
        case rel => exact ⟨k + 1, ov', kv', by omega, by go_num, RN.out, GN.out, NN.out⟩
        case measure => simp [intOf]; omega
      · obtain rfl : k = D.nf := by omega
        have hr0 : ∃ (r0 : Option Addr) (q0 : Nat), r0 = ov ∧ q0 = kv := ⟨_, _, rfl, rfl⟩
        obtain ⟨r0, q0, er, eq⟩ := hr0
        subst er eq
        have R0 : Hid (wr.ownsRow U1.heap.size 53 2 (.slice r0 (foL D D.nf).length q0) (foL D D.nf).length (enc 2 gF (foL D D.nf))) := hO
        have Q0 : Hid (∀ g, (Value.slice r0 (foL D D.nf).length q0).ownBlock = some g → U1.heap.size ≤ g ∧ g < wr.heap.size) := fun g hg => World.ownsRow.lt hO.out g hg
        have YA : Hid (wr.heap[w.heap.size + 1]? = some (.cells #[.slice none 0 0, .slice none 0 0, .slice none 0 0, .slice none 0 0, .int .i64 0] 33 (0, 0))) := (hN.out.block (w.heap.size + 1) (by omega) (by omega)).trans YU.out
        have XA : Hid (wr.heap[w.heap.size]? = some (.cells #[v0, .slice o1 D.nf c1, .slice o2 D.np c2, .slice o3 D.nv c3] 39 (0, 0))) := hA
        have GA : Hid (wr.heap[w1.heap.size]? = some (.cells #[.slice r0 (foL D D.nf).length q0, .slice none 0 0, .slice none 0 0, .slice none 0 0, .int .i64 0] 33 (0, 0))) := hG
        clear hO hG hN hA hk hlt
        obtain ⟨y0, _⟩ := cell_row XA.out 0 _ rfl
        obtain ⟨y1, _⟩ := cell_row XA.out 1 _ rfl
        obtain ⟨y2, _⟩ := cell_row XA.out 2 _ rfl
        obtain ⟨y3, _⟩ := cell_row XA.out 3 _ rfl
        simp only [List.getElem_toArray, List.getElem_cons_zero, List.getElem_cons_succ] at y0 y1 y2 y3
        obtain ⟨U2, hU2⟩ : ∃ u, u = (wr.alloc (.cells #[v0, .slice o1 D.nf c1, .slice o2 D.np c2, .slice o3 D.nv c3] 39)).alloc (.cells #[.string st] 9) := ⟨_, rfl⟩
        have EU2 : Hid (U2 = (wr.alloc (.cells #[v0, .slice o1 D.nf c1, .slice o2 D.np c2, .slice o3 D.nv c3] 39)).alloc (.cells #[.string st] 9)) := hU2
        have b2 : Hid (Below wr.heap.size wr U2) := by rw [hU2]; exact ((Below.refl _ _).alloc (Nat.le_refl _) _).alloc (by simp) _
        have sU2 : wr.heap.size + 1 + 1 ≤ U2.heap.size ∧ U2.heap.size ≤ wr.heap.size + 1 + 1 := by rw [hU2]; simp
        have Pb : Hid (U2.heap[wr.heap.size]? = some (.cells #[v0, .slice o1 D.nf c1, .slice o2 D.np c2, .slice o3 D.nv c3] 39 (0, 0))) := by rw [hU2]; exact (Below.heap_alloc _ _ _ (by simp)).trans (heap_alloc_new wr _)
        have Sb : Hid (U2.heap[wr.heap.size + 1]? = some (.cells #[.string st] 9 (0, 0))) := by rw [hU2]; have := heap_alloc_new (wr.alloc (.cells #[v0, .slice o1 D.nf c1, .slice o2 D.np c2, .slice o3 D.nv c3] 39)) (.cells #[.string st] 9); rw [World.size_alloc] at this; exact this
        clear hU2
        have B2 : Hid (Below w.heap.size w U2) := bwr.out.trans (b2.out.mono (by omega))
        have R02 : Hid (U2.ownsRow U1.heap.size 53 2 (.slice r0 (foL D D.nf).length q0) (foL D D.nf).length (enc 2 gF (foL D D.nf))) := row_keep b2.out R0.out
        have GA2 := box_keep b2.out GA.out
        have G2 : Hid (U2.heap[w1.heap.size]? = some (.cells #[.slice r0 (foL D D.nf).length q0, .slice none 0 0, .slice none 0 0, .slice none 0 0, .int .i64 0] 33 (0, 0))) := GA2
        have Y2 : Hid (U2.heap[w.heap.size + 1]? = some (.cells #[.slice none 0 0, .slice none 0 0, .slice none 0 0, .slice none 0 0, .int .i64 0] 33 (0, 0))) := box_keep b2.out YA.out
        have X2 : Hid (U2.heap[w.heap.size]? = some (.cells #[v0, .slice o1 D.nf c1, .slice o2 D.np c2, .slice o3 D.nv c3] 39 (0, 0))) := box_keep b2.out XA.out
        clear GA2
        go_wp2_with fail
        refine (placesOf_any _ _ _ _ _ _).mono ?_; rintro e w' ⟨rfl, hw2⟩
        rw [hw2, ← EU2.out]
        clear hw2 w' y0 y1 y2 y3
        go_wp2_with fail
        have GG1 : Hid (Grw U2 w1.heap.size (fun v => #[.slice r0 (foL D D.nf).length q0, v, .slice none 0 0, .slice none 0 0, .int .i64 0]) 33 57 5 0 [] U2 (.slice none 0 0)) := ⟨World.ownsRow_nil _ _ _ _, G2.out, But.refl _ _⟩
        refine (wpIn_wide (n := 5)).1 ?_
        refine wpIn_range_fitx (F := Fence.wide) rfl (by omega) (gf := 58) (lb := #[.pointer (some ⟨wr.heap.size, 0, none⟩), .pointer (some ⟨wr.heap.size + 1, 0, none⟩)]) rfl trivial (enters_of Try.func58 (by kernel_rfl) rfl)
          (places_fit 4 wr.heap.size (wr.heap.size + 1) B (by omega) v0 _ _ o2 c2 D st (ownG w1.heap.size 1 33) U2 Pb.out Sb.out (H.out U2 B2.out).p (fun i hi => name_size (HV.out.2.1.2 i hi).1) (by have := B2.out.size; omega) (by omega)) (fun _ _ _ _ _ _ h _ _ => h) (Below.refl _ _) (fun _ => rfl) ?no1 (by have := B2.out.size; omega)
          (fun pre X => ∃ v, Grw U2 w1.heap.size (fun v => #[.slice r0 (foL D D.nf).length q0, v, .slice none 0 0, .slice none 0 0, .int .i64 0]) 33 57 5 pre.length (enc 5 gP (pre.map fun p => (p.1, p.2.1))) X v)
          (fun pre A C row hI hg hr => by obtain ⟨v, g⟩ := hI; exact ⟨v, g.grown hg hr⟩) (fun pre X hI => by obtain ⟨v, g⟩ := hI; exact g.st rfl) ⟨_, GG1.out⟩ (fun _ _ _ _ h _ => h) ?round1 ?done1
        case no1 =>
          rintro q hq ho
          rcases (GG1.out.own rfl).1 ho with rfl | ho2
          · rcases hq with hq | hq | hq <;> omega
          · cases ho2
        case round1 =>
          intro l pre y X hI hlen
          obtain ⟨v, gX⟩ := hI
          apply Exists.intro
          apply Exists.intro
          refine ⟨?ba, ?assign, ?body⟩
          case assign =>
            intro K hK
            gi_wp2
            exact hK
          case ba => exact (Below.refl _ _).alloc (Nat.le_refl _) _
          case body =>
            intro X0 V _ hV hy8 hput
            obtain ⟨kk, oo, oo', hk1, hk2, hV2⟩ := hput
            obtain ⟨v, gV⟩ := hV
            obtain ⟨ov, kv, rfl⟩ := ownsRow_shape gV.row
            have hne : kk ≠ X.heap.size := fun e => by
              subst e
              rw [heap_alloc_new] at hk1
              cases hk1; cases hk2
            have XP : V.heap[X.heap.size]? = some (.cells #[.string y.1, .int .i64 y.2.1, .string y.2.2] 55 (0, 0)) := by rw [hV2]; exact (World.putObj_heap_other (by omega)).trans (heap_alloc_new X _)
            obtain ⟨z0, _⟩ := cell_row XP 0 (.string y.1) rfl
            obtain ⟨z1, _⟩ := cell_row XP 1 (.int .i64 y.2.1) rfl
            have qz0 := fun d os => cell_regrown z0 d os
            have qz1 := fun d os => cell_regrown z1 d os
            clear hV2 hk1 hk2
            have GV : Hid (Grw U2 w1.heap.size (fun v => #[.slice r0 (foL D D.nf).length q0, v, .slice none 0 0, .slice none 0 0, .int .i64 0]) 33 57 5 pre.length (enc 5 gP (pre.map fun p => (p.1, p.2.1))) V (.slice ov pre.length kv)) := gV
            clear gV
            obtain ⟨yx, _⟩ := cell_row GV.out.box 1 (.slice ov pre.length kv) rfl
            have qx := fun d os => cell_regrown yx d os
            have sV := GV.out.but.size
            have hdV : Hid (Below V.heap.size V V.drew) := (Below.refl _ _).drew
            gi_wp2
            refine wpIn_region_mix 9 [0, 1, 2, 3, 5, 6] (by kernel_rfl) (by kernel_rfl) (by kernel_rfl) ?_
            simp only [List.filterMap_cons, List.filterMap_nil, List.getElem?_cons_succ, List.getElem?_cons_zero]
            repeat (first | go_big_quiet_step (fail) | quiet_step (fail))
            refine wpQuiet_nil ?_
            clear yx qx z0 z1 qz0 qz1
            refine call1 (md := .any) (f := 2) (i := 4) (dc := 42) (fn := 23) ⟨rfl, rfl, rfl, by decide⟩ (by kernel_rfl) ?runc ((clones_any y.1 V.drew (by omega)).mono ?_)
            case runc => go_simp
            rintro e wd ⟨rfl, hb8⟩
            have CV : Hid (Below V.heap.size V wd) := hdV.out.trans hb8
            clear hb8
            have sd := CV.out.size
            refine ⟨_, rfl, regrown_of_below CV.out, ?_⟩
            simp only [Act.put, List.setIfInBounds_toArray, List.set_cons_zero, List.set_cons_succ]
            obtain ⟨ua, hua⟩ : ∃ u, u = wd.alloc (.cells #[.string y.1, .int .i64 y.2.1, .int .i64 0, .int .i64 0, .slice none 0 0] 57) := ⟨_, rfl⟩
            have HUA : Hid (ua = wd.alloc (.cells #[.string y.1, .int .i64 y.2.1, .int .i64 0, .int .i64 0, .slice none 0 0] 57)) := hua
            have BA : Hid (Below V.heap.size V ua) := by rw [hua]; exact CV.out.alloc CV.out.size _
            have sua : wd.heap.size + 1 ≤ ua.heap.size ∧ ua.heap.size ≤ wd.heap.size + 1 := by rw [hua]; simp
            have HSRC : Hid (Src ua (.slice (some ⟨wd.heap.size, 0, none⟩) 1 1) 1 5 (#[.string y.1, .int .i64 y.2.1, .int .i64 0, .int .i64 0, .slice none 0 0] : Array Value).toList) := by
              have h1 : ua.ownsRow 0 57 5 (.slice (some ⟨wd.heap.size, 0, none⟩) 1 1) 1 (#[.string y.1, .int .i64 y.2.1, .int .i64 0, .int .i64 0, .slice none 0 0] : Array Value).toList := by
                rw [hua]; exact own_built (Nat.zero_le _) (by unfold maxLen; omega) rfl
              exact own_src h1
            have HOWN : Hid (ua.ownsRow U2.heap.size 57 5 (.slice ov pre.length kv) pre.length (enc 5 gP (pre.map fun p => (p.1, p.2.1)))) := row_keep BA.out GV.out.row
            clear hua
            have HONE : Hid (∀ z ∈ (#[.string y.1, .int .i64 y.2.1, .int .i64 0, .int .i64 0, .slice none 0 0] : Array Value).toList, z.oneCell' = true) := by intro z hz; simp at hz; rcases hz with rfl | rfl | rfl | rfl | rfl <;> rfl
            refine anyC_step (f := 1) [7] (by kernel_rfl) (by simp) (one_list ⟨by decide, _, rfl, rfl, .agg #[.string y.1, .int .i64 y.2.1, .int .i64 0, .int .i64 0, .slice none 0 0], wd, ?runa, regrown_of_below CV.out, ?_⟩)
            case runa => go_simp
            refine anyC_step (f := 0) [8] (by kernel_rfl) (by simp) (one_list ⟨by decide, _, rfl, rfl, .slice (some ⟨wd.heap.size, 0, none⟩) 1 1, wd.alloc (.cells #[.string y.1, .int .i64 y.2.1, .int .i64 0, .int .i64 0, .slice none 0 0] 57), ?runb, regrown_of_below (CV.out.alloc CV.out.size _), ?_⟩)
            case runb => go_simp
            refine ⟨by kernel_rfl, ?_⟩
            simp only [List.drop_succ_cons, List.drop_zero]
            rw [← HUA.out]
            obtain ⟨i0, zz, hi, hz0, hz1, hz2, hz3⟩ := elPg.info
            obtain ⟨hl0, hsrc⟩ := HSRC.out
            have HNEW : Hid (∀ jj u, (#[.string y.1, .int .i64 y.2.1, .int .i64 0, .int .i64 0, .slice none 0 0] : Array Value).toList[jj]? = some u → ua.cell? ((⟨wd.heap.size, 0, none⟩ : Addr).add jj) = some u) := by
              rcases hsrc with ⟨e, _⟩ | ⟨ad, c, e, hc⟩
              · cases e
              · cases e; exact hc
            clear hsrc
            gi_wp2_with (gi_at_builtin; refine wpListIn_append_own_at _ rfl _ _ 30 rfl U2.heap.size 57 i0 zz 5 64 elPg.ht hi hz0 hz1 hz2 hz3 (by decide) _ _ _ rfl HOWN.out ⟨wd.heap.size, 0, none⟩ 1 1 (#[.string y.1, .int .i64 y.2.1, .int .i64 0, .int .i64 0, .slice none 0 0] : Array Value).toList rfl hl0 HNEW.out HONE.out (by unfold maxLen; omega) (by omega) (by omega) ?_; intro v' u8 hown hgr _ hbk; obtain ⟨ov', kv', rfl⟩ := ownsRow_shape hown; have hg8 : u8.heap[w1.heap.size]? = some (.cells (#[.slice r0 (foL D D.nf).length q0, .slice ov pre.length kv, .slice none 0 0, .slice none 0 0, .int .i64 0]) 33 (0, 0)) := (hgr.block (w1.heap.size) (by omega) (fun e => by have := (World.ownsRow.lt HOWN.out (w1.heap.size) e.symm).1; omega)).trans ((BA.out.block (w1.heap.size) (by omega)).trans GV.out.box); obtain ⟨zc8, zf8⟩ := cell_row hg8 1 (.slice ov pre.length kv) rfl)
            obtain ⟨ko, kp, gg⟩ := GV.out.step (j := 1) (n₀ := B) rfl rfl rfl (by omega) (by omega) BA.out hgr hbk hown
            refine ⟨ko, kp, .slice ov' (pre.length + 1) kv', ?_⟩
            rw [List.length_append, show enc 5 gP ((pre ++ [y]).map fun p => (p.1, p.2.1)) = enc 5 gP (pre.map fun p => (p.1, p.2.1)) ++ (#[.string y.1, .int .i64 y.2.1, .int .i64 0, .int .i64 0, .slice none 0 0] : Array Value).toList by rw [List.map_append, enc_append]; rfl]
            exact gg
        case done1 =>
          rintro E1 ys X hD1 hDX hS hI hK1 hko1
          obtain ⟨v, gX⟩ := hI
          subst hS
          obtain ⟨r1, q1, rfl⟩ := ownsRow_shape gX.row
          have hsp : Hid ((plA D st D.np).map (fun p => (p.1, p.2.1)) = spL D st D.np) := by show _ = _; unfold plA spL; rw [List.map_map]; rfl
          have hspl : Hid ((plA D st D.np).length = (spL D st D.np).length) := by show _ = _; rw [← hsp.out, List.length_map]
          rw [hsp.out, hspl.out] at gX
          have hsX := gX.but.size
          have BX : Hid (Below w.heap.size w X) := B2.out.trans (gX.but.below (B := w.heap.size) (fun b hb => by omega) (by omega))
          have XX : Hid (X.heap[w.heap.size]? = some (.cells #[v0, .slice o1 D.nf c1, .slice o2 D.np c2, .slice o3 D.nv c3] 39 (0, 0))) := (gX.but.block w.heap.size (by omega) (by omega)).trans X2.out
          have YX : Hid (X.heap[w.heap.size + 1]? = some (.cells #[.slice none 0 0, .slice none 0 0, .slice none 0 0, .slice none 0 0, .int .i64 0] 33 (0, 0))) := (gX.but.block (w.heap.size + 1) (by omega) (by omega)).trans Y2.out
          have R0X : Hid (X.ownsRow U1.heap.size 53 2 (.slice r0 (foL D D.nf).length q0) (foL D D.nf).length (enc 2 gF (foL D D.nf))) := ownsRow_kept R02.out (fun g hg => gX.but.block g (by have := (Q0.out g hg).2; omega) (by have := (Q0.out g hg).1; omega))
          have R1X : Hid (X.ownsRow U2.heap.size 57 5 (.slice r1 (spL D st D.np).length q1) (spL D st D.np).length (enc 5 gP (spL D st D.np))) := gX.row
          have Q1 : Hid (∀ g, (Value.slice r1 (spL D st D.np).length q1).ownBlock = some g → U2.heap.size ≤ g ∧ g < X.heap.size ∧ g ≠ E1) := fun g hg => by
            have h1 := World.ownsRow.lt gX.row g hg
            refine ⟨h1.1, h1.2, fun e => ?_⟩
            obtain ⟨cur, hc⟩ := row_cells gX.row hg
            rw [e, hK1] at hc
            cases hc
          have GX1 : Hid (X.heap[w1.heap.size]? = some (.cells #[.slice r0 (foL D D.nf).length q0, .slice r1 (spL D st D.np).length q1, .slice none 0 0, .slice none 0 0, .int .i64 0] 33 (0, 0))) := gX.box
          have K1 : Hid (X.heap[E1]? = some (.deferred (some []))) := hK1
          clear gX hK1 hko1
          obtain ⟨y0, _⟩ := cell_row XX.out 0 _ rfl
          obtain ⟨y1, _⟩ := cell_row XX.out 1 _ rfl
          obtain ⟨y2, _⟩ := cell_row XX.out 2 _ rfl
          obtain ⟨y3, _⟩ := cell_row XX.out 3 _ rfl
          simp only [List.getElem_toArray, List.getElem_cons_zero, List.getElem_cons_succ] at y0 y1 y2 y3
          obtain ⟨U3, hU3⟩ : ∃ u, u = (X.alloc (.cells #[v0, .slice o1 D.nf c1, .slice o2 D.np c2, .slice o3 D.nv c3] 39)).alloc (.cells #[.string st] 9) := ⟨_, rfl⟩
          have EU3 : Hid (U3 = (X.alloc (.cells #[v0, .slice o1 D.nf c1, .slice o2 D.np c2, .slice o3 D.nv c3] 39)).alloc (.cells #[.string st] 9)) := hU3
          have b3 : Hid (Below X.heap.size X U3) := by rw [hU3]; exact ((Below.refl _ _).alloc (Nat.le_refl _) _).alloc (by simp) _
          have sU3 : X.heap.size + 1 + 1 ≤ U3.heap.size ∧ U3.heap.size ≤ X.heap.size + 1 + 1 := by rw [hU3]; simp
          have Pb3 : Hid (U3.heap[X.heap.size]? = some (.cells #[v0, .slice o1 D.nf c1, .slice o2 D.np c2, .slice o3 D.nv c3] 39 (0, 0))) := by rw [hU3]; exact (Below.heap_alloc _ _ _ (by simp)).trans (heap_alloc_new X _)
          have Sb3 : Hid (U3.heap[X.heap.size + 1]? = some (.cells #[.string st] 9 (0, 0))) := by rw [hU3]; have := heap_alloc_new (X.alloc (.cells #[v0, .slice o1 D.nf c1, .slice o2 D.np c2, .slice o3 D.nv c3] 39)) (.cells #[.string st] 9); rw [World.size_alloc] at this; exact this
          clear hU3
          have B3 : Hid (Below w.heap.size w U3) := BX.out.trans (b3.out.mono (by omega))
          have R03 : Hid (U3.ownsRow U1.heap.size 53 2 (.slice r0 (foL D D.nf).length q0) (foL D D.nf).length (enc 2 gF (foL D D.nf))) := row_keep b3.out R0X.out
          have R13 : Hid (U3.ownsRow U2.heap.size 57 5 (.slice r1 (spL D st D.np).length q1) (spL D st D.np).length (enc 5 gP (spL D st D.np))) := row_keep b3.out R1X.out
          have G3 : Hid (U3.heap[w1.heap.size]? = some (.cells #[.slice r0 (foL D D.nf).length q0, .slice r1 (spL D st D.np).length q1, .slice none 0 0, .slice none 0 0, .int .i64 0] 33 (0, 0))) := box_keep b3.out GX1.out
          have Y3 : Hid (U3.heap[w.heap.size + 1]? = some (.cells #[.slice none 0 0, .slice none 0 0, .slice none 0 0, .slice none 0 0, .int .i64 0] 33 (0, 0))) := box_keep b3.out YX.out
          have K3 : Hid (U3.heap[E1]? = some (.deferred (some []))) := (b3.out.block E1 hDX).trans K1.out
          go_wp2_with fail
          refine (valvesOf_any _ _ _ _ _ _).mono ?_; rintro e w' ⟨rfl, hw2⟩
          rw [hw2, ← EU3.out]
          clear hw2 w' y0 y1 y2 y3
          go_wp2_with fail
          have GG2 : Hid (Grw U3 w1.heap.size (fun v => #[.slice r0 (foL D D.nf).length q0, .slice r1 (spL D st D.np).length q1, v, .slice none 0 0, .int .i64 0]) 33 9 1 0 [] U3 (.slice none 0 0)) := ⟨World.ownsRow_nil _ _ _ _, G3.out, But.refl _ _⟩
          refine (wpIn_wide (n := 5)).1 ?_
          refine wpIn_range_fitx (F := Fence.wide) rfl (by omega) (gf := 59) (lb := #[.pointer (some ⟨X.heap.size, 0, none⟩), .pointer (some ⟨X.heap.size + 1, 0, none⟩)]) rfl trivial (enters_of Try.func59 (by kernel_rfl) rfl)
            (valves_fit 4 X.heap.size (X.heap.size + 1) B (by omega) v0 _ _ o3 c3 D st (ownG w1.heap.size 2 33) U3 Pb3.out Sb3.out (H.out U3 B3.out).v (fun i hi => name_size (HV.out.2.2.2 i hi).1) (by have := B3.out.size; omega) (by omega)) (fun _ _ _ _ _ _ h _ _ => h) (Below.refl _ _) (fun _ => rfl) ?no2 (by have := B3.out.size; omega)
            (fun pre X => ∃ v, Grw U3 w1.heap.size (fun v => #[.slice r0 (foL D D.nf).length q0, .slice r1 (spL D st D.np).length q1, v, .slice none 0 0, .int .i64 0]) 33 9 1 pre.length (enc 1 gS (pre)) X v)
            (fun pre A C row hI hg hr => by obtain ⟨v, g⟩ := hI; exact ⟨v, g.grown hg hr⟩) (fun pre X hI => by obtain ⟨v, g⟩ := hI; exact g.st rfl) ⟨_, GG2.out⟩ (fun _ _ _ _ h _ => h) ?round2 ?done2
          case no2 =>
            rintro q hq ho
            rcases (GG2.out.own rfl).1 ho with rfl | ho2
            · rcases hq with hq | hq | hq <;> omega
            · cases ho2
          case round2 =>
            intro l pre y X hI hlen
            obtain ⟨v, gX⟩ := hI
            apply Exists.intro
            apply Exists.intro
            refine ⟨?ba, ?assign, ?body⟩
            case assign =>
              intro K hK
              gi_wp2
              exact hK
            case ba => exact Below.refl _ _
            case body =>
              intro X0 V _ hV hy8 hput
              obtain ⟨kk, oo, oo', hk1, hk2, hV2⟩ := hput
              obtain ⟨v, gV⟩ := hV
              obtain ⟨ov, kv, rfl⟩ := ownsRow_shape gV.row
              clear hV2 hk1 hk2
              have GV : Hid (Grw U3 w1.heap.size (fun v => #[.slice r0 (foL D D.nf).length q0, .slice r1 (spL D st D.np).length q1, v, .slice none 0 0, .int .i64 0]) 33 9 1 pre.length (enc 1 gS (pre)) V (.slice ov pre.length kv)) := gV
              clear gV
              obtain ⟨yx, _⟩ := cell_row GV.out.box 2 (.slice ov pre.length kv) rfl
              have qx := fun d os => cell_regrown yx d os
              have sV := GV.out.but.size
              have hdV : Hid (Below V.heap.size V V.drew) := (Below.refl _ _).drew
              gi_wp2
              refine wpIn_region_mix 5 [0, 1, 2] (by kernel_rfl) (by kernel_rfl) (by kernel_rfl) ?_
              simp only [List.filterMap_cons, List.filterMap_nil, List.getElem?_cons_succ, List.getElem?_cons_zero]
              repeat (first | go_big_quiet_step (fail) | quiet_step (fail))
              refine wpQuiet_nil ?_
              clear yx qx
              refine call1 (md := .any) (f := 1) (i := 3) (dc := 56) (fn := 23) ⟨rfl, rfl, rfl, by decide⟩ (by kernel_rfl) ?runc ((clones_any y V.drew (by omega)).mono ?_)
              case runc => go_simp
              rintro e wd ⟨rfl, hb8⟩
              have CV : Hid (Below V.heap.size V wd) := hdV.out.trans hb8
              clear hb8
              have sd := CV.out.size
              refine ⟨_, rfl, regrown_of_below CV.out, ?_⟩
              simp only [Act.put, List.setIfInBounds_toArray, List.set_cons_zero, List.set_cons_succ]
              obtain ⟨ua, hua⟩ : ∃ u, u = wd.alloc (.cells #[.string y] 9) := ⟨_, rfl⟩
              have HUA : Hid (ua = wd.alloc (.cells #[.string y] 9)) := hua
              have BA : Hid (Below V.heap.size V ua) := by rw [hua]; exact CV.out.alloc CV.out.size _
              have sua : wd.heap.size + 1 ≤ ua.heap.size ∧ ua.heap.size ≤ wd.heap.size + 1 := by rw [hua]; simp
              have HSRC : Hid (Src ua (.slice (some ⟨wd.heap.size, 0, none⟩) 1 1) 1 1 (#[.string y] : Array Value).toList) := by
                have h1 : ua.ownsRow 0 9 1 (.slice (some ⟨wd.heap.size, 0, none⟩) 1 1) 1 (#[.string y] : Array Value).toList := by
                  rw [hua]; exact own_built (Nat.zero_le _) (by unfold maxLen; omega) rfl
                exact own_src h1
              have HOWN : Hid (ua.ownsRow U3.heap.size 9 1 (.slice ov pre.length kv) pre.length (enc 1 gS (pre))) := row_keep BA.out GV.out.row
              clear hua
              have HONE : Hid (∀ z ∈ (#[.string y] : Array Value).toList, z.oneCell' = true) := by intro z hz; simp at hz; subst hz; rfl
              refine anyC_step (f := 0) [4] (by kernel_rfl) (by simp) (one_list ⟨by decide, _, rfl, rfl, .slice (some ⟨wd.heap.size, 0, none⟩) 1 1, wd.alloc (.cells #[.string y] 9), ?runb, regrown_of_below (CV.out.alloc CV.out.size _), ?_⟩)
              case runb => go_simp
              refine ⟨by kernel_rfl, ?_⟩
              simp only [List.drop_succ_cons, List.drop_zero]
              rw [← HUA.out]
              obtain ⟨i0, zz, hi, hz0, hz1, hz2, hz3⟩ := elSg.info
              obtain ⟨hl0, hsrc⟩ := HSRC.out
              have HNEW : Hid (∀ jj u, (#[.string y] : Array Value).toList[jj]? = some u → ua.cell? ((⟨wd.heap.size, 0, none⟩ : Addr).add jj) = some u) := by
                rcases hsrc with ⟨e, _⟩ | ⟨ad, c, e, hc⟩
                · cases e
                · cases e; exact hc
              clear hsrc
              gi_wp2_with (gi_at_builtin; refine wpListIn_append_own_at _ rfl _ _ 22 rfl U3.heap.size 9 i0 zz 1 16 elSg.ht hi hz0 hz1 hz2 hz3 (by decide) _ _ _ rfl HOWN.out ⟨wd.heap.size, 0, none⟩ 1 1 (#[.string y] : Array Value).toList rfl hl0 HNEW.out HONE.out (by unfold maxLen; omega) (by omega) (by omega) ?_; intro v' u8 hown hgr _ hbk; obtain ⟨ov', kv', rfl⟩ := ownsRow_shape hown; have hg8 : u8.heap[w1.heap.size]? = some (.cells (#[.slice r0 (foL D D.nf).length q0, .slice r1 (spL D st D.np).length q1, .slice ov pre.length kv, .slice none 0 0, .int .i64 0]) 33 (0, 0)) := (hgr.block (w1.heap.size) (by omega) (fun e => by have := (World.ownsRow.lt HOWN.out (w1.heap.size) e.symm).1; omega)).trans ((BA.out.block (w1.heap.size) (by omega)).trans GV.out.box); obtain ⟨zc8, zf8⟩ := cell_row hg8 2 (.slice ov pre.length kv) rfl)
              obtain ⟨ko, kp, gg⟩ := GV.out.step (j := 2) (n₀ := B) rfl rfl rfl (by omega) (by omega) BA.out hgr hbk hown
              refine ⟨ko, kp, .slice ov' (pre.length + 1) kv', ?_⟩
              rw [List.length_append, show enc 1 gS (pre ++ [y]) = enc 1 gS pre ++ (#[.string y] : Array Value).toList by rw [enc_append]; rfl]
              exact gg
          case done2 =>
            rintro E2 ys Z hD2 hDZ hS hI hK2 hko2
            obtain ⟨v, gZ⟩ := hI
            subst hS
            obtain ⟨r2, q2, rfl⟩ := ownsRow_shape gZ.row
            have hva : vlA D st D.nv = vaL D st D.nv := rfl
            rw [hva] at gZ
            have hsZ := gZ.but.size
            have BZ : Hid (Below w.heap.size w Z) := B3.out.trans (gZ.but.below (B := w.heap.size) (fun b hb => by omega) (by omega))
            have YZ : Hid (Z.heap[w.heap.size + 1]? = some (.cells #[.slice none 0 0, .slice none 0 0, .slice none 0 0, .slice none 0 0, .int .i64 0] 33 (0, 0))) := (gZ.but.block (w.heap.size + 1) (by omega) (by omega)).trans Y3.out
            have R0Z : Hid (Z.ownsRow U1.heap.size 53 2 (.slice r0 (foL D D.nf).length q0) (foL D D.nf).length (enc 2 gF (foL D D.nf))) := ownsRow_kept R03.out (fun g hg => gZ.but.block g (by have := (Q0.out g hg).2; omega) (by have := (Q0.out g hg).1; omega))
            have R1Z : Hid (Z.ownsRow U2.heap.size 57 5 (.slice r1 (spL D st D.np).length q1) (spL D st D.np).length (enc 5 gP (spL D st D.np))) := ownsRow_kept R13.out (fun g hg => gZ.but.block g (by have := (Q1.out g hg).2.1; omega) (by have := (Q1.out g hg).1; omega))
            have R2Z : Hid (Z.ownsRow U3.heap.size 9 1 (.slice r2 (vaL D st D.nv).length q2) (vaL D st D.nv).length (enc 1 gS (vaL D st D.nv))) := gZ.row
            have Q2 : Hid (∀ g, (Value.slice r2 (vaL D st D.nv).length q2).ownBlock = some g → U3.heap.size ≤ g ∧ g < Z.heap.size ∧ g ≠ E2) := fun g hg => by
              have h1 := World.ownsRow.lt gZ.row g hg
              refine ⟨h1.1, h1.2, fun e => ?_⟩
              obtain ⟨cur, hc⟩ := row_cells gZ.row hg
              rw [e, hK2] at hc
              cases hc
            have GXF : Hid (Z.heap[w1.heap.size]? = some (.cells #[.slice r0 (foL D D.nf).length q0, .slice r1 (spL D st D.np).length q1, .slice r2 (vaL D st D.nv).length q2, .slice none 0 0, .int .i64 0] 33 (0, 0))) := gZ.box
            have KE1 : Hid (Z.heap[E1]? = some (.deferred (some []))) := hko2.same E1 _ K3.out rfl
            have KE2 : Hid (Z.heap[E2]? = some (.deferred (some []))) := hK2
            clear gZ hK2 hko2
            obtain ⟨l0, _⟩ := cell_row GXF.out 0 (.slice r0 (foL D D.nf).length q0) rfl
            obtain ⟨p0', f0'⟩ := cell_row YZ.out 0 (.slice none 0 0) rfl
            obtain ⟨l1, _⟩ := cell_row GXF.out 1 (.slice r1 (spL D st D.np).length q1) rfl
            obtain ⟨p1', f1'⟩ := cell_row YZ.out 1 (.slice none 0 0) rfl
            obtain ⟨l2, _⟩ := cell_row GXF.out 2 (.slice r2 (vaL D st D.nv).length q2) rfl
            obtain ⟨p2', f2'⟩ := cell_row YZ.out 2 (.slice none 0 0) rfl
            obtain ⟨l3, _⟩ := cell_row GXF.out 3 (.slice none 0 0) rfl
            obtain ⟨p3', f3'⟩ := cell_row YZ.out 3 (.slice none 0 0) rfl
            obtain ⟨l4, _⟩ := cell_row GXF.out 4 (.int .i64 0) rfl
            obtain ⟨p4', f4'⟩ := cell_row YZ.out 4 (.int .i64 0) rfl
            obtain ⟨F0, F1, F2, F3⟩ := ret5 YZ.out (.slice r0 (foL D D.nf).length q0) (.slice r1 (spL D st D.np).length q1) (.slice r2 (vaL D st D.nv).length q2) (.slice none 0 0) (.int .i64 0)
            go_wp2_with fail
            obtain ⟨FW, hF⟩ : ∃ u, u = (((((Z.setCell ⟨w.heap.size + 1, 0, none⟩ (.slice r0 (foL D D.nf).length q0)).setCell ⟨w.heap.size + 1, 1, none⟩ (.slice r1 (spL D st D.np).length q1)).setCell ⟨w.heap.size + 1, 2, none⟩ (.slice r2 (vaL D st D.nv).length q2)).setCell ⟨w.heap.size + 1, 3, none⟩ (.slice none 0 0)).setCell ⟨w.heap.size + 1, 4, none⟩ (.int .i64 0)) := ⟨_, rfl⟩
            rw [← hF]
            rw [← hF] at F0 F1 F2 F3
            clear hF
            have T2 : FW.heap[E2]? = some (.deferred (some [])) := (F1 E2 (by omega)).trans KE2.out
            have T1 : (FW.putObj E2 (.deferred none)).heap[E1]? = some (.deferred (some [])) := (World.putObj_heap_other (by omega)).trans ((F1 E1 (by omega)).trans KE1.out)
            refine ⟨by simp, .inl ⟨_, _, rfl, run_takeDeferred T2, ?_⟩⟩
            refine ⟨by simp, .inl ⟨_, _, rfl, run_takeDeferred T1, ?_⟩⟩
            obtain ⟨FF, hFF⟩ : ∃ u, u = (FW.putObj E2 (.deferred none)).putObj E1 (.deferred none) := ⟨_, rfl⟩
            rw [← hFF]
            have same : ∀ g, g ≠ E1 → g ≠ E2 → FF.heap[g]? = FW.heap[g]? := fun g h1 h2 => by rw [hFF]; exact (World.putObj_heap_other (by omega)).trans (World.putObj_heap_other (by omega))
            have sFF : FF.heap.size = FW.heap.size := by rw [hFF]; simp
            have F0' := (same (w.heap.size + 1) (by omega) (by omega)).trans F0
            have t0 := (cell_row F0' 0 (.slice r0 (foL D D.nf).length q0) rfl).1
            have t1 := (cell_row F0' 1 (.slice r1 (spL D st D.np).length q1) rfl).1
            have t2 := (cell_row F0' 2 (.slice r2 (vaL D st D.nv).length q2) rfl).1
            have t3 := (cell_row F0' 3 (.slice none 0 0) rfl).1
            have t4 := (cell_row F0' 4 (.int .i64 0) rfl).1
            have BFF : Below w.heap.size w FF := by
              have h1 : Below w.heap.size w FW := BZ.out.trans (F3.mono (by omega))
              refine ⟨?_, ?_, ?_, by rw [sFF]; exact h1.size, fun b hb => (same b (by omega) (by omega)).trans (h1.block b hb)⟩
              · rw [hFF]; exact h1.os
              · rw [hFF]; exact h1.tape
              · rw [hFF]; exact h1.output
            have A0 := ownsRow_kept (w' := FF) R0Z.out (fun g hg => (same g (by have := (Q0.out g hg).2; omega) (by have := (Q0.out g hg).2; omega)).trans (F1 g (by have := (Q0.out g hg).1; omega)))
            have A1 := ownsRow_kept (w' := FF) R1Z.out (fun g hg => (same g (Q1.out g hg).2.2 (by have := (Q1.out g hg).2.1; omega)).trans (F1 g (by have := (Q1.out g hg).1; omega)))
            have A2 := ownsRow_kept (w' := FF) R2Z.out (fun g hg => (same g (by have := (Q2.out g hg).1; omega) (Q2.out g hg).2.2).trans (F1 g (by have := (Q2.out g hg).1; omega)))
            have ON := book_on (T := U1.heap.size) (s2 := U2.heap.size) (s3 := U3.heap.size) (e := FF.heap.size) HV.out A0 (fun g hg => ⟨(Q0.out g hg).1, by have := (Q0.out g hg).2; omega⟩) A1 (fun g hg => ⟨(Q1.out g hg).1, by have := (Q1.out g hg).2.1; omega⟩) A2 (fun g hg => ⟨(Q2.out g hg).1, by rw [sFF, F2]; exact (Q2.out g hg).2.1⟩) (by omega) (by omega) (by rw [sFF, F2]; omega)
            exact ⟨.agg #[.slice r0 (foL D D.nf).length q0, .slice r1 (spL D st D.np).length q1, .slice r2 (vaL D st D.nv).length q2, .slice none 0 0, .int .i64 0], (by simp [results, Try.results7, go_sem, t0, t1, t2, t3, t4]), cs [.slice r0 (foL D D.nf).length q0, .slice r1 (spL D st D.np).length q1, .slice r2 (vaL D st D.nv).length q2, .slice none 0 0, .int .i64 0], true, rfl, ⟨fun _ => HV.out, fun _ => rfl⟩, Own.on_up ON (fun b hb => ⟨by omega, hb.2⟩), BFF⟩

end Go.Proofs.Ytciembgenlcogac
