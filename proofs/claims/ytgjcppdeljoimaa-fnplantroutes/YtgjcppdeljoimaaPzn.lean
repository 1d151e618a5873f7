import Derived.Test.YtgjcppdeljoimaaPznc
import Derived.Test.YtgjcppdeljoimaaPznd
namespace Go.Proofs.Ytgjcppdeljoimaa
open Go.RowKit Go.Sort
set_option maxRecDepth 100000 in
set_option maxHeartbeats 4000000 in
theorem draw_dr (R : Nat) (ob : Option Addr) (n cb : Nat) (f : Nat → Int) (p : Int) (w : World) (hr : Rd R w ob n cb p f) (hp : p ≤ 60000) :
    Calls Try.prog 27 #[.pointer (some ⟨R, 0, none⟩)] w fun e w' => DrwP R ob n cb f (p + 250) w e w' := by
  have rlt := hr.lt
  obtain ⟨W, hW⟩ : ∃ W, W = ((w.alloc (.cells #[.slice none 0 0, .slice none 0 0, .slice none 0 0, .slice none 0 0] 28)).alloc (.cells #[.slice none 0 0, .slice none 0 0, .slice none 0 0, .slice none 0 0] 28)).alloc (.cells #[.string ⟨#[97, 108, 101]⟩, .string ⟨#[108, 121, 101]⟩, .string ⟨#[109, 97, 108, 116]⟩, .string ⟨#[119, 97, 116, 101, 114]⟩] 9) := ⟨_, rfl⟩
  have EW : Hid (W = ((w.alloc (.cells #[.slice none 0 0, .slice none 0 0, .slice none 0 0, .slice none 0 0] 28)).alloc (.cells #[.slice none 0 0, .slice none 0 0, .slice none 0 0, .slice none 0 0] 28)).alloc (.cells #[.string ⟨#[97, 108, 101]⟩, .string ⟨#[108, 121, 101]⟩, .string ⟨#[109, 97, 108, 116]⟩, .string ⟨#[119, 97, 116, 101, 114]⟩] 9)) := hW
  have BW : Hid (Below w.heap.size w W) := by rw [hW]; exact (((Below.refl _ _).alloc (Nat.le_refl _) _).alloc (by simp) _).alloc (by simp; omega) _
  have R1 : Hid (W.heap[w.heap.size]? = some (.cells #[.slice none 0 0, .slice none 0 0, .slice none 0 0, .slice none 0 0] 28 (0, 0))) := by rw [hW]; exact (Below.heap_alloc _ _ _ (by simp; omega)).trans ((Below.heap_alloc _ _ _ (by simp)).trans (heap_alloc_new w _))
  have R2 : Hid (W.heap[w.heap.size + 1]? = some (.cells #[.slice none 0 0, .slice none 0 0, .slice none 0 0, .slice none 0 0] 28 (0, 0))) := by
    have e : (w.alloc (.cells #[.slice none 0 0, .slice none 0 0, .slice none 0 0, .slice none 0 0] 28)).heap.size = w.heap.size + 1 := by simp
    rw [hW]; refine (Below.heap_alloc _ _ _ (by simp)).trans ?_
    rw [← e]; exact heap_alloc_new _ _
  have R3 : Hid (W.heap[w.heap.size + 1 + 1]? = some (.cells #[.string ⟨#[97, 108, 101]⟩, .string ⟨#[108, 121, 101]⟩, .string ⟨#[109, 97, 108, 116]⟩, .string ⟨#[119, 97, 116, 101, 114]⟩] 9 (0, 0))) := by
    have e : ((w.alloc (.cells #[.slice none 0 0, .slice none 0 0, .slice none 0 0, .slice none 0 0] 28)).alloc (.cells #[.slice none 0 0, .slice none 0 0, .slice none 0 0, .slice none 0 0] 28)).heap.size = w.heap.size + 1 + 1 := by simp
    rw [hW, ← e]; exact heap_alloc_new _ _
  have sW : W.heap.size = w.heap.size + 1 + 1 + 1 := by rw [hW]; simp
  have DS0 : Hid (Ds R (w.heap.size + 1) (w.heap.size + 1 + 1 + 1) W ob n cb f (.slice none 0 0) (.slice none 0 0) (.slice none 0 0) (.slice none 0 0) ⟨[], [], [], []⟩ p W) := ⟨⟨p, Int.le_refl _, hr.but fun b hb => BW.out.block b (by omega)⟩, But.refl _ _, R2.out, ⟨Row.nil _ _ _ _ _, Row.nil _ _ _ _ _, Row.nil _ _ _ _ _, Row.nil _ _ _ _ _⟩, okNil, by omega⟩
  clear hW hr
  go_enter Try.func27, Try.ntmps27
  go_upto_region 3 with fail
  rw [← EW.out]
  go_upto_block 0 with fail
  go_cut [] from 13 (fun wr => Hid (Dst R (w.heap.size + 1) (w.heap.size + 1 + 1 + 1) W ob n cb f (p + 4) wr))
  case first =>
    go_wp2_with fail
    go_loopw [5] (fun i wr => ∃ (k : Nat) (og : Option Addr) (ng kg : Nat) (M : List ByteArray), k ≤ 4 ∧ i = .int .i64 k ∧ M.length = ng ∧ ng ≤ k ∧ Hid (Ds R (w.heap.size + 1) (w.heap.size + 1 + 1 + 1) W ob n cb f (.slice og ng kg) (.slice none 0 0) (.slice none 0 0) (.slice none 0 0) ⟨M, [], [], []⟩ (p + (k : Int)) wr)) (fun i _ => 4 - (intOf i).toNat)
    case atStart => exact ⟨0, none, 0, 0, [], Nat.zero_le _, rfl, rfl, Nat.le_refl _, DS0.out.up (by omega)⟩
    case round =>
      obtain ⟨k, og, ng, kg, M, hk, rfl, hml, hnk, hds⟩ := hrel
      have HML : Hid (M.length = ng) := hml
      clear hml
      by_cases hlt : k < 4
      case neg =>
        have hge : decide ((k : Int) < 4) = false := by simp; omega
        go_wp2_with fail
        go_meet
        case rel => exact ⟨_, _, _, _, _, hds.out.up (by omega)⟩
      have hlt' : ((k : Int) < 4) := by omega
      go_wp2_with fail
      refine (pick_ds hds.out (by omega) 5 (by decide) (by decide)).mono ?_
      rintro e u ⟨x, rfl, hx0, hx1, D1⟩
      have DU : Hid _ := D1
      clear D1 hds
      by_cases hxz : 0 < x
      · have su := DU.out.size
        have R3u : u.heap[w.heap.size + 1 + 1]? = some (.cells #[.string ⟨#[97, 108, 101]⟩, .string ⟨#[108, 121, 101]⟩, .string ⟨#[109, 97, 108, 116]⟩, .string ⟨#[119, 97, 116, 101, 114]⟩] 9 (0, 0)) := (DU.out.bt.block _ (by omega) (by omega)).trans R3.out
        obtain ⟨y, hy, hyz⟩ : ∃ y : ByteArray, u.cell? ⟨w.heap.size + 1 + 1, k, none⟩ = some (.string y) ∧ y.size ≤ 5 := by
          match k, hlt with
          | 0, _ => exact ⟨_, (cell_row R3u 0 _ rfl).1, by decide⟩
          | 1, _ => exact ⟨_, (cell_row R3u 1 _ rfl).1, by decide⟩
          | 2, _ => exact ⟨_, (cell_row R3u 2 _ rfl).1, by decide⟩
          | 3, _ => exact ⟨_, (cell_row R3u 3 _ rfl).1, by decide⟩
        clear R3u
        go_upto_region 7 with fail
        have x0 := (cell_row DU.out.bx 0 (.slice og ng kg) rfl).1
        have q0 := fun d os => cell_regrown x0 d os
        have q1 := fun d os => cell_regrown hy d os
        refine wp_region_mix 7 [0, 1, 2, 3, 4, 5] (by kernel_rfl) (by kernel_rfl) ?_
        simp only [List.filterMap_cons, List.filterMap_nil, List.getElem?_cons_succ, List.getElem?_cons_zero]
        repeat (first | go_big_quiet_step (fail) | quiet_step (fail))
        refine wpQuiet_nil ?_
        clear q0 q1 x0 hy
        have hdr : Below u.heap.size u u.drew := (Below.refl _ _).drew
        refine anyC_step (f := 0) [6] (by kernel_rfl) (by simp) (one_list ⟨by decide, _, rfl, rfl, .slice (some ⟨u.drew.heap.size, 0, none⟩) 1 1, u.drew.alloc (.cells #[.string y] 9), ?runb, regrown_of_below (hdr.alloc hdr.size _), ?_⟩)
        case runb => go_simp
        refine ⟨by kernel_rfl, ?_⟩
        simp only [List.drop_succ_cons, List.drop_zero]
        simp only [Act.put, List.setIfInBounds_toArray]
        obtain ⟨X3, hX3⟩ : ∃ X, X = u.drew.alloc (.cells #[.string y] 9) := ⟨_, rfl⟩
        have bX3 : Hid (Below u.heap.size u X3) := by rw [hX3]; exact hdr.alloc hdr.size _
        have HSRC : Hid (Src X3 (.slice (some ⟨u.drew.heap.size, 0, none⟩) 1 1) 1 1 [.string y]) := by rw [hX3]; exact src_one y u.drew
        have D3 : Hid _ := DU.out.below bX3.out
        have HOWN : Hid (X3.ownsRow (w.heap.size + 1 + 1 + 1) 9 1 (.slice og ng kg) ng (enc 1 e1S M)) := by
          have := D3.out.pl.s
          rw [Row, show (PlL.mk M [] [] []).ss.length = ng from HML.out] at this
          exact this
        have s3 := bX3.out.size
        rw [← hX3]
        clear hX3
        go_wp2_with (first
          | (at_builtin; refine wpList_app elS1 rfl _ _ rfl rfl rfl HOWN.out HSRC.out (by intro z hz; simp at hz; subst hz; rfl) (by unfold maxLen; omega) (by omega) (by omega) ?_; intro v' u8 hown hgr0 _; obtain ⟨ov', kv', rfl⟩ := own_form hown; have hgr : X3.grownBy u8 (Value.slice og ng kg).ownBlock := hgr0; have hb8 := (hgr.block (w.heap.size + 1) (by omega) (fun e => by have := (World.ownsRow.lt HOWN.out _ e.symm).1; omega)).trans D3.out.bx; obtain ⟨zc8, zf8⟩ := cell_row hb8 0 _ rfl))
        have ROW8 : Row u8 (w.heap.size + 1 + 1 + 1) 9 1 e1S (.slice ov' (ng + 1) kv') (M ++ [y]) := by
          show World.ownsRow _ _ _ _ _ _ _
          rw [List.length_append, enc_append, HML.out]
          exact hown
        have D8 := D3.out.grow0 hgr ROW8 (by unfold maxLen; omega) (by show M.length < 18; have := HML.out; omega) (by omega)
        go_roundw
        case rel => exact ⟨k + 1, ov', ng + 1, kv', M ++ [y], by omega, by go_num, by rw [List.length_append, HML.out]; rfl, by omega, D8.up (by omega)⟩
        case measure => simp [intOf]; omega
      · go_wp2_with fail
        go_roundw
        case rel => exact ⟨k + 1, og, ng, kg, M, by omega, by go_num, HML.out, by omega, DU.out.up (by omega)⟩
        case measure => simp [intOf]; omega
  case rest =>
    have HQ : Hid (Dst R (w.heap.size + 1) (w.heap.size + 1 + 1 + 1) W ob n cb f (p + 4) wc) := hcut
    obtain ⟨z, ez⟩ : ∃ x, x = wc := ⟨_, rfl⟩
    rw [← ez] at HQ ⊢
    clear ez hcut
    obtain ⟨v0, v1, v2, v3, X, D0⟩ := HQ.out
    obtain ⟨o0, c0, rfl⟩ := Row.form D0.pl.s
    obtain ⟨o1, c1, rfl⟩ := Row.form D0.pl.f
    obtain ⟨o2, c2, rfl⟩ := Row.form D0.pl.p
    obtain ⟨o3, c3, rfl⟩ := Row.form D0.pl.v
    generalize en0 : X.ss.length = n0 at D0 ⊢
    generalize en1 : X.ff.length = n1 at D0 ⊢
    generalize en2 : X.pp.length = n2 at D0 ⊢
    generalize en3 : X.vv.length = n3 at D0 ⊢
    have D1 : Hid _ := D0
    clear D0
    go_wp2_with fail
    refine (pick_ds D1.out (by omega) 4 (by decide) (by decide)).mono ?_
    rintro e u ⟨x, rfl, hx0, hx1, D2⟩
    obtain ⟨m, rfl⟩ := Int.eq_ofNat_of_zero_le hx0
    have H5 : Hid (Dst R (w.heap.size + 1) (w.heap.size + 1 + 1 + 1) W ob n cb f (p + 11 - 2 * (m : Int)) u) := ⟨_, _, _, _, _, D2.up (by omega)⟩
    clear D2 D1 HQ
    go_upto_block 2 with fail
    go_cut [6] from 13 (fun _ wr => Hid (Dst R (w.heap.size + 1) (w.heap.size + 1 + 1 + 1) W ob n cb f (p + 11) wr))
    case first =>
      go_wp2_with fail
      go_loopw [6] (fun i wr => ∃ k : Nat, k ≤ 3 ∧ i = .int .i64 k ∧ Hid (Dst R (w.heap.size + 1) (w.heap.size + 1 + 1 + 1) W ob n cb f (p + 11 - 2 * (k : Int)) wr)) (fun i _ => (intOf i).toNat)
      case atStart => exact ⟨m, by omega, rfl, H5⟩
      case round =>
        obtain ⟨k, hk, rfl, hd⟩ := hrel
        obtain ⟨v0, v1, v2, v3, X, D0⟩ := hd.out
        obtain ⟨o0, c0, rfl⟩ := Row.form D0.pl.s
        obtain ⟨o1, c1, rfl⟩ := Row.form D0.pl.f
        obtain ⟨o2, c2, rfl⟩ := Row.form D0.pl.p
        obtain ⟨o3, c3, rfl⟩ := Row.form D0.pl.v
        generalize en0 : X.ss.length = n0 at D0 ⊢
        generalize en1 : X.ff.length = n1 at D0 ⊢
        generalize en2 : X.pp.length = n2 at D0 ⊢
        generalize en3 : X.vv.length = n3 at D0 ⊢
        have D1 : Hid _ := D0
        clear D0
        have x0 := (cell_row D1.out.bx 0 (.slice o0 n0 c0) rfl).1
        by_cases hk0 : 0 < k
        case neg =>
          obtain rfl : k = 0 := by omega
          go_wp2_with fail
          go_meet
          case rel => exact hd.out.up (by omega)
        have hk0' : ((0 : Int) < (k : Int)) := by omega
        have hk0d : decide ((0 : Int) < (k : Int)) = true := by simp; omega
        by_cases hn1 : 1 < n0
        case neg =>
          have hk1 : decide ((1 : Int) < (n0 : Int)) = false := by simp; omega
          have hk2 : ¬ ((1 : Int) < (n0 : Int)) := by omega
          go_wp2_with fail
          go_meet
          case rel => exact hd.out.up (by omega)
        have hk1 : decide ((1 : Int) < (n0 : Int)) = true := by simp; omega
        have hk2 : ((1 : Int) < (n0 : Int)) := by omega
        go_upto_region 11 with fail
        refine wp_region_movesC (fun v => v.heap[w.heap.size + 1]? = some (.cells #[.slice o0 n0 c0, .slice o1 n1 c1, .slice o2 n2 c2, .slice o3 n3 c3] 28 (0, 0))) 11 [] (by kernel_rfl) (by kernel_rfl) D1.out.bx ?_
        simp only [List.filterMap_nil, movD]
        refine takeHQ (f := 10) (i := 0) (.agg #[.slice o0 n0 c0, .slice o1 n1 c1, .slice o2 n2 c2, .slice o3 n3 c3]) ⟨rfl, rfl⟩ (by kernel_rfl) rfl D1.out.bx ?ta0 ?_
        case ta0 => intro v hv; have c0_ := (cell_row hv 0 (.slice o0 n0 c0) rfl).1; have c1_ := (cell_row hv 1 (.slice o1 n1 c1) rfl).1; have c2_ := (cell_row hv 2 (.slice o2 n2 c2) rfl).1; have c3_ := (cell_row hv 3 (.slice o3 n3 c3) rfl).1; go_simp
        simp only [Act.put, List.setIfInBounds_toArray, List.set_cons_zero, List.set_cons_succ]
        refine takeHQ (f := 9) (i := 1) (.pointer (some ⟨R, 0, none⟩)) ⟨rfl, rfl⟩ (by kernel_rfl) rfl D1.out.bx ?ta1 ?_
        case ta1 => intro v hv; go_simp
        simp only [Act.put, List.setIfInBounds_toArray, List.set_cons_zero, List.set_cons_succ]
        refine takeHQ (f := 8) (i := 2) (.pointer (some ⟨w.heap.size + 1, 0, none⟩)) ⟨rfl, rfl⟩ (by kernel_rfl) rfl D1.out.bx ?ta2 ?_
        case ta2 => intro v hv; go_simp
        simp only [Act.put, List.setIfInBounds_toArray, List.set_cons_zero, List.set_cons_succ]
        refine takeHQ (f := 7) (i := 3) (.slice o0 n0 c0) ⟨rfl, rfl⟩ (by kernel_rfl) rfl D1.out.bx ?ta3 ?_
        case ta3 => intro v hv; have c0_ := (cell_row hv 0 (.slice o0 n0 c0) rfl).1; go_simp
        simp only [Act.put, List.setIfInBounds_toArray, List.set_cons_zero, List.set_cons_succ]
        refine takeHQ (f := 6) (i := 5) (.pointer (some ⟨R, 0, none⟩)) ⟨rfl, rfl⟩ (by kernel_rfl) rfl D1.out.bx ?ta5 ?_
        case ta5 => intro v hv; go_simp
        simp only [Act.put, List.setIfInBounds_toArray, List.set_cons_zero, List.set_cons_succ]
        refine takeHQ (f := 5) (i := 6) (.pointer (some ⟨w.heap.size + 1, 0, none⟩)) ⟨rfl, rfl⟩ (by kernel_rfl) rfl D1.out.bx ?ta6 ?_
        case ta6 => intro v hv; go_simp
        simp only [Act.put, List.setIfInBounds_toArray, List.set_cons_zero, List.set_cons_succ]
        refine takeHQ (f := 4) (i := 7) (.slice o0 n0 c0) ⟨rfl, rfl⟩ (by kernel_rfl) rfl D1.out.bx ?ta7 ?_
        case ta7 => intro v hv; have c0_ := (cell_row hv 0 (.slice o0 n0 c0) rfl).1; go_simp
        simp only [Act.put, List.setIfInBounds_toArray, List.set_cons_zero, List.set_cons_succ]
        have E0 : Hid _ := D1.out.below ((Below.refl _ _).drew)
        refine callHd (f := 3) (i := 4) ⟨rfl, rfl⟩ (by decide) (by kernel_rfl) rfl ?cc4 ((of_row E0.out (by omega) (by omega)).mono ?_)
        case cc4 => go_simp
        rintro _ V1 ⟨s1, hs1, rfl, E⟩
        have E1 : Hid _ := E
        clear E
        have z1 : Hid (s1.size ≤ maxLen) := E1.out.ok.s _ hs1
        refine ⟨_, rfl, E1.out.bx, ?_⟩
        simp only [Act.put, List.setIfInBounds_toArray, List.set_cons_zero, List.set_cons_succ]
        refine callHd (f := 2) (i := 8) ⟨rfl, rfl⟩ (by decide) (by kernel_rfl) rfl ?cc8 ((of_row E1.out (by omega) (by omega)).mono ?_)
        case cc8 => go_simp
        rintro _ V2 ⟨s2, hs2, rfl, E⟩
        have E2 : Hid _ := E
        clear E
        have z2 : Hid (s2.size ≤ maxLen) := E2.out.ok.s _ hs2
        refine ⟨_, rfl, E2.out.bx, ?_⟩
        simp only [Act.put, List.setIfInBounds_toArray, List.set_cons_zero, List.set_cons_succ]
        obtain ⟨V3, hV3⟩ : ∃ Z, Z = V2.alloc (.cells #[.string ⟨#[102, 111, 101]⟩, .string s1, .string s2] 9) := ⟨_, rfl⟩
        have bl3 : Below V2.heap.size V2 V3 := by rw [hV3]; exact (Below.refl _ _).alloc (Nat.le_refl _) _
        have E3 : Hid _ := E2.out.below bl3
        have LL : Hid (V3.heap[V2.heap.size]? = some (.cells #[.string ⟨#[102, 111, 101]⟩, .string s1, .string s2] 9 (0, 0))) := by rw [hV3]; exact heap_alloc_new _ _
        refine oneHd (f := 1) (i := 9) (.slice (some ⟨V2.heap.size, 0, none⟩) 3 3) V3 ⟨rfl, rfl⟩ (by decide) (by kernel_rfl) rfl ?cb9 E3.out.bx ?_
        case cb9 => rw [hV3]; go_simp
        clear hV3
        simp only [Act.put, List.setIfInBounds_toArray, List.set_cons_zero, List.set_cons_succ]
        have GS : Hid (∀ s ∈ ([⟨#[102, 111, 101]⟩, s1, s2] : List ByteArray), s.size ≤ maxLen) := fun s hs => by
          simp only [List.mem_cons, List.not_mem_nil, or_false] at hs
          rcases hs with rfl | rfl | rfl
          · exact Nat.le_of_ble_eq_true rfl
          · exact z1.out
          · exact z2.out
        refine callHd (f := 0) (i := 10) ⟨rfl, rfl⟩ (by decide) (by kernel_rfl) rfl ?ct10 ((try_ex (w.heap.size + 1 + 1 + 1) _ _ _ _ (.slice (some ⟨V2.heap.size, 0, none⟩) 3 3) X V3 E3.out.pl E3.out.ok (fun U hU => put_foe (w.heap.size + 1 + 1 + 1) _ _ _ _ X V2.heap.size 3 (gl [⟨#[102, 111, 101]⟩, s1, s2]) U (E3.out.pl.below hU) E3.out.ok (by omega) (gl_at (l := [⟨#[102, 111, 101]⟩, s1, s2]) (box_stableP hU LL.out)) (gl_sz GS.out) (Nat.le_trans (Nat.le_trans E3.out.low.2.2 E3.out.size) hU.size) rfl)).mono ?_)
        case ct10 => go_simp
        rintro _ Vz ⟨u0', u1', u2', u3', Y, rfl, hp4, ho4, hb4⟩
        obtain ⟨p0, k0, rfl⟩ := Row.form hp4.s
        obtain ⟨p1, k1, rfl⟩ := Row.form hp4.f
        obtain ⟨p2, k2, rfl⟩ := Row.form hp4.p
        obtain ⟨p3, k3, rfl⟩ := Row.form hp4.v
        have DZ : Hid _ := E3.out.below hb4
        have D5 : Hid _ := DZ.out.store hp4 ho4
        refine ⟨_, rfl, DZ.out.bx, ?_⟩
        simp only [Act.put, List.setIfInBounds_toArray, List.set_cons_zero, List.set_cons_succ]
        refine ⟨by kernel_rfl, ?_⟩
        simp only [List.drop_succ_cons, List.drop_zero]
        obtain ⟨zr0, tzr0⟩ := cell_row (DZ.out.bx) 0 _ rfl
        obtain ⟨zr1, tzr1⟩ := cell_row (DZ.out.bx) 1 _ rfl
        obtain ⟨zr2, tzr2⟩ := cell_row (DZ.out.bx) 2 _ rfl
        obtain ⟨zr3, tzr3⟩ := cell_row (DZ.out.bx) 3 _ rfl
        simp only [List.getElem_toArray, List.getElem_cons_zero, List.getElem_cons_succ] at zr0 zr1 zr2 zr3
        go_wp2_with fail
        go_roundw
        case rel => exact ⟨k - 1, by omega, by first | exact dec_k (by omega) | go_num, ⟨_, _, _, _, _, D5.out.up (by omega)⟩⟩
        case measure => simp [intOf]; omega
    case rest =>
      have HQ : Hid (Dst R (w.heap.size + 1) (w.heap.size + 1 + 1 + 1) W ob n cb f (p + 11) wc) := hcut
      obtain ⟨z, ez⟩ : ∃ x, x = wc := ⟨_, rfl⟩
      rw [← ez] at HQ ⊢
      clear ez hcut
      obtain ⟨v0, v1, v2, v3, X, D0⟩ := HQ.out
      obtain ⟨o0, c0, rfl⟩ := Row.form D0.pl.s
      obtain ⟨o1, c1, rfl⟩ := Row.form D0.pl.f
      obtain ⟨o2, c2, rfl⟩ := Row.form D0.pl.p
      obtain ⟨o3, c3, rfl⟩ := Row.form D0.pl.v
      generalize en0 : X.ss.length = n0 at D0 ⊢
      generalize en1 : X.ff.length = n1 at D0 ⊢
      generalize en2 : X.pp.length = n2 at D0 ⊢
      generalize en3 : X.vv.length = n3 at D0 ⊢
      have D1 : Hid _ := D0
      clear D0
      have zs := D1.out.size
      have zlo := D1.out.low
      obtain ⟨z9, hz9⟩ : ∃ x, x = z.alloc (.cells #[.string ⟨#[97]⟩, .string ⟨#[98]⟩, .string ⟨#[106, 49]⟩, .string ⟨#[106, 50]⟩, .string ⟨#[106, 51]⟩, .string ⟨#[107, 45, 107]⟩, .string ⟨#[118, 49]⟩, .string ⟨#[118, 50]⟩, .string ⟨#[122]⟩] 9) := ⟨_, rfl⟩
      have EZ9 : Hid (z9 = z.alloc (.cells #[.string ⟨#[97]⟩, .string ⟨#[98]⟩, .string ⟨#[106, 49]⟩, .string ⟨#[106, 50]⟩, .string ⟨#[106, 51]⟩, .string ⟨#[107, 45, 107]⟩, .string ⟨#[118, 49]⟩, .string ⟨#[118, 50]⟩, .string ⟨#[122]⟩] 9)) := hz9
      have B9 : Hid (Below z.heap.size z z9) := by rw [hz9]; exact (Below.refl _ _).alloc (Nat.le_refl _) _
      have N9 : Hid (z9.heap[z.heap.size]? = some (.cells #[.string ⟨#[97]⟩, .string ⟨#[98]⟩, .string ⟨#[106, 49]⟩, .string ⟨#[106, 50]⟩, .string ⟨#[106, 51]⟩, .string ⟨#[107, 45, 107]⟩, .string ⟨#[118, 49]⟩, .string ⟨#[118, 50]⟩, .string ⟨#[122]⟩] 9 (0, 0))) := by rw [hz9]; exact heap_alloc_new _ _
      have H9 : Hid (Dst R (w.heap.size + 1) (w.heap.size + 1 + 1 + 1) z9 ob n cb f (p + 11) z9) := ⟨_, _, _, _, _, (D1.out.below B9.out).base⟩
      have BW9 : Hid (But (fun b => b = R ∨ b = w.heap.size + 1) W z9) := D1.out.bt.trans (But.of_below B9.out)
      have z9l := (Array.getElem?_eq_some_iff.1 N9.out).1
      clear hz9 D1 HQ
      go_upto_block 4 with fail
      rw [← EZ9.out]
      go_cut [] from 13 (fun wr => Hid (Dst R (w.heap.size + 1) (w.heap.size + 1 + 1 + 1) z9 ob n cb f (p + 38) wr))
      case first =>
        go_wp2_with fail
        go_loopw [8] (fun i wr => ∃ k : Nat, k ≤ 9 ∧ i = .int .i64 k ∧ Hid (Dst R (w.heap.size + 1) (w.heap.size + 1 + 1 + 1) z9 ob n cb f (p + 11 + 3 * (k : Int)) wr)) (fun i _ => 9 - (intOf i).toNat)
        case atStart => exact ⟨0, by omega, rfl, H9.out.up (by omega)⟩
        case round =>
          obtain ⟨k, hk, rfl, hd⟩ := hrel
          by_cases hlt : k < 9
          case neg =>
            have hge : decide ((k : Int) < 9) = false := by simp; omega
            go_wp2_with fail
            go_meet
            case rel => exact hd.out.up (by omega)
          have hlt' : ((k : Int) < 9) := by omega
          obtain ⟨v0, v1, v2, v3, X, D0⟩ := hd.out
          obtain ⟨o0, c0, rfl⟩ := Row.form D0.pl.s
          obtain ⟨o1, c1, rfl⟩ := Row.form D0.pl.f
          obtain ⟨o2, c2, rfl⟩ := Row.form D0.pl.p
          obtain ⟨o3, c3, rfl⟩ := Row.form D0.pl.v
          generalize en0 : X.ss.length = n0 at D0 ⊢
          generalize en1 : X.ff.length = n1 at D0 ⊢
          generalize en2 : X.pp.length = n2 at D0 ⊢
          generalize en3 : X.vv.length = n3 at D0 ⊢
          have D1 : Hid _ := D0
          clear D0
          go_wp2_with fail
          refine (pick_ds D1.out (by omega) 6 (by decide) (by decide)).mono ?_
          rintro e u ⟨x, rfl, hx0, hx1, D2'⟩
          have D2 : Hid _ := D2'
          clear D2' D1
          by_cases hxz : x = 0
          case pos =>
            subst hxz
            have D5 : Hid _ := D2.out
            go_wp2_with fail
            go_roundw
            case rel => exact ⟨k + 1, by omega, by go_num, ⟨_, _, _, _, _, D5.out.up (by omega)⟩⟩
            case measure => simp [intOf]; omega
          have hxz' : (x == 0) = false := by simpa using hxz
          obtain ⟨V, hV⟩ : ∃ V, V = u.alloc (.cells (([⟨#[101, 97, 115, 116]⟩, ⟨#[119, 101, 115, 116]⟩] : List ByteArray).map Value.string).toArray 9) := ⟨_, rfl⟩
          have bV : Hid (Below u.heap.size u V) := by rw [hV]; exact (Below.refl _ _).alloc (Nat.le_refl _) _
          have hat : Hid (AtL (fun b => b = u.heap.size) V ([⟨#[101, 97, 115, 116]⟩, ⟨#[119, 101, 115, 116]⟩] : List ByteArray) (.slice (some ⟨u.heap.size, 0, none⟩) 2 2)) := by rw [hV]; exact lit_at 9 u [⟨#[101, 97, 115, 116]⟩, ⟨#[119, 101, 115, 116]⟩] (by unfold maxLen; simp) (by intro s hs; simp at hs; rcases hs with rfl | rfl <;> (unfold maxLen; decide))
          have szV : Hid (u.heap.size < V.heap.size) := by show u.heap.size < V.heap.size; rw [hV]; simp
          have EV : Hid (V = u.alloc (.cells #[.string ⟨#[101, 97, 115, 116]⟩, .string ⟨#[119, 101, 115, 116]⟩] 9)) := hV
          clear hV
          go_wp2_with fail
          rw [← EV.out]
          have us := D2.out.size
          refine (of_ds (D2.out.below bV.out) (by omega) (fun b => b = u.heap.size) _ _ hat.out (fun b hb => by have := szV.out; exact ⟨by omega, by omega⟩) (by decide) (by decide)).mono ?_
          rintro e u2 ⟨st, hst, rfl, D3'⟩
          have D1 : Hid _ := D3'
          have zst : Hid (st.size ≤ maxLen) := by show st.size ≤ maxLen; simp at hst; rcases hst with rfl | rfl <;> (unfold maxLen; decide)
          clear D3' hst D2 hat szV EV
          obtain ⟨y, hy, hyz⟩ : ∃ y : ByteArray, z9.cell? ⟨z.heap.size, k, none⟩ = some (.string y) ∧ y.size ≤ 5 := by
            match k, hlt with
            | 0, _ => exact ⟨_, (cell_row N9.out 0 _ rfl).1, by decide⟩
            | 1, _ => exact ⟨_, (cell_row N9.out 1 _ rfl).1, by decide⟩
            | 2, _ => exact ⟨_, (cell_row N9.out 2 _ rfl).1, by decide⟩
            | 3, _ => exact ⟨_, (cell_row N9.out 3 _ rfl).1, by decide⟩
            | 4, _ => exact ⟨_, (cell_row N9.out 4 _ rfl).1, by decide⟩
            | 5, _ => exact ⟨_, (cell_row N9.out 5 _ rfl).1, by decide⟩
            | 6, _ => exact ⟨_, (cell_row N9.out 6 _ rfl).1, by decide⟩
            | 7, _ => exact ⟨_, (cell_row N9.out 7 _ rfl).1, by decide⟩
            | 8, _ => exact ⟨_, (cell_row N9.out 8 _ rfl).1, by decide⟩
          have zy : Hid (y.size ≤ maxLen) := Nat.le_trans hyz (by unfold maxLen; omega)
          have YK : Hid (∀ (c : Int) (v : World), Ds R (w.heap.size + 1) (w.heap.size + 1 + 1 + 1) z9 ob n cb f (.slice o0 n0 c0) (.slice o1 n1 c1) (.slice o2 n2 c2) (.slice o3 n3 c3) X c v → v.cell? ⟨z.heap.size, k, none⟩ = some (.string y)) := fun c v h => (World.cell?_of_block (w := z9) (a := ⟨z.heap.size, k, none⟩) (h.bt.block z.heap.size z9l (by omega))).trans hy
          clear hy hyz
          have Y1 : Hid _ := YK.out _ _ D1.out
          by_cases h1k : 1 < k
          · by_cases hk6 : k < 6
            · have ha : ((1 : Int) < (k : Int)) := by omega
              have had : decide ((1 : Int) < (k : Int)) = true := by simp; omega
              have hb : ((k : Int) < 6) := by omega
              have hbd : decide ((k : Int) < 6) = true := by simp; omega
              go_upto_region 19 with fail
              refine wp_region_movesC (fun v => v.heap[w.heap.size + 1]? = some (.cells #[.slice o0 n0 c0, .slice o1 n1 c1, .slice o2 n2 c2, .slice o3 n3 c3] 28 (0, 0)) ∧ v.cell? ⟨z.heap.size, k, none⟩ = some (.string y)) 8 [] (by kernel_rfl) (by kernel_rfl) ⟨D1.out.bx, Y1.out⟩ ?_
              simp only [List.filterMap_nil, movD]
              refine takeHQ (f := 7) (i := 0) (.agg #[.slice o0 n0 c0, .slice o1 n1 c1, .slice o2 n2 c2, .slice o3 n3 c3]) ⟨rfl, rfl⟩ (by kernel_rfl) rfl ⟨D1.out.bx, Y1.out⟩ ?ta0 ?_
              case ta0 => intro v hv; have c0_ := (cell_row hv.1 0 (.slice o0 n0 c0) rfl).1; have c1_ := (cell_row hv.1 1 (.slice o1 n1 c1) rfl).1; have c2_ := (cell_row hv.1 2 (.slice o2 n2 c2) rfl).1; have c3_ := (cell_row hv.1 3 (.slice o3 n3 c3) rfl).1; go_simp
              simp only [Act.put, List.setIfInBounds_toArray, List.set_cons_zero, List.set_cons_succ]
              refine takeHQ (f := 6) (i := 1) (.slice (some ⟨z.heap.size, 0, none⟩) 9 9) ⟨rfl, rfl⟩ (by kernel_rfl) rfl ⟨D1.out.bx, Y1.out⟩ ?ta1 ?_
              case ta1 => intro v hv; go_simp
              simp only [Act.put, List.setIfInBounds_toArray, List.set_cons_zero, List.set_cons_succ]
              refine takeHQ (f := 5) (i := 2) (.int .i64 k) ⟨rfl, rfl⟩ (by kernel_rfl) rfl ⟨D1.out.bx, Y1.out⟩ ?ta2 ?_
              case ta2 => intro v hv; go_simp
              simp only [Act.put, List.setIfInBounds_toArray, List.set_cons_zero, List.set_cons_succ]
              refine takeHQ (f := 4) (i := 3) (.pointer (some ⟨z.heap.size, k, none⟩)) ⟨rfl, rfl⟩ (by kernel_rfl) rfl ⟨D1.out.bx, Y1.out⟩ ?ta3 ?_
              case ta3 => intro v hv; go_simp
              simp only [Act.put, List.setIfInBounds_toArray, List.set_cons_zero, List.set_cons_succ]
              refine takeHQ (f := 3) (i := 4) (.string y) ⟨rfl, rfl⟩ (by kernel_rfl) rfl ⟨D1.out.bx, Y1.out⟩ ?ta4 ?_
              case ta4 => intro v hv; have cy_ := hv.2; go_simp
              simp only [Act.put, List.setIfInBounds_toArray, List.set_cons_zero, List.set_cons_succ]
              refine takeHQ (f := 2) (i := 5) (.string st) ⟨rfl, rfl⟩ (by kernel_rfl) rfl ⟨D1.out.bx, Y1.out⟩ ?ta5 ?_
              case ta5 => intro v hv; go_simp
              simp only [Act.put, List.setIfInBounds_toArray, List.set_cons_zero, List.set_cons_succ]
              have E0 : Hid _ := D1.out.below ((Below.refl _ _).drew)
              obtain ⟨V1, hV1⟩ : ∃ Z, Z = u2.drew.alloc (.cells #[.string ⟨#[106, 111, 105, 110, 116]⟩, .string y, .string st] 9) := ⟨_, rfl⟩
              have bl1 : Below u2.drew.heap.size u2.drew V1 := by rw [hV1]; exact (Below.refl _ _).alloc (Nat.le_refl _) _
              have E1 : Hid _ := E0.out.below bl1
              have LL : Hid (V1.heap[u2.drew.heap.size]? = some (.cells #[.string ⟨#[106, 111, 105, 110, 116]⟩, .string y, .string st] 9 (0, 0))) := by rw [hV1]; exact heap_alloc_new _ _
              refine oneHd (f := 1) (i := 6) (.slice (some ⟨u2.drew.heap.size, 0, none⟩) 3 3) V1 ⟨rfl, rfl⟩ (by decide) (by kernel_rfl) rfl ?cb6 ⟨E1.out.bx, YK.out _ _ E1.out⟩ ?_
              case cb6 => rw [hV1]; go_simp
              clear hV1
              simp only [Act.put, List.setIfInBounds_toArray, List.set_cons_zero, List.set_cons_succ]
              have GS : Hid (∀ s ∈ ([⟨#[106, 111, 105, 110, 116]⟩, y, st] : List ByteArray), s.size ≤ maxLen) := fun s hs => by
                simp only [List.mem_cons, List.not_mem_nil, or_false] at hs
                rcases hs with rfl | rfl | rfl
                · exact Nat.le_of_ble_eq_true rfl
                · exact zy.out
                · exact zst.out
              refine callHd (f := 0) (i := 7) ⟨rfl, rfl⟩ (by decide) (by kernel_rfl) rfl ?ct7 ((try_ex (w.heap.size + 1 + 1 + 1) _ _ _ _ (.slice (some ⟨u2.drew.heap.size, 0, none⟩) 3 3) X V1 E1.out.pl E1.out.ok (fun U hU => put_joint (w.heap.size + 1 + 1 + 1) _ _ _ _ X u2.drew.heap.size 3 (gl [⟨#[106, 111, 105, 110, 116]⟩, y, st]) U (E1.out.pl.below hU) E1.out.ok (by omega) (gl_at (l := [⟨#[106, 111, 105, 110, 116]⟩, y, st]) (box_stableP hU LL.out)) (gl_sz GS.out) (Nat.le_trans (Nat.le_trans E1.out.low.2.2 E1.out.size) hU.size) rfl)).mono ?_)
              case ct7 => go_simp
              rintro _ Vz ⟨u0', u1', u2', u3', Y, rfl, hp4, ho4, hb4⟩
              obtain ⟨p0, k0, rfl⟩ := Row.form hp4.s
              obtain ⟨p1, k1, rfl⟩ := Row.form hp4.f
              obtain ⟨p2, k2, rfl⟩ := Row.form hp4.p
              obtain ⟨p3, k3, rfl⟩ := Row.form hp4.v
              have DZ : Hid _ := E1.out.below hb4
              have D5 : Hid _ := DZ.out.store hp4 ho4
              refine ⟨_, rfl, ⟨DZ.out.bx, YK.out _ _ DZ.out⟩, ?_⟩
              simp only [Act.put, List.setIfInBounds_toArray, List.set_cons_zero, List.set_cons_succ]
              refine ⟨by kernel_rfl, ?_⟩
              simp only [List.drop_succ_cons, List.drop_zero]
              obtain ⟨zr0, tzr0⟩ := cell_row (DZ.out.bx) 0 _ rfl
              obtain ⟨zr1, tzr1⟩ := cell_row (DZ.out.bx) 1 _ rfl
              obtain ⟨zr2, tzr2⟩ := cell_row (DZ.out.bx) 2 _ rfl
              obtain ⟨zr3, tzr3⟩ := cell_row (DZ.out.bx) 3 _ rfl
              simp only [List.getElem_toArray, List.getElem_cons_zero, List.getElem_cons_succ] at zr0 zr1 zr2 zr3
              go_wp2_with fail
              go_roundw
              case rel => exact ⟨k + 1, by omega, by go_num, ⟨_, _, _, _, _, D5.out.up (by omega)⟩⟩
              case measure => simp [intOf]; omega
            · have ha : ((1 : Int) < (k : Int)) := by omega
              have had : decide ((1 : Int) < (k : Int)) = true := by simp; omega
              have hb : ¬ ((k : Int) < 6) := by omega
              have hbd : decide ((k : Int) < 6) = false := by simp; omega
              go_upto_region 20 with fail
              refine wp_region_movesC (fun v => v.heap[w.heap.size + 1]? = some (.cells #[.slice o0 n0 c0, .slice o1 n1 c1, .slice o2 n2 c2, .slice o3 n3 c3] 28 (0, 0)) ∧ v.cell? ⟨z.heap.size, k, none⟩ = some (.string y)) 12 [] (by kernel_rfl) (by kernel_rfl) ⟨D1.out.bx, Y1.out⟩ ?_
              simp only [List.filterMap_nil, movD]
              refine takeHQ (f := 11) (i := 0) (.agg #[.slice o0 n0 c0, .slice o1 n1 c1, .slice o2 n2 c2, .slice o3 n3 c3]) ⟨rfl, rfl⟩ (by kernel_rfl) rfl ⟨D1.out.bx, Y1.out⟩ ?ta0 ?_
              case ta0 => intro v hv; have c0_ := (cell_row hv.1 0 (.slice o0 n0 c0) rfl).1; have c1_ := (cell_row hv.1 1 (.slice o1 n1 c1) rfl).1; have c2_ := (cell_row hv.1 2 (.slice o2 n2 c2) rfl).1; have c3_ := (cell_row hv.1 3 (.slice o3 n3 c3) rfl).1; go_simp
              simp only [Act.put, List.setIfInBounds_toArray, List.set_cons_zero, List.set_cons_succ]
              refine takeHQ (f := 10) (i := 1) (.slice (some ⟨z.heap.size, 0, none⟩) 9 9) ⟨rfl, rfl⟩ (by kernel_rfl) rfl ⟨D1.out.bx, Y1.out⟩ ?ta1 ?_
              case ta1 => intro v hv; go_simp
              simp only [Act.put, List.setIfInBounds_toArray, List.set_cons_zero, List.set_cons_succ]
              refine takeHQ (f := 9) (i := 2) (.int .i64 k) ⟨rfl, rfl⟩ (by kernel_rfl) rfl ⟨D1.out.bx, Y1.out⟩ ?ta2 ?_
              case ta2 => intro v hv; go_simp
              simp only [Act.put, List.setIfInBounds_toArray, List.set_cons_zero, List.set_cons_succ]
              refine takeHQ (f := 8) (i := 3) (.pointer (some ⟨z.heap.size, k, none⟩)) ⟨rfl, rfl⟩ (by kernel_rfl) rfl ⟨D1.out.bx, Y1.out⟩ ?ta3 ?_
              case ta3 => intro v hv; go_simp
              simp only [Act.put, List.setIfInBounds_toArray, List.set_cons_zero, List.set_cons_succ]
              refine takeHQ (f := 7) (i := 4) (.string y) ⟨rfl, rfl⟩ (by kernel_rfl) rfl ⟨D1.out.bx, Y1.out⟩ ?ta4 ?_
              case ta4 => intro v hv; have cy_ := hv.2; go_simp
              simp only [Act.put, List.setIfInBounds_toArray, List.set_cons_zero, List.set_cons_succ]
              refine takeHQ (f := 6) (i := 5) (.pointer (some ⟨R, 0, none⟩)) ⟨rfl, rfl⟩ (by kernel_rfl) rfl ⟨D1.out.bx, Y1.out⟩ ?ta5 ?_
              case ta5 => intro v hv; go_simp
              simp only [Act.put, List.setIfInBounds_toArray, List.set_cons_zero, List.set_cons_succ]
              refine takeHQ (f := 5) (i := 9) (.string st) ⟨rfl, rfl⟩ (by kernel_rfl) rfl ⟨D1.out.bx, Y1.out⟩ ?ta9 ?_
              case ta9 => intro v hv; go_simp
              simp only [Act.put, List.setIfInBounds_toArray, List.set_cons_zero, List.set_cons_succ]
              have E0 : Hid _ := D1.out.below ((Below.refl _ _).drew)
              refine callHd (f := 4) (i := 6) ⟨rfl, rfl⟩ (by decide) (by kernel_rfl) rfl ?cc6 ((pick_ds E0.out (by omega) 60 (by decide) (by decide)).mono ?_)
              case cc6 => go_simp
              rintro _ V1 ⟨x1, rfl, hx1, hy1, E⟩
              have E1 : Hid _ := E
              clear E
              refine ⟨_, rfl, ⟨E1.out.bx, YK.out _ _ E1.out⟩, ?_⟩
              simp only [Act.put, List.setIfInBounds_toArray, List.set_cons_zero, List.set_cons_succ]
              have hw : IntKind.i64.wrap (1 + x1) = 1 + x1 := wrap_i64 _ (by omega) (by omega)
              have E2 : Hid _ := E1.out
              refine oneHd (f := 3) (i := 7) (.int .i64 (1 + x1)) V1 ⟨rfl, rfl⟩ (by decide) (by kernel_rfl) rfl ?cb7 ⟨E2.out.bx, YK.out _ _ E2.out⟩ ?_
              case cb7 => go_simp
              clear hw
              obtain ⟨V2, hV2⟩ : ∃ Z, Z = V1 := ⟨_, rfl⟩
              rw [← hV2]
              have E2 : Hid _ := E1.out
              rw [← hV2] at E2
              clear hV2
              simp only [Act.put, List.setIfInBounds_toArray, List.set_cons_zero, List.set_cons_succ]
              refine callHd (f := 2) (i := 8) ⟨rfl, rfl⟩ (by decide) (by kernel_rfl) rfl ?cc8 ((dec_rdK (1 + x1) V2 (by omega) (by omega)).mono ?_)
              case cc8 => go_simp
              rintro _ V3 ⟨sd, rfl, hsd, hbd⟩
              have E3 : Hid _ := E2.out.below hbd
              have zd : Hid (sd.size ≤ maxLen) := Nat.le_trans hsd (by unfold maxLen; omega)
              refine ⟨_, rfl, ⟨E3.out.bx, YK.out _ _ E3.out⟩, ?_⟩
              simp only [Act.put, List.setIfInBounds_toArray, List.set_cons_zero, List.set_cons_succ]
              obtain ⟨V4, hV4⟩ : ∃ Z, Z = V3.alloc (.cells #[.string ⟨#[118, 101, 115, 115, 101, 108]⟩, .string y, .string sd, .string st] 9) := ⟨_, rfl⟩
              have bl4 : Below V3.heap.size V3 V4 := by rw [hV4]; exact (Below.refl _ _).alloc (Nat.le_refl _) _
              have E4 : Hid _ := E3.out.below bl4
              have LL : Hid (V4.heap[V3.heap.size]? = some (.cells #[.string ⟨#[118, 101, 115, 115, 101, 108]⟩, .string y, .string sd, .string st] 9 (0, 0))) := by rw [hV4]; exact heap_alloc_new _ _
              refine oneHd (f := 1) (i := 10) (.slice (some ⟨V3.heap.size, 0, none⟩) 4 4) V4 ⟨rfl, rfl⟩ (by decide) (by kernel_rfl) rfl ?cb10 ⟨E4.out.bx, YK.out _ _ E4.out⟩ ?_
              case cb10 => rw [hV4]; go_simp
              clear hV4
              simp only [Act.put, List.setIfInBounds_toArray, List.set_cons_zero, List.set_cons_succ]
              have GS : Hid (∀ s ∈ ([⟨#[118, 101, 115, 115, 101, 108]⟩, y, sd, st] : List ByteArray), s.size ≤ maxLen) := fun s hs => by
                simp only [List.mem_cons, List.not_mem_nil, or_false] at hs
                rcases hs with rfl | rfl | rfl | rfl
                · exact Nat.le_of_ble_eq_true rfl
                · exact zy.out
                · exact zd.out
                · exact zst.out
              refine callHd (f := 0) (i := 11) ⟨rfl, rfl⟩ (by decide) (by kernel_rfl) rfl ?ct11 ((try_ex (w.heap.size + 1 + 1 + 1) _ _ _ _ (.slice (some ⟨V3.heap.size, 0, none⟩) 4 4) X V4 E4.out.pl E4.out.ok (fun U hU => put_vessel (w.heap.size + 1 + 1 + 1) _ _ _ _ X V3.heap.size 4 (gl [⟨#[118, 101, 115, 115, 101, 108]⟩, y, sd, st]) U (E4.out.pl.below hU) E4.out.ok (by omega) (gl_at (l := [⟨#[118, 101, 115, 115, 101, 108]⟩, y, sd, st]) (box_stableP hU LL.out)) (gl_sz GS.out) (Nat.le_trans (Nat.le_trans E4.out.low.2.2 E4.out.size) hU.size) rfl)).mono ?_)
              case ct11 => go_simp
              rintro _ Vz ⟨u0', u1', u2', u3', Y, rfl, hp4, ho4, hb4⟩
              obtain ⟨p0, k0, rfl⟩ := Row.form hp4.s
              obtain ⟨p1, k1, rfl⟩ := Row.form hp4.f
              obtain ⟨p2, k2, rfl⟩ := Row.form hp4.p
              obtain ⟨p3, k3, rfl⟩ := Row.form hp4.v
              have DZ : Hid _ := E4.out.below hb4
              have D5 : Hid _ := DZ.out.store hp4 ho4
              refine ⟨_, rfl, ⟨DZ.out.bx, YK.out _ _ DZ.out⟩, ?_⟩
              simp only [Act.put, List.setIfInBounds_toArray, List.set_cons_zero, List.set_cons_succ]
              refine ⟨by kernel_rfl, ?_⟩
              simp only [List.drop_succ_cons, List.drop_zero]
              obtain ⟨zr0, tzr0⟩ := cell_row (DZ.out.bx) 0 _ rfl
              obtain ⟨zr1, tzr1⟩ := cell_row (DZ.out.bx) 1 _ rfl
              obtain ⟨zr2, tzr2⟩ := cell_row (DZ.out.bx) 2 _ rfl
              obtain ⟨zr3, tzr3⟩ := cell_row (DZ.out.bx) 3 _ rfl
              simp only [List.getElem_toArray, List.getElem_cons_zero, List.getElem_cons_succ] at zr0 zr1 zr2 zr3
              go_wp2_with fail
              go_roundw
              case rel => exact ⟨k + 1, by omega, by go_num, ⟨_, _, _, _, _, D5.out.up (by omega)⟩⟩
              case measure => simp [intOf]; omega
          · have ha : ¬ ((1 : Int) < (k : Int)) := by omega
            have had : decide ((1 : Int) < (k : Int)) = false := by simp; omega
            go_upto_region 20 with fail
            refine wp_region_movesC (fun v => v.heap[w.heap.size + 1]? = some (.cells #[.slice o0 n0 c0, .slice o1 n1 c1, .slice o2 n2 c2, .slice o3 n3 c3] 28 (0, 0)) ∧ v.cell? ⟨z.heap.size, k, none⟩ = some (.string y)) 12 [] (by kernel_rfl) (by kernel_rfl) ⟨D1.out.bx, Y1.out⟩ ?_
            simp only [List.filterMap_nil, movD]
            refine takeHQ (f := 11) (i := 0) (.agg #[.slice o0 n0 c0, .slice o1 n1 c1, .slice o2 n2 c2, .slice o3 n3 c3]) ⟨rfl, rfl⟩ (by kernel_rfl) rfl ⟨D1.out.bx, Y1.out⟩ ?ta0 ?_
            case ta0 => intro v hv; have c0_ := (cell_row hv.1 0 (.slice o0 n0 c0) rfl).1; have c1_ := (cell_row hv.1 1 (.slice o1 n1 c1) rfl).1; have c2_ := (cell_row hv.1 2 (.slice o2 n2 c2) rfl).1; have c3_ := (cell_row hv.1 3 (.slice o3 n3 c3) rfl).1; go_simp
            simp only [Act.put, List.setIfInBounds_toArray, List.set_cons_zero, List.set_cons_succ]
            refine takeHQ (f := 10) (i := 1) (.slice (some ⟨z.heap.size, 0, none⟩) 9 9) ⟨rfl, rfl⟩ (by kernel_rfl) rfl ⟨D1.out.bx, Y1.out⟩ ?ta1 ?_
            case ta1 => intro v hv; go_simp
            simp only [Act.put, List.setIfInBounds_toArray, List.set_cons_zero, List.set_cons_succ]
            refine takeHQ (f := 9) (i := 2) (.int .i64 k) ⟨rfl, rfl⟩ (by kernel_rfl) rfl ⟨D1.out.bx, Y1.out⟩ ?ta2 ?_
            case ta2 => intro v hv; go_simp
            simp only [Act.put, List.setIfInBounds_toArray, List.set_cons_zero, List.set_cons_succ]
            refine takeHQ (f := 8) (i := 3) (.pointer (some ⟨z.heap.size, k, none⟩)) ⟨rfl, rfl⟩ (by kernel_rfl) rfl ⟨D1.out.bx, Y1.out⟩ ?ta3 ?_
            case ta3 => intro v hv; go_simp
            simp only [Act.put, List.setIfInBounds_toArray, List.set_cons_zero, List.set_cons_succ]
            refine takeHQ (f := 7) (i := 4) (.string y) ⟨rfl, rfl⟩ (by kernel_rfl) rfl ⟨D1.out.bx, Y1.out⟩ ?ta4 ?_
            case ta4 => intro v hv; have cy_ := hv.2; go_simp
            simp only [Act.put, List.setIfInBounds_toArray, List.set_cons_zero, List.set_cons_succ]
            refine takeHQ (f := 6) (i := 5) (.pointer (some ⟨R, 0, none⟩)) ⟨rfl, rfl⟩ (by kernel_rfl) rfl ⟨D1.out.bx, Y1.out⟩ ?ta5 ?_
            case ta5 => intro v hv; go_simp
            simp only [Act.put, List.setIfInBounds_toArray, List.set_cons_zero, List.set_cons_succ]
            refine takeHQ (f := 5) (i := 9) (.string st) ⟨rfl, rfl⟩ (by kernel_rfl) rfl ⟨D1.out.bx, Y1.out⟩ ?ta9 ?_
            case ta9 => intro v hv; go_simp
            simp only [Act.put, List.setIfInBounds_toArray, List.set_cons_zero, List.set_cons_succ]
            have E0 : Hid _ := D1.out.below ((Below.refl _ _).drew)
            refine callHd (f := 4) (i := 6) ⟨rfl, rfl⟩ (by decide) (by kernel_rfl) rfl ?cc6 ((pick_ds E0.out (by omega) 60 (by decide) (by decide)).mono ?_)
            case cc6 => go_simp
            rintro _ V1 ⟨x1, rfl, hx1, hy1, E⟩
            have E1 : Hid _ := E
            clear E
            refine ⟨_, rfl, ⟨E1.out.bx, YK.out _ _ E1.out⟩, ?_⟩
            simp only [Act.put, List.setIfInBounds_toArray, List.set_cons_zero, List.set_cons_succ]
            have hw : IntKind.i64.wrap (1 + x1) = 1 + x1 := wrap_i64 _ (by omega) (by omega)
            have E2 : Hid _ := E1.out
            refine oneHd (f := 3) (i := 7) (.int .i64 (1 + x1)) V1 ⟨rfl, rfl⟩ (by decide) (by kernel_rfl) rfl ?cb7 ⟨E2.out.bx, YK.out _ _ E2.out⟩ ?_
            case cb7 => go_simp
            clear hw
            obtain ⟨V2, hV2⟩ : ∃ Z, Z = V1 := ⟨_, rfl⟩
            rw [← hV2]
            have E2 : Hid _ := E1.out
            rw [← hV2] at E2
            clear hV2
            simp only [Act.put, List.setIfInBounds_toArray, List.set_cons_zero, List.set_cons_succ]
            refine callHd (f := 2) (i := 8) ⟨rfl, rfl⟩ (by decide) (by kernel_rfl) rfl ?cc8 ((dec_rdK (1 + x1) V2 (by omega) (by omega)).mono ?_)
            case cc8 => go_simp
            rintro _ V3 ⟨sd, rfl, hsd, hbd⟩
            have E3 : Hid _ := E2.out.below hbd
            have zd : Hid (sd.size ≤ maxLen) := Nat.le_trans hsd (by unfold maxLen; omega)
            refine ⟨_, rfl, ⟨E3.out.bx, YK.out _ _ E3.out⟩, ?_⟩
            simp only [Act.put, List.setIfInBounds_toArray, List.set_cons_zero, List.set_cons_succ]
            obtain ⟨V4, hV4⟩ : ∃ Z, Z = V3.alloc (.cells #[.string ⟨#[118, 101, 115, 115, 101, 108]⟩, .string y, .string sd, .string st] 9) := ⟨_, rfl⟩
            have bl4 : Below V3.heap.size V3 V4 := by rw [hV4]; exact (Below.refl _ _).alloc (Nat.le_refl _) _
            have E4 : Hid _ := E3.out.below bl4
            have LL : Hid (V4.heap[V3.heap.size]? = some (.cells #[.string ⟨#[118, 101, 115, 115, 101, 108]⟩, .string y, .string sd, .string st] 9 (0, 0))) := by rw [hV4]; exact heap_alloc_new _ _
            refine oneHd (f := 1) (i := 10) (.slice (some ⟨V3.heap.size, 0, none⟩) 4 4) V4 ⟨rfl, rfl⟩ (by decide) (by kernel_rfl) rfl ?cb10 ⟨E4.out.bx, YK.out _ _ E4.out⟩ ?_
            case cb10 => rw [hV4]; go_simp
            clear hV4
            simp only [Act.put, List.setIfInBounds_toArray, List.set_cons_zero, List.set_cons_succ]
            have GS : Hid (∀ s ∈ ([⟨#[118, 101, 115, 115, 101, 108]⟩, y, sd, st] : List ByteArray), s.size ≤ maxLen) := fun s hs => by
              simp only [List.mem_cons, List.not_mem_nil, or_false] at hs
              rcases hs with rfl | rfl | rfl | rfl
              · exact Nat.le_of_ble_eq_true rfl
              · exact zy.out
              · exact zd.out
              · exact zst.out
            refine callHd (f := 0) (i := 11) ⟨rfl, rfl⟩ (by decide) (by kernel_rfl) rfl ?ct11 ((try_ex (w.heap.size + 1 + 1 + 1) _ _ _ _ (.slice (some ⟨V3.heap.size, 0, none⟩) 4 4) X V4 E4.out.pl E4.out.ok (fun U hU => put_vessel (w.heap.size + 1 + 1 + 1) _ _ _ _ X V3.heap.size 4 (gl [⟨#[118, 101, 115, 115, 101, 108]⟩, y, sd, st]) U (E4.out.pl.below hU) E4.out.ok (by omega) (gl_at (l := [⟨#[118, 101, 115, 115, 101, 108]⟩, y, sd, st]) (box_stableP hU LL.out)) (gl_sz GS.out) (Nat.le_trans (Nat.le_trans E4.out.low.2.2 E4.out.size) hU.size) rfl)).mono ?_)
            case ct11 => go_simp
            rintro _ Vz ⟨u0', u1', u2', u3', Y, rfl, hp4, ho4, hb4⟩
            obtain ⟨p0, k0, rfl⟩ := Row.form hp4.s
            obtain ⟨p1, k1, rfl⟩ := Row.form hp4.f
            obtain ⟨p2, k2, rfl⟩ := Row.form hp4.p
            obtain ⟨p3, k3, rfl⟩ := Row.form hp4.v
            have DZ : Hid _ := E4.out.below hb4
            have D5 : Hid _ := DZ.out.store hp4 ho4
            refine ⟨_, rfl, ⟨DZ.out.bx, YK.out _ _ DZ.out⟩, ?_⟩
            simp only [Act.put, List.setIfInBounds_toArray, List.set_cons_zero, List.set_cons_succ]
            refine ⟨by kernel_rfl, ?_⟩
            simp only [List.drop_succ_cons, List.drop_zero]
            obtain ⟨zr0, tzr0⟩ := cell_row (DZ.out.bx) 0 _ rfl
            obtain ⟨zr1, tzr1⟩ := cell_row (DZ.out.bx) 1 _ rfl
            obtain ⟨zr2, tzr2⟩ := cell_row (DZ.out.bx) 2 _ rfl
            obtain ⟨zr3, tzr3⟩ := cell_row (DZ.out.bx) 3 _ rfl
            simp only [List.getElem_toArray, List.getElem_cons_zero, List.getElem_cons_succ] at zr0 zr1 zr2 zr3
            go_wp2_with fail
            go_roundw
            case rel => exact ⟨k + 1, by omega, by go_num, ⟨_, _, _, _, _, D5.out.up (by omega)⟩⟩
            case measure => simp [intOf]; omega
      case rest =>
        have HQ : Hid (Dst R (w.heap.size + 1) (w.heap.size + 1 + 1 + 1) z9 ob n cb f (p + 38) wc) := hcut
        obtain ⟨z, ez⟩ : ∃ x, x = wc := ⟨_, rfl⟩
        rw [← ez] at HQ ⊢
        clear ez hcut
        obtain ⟨v0, v1, v2, v3, X, D0⟩ := HQ.out
        obtain ⟨o0, c0, rfl⟩ := Row.form D0.pl.s
        obtain ⟨o1, c1, rfl⟩ := Row.form D0.pl.f
        obtain ⟨o2, c2, rfl⟩ := Row.form D0.pl.p
        obtain ⟨o3, c3, rfl⟩ := Row.form D0.pl.v
        generalize en0 : X.ss.length = n0 at D0 ⊢
        generalize en1 : X.ff.length = n1 at D0 ⊢
        generalize en2 : X.pp.length = n2 at D0 ⊢
        generalize en3 : X.vv.length = n3 at D0 ⊢
        have D1 : Hid _ := D0
        clear D0
        go_wp2_with fail
        refine (pick_ds D1.out (by omega) 13 (by decide) (by decide)).mono ?_
        rintro e u ⟨x, rfl, hx0, hx1, D2⟩
        obtain ⟨m, rfl⟩ := Int.eq_ofNat_of_zero_le hx0
        have H5 : Hid (Dst R (w.heap.size + 1) (w.heap.size + 1 + 1 + 1) z9 ob n cb f (p + 87 - 4 * (m : Int)) u) := ⟨_, _, _, _, _, D2.up (by omega)⟩
        clear D2 D1 HQ
        go_upto_block 6 with fail
        refine draw_l4 R ob n cb f p w z9 _ hp rlt m (by omega) _ _ _ _ _ _ _ _ _ _ _ (by rfl) (H5.out) (by kernel_rfl) ?_
        intro y ys wc hys hcut
        obtain ⟨g10, rfl⟩ := len155 hys
        clear hys
        dsimp only
        have HQ : Hid (Dst R (w.heap.size + 1) (w.heap.size + 1 + 1 + 1) z9 ob n cb f (p + 87) wc) := hcut
        obtain ⟨z, ez⟩ : ∃ x, x = wc := ⟨_, rfl⟩
        rw [← ez] at HQ ⊢
        clear ez hcut
        obtain ⟨v0, v1, v2, v3, X, D0⟩ := HQ.out
        obtain ⟨o0, c0, rfl⟩ := Row.form D0.pl.s
        obtain ⟨o1, c1, rfl⟩ := Row.form D0.pl.f
        obtain ⟨o2, c2, rfl⟩ := Row.form D0.pl.p
        obtain ⟨o3, c3, rfl⟩ := Row.form D0.pl.v
        generalize en0 : X.ss.length = n0 at D0 ⊢
        generalize en1 : X.ff.length = n1 at D0 ⊢
        generalize en2 : X.pp.length = n2 at D0 ⊢
        generalize en3 : X.vv.length = n3 at D0 ⊢
        have D1 : Hid _ := D0
        clear D0
        go_wp2_with fail
        refine (pick_ds D1.out (by omega) 24 (by decide) (by decide)).mono ?_
        rintro e u ⟨x, rfl, hx0, hx1, D2⟩
        have H6 : Hid (Dst R (w.heap.size + 1) (w.heap.size + 1 + 1 + 1) z9 ob n cb f (p + 88) u) := ⟨_, _, _, _, _, D2.up (by omega)⟩
        clear D2 D1 HQ
        go_upto_if 139 with fail
        go_cut [] from 11 (fun wr => Hid (Dst R (w.heap.size + 1) (w.heap.size + 1 + 1 + 1) z9 ob n cb f (p + 168) wr))
        case first =>
          cases hxb : (x == 0)
          · go_wp2_with fail
            go_meet
            case rel => exact H6.out.up (by omega)
          · go_upto_block 8 with fail
            refine draw_l8 R ob n cb f p w z9 _ hp rlt  _ _ _ _ _ _ _ _ _ _ _ (by rfl) (H6.out) (by kernel_rfl) ?_
            intro y ys wc hys hcut
            obtain ⟨g11, rfl⟩ := len155 hys
            clear hys
            dsimp only
            have H7 : Hid (Dst R (w.heap.size + 1) (w.heap.size + 1 + 1 + 1) z9 ob n cb f (p + 88) wc) := hcut
            clear hcut H6
            go_upto_block 10 with fail
            refine draw_l10 R ob n cb f p w z9 _ hp rlt  _ _ _ _ _ _ _ _ _ _ _ (by rfl) (H7.out) (by kernel_rfl) ?_
            intro y ys wc hys hcut
            obtain ⟨g12, rfl⟩ := len155 hys
            clear hys
            dsimp only
            go_wp2_with fail
            go_meet
            case rel => exact hcut
        case rest =>
          have HQ : Hid (Dst R (w.heap.size + 1) (w.heap.size + 1 + 1 + 1) z9 ob n cb f (p + 168) wc) := hcut
          obtain ⟨z, ez⟩ : ∃ x, x = wc := ⟨_, rfl⟩
          rw [← ez] at HQ ⊢
          clear ez hcut
          obtain ⟨v0, v1, v2, v3, X, D0⟩ := HQ.out
          obtain ⟨o0, c0, rfl⟩ := Row.form D0.pl.s
          obtain ⟨o1, c1, rfl⟩ := Row.form D0.pl.f
          obtain ⟨o2, c2, rfl⟩ := Row.form D0.pl.p
          obtain ⟨o3, c3, rfl⟩ := Row.form D0.pl.v
          generalize en0 : X.ss.length = n0 at D0 ⊢
          generalize en1 : X.ff.length = n1 at D0 ⊢
          generalize en2 : X.pp.length = n2 at D0 ⊢
          generalize en3 : X.vv.length = n3 at D0 ⊢
          have D1 : Hid _ := D0
          clear D0
          have x0 := (cell_row D1.out.bx 0 (.slice o0 n0 c0) rfl).1
          have x1 := (cell_row D1.out.bx 1 (.slice o1 n1 c1) rfl).1
          have x2 := (cell_row D1.out.bx 2 (.slice o2 n2 c2) rfl).1
          have x3 := (cell_row D1.out.bx 3 (.slice o3 n3 c3) rfl).1
          go_wp2_with fail
          refine (copy_ex _ _ _ _ _ X z D1.out.pl D1.out.ok).mono ?_
          rintro e V ⟨u0, u1, u2, u3, rfl, hp, hb⟩
          obtain ⟨p0, k0, rfl⟩ := Row.form hp.s
          obtain ⟨p1, k1, rfl⟩ := Row.form hp.f
          obtain ⟨p2, k2, rfl⟩ := Row.form hp.p
          obtain ⟨p3, k3, rfl⟩ := Row.form hp.v
          rw [en0, en1, en2, en3] at hp ⊢
          have zb := D1.out.size
          have zl := D1.out.low
          have HV : Hid (Below z.heap.size z V) := hb
          have HP : Hid (PlR z.heap.size V _ _ _ _ X) := hp
          clear hb hp
          have B2 : Hid (But (fun b => b = R ∨ w.heap.size ≤ b) w V) := (((But.of_below BW.out).trans (BW9.out.up (fun b e => e.imp id (fun e => by omega)))).trans (D1.out.bt.up (fun b e => e.imp id (fun e => by omega)))).trans (But.of_below HV.out)
          have RB : Hid (V.heap[w.heap.size]? = some (.cells #[.slice none 0 0, .slice none 0 0, .slice none 0 0, .slice none 0 0] 28 (0, 0))) := (HV.out.block _ (by omega)).trans ((D1.out.bt.block _ (by omega) (by omega)).trans ((BW9.out.block _ (by omega) (by omega)).trans R1.out))
          obtain ⟨zr0, tzr0⟩ := cell_row RB.out 0 _ rfl
          obtain ⟨zr1, tzr1⟩ := cell_row RB.out 1 _ rfl
          obtain ⟨zr2, tzr2⟩ := cell_row RB.out 2 _ rfl
          obtain ⟨zr3, tzr3⟩ := cell_row RB.out 3 _ rfl
          simp only [List.getElem_toArray, List.getElem_cons_zero, List.getElem_cons_succ] at zr0 zr1 zr2 zr3
          have R4 := hidZ (ret4 RB.out (.slice p0 n0 k0) (.slice p1 n1 k1) (.slice p2 n2 k2) (.slice p3 n3 k3))
          have ff0 := hidZ (cell_row R4.out.1 0 _ rfl).1
          have ff1 := hidZ (cell_row R4.out.1 1 _ rfl).1
          have ff2 := hidZ (cell_row R4.out.1 2 _ rfl).1
          have ff3 := hidZ (cell_row R4.out.1 3 _ rfl).1
          have HN : Hid (DrwP R ob n cb f (p + 250) w (.returned (.agg #[.slice p0 n0 k0, .slice p1 n1 k1, .slice p2 n2 k2, .slice p3 n3 k3])) ((((V.setCell ⟨w.heap.size, 0, none⟩ (.slice p0 n0 k0)).setCell ⟨w.heap.size, 1, none⟩ (.slice p1 n1 k1)).setCell ⟨w.heap.size, 2, none⟩ (.slice p2 n2 k2)).setCell ⟨w.heap.size, 3, none⟩ (.slice p3 n3 k3))) := by
            obtain ⟨q, hq, hrd⟩ := D1.out.rd
            exact ⟨_, _, _, _, X, q, rfl, (HP.out.block (fun g hg _ => R4.out.2.1 g (by omega))).low (by omega), D1.out.ok, by omega, hrd.but (fun b hb => (R4.out.2.1 b (by omega)).trans (HV.out.block b (by omega))), but_lo ((((B2.out.set (.inr (Nat.le_refl _)) 0 _).set (.inr (Nat.le_refl _)) 1 _).set (.inr (Nat.le_refl _)) 2 _).set (.inr (Nat.le_refl _)) 3 _)⟩
          go_wp2_with fail
          all_goals exact bodyPost_ret (v := .agg #[.slice p0 n0 k0, .slice p1 n1 k1, .slice p2 n2 k2, .slice p3 n3 k3]) (by simp [results, Try.results27, go_sem, ff0.out, ff1.out, ff2.out, ff3.out]) rfl HN.out
end Go.Proofs.Ytgjcppdeljoimaa
