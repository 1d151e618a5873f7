/-
  Several texts in one.
-/
import Derived.Test.YtaejlcanccfmmaaGreatDoorM49
import Derived.Test.YtaejlcanccfmmaaGreatDoorZpy
import Derived.Test.YtaejlcanccfmmaaGreatDoorM36
import Derived.Test.YtaejlcanccfmmaaGreatDoorHy
import Derived.Maps.OwnIn
import Derived.Maps.AppendAt
namespace Go.Proofs.YtaejlcanccfmmaaGreatDoor
open Go.RowKit Go.Shelf
attribute [local go_sem] Oper.semAt_some
theorem alloc_atZ {o : Obj} {j : Nat} (W : World) (h : j = W.heap.size) : (W.alloc o).heap[j]? = some o := by subst h; exact World.alloc_heap_new W o
theorem alloc_upZ {o o' : Obj} {j : Nat} (W : World) (h : W.heap[j]? = some o') : (W.alloc o).heap[j]? = some o' := (Below.heap_alloc W o j (Array.getElem?_eq_some_iff.1 h).1).trans h
set_option maxRecDepth 100000 in
set_option maxHeartbeats 16000000 in
theorem orderP_any (S : Nat → Prop) (T : List ByteArray) (Bs : List DShareBatch) (v0 v1 : Value) (w : World) (h0 : AtL S w T v0) (h1 : AtL S w Bs v1) (hS : ∀ b, S b → b < w.heap.size) (_ : Lay.tot (α := DShareBook) (T, Bs) ≤ 1048576) :
    Calls Tryz.prog 23 #[.agg #[v0, v1]] w fun e w' => ∃ q, e = .returned (.tuple #[q, .bool (ordS (T, Bs)).2]) ∧ OnL (fun b => w.heap.size ≤ b ∧ b < w'.heap.size) w' (ordS (T, Bs)).1 q ∧ Below w.heap.size w w' := by
  obtain ⟨o0, k0, e0, _⟩ := id h0
  obtain ⟨oa, kb, e1, _⟩ := id h1
  obtain ⟨n0, en0⟩ : ∃ n, T.length = n := ⟨_, rfl⟩
  obtain ⟨nb, enb⟩ : ∃ n, Bs.length = n := ⟨_, rfl⟩
  have ENB : Hid (Bs.length ≤ nb ∧ nb ≤ Bs.length) := ⟨by omega, by omega⟩
  rw [en0] at e0
  rw [enb] at e1
  subst e0
  subst e1
  have H0 : Hid _ := h0.ups hS
  have H1 : Hid _ := h1.ups hS
  have HS : Hid _ := lt_up hS
  clear h0 h1 en0 enb
  obtain ⟨W, EW, BW, RW, sW⟩ := box_new w #[.slice o0 n0 k0, .slice oa nb kb] 26
  have BOXW : Hid (∀ u, Below W.heap.size W u → u.heap[w.heap.size]? = some (.cells #[.slice o0 n0 k0, .slice oa nb kb] 26 (0, 0)) ∧ Below w.heap.size w u) := fun u hu => ⟨(hu.block _ (by omega)).trans RW.out, BW.out.trans (hu.mono (by omega))⟩
  have y0 := (cell_row RW.out 0 (.slice o0 n0 k0) rfl).1
  have y1 := (cell_row RW.out 1 (.slice oa nb kb) rfl).1
  refine (callsIn_wide (n := 6)).1 ?_
  refine callsIn_of_wp_marks Tryz.func23 rfl trivial ?_ rfl
  simp only [Tryz.ntmps23, List.size_toArray, List.length_cons, List.length_nil, Nat.reduceAdd, Nat.reduceSub, Array.replicate_succ, Array.replicate_zero, List.push_toArray, List.append_toArray, List.nil_append, List.cons_append]
  refine wpIn_wide.2 ?_
  go_upto_region 1 with fail
  rw [← EW.out]
  go_wp2_with fail
  refine (bookP_any S T Bs _ _ _ _ _ _ W (H0.out W BW.out) (H1.out W BW.out) (HS.out W BW.out)).mono ?_; rintro e u1 ⟨rfl, hb1⟩
  have B1 : Hid (Below W.heap.size W u1) := hb1
  clear hb1 y0 y1
  cases hB : bokB (T, Bs)
  · have ER : Hid (ordS (T, Bs) = ([], false)) := by show _ = _; unfold ordS; rw [hB]; rfl
    go_wp2_with fail
    refine ⟨.tuple #[.slice none 0 0, .bool false], by simp [results, Tryz.results23, go_sem], _, by rw [ER.out], ?_, (BOXW.out u1 B1.out).2⟩
    rw [ER.out]
    exact ⟨none, 0, rfl, ⟨Nat.zero_le _, Nat.le_refl _, fun _ => rfl⟩, .inl rfl⟩
  have OK : Hid (BokP (T, Bs)) := bok_iff.1 hB
  have EB : Hid (bokB (T, Bs) = true) := hB
  clear hB
  have y0 := (cell_row (BOXW.out u1 B1.out).1 0 (.slice o0 n0 k0) rfl).1
  have y1 := (cell_row (BOXW.out u1 B1.out).1 1 (.slice oa nb kb) rfl).1
  go_wp2_with fail
  refine (leavingOf_any S T Bs _ _ _ _ _ _ u1 (H0.out u1 (BOXW.out u1 B1.out).2) (H1.out u1 (BOXW.out u1 B1.out).2) (HS.out u1 (BOXW.out u1 B1.out).2) OK.out).mono ?_; rintro e u2 ⟨g, v, rfl, hl, hb2⟩
  have L2 : Hid (LvG T Bs u1.heap.size g v u2 0) := hl
  have B2 : Hid (Below W.heap.size W u2) := B1.out.trans (hb2.mono B1.out.size)
  have s12 := hb2.size
  have sW1 := B1.out.size
  clear hl hb2 y0 y1
  obtain ⟨U, hU⟩ : ∃ U, U = ((u2.alloc (.cells #[.pointer (some ⟨g, 0, none⟩)] 70)).alloc (.cells #[.slice none 0 0] 23)).alloc (.cells #[.pointer (some ⟨g, 0, none⟩)] 70) := ⟨_, rfl⟩
  have EU : Hid (U = ((u2.alloc (.cells #[.pointer (some ⟨g, 0, none⟩)] 70)).alloc (.cells #[.slice none 0 0] 23)).alloc (.cells #[.pointer (some ⟨g, 0, none⟩)] 70)) := hU
  have BU2 : Hid (Below u2.heap.size u2 U) := by rw [hU]; exact (((Below.refl _ _).alloc (Nat.le_refl _) _).alloc (by simp) _).alloc (by simp; omega) _
  have sU : u2.heap.size + 3 ≤ U.heap.size ∧ U.heap.size ≤ u2.heap.size + 3 := by rw [hU]; simp
  have P4 : Hid (U.heap[u2.heap.size]? = some (.cells #[.pointer (some ⟨g, 0, none⟩)] 70 (0, 0))) := by rw [hU]; exact alloc_upZ _ (alloc_upZ _ (alloc_atZ _ rfl))
  have P5 : Hid (U.heap[u2.heap.size + 1]? = some (.cells #[.slice none 0 0] 23 (0, 0))) := by rw [hU]; exact alloc_upZ _ (alloc_atZ _ (by simp))
  have P6 : Hid (U.heap[u2.heap.size + 1 + 1]? = some (.cells #[.pointer (some ⟨g, 0, none⟩)] 70 (0, 0))) := by rw [hU]; exact alloc_atZ _ (by simp)
  have LU : Hid (LvG T Bs u1.heap.size g v U 0) := L2.out.below BU2.out
  have BU : Hid (Below W.heap.size W U) := B2.out.trans (BU2.out.mono B2.out.size)
  have TL : Hid (∀ q, lvS g v q → u1.heap.size ≤ q ∧ q < u2.heap.size) := fun q hq => ⟨L2.out.set_low q hq, by
    rcases hq with rfl | hq
    · exact L2.out.lt
    · exact (World.ownsRow.lt L2.out.row q hq).2⟩
  have hwu : w.heap.size < u1.heap.size := by omega
  clear hU
  go_upto_region 5 with fail
  have z4 : ((u2.alloc (.cells #[.pointer (some ⟨g, 0, none⟩)] 70)).alloc (.cells #[.slice none 0 0] 23)).cell? ⟨u2.heap.size, 0, none⟩ = some (.pointer (some ⟨g, 0, none⟩)) := cell_past (by exact box_at _ _ (Below.refl _ _) 0 _ rfl) (by simp) _
  go_wp2_with fail
  refine (inTurn_any _ ⟨_, rfl⟩ _).mono ?_; rintro e w2 ⟨rfl, hw2⟩
  simp only [World.size_alloc] at hw2 ⊢
  rw [← EU.out] at hw2
  subst hw2
  clear z4
  go_wp2_with fail
  refine (wpIn_wide (n := 5)).1 ?_
  have N5 : ∀ q, lvS g v q → q ≠ u2.heap.size + 1 := fun q hq e => by have := (TL.out q hq).2; omega
  refine wpIn_range_z (F := Fence.wide) rfl (by omega) (gf := 55) (lb := #[.pointer (some ⟨u2.heap.size + 1 + 1, 0, none⟩)]) rfl trivial (enters_of Tryz.func55 (by kernel_rfl) rfl)
    (turns_any 4 (u2.heap.size + 1 + 1) g u1.heap.size w.heap.size (Bs.length + 1) (by omega) OK.out v (ownO (u2.heap.size + 1)) w2 P6.out LU.out) (Below.refl _ _) (fun _ => rfl) ?no (by omega) (fun q hq => by have := (TL.out q hq).2; omega)
    (fun k X => Vd Bs k ∧ ∃ pv, OrI w2 (u2.heap.size + 1) (lvS g v) (gnS Bs k) X pv)
    (fun c k X => c = .exit 0 ∧ (Vd Bs (k + 1) ∧ k + 1 = Bs.length) ∧ (∃ pv, OrI w2 (u2.heap.size + 1) (lvS g v) (gnS Bs (k + 1)) X pv) ∧ LvG T Bs u1.heap.size g v X (k + 1))
    (fun k A C hA hb => by obtain ⟨h1, pv, h2⟩ := hA; exact ⟨h1, pv, h2.butR (by omega) (fun b hb => ⟨hb, by have := (TL.out b hb).2; omega⟩) (fun e => N5 _ e rfl) hb⟩)
    (fun c k A C hA hb => by obtain ⟨h1, h2, ⟨pv, h3⟩, h4⟩ := hA; exact ⟨h1, h2, ⟨pv, h3.butR (by omega) (fun b hb => hb.elim) (fun e => N5 _ e rfl) hb⟩, h4.butR hb⟩)
    (fun k A C hA hb => ⟨hA.1, hA.2.butR hb⟩) (fun k A C hA hb => ⟨hA.1, hA.2.butR hb⟩)
    (fun k A hA => by obtain ⟨h1, pv, h2⟩ := hA; exact h2.st (by omega) (fun b hb => by have := (TL.out b hb).2; omega) (fun e => N5 _ e rfl))
    ⟨fun j hj => by omega, _, ⟨⟨by simp [enc, gnS], .inl ⟨rfl, by simp [gnS]⟩⟩, P5.out, But.refl _ _⟩⟩
    (fun k A hA => by have := vd_le OK.out hA.1; omega) ?round ?done ?stop
  case no =>
    rintro q hq (e | ⟨pv, hpv, ho⟩)
    · rcases hq with hq | hq
      · omega
      · exact N5 q hq e
    · rw [P5.out] at hpv; cases hpv; cases ho
  case round =>
    intro l k X hI hZ
    have hpos := hZ.1 k (by omega)
    obtain ⟨q, eq, hqb, hgq, _⟩ := nxt_free hpos
    have HQ : Hid (gnS Bs (k + 1) = gnS Bs k ++ [Bs[q].1]) := by show _ = _; rw [gnS, eq, Int.toNat_natCast, btN_at hqb]
    simp only [eq]
    clear hI hZ hpos eq hgq
    apply Exists.intro
    apply Exists.intro
    refine ⟨?ba, ?assign, ?body⟩
    case assign =>
      intro K hK
      gi_wp2
      exact hK
    case ba => exact Below.refl _ _
    case body =>
      intro V hV hZV hput
      clear hput
      obtain ⟨hvk, pv, gV⟩ := hV
      obtain ⟨hv1, lV⟩ := hZV
      obtain ⟨ov, kv, rfl⟩ := Row.form gV.row
      rw [gn_len] at gV
      have GV : Hid (OrI w2 (u2.heap.size + 1) (lvS g v) (gnS Bs k) V (.slice ov k kv)) := gV
      have LV : Hid (LvG T Bs u1.heap.size g v V (k + 1)) := lV
      have V1 : Hid (Vd Bs (k + 1)) := hv1
      have hk5 : k + 1 ≤ 5 := by have := vd_le OK.out hv1; have := OK.out.len; simp only at this; omega
      have OLD : Hid (Below u1.heap.size w2 V) := gV.but.below (fun b hb => by
        rcases hb with rfl | hb
        · omega
        · exact (TL.out b hb).1) (by omega)
      have BV : Hid (Below w.heap.size w V) := (BOXW.out w2 BU.out).2.trans (OLD.out.mono (by omega))
      have c5 := (cell_row gV.b5 0 (.slice ov k kv) rfl).1
      have c1 := (OLD.out.cell (p := ⟨w.heap.size, 1, none⟩) hwu).trans (cell_row (BOXW.out w2 BU.out).1 1 (.slice oa nb kb) rfl).1
      obtain ⟨bb, off, o1, n1, k1, o2, n2, k2, rfl, hbS, e0, _, _, _, _, z0⟩ := bat_at (H1.out V BV.out) q hqb
      obtain ⟨nm, enm⟩ : ∃ x, Bs[q].1 = x := ⟨_, rfl⟩
      have hnm : nm.size ≤ 1048576 := by
        have := gn_short OK.out hv1 nm (by rw [HQ.out, enm]; simp)
        omega
      rw [enm] at e0 HQ z0
      have hqn : q < nb := by have := ENB.out; omega
      have nb5 : nb ≤ 5 := by have := ENB.out; have := OK.out.len; simp only at this; omega
      have q5 := fun d os => cell_regrown c5 d os
      have q1 := fun d os => cell_regrown c1 d os
      have q0 := fun d os => cell_regrown e0 d os
      clear c5 c1 e0 gV lV hv1 hvk enm
      refine wpIn_block ?_
      gi_upto_region 7 with fail
      refine wpIn_region_mix 9 [0, 1, 2, 3, 4, 5, 6] (by kernel_rfl) (by kernel_rfl) (by kernel_rfl) ?_
      simp only [List.filterMap_cons, List.filterMap_nil, List.getElem?_cons_succ, List.getElem?_cons_zero]
      repeat (first | go_big_quiet_step (fail) | quiet_step (fail))
      refine wpQuiet_nil ?_
      clear q5 q1 q0
      refine call1 (md := .any) (f := 1) (i := 7) (dc := 22) (fn := 39) ⟨rfl, rfl, rfl, by decide⟩ (by kernel_rfl) ?run ((clones_any nm V.drew hnm).mono ?_)
      case run => go_simp
      rintro e X2 ⟨rfl, hb2⟩
      have bX2 : Below V.heap.size V X2 := ((Below.refl _ _).drew).trans hb2
      refine ⟨_, rfl, regrown_of_below bX2, ?_⟩
      refine anyC_step (f := 0) [8] (by kernel_rfl) (by simp) (one_list ⟨by decide, _, rfl, rfl, .slice (some ⟨X2.heap.size, 0, none⟩) 1 1, X2.alloc (.cells #[.string nm] 9), ?run3, regrown_of_below (bX2.alloc bX2.size _), ?_⟩)
      case run3 => go_simp
      refine ⟨by kernel_rfl, ?_⟩
      simp only [List.drop_succ_cons, List.drop_zero]
      simp only [Act.put, List.setIfInBounds_toArray, List.set_cons_zero, List.set_cons_succ]
      have BX3 : Hid (Below V.heap.size V (X2.alloc (.cells #[.string nm] 9))) := bX2.alloc bX2.size _
      have sV := GV.out.but.size
      have sX2 := bX2.size
      obtain ⟨i0, zz, hi, hz0, hz1, hz2, hz3⟩ := elS.info
      have OWN : Hid ((X2.alloc (.cells #[.string nm] 9)).ownsRow w2.heap.size 9 1 (.slice ov k kv) k (enc 1 eS (gnS Bs k))) := by
        have := Row.below GV.out.row BX3.out
        rw [Row, gn_len] at this
        exact this
      clear bX2 hb2
      gi_upto_region 8 with (gi_at_builtin; refine wpListIn_append_own_at _ rfl _ _ 23 rfl w2.heap.size 9 i0 zz 1 16 elS.ht hi hz0 hz1 hz2 hz3 (by decide) _ _ _ rfl OWN.out ⟨X2.heap.size, 0, none⟩ 1 1 [.string nm] rfl rfl (cell_one_new _ _ _) (by simp [Value.oneCell']) (by unfold maxLen; omega) (by omega) (by simp; omega) ?_; intro v' u8 hown hgr _ hbk; have ROW : Row u8 w2.heap.size 9 1 eS v' (gnS Bs (k + 1)) := (by show World.ownsRow _ _ _ _ _ _ _; rw [gn_len, HQ.out, enc_append]; exact hown); obtain ⟨ov', kv', hv'⟩ := Row.form ROW; rw [gn_len] at hv'; subst hv'; have HGR : Hid ((X2.alloc (.cells #[.string nm] 9)).grownBy u8 (Value.slice ov k kv).ownBlock) := hgr; have HBK : Hid ((Value.slice ov' (k + 1) kv').ownBlock = (Value.slice ov k kv).ownBlock ∨ (Value.slice ov' (k + 1) kv').ownBlock = some (X2.alloc (.cells #[.string nm] 9)).heap.size) := hbk; have ROWH : Hid (Row u8 w2.heap.size 9 1 eS (.slice ov' (k + 1) kv') (gnS Bs (k + 1))) := ROW; clear hown hgr hbk ROW; have hb8 : u8.heap[u2.heap.size + 1]? = some (.cells #[.slice ov k kv] 23 (0, 0)) := (HGR.out.block (u2.heap.size + 1) (by simp; omega) (fun e => by have := (World.ownsRow.lt OWN.out (u2.heap.size + 1) e.symm).1; omega)).trans ((BX3.out.block (u2.heap.size + 1) (by omega)).trans GV.out.b5); obtain ⟨c8, f8⟩ := cell_row hb8 0 (.slice ov k kv) rfl)
      obtain ⟨ko, kp, g8⟩ := GV.out.push (n₀ := w.heap.size) (by omega) (by omega) BX3.out HGR.out ROWH.out HBK.out
      have KO : Hid _ := ko
      have KP : Hid _ := kp
      have G8 : Hid (OrI w2 (u2.heap.size + 1) (lvS g v) (gnS Bs (k + 1)) (u8.setCell ⟨u2.heap.size + 1, 0, none⟩ (.slice ov' (k + 1) kv')) (.slice ov' (k + 1) kv')) := g8
      have NO : ∀ q, lvS g v q → ¬ ownO (u2.heap.size + 1) V q := fun q hq ho => by
        have := (TL.out q hq).2
        rcases GV.out.own.1 ho with e | e
        · omega
        · have := (GV.out.lt e).1; omega
      have L8 : Hid (LvG T Bs u1.heap.size g v (u8.setCell ⟨u2.heap.size + 1, 0, none⟩ (.slice ov' (k + 1) kv')) (k + 1)) := ⟨Row.block LV.out.row (fun q hq => by
        obtain ⟨c, hc⟩ := Row.typed LV.out.row q hq
        rw [hc]; exact kp.blk _ _ _ _ hc (NO q (.inr hq))), kp.blk _ _ _ _ LV.out.box (NO g (.inl rfl)), LV.out.low⟩
      clear ko kp g8 NO HGR ROWH HBK hb8 c8 f8 BX3 OWN
      generalize (u8.setCell ⟨u2.heap.size + 1, 0, none⟩ (.slice ov' (k + 1) kv')) = V4 at KO KP G8 L8 ⊢
      have c4 := (cell_row ((G8.out.but.block u2.heap.size (by omega) (fun e => by
        rcases e with e | e
        · omega
        · have := (TL.out _ e).2; omega)).trans P4.out) 0 (.pointer (some ⟨g, 0, none⟩)) rfl).1
      have AG : Hid (Calls Tryz.prog 40 #[.pointer (some ⟨g, 0, none⟩)] V4 fun e w' => e = .returned (.bool (decide (k + 1 = Bs.length))) ∧ Below V4.heap.size V4 w') := by
        have := allGone_any T Bs u1.heap.size g v (gnS Bs (k + 1)) _ V4 L8.out
        rw [all_when OK.out V1.out] at this
        exact this
      have NEXT : Hid (∀ u, Below V4.heap.size V4 u → KeepsOthers V u ∧ KpO (ownO (u2.heap.size + 1)) w.heap.size V u ∧ OrI w2 (u2.heap.size + 1) (lvS g v) (gnS Bs (k + 1)) u (.slice ov' (k + 1) kv') ∧ LvG T Bs u1.heap.size g v u (k + 1)) := fun u hb => by
        have g9 : OrI w2 (u2.heap.size + 1) (lvS g v) (gnS Bs (k + 1)) u (.slice ov' (k + 1) kv') := G8.out.butR (T' := fun _ => False) (by omega) (fun b hb => hb.elim) (fun e => N5 _ e rfl) (ButR.of_below hb)
        have s4 := G8.out.but.size
        have lt : ∀ {q : Nat} {o : Obj}, V4.heap[q]? = some o → q < V4.heap.size := fun h => (Array.getElem?_eq_some_iff.1 h).1
        exact ⟨KO.out.trans ⟨hb.size, fun j o hj _ => (hb.block j (lt hj)).trans hj⟩, KP.out.trans ⟨hb.size, fun j hj => .inl (G8.out.own.2 (g9.own.1 hj)), fun j hj => hb.block j (by omega), fun j c t z hc _ => (hb.block j (lt hc)).trans hc⟩, g9, L8.out.below hb⟩
      by_cases hall : k + 1 = Bs.length
      · have HALL : Hid (k + 1 = Bs.length) := hall
        rw [decide_eq_true hall] at AG
        clear hall
        gi_wp2_with (refine ⟨trivial, ?_⟩; gi_at_call 40; refine (CallsIn.inRound l (callsIn_wide.2 AG.out)).mono ?_; rintro e u9 ⟨rfl, hb9⟩)
        obtain ⟨n1, n2, n3, n4⟩ := NEXT.out u9 hb9
        exact ⟨n1, rfl, ⟨V1.out, HALL.out⟩, ⟨_, n3⟩, n4⟩
      · rw [decide_eq_false hall] at AG
        clear hall
        gi_wp2_with (refine ⟨trivial, ?_⟩; gi_at_call 40; refine (CallsIn.inRound l (callsIn_wide.2 AG.out)).mono ?_; rintro e u9 ⟨rfl, hb9⟩)
        obtain ⟨n1, n2, n3, n4⟩ := NEXT.out u9 hb9
        exact ⟨n1, n2, V1.out, _, n3⟩
  case done =>
    rintro D m Z hD hDZ ⟨⟨hvm, hend⟩, hlZ⟩ ⟨_, pv, hI⟩ hK
    have EO : Hid (ordS (T, Bs) = if m = Bs.length then (gnS Bs m, true) else ([], false)) := ord_end EB.out hvm (.inl hend)
    clear hend
    have VM : Hid (Vd Bs m) := hvm
    have LZ : Hid (LvG T Bs u1.heap.size g v Z m) := hlZ
    have KD : Hid (Z.heap[D]? = some (.deferred (some []))) := hK
    have sZ := hI.but.size
    obtain ⟨op, kp, rfl⟩ := Row.form hI.row
    rw [gn_len] at hI
    have IZ : Hid (OrI w2 (u2.heap.size + 1) (lvS g v) (gnS Bs m) Z (.slice op m kp)) := hI
    have BZ : Hid (Below w.heap.size w Z) := (BOXW.out w2 BU.out).2.trans (hI.but.below (B := w.heap.size) (fun b hb => by
      rcases hb with rfl | hb
      · omega
      · have := (TL.out b hb).1; omega) (by omega))
    have c4 := (cell_row ((hI.but.block u2.heap.size (by omega) (fun e => by
      rcases e with e | e
      · omega
      · have := (TL.out _ e).2; omega)).trans P4.out) 0 (.pointer (some ⟨g, 0, none⟩)) rfl).1
    have AG : Hid (Calls Tryz.prog 40 #[.pointer (some ⟨g, 0, none⟩)] Z fun e w' => e = .returned (.bool (decide (m = Bs.length))) ∧ Below Z.heap.size Z w') := by
      have := allGone_any T Bs u1.heap.size g v (gnS Bs m) _ Z LZ.out
      rw [all_when OK.out VM.out] at this
      exact this
    clear hvm hlZ hK hI
    by_cases hall : m = Bs.length
    · have ER : Hid (ordS (T, Bs) = (gnS Bs m, true)) := by show _ = _; rw [EO.out, if_pos hall]
      rw [decide_eq_true hall] at AG
      clear hall
      go_wp2_with fail
      refine Calls.mono AG.out ?_
      rintro e FW ⟨rfl, hbF⟩
      have HBF : Hid (Below Z.heap.size Z FW) := hbF
      clear hbF c4
      have c5 := (cell_row ((HBF.out.block (u2.heap.size + 1) (by omega)).trans IZ.out.b5) 0 (.slice op m kp) rfl).1
      go_wp2_with fail
      have T1 : FW.heap[D]? = some (.deferred (some [])) := (HBF.out.block D hDZ).trans KD.out
      refine ⟨by simp, .inl ⟨_, _, rfl, run_takeDeferred T1, ?_⟩⟩
      obtain ⟨FF, hFF⟩ : ∃ u, u = FW.putObj D (.deferred none) := ⟨_, rfl⟩
      rw [← hFF]
      have same : ∀ q, q ≠ D → FF.heap[q]? = FW.heap[q]? := fun q h1 => by rw [hFF]; exact World.putObj_heap_other (by omega)
      have sFF : FF.heap.size = FW.heap.size := by rw [hFF]; simp
      have h1 : Below w.heap.size w FW := BZ.out.trans (HBF.out.mono BZ.out.size)
      have BFF : Below w.heap.size w FF := by
        refine ⟨?_, ?_, ?_, by rw [sFF]; exact h1.size, fun b hb => (same b (by omega)).trans (h1.block b hb)⟩
        · rw [hFF]; exact h1.os
        · rw [hFF]; exact h1.tape
        · rw [hFF]; exact h1.output
      have rW : Row FW w2.heap.size 9 1 eS (.slice op m kp) (gnS Bs m) := Row.below IZ.out.row HBF.out
      have rF : Row FF w2.heap.size 9 1 eS (.slice op m kp) (gnS Bs m) := Row.block rW (fun q hq => same q (fun e => by
        obtain ⟨cur, hcur⟩ := rowO_cells rW hq
        subst e
        rw [hcur] at T1; cases T1))
      refine ⟨.tuple #[.slice op m kp, .bool true], (by simp [results, Tryz.results23, go_sem]), _, by rw [ER.out], ?_, BFF⟩
      rw [ER.out]
      exact onS rF (fun q hq => by have := World.ownsRow.lt rF q hq; omega) (fun y hy => by have := gn_short OK.out VM.out y hy; show _ ≤ maxLen; unfold maxLen; omega)
    · have ER : Hid (ordS (T, Bs) = ([], false)) := by show _ = _; rw [EO.out, if_neg hall]
      rw [decide_eq_false hall] at AG
      clear hall
      go_wp2_with fail
      refine Calls.mono AG.out ?_
      rintro e FW ⟨rfl, hbF⟩
      have HBF : Hid (Below Z.heap.size Z FW) := hbF
      clear hbF c4
      go_wp2_with fail
      have T1 : FW.heap[D]? = some (.deferred (some [])) := (HBF.out.block D hDZ).trans KD.out
      refine ⟨by simp, .inl ⟨_, _, rfl, run_takeDeferred T1, ?_⟩⟩
      obtain ⟨FF, hFF⟩ : ∃ u, u = FW.putObj D (.deferred none) := ⟨_, rfl⟩
      rw [← hFF]
      have same : ∀ q, q ≠ D → FF.heap[q]? = FW.heap[q]? := fun q h1 => by rw [hFF]; exact World.putObj_heap_other (by omega)
      have sFF : FF.heap.size = FW.heap.size := by rw [hFF]; simp
      have h1 : Below w.heap.size w FW := BZ.out.trans (HBF.out.mono BZ.out.size)
      have BFF : Below w.heap.size w FF := by
        refine ⟨?_, ?_, ?_, by rw [sFF]; exact h1.size, fun b hb => (same b (by omega)).trans (h1.block b hb)⟩
        · rw [hFF]; exact h1.os
        · rw [hFF]; exact h1.tape
        · rw [hFF]; exact h1.output
      refine ⟨.tuple #[.slice none 0 0, .bool false], (by simp [results, Tryz.results23, go_sem]), _, by rw [ER.out], ?_, BFF⟩
      rw [ER.out]
      exact ⟨none, 0, rfl, ⟨Nat.zero_le _, Nat.le_refl _, fun _ => rfl⟩, .inl rfl⟩
  case stop =>
    rintro D c k Z hD hDZ ⟨rfl, ⟨hvm, hkl⟩, ⟨pv, hI⟩, hlZ⟩ hK
    obtain ⟨m, hm⟩ : ∃ m, m = k + 1 := ⟨_, rfl⟩
    rw [← hm] at hvm hI hlZ hkl
    have EO : Hid (ordS (T, Bs) = if m = Bs.length then (gnS Bs m, true) else ([], false)) := ord_end EB.out hvm (.inr hkl)
    clear hm hkl
    refine wpIn_wide.2 ?_
    have VM : Hid (Vd Bs m) := hvm
    have LZ : Hid (LvG T Bs u1.heap.size g v Z m) := hlZ
    have KD : Hid (Z.heap[D]? = some (.deferred (some []))) := hK
    have sZ := hI.but.size
    obtain ⟨op, kp, rfl⟩ := Row.form hI.row
    rw [gn_len] at hI
    have IZ : Hid (OrI w2 (u2.heap.size + 1) (lvS g v) (gnS Bs m) Z (.slice op m kp)) := hI
    have BZ : Hid (Below w.heap.size w Z) := (BOXW.out w2 BU.out).2.trans (hI.but.below (B := w.heap.size) (fun b hb => by
      rcases hb with rfl | hb
      · omega
      · have := (TL.out b hb).1; omega) (by omega))
    have c4 := (cell_row ((hI.but.block u2.heap.size (by omega) (fun e => by
      rcases e with e | e
      · omega
      · have := (TL.out _ e).2; omega)).trans P4.out) 0 (.pointer (some ⟨g, 0, none⟩)) rfl).1
    have AG : Hid (Calls Tryz.prog 40 #[.pointer (some ⟨g, 0, none⟩)] Z fun e w' => e = .returned (.bool (decide (m = Bs.length))) ∧ Below Z.heap.size Z w') := by
      have := allGone_any T Bs u1.heap.size g v (gnS Bs m) _ Z LZ.out
      rw [all_when OK.out VM.out] at this
      exact this
    clear hvm hlZ hK hI
    by_cases hall : m = Bs.length
    · have ER : Hid (ordS (T, Bs) = (gnS Bs m, true)) := by show _ = _; rw [EO.out, if_pos hall]
      rw [decide_eq_true hall] at AG
      clear hall
      go_wp2_with fail
      refine Calls.mono AG.out ?_
      rintro e FW ⟨rfl, hbF⟩
      have HBF : Hid (Below Z.heap.size Z FW) := hbF
      clear hbF c4
      have c5 := (cell_row ((HBF.out.block (u2.heap.size + 1) (by omega)).trans IZ.out.b5) 0 (.slice op m kp) rfl).1
      go_wp2_with fail
      have T1 : FW.heap[D]? = some (.deferred (some [])) := (HBF.out.block D hDZ).trans KD.out
      refine ⟨by simp, .inl ⟨_, _, rfl, run_takeDeferred T1, ?_⟩⟩
      obtain ⟨FF, hFF⟩ : ∃ u, u = FW.putObj D (.deferred none) := ⟨_, rfl⟩
      rw [← hFF]
      have same : ∀ q, q ≠ D → FF.heap[q]? = FW.heap[q]? := fun q h1 => by rw [hFF]; exact World.putObj_heap_other (by omega)
      have sFF : FF.heap.size = FW.heap.size := by rw [hFF]; simp
      have h1 : Below w.heap.size w FW := BZ.out.trans (HBF.out.mono BZ.out.size)
      have BFF : Below w.heap.size w FF := by
        refine ⟨?_, ?_, ?_, by rw [sFF]; exact h1.size, fun b hb => (same b (by omega)).trans (h1.block b hb)⟩
        · rw [hFF]; exact h1.os
        · rw [hFF]; exact h1.tape
        · rw [hFF]; exact h1.output
      have rW : Row FW w2.heap.size 9 1 eS (.slice op m kp) (gnS Bs m) := Row.below IZ.out.row HBF.out
      have rF : Row FF w2.heap.size 9 1 eS (.slice op m kp) (gnS Bs m) := Row.block rW (fun q hq => same q (fun e => by
        obtain ⟨cur, hcur⟩ := rowO_cells rW hq
        subst e
        rw [hcur] at T1; cases T1))
      refine ⟨.tuple #[.slice op m kp, .bool true], (by simp [results, Tryz.results23, go_sem]), _, by rw [ER.out], ?_, BFF⟩
      rw [ER.out]
      exact onS rF (fun q hq => by have := World.ownsRow.lt rF q hq; omega) (fun y hy => by have := gn_short OK.out VM.out y hy; show _ ≤ maxLen; unfold maxLen; omega)
    · have ER : Hid (ordS (T, Bs) = ([], false)) := by show _ = _; rw [EO.out, if_neg hall]
      rw [decide_eq_false hall] at AG
      clear hall
      go_wp2_with fail
      refine Calls.mono AG.out ?_
      rintro e FW ⟨rfl, hbF⟩
      have HBF : Hid (Below Z.heap.size Z FW) := hbF
      clear hbF c4
      go_wp2_with fail
      have T1 : FW.heap[D]? = some (.deferred (some [])) := (HBF.out.block D hDZ).trans KD.out
      refine ⟨by simp, .inl ⟨_, _, rfl, run_takeDeferred T1, ?_⟩⟩
      obtain ⟨FF, hFF⟩ : ∃ u, u = FW.putObj D (.deferred none) := ⟨_, rfl⟩
      rw [← hFF]
      have same : ∀ q, q ≠ D → FF.heap[q]? = FW.heap[q]? := fun q h1 => by rw [hFF]; exact World.putObj_heap_other (by omega)
      have sFF : FF.heap.size = FW.heap.size := by rw [hFF]; simp
      have h1 : Below w.heap.size w FW := BZ.out.trans (HBF.out.mono BZ.out.size)
      have BFF : Below w.heap.size w FF := by
        refine ⟨?_, ?_, ?_, by rw [sFF]; exact h1.size, fun b hb => (same b (by omega)).trans (h1.block b hb)⟩
        · rw [hFF]; exact h1.os
        · rw [hFF]; exact h1.tape
        · rw [hFF]; exact h1.output
      refine ⟨.tuple #[.slice none 0 0, .bool false], (by simp [results, Tryz.results23, go_sem]), _, by rw [ER.out], ?_, BFF⟩
      rw [ER.out]
      exact ⟨none, 0, rfl, ⟨Nat.zero_le _, Nat.le_refl _, fun _ => rfl⟩, .inl rfl⟩
end Go.Proofs.YtaejlcanccfmmaaGreatDoor

namespace Go.Proofs.YtaejlcanccfmmaaGreatDoor
open Go.RowKit
set_option maxRecDepth 100000 in
set_option maxHeartbeats 8000000 in
theorem safeP_any (S : Nat → Prop) (T : List ByteArray) (Bs : List DShareBatch) (o0 oa : Option Addr) (n0 k0 nb kb : Nat) (w : World) (h0 : AtL S w T (.slice o0 n0 k0)) (h1 : AtL S w Bs (.slice oa nb kb)) (hS : ∀ b, S b → b < w.heap.size) (ht : Lay.tot (α := DShareBook) (T, Bs) ≤ 1048576) :
    Calls Tryz.prog 8 #[.agg #[.slice o0 n0 k0, .slice oa nb kb]] w fun e w' => e = .returned (.bool ((ordS (T, Bs)).2)) ∧ Below w.heap.size w w' := by
  obtain ⟨W, EW, BW, RW, -⟩ := box_new w #[.slice o0 n0 k0, .slice oa nb kb] 26
  obtain ⟨r, hr⟩ : ∃ r, r = (ordS (T, Bs)).2 := ⟨_, rfl⟩
  have CO : Hid (Calls Tryz.prog 23 #[.agg #[.slice o0 n0 k0, .slice oa nb kb]] W fun e w' => ∃ (o : Option Addr) (n k : Nat), e = .returned (.tuple #[.slice o n k, .bool r]) ∧ Below W.heap.size W w') := by
    rw [hr]
    refine (orderP_any S T Bs _ _ W (h0.same (Same.of_below BW.out hS)) (h1.same (Same.of_below BW.out hS)) (fun b hb => Nat.lt_of_lt_of_le (hS b hb) BW.out.size) ht).mono fun e w' ⟨q, he, hq, hb⟩ => ?_
    obtain ⟨o, k, eq, _⟩ := hq
    subst eq
    exact ⟨o, _, k, he, hb⟩
  rw [← hr]
  clear hr h0 h1
  have y0 := (cell_row RW.out 0 (.slice o0 n0 k0) rfl).1
  have y1 := (cell_row RW.out 1 (.slice oa nb kb) rfl).1
  go_enter Tryz.func8, Tryz.ntmps8
  go_upto_region 1 with fail
  rw [← EW.out]
  go_wp2_with fail
  refine Calls.mono CO.out ?_
  rintro e u1 ⟨o, n, k, rfl, hb1⟩
  have B1 : Hid (Below w.heap.size w u1) := BW.out.trans (hb1.mono BW.out.size)
  clear hb1 y0 y1
  go_wp2_with fail
  go_ret
  exact ⟨rfl, B1.out⟩
end Go.Proofs.YtaejlcanccfmmaaGreatDoor
