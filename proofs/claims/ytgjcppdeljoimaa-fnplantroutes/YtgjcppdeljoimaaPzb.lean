import Derived.Test.YtgjcppdeljoimaaM6
import Derived.Laws.ResultCell
import Derived.Deep.Cut
namespace Go.Proofs.Ytgjcppdeljoimaa
open Go.RowKit Go.Sort
set_option maxRecDepth 100000 in
set_option maxHeartbeats 4000000 in
theorem putX_ex (B : Nat) (v0 v1 v2 v3 : Value) (X : PlL) (nm st : ByteArray) (cp : Int) (w : World) (h : PlR B w v0 v1 v2 v3 X) (hX : X.Ok) (hnm : nm.size ≤ maxLen) (hst : st.size ≤ maxLen) (hB : B ≤ w.heap.size) :
    Calls Try.prog 85 #[.agg #[v0, v1, v2, v3], .agg #[.string nm, .int .i64 cp, .string st]] w fun e w' => PutP B w e w' := by
  obtain ⟨o0, c0, rfl⟩ := Row.form h.s
  obtain ⟨o1, c1, rfl⟩ := Row.form h.f
  obtain ⟨o2, c2, rfl⟩ := Row.form h.p
  obtain ⟨o3, c3, rfl⟩ := Row.form h.v
  generalize en0 : X.ss.length = n0 at h ⊢
  generalize en1 : X.ff.length = n1 at h ⊢
  generalize en2 : X.pp.length = n2 at h ⊢
  generalize en3 : X.vv.length = n3 at h ⊢
  have HH : Hid (PlR B w (.slice o0 n0 c0) (.slice o1 n1 c1) (.slice o2 n2 c2) (.slice o3 n3 c3) X) := h
  clear h
  obtain ⟨W, hW⟩ : ∃ W, W = ((w.alloc (.cells #[.slice o0 n0 c0, .slice o1 n1 c1, .slice o2 n2 c2, .slice o3 n3 c3] 28)).alloc (.cells #[.string nm, .int .i64 cp, .string st] 63)).alloc (.cells #[.slice none 0 0, .slice none 0 0, .slice none 0 0, .slice none 0 0] 28) := ⟨_, rfl⟩
  have hbW : Hid (Below w.heap.size w W) := by rw [hW]; exact (((Below.refl _ _).alloc (Nat.le_refl _) _).alloc (by simp) _).alloc (by simp; omega) _
  have hsW : W.heap.size = w.heap.size + 1 + 1 + 1 := by rw [hW]; simp
  have HP : Hid (W.heap[w.heap.size]? = some (.cells #[.slice o0 n0 c0, .slice o1 n1 c1, .slice o2 n2 c2, .slice o3 n3 c3] 28 (0, 0))) := by
    rw [hW]; exact (Below.heap_alloc _ _ _ (by simp; omega)).trans ((Below.heap_alloc _ _ _ (by simp)).trans (heap_alloc_new w _))
  have HX : Hid (W.heap[w.heap.size + 1]? = some (.cells #[.string nm, .int .i64 cp, .string st] 63 (0, 0))) := by
    have e : (w.alloc (.cells #[.slice o0 n0 c0, .slice o1 n1 c1, .slice o2 n2 c2, .slice o3 n3 c3] 28)).heap.size = w.heap.size + 1 := by simp
    rw [hW]
    refine (Below.heap_alloc _ _ _ (by simp)).trans ?_
    rw [← e]; exact heap_alloc_new _ _
  have HR : Hid (W.heap[w.heap.size + 1 + 1]? = some (.cells #[.slice none 0 0, .slice none 0 0, .slice none 0 0, .slice none 0 0] 28 (0, 0))) := by
    have e : ((w.alloc (.cells #[.slice o0 n0 c0, .slice o1 n1 c1, .slice o2 n2 c2, .slice o3 n3 c3] 28)).alloc (.cells #[.string nm, .int .i64 cp, .string st] 63)).heap.size = w.heap.size + 1 + 1 := by simp
    rw [hW, ← e]; exact heap_alloc_new _ _
  have HW : Hid (PlR B W (.slice o0 n0 c0) (.slice o1 n1 c1) (.slice o2 n2 c2) (.slice o3 n3 c3) X) := HH.out.below hbW.out
  have G0 := (cell_row HX.out 0 _ rfl).1
  simp only [List.getElem_toArray, List.getElem_cons_zero] at G0
  obtain ⟨X0, _⟩ := cell_row (HP.out) 0 _ rfl
  obtain ⟨X1, _⟩ := cell_row (HP.out) 1 _ rfl
  obtain ⟨X2, _⟩ := cell_row (HP.out) 2 _ rfl
  obtain ⟨X3, _⟩ := cell_row (HP.out) 3 _ rfl
  simp only [List.getElem_toArray, List.getElem_cons_zero, List.getElem_cons_succ] at X0 X1 X2 X3
  go_enter Try.func85, Try.ntmps85
  go_upto_region 1 with fail
  rw [← hW]
  clear hW
  go_wp2_with fail
  refine (place_any W.heap.size _ _ _ _ n2 (fun i => X.pp.getD i (ByteArray.empty, 0, ByteArray.empty)) nm _ (by have := row_lst HW.out.p (ByteArray.empty, 0, ByteArray.empty); rw [en2] at this; exact this) (Nat.le_refl _)).mono ?_; rintro e w1 ⟨rfl, hb1⟩
  have HB1 : Hid (Below W.heap.size W w1) := hb1
  clear hb1 X0 X1 X2 X3 G0
  generalize placeI n2 _ nm = pl
  cases dh : decide (0 ≤ pl)
  case true =>
    have hsu_ : W.heap.size ≤ w1.heap.size := HB1.out.size
    obtain ⟨xr0, _⟩ := cell_row ((HB1.out.block _ (by omega)).trans HP.out) 0 _ rfl
    obtain ⟨xr1, _⟩ := cell_row ((HB1.out.block _ (by omega)).trans HP.out) 1 _ rfl
    obtain ⟨xr2, _⟩ := cell_row ((HB1.out.block _ (by omega)).trans HP.out) 2 _ rfl
    obtain ⟨xr3, _⟩ := cell_row ((HB1.out.block _ (by omega)).trans HP.out) 3 _ rfl
    simp only [List.getElem_toArray, List.getElem_cons_zero, List.getElem_cons_succ] at xr0 xr1 xr2 xr3
    obtain ⟨zr0, tzr0⟩ := cell_row ((HB1.out.block (w.heap.size + 1 + 1) (by omega)).trans HR.out) 0 _ rfl
    obtain ⟨zr1, tzr1⟩ := cell_row ((HB1.out.block (w.heap.size + 1 + 1) (by omega)).trans HR.out) 1 _ rfl
    obtain ⟨zr2, tzr2⟩ := cell_row ((HB1.out.block (w.heap.size + 1 + 1) (by omega)).trans HR.out) 2 _ rfl
    obtain ⟨zr3, tzr3⟩ := cell_row ((HB1.out.block (w.heap.size + 1 + 1) (by omega)).trans HR.out) 3 _ rfl
    simp only [List.getElem_toArray, List.getElem_cons_zero, List.getElem_cons_succ] at zr0 zr1 zr2 zr3
    have R4 := hidZ (ret4 ((HB1.out.block (w.heap.size + 1 + 1) (by omega)).trans HR.out) (.slice o0 n0 c0) (.slice o1 n1 c1) (.slice o2 n2 c2) (.slice o3 n3 c3))
    have ff0 := hidZ (cell_row R4.out.1 0 _ rfl).1
    have ff1 := hidZ (cell_row R4.out.1 1 _ rfl).1
    have ff2 := hidZ (cell_row R4.out.1 2 _ rfl).1
    have ff3 := hidZ (cell_row R4.out.1 3 _ rfl).1
    have hF := hidZ (hbW.out.trans ((HB1.out.mono (by omega)).trans (R4.out.2.2.2.mono (by omega))))
    go_wp2_with fail
    all_goals exact bodyPost_ret (v := .tuple #[.agg #[.slice o0 n0 c0, .slice o1 n1 c1, .slice o2 n2 c2, .slice o3 n3 c3], .int .i64 4]) (by simp [results, Try.results85, go_sem, ff0.out, ff1.out, ff2.out, ff3.out]) rfl (putP (HH.out.below hF.out) hX hF.out)
  case false =>
    cases dl : decide ((14 : Int) ≤ (n2 : Int))
    case true =>
      have hsu_ : W.heap.size ≤ w1.heap.size := HB1.out.size
      obtain ⟨xr0, _⟩ := cell_row ((HB1.out.block _ (by omega)).trans HP.out) 0 _ rfl
      obtain ⟨xr1, _⟩ := cell_row ((HB1.out.block _ (by omega)).trans HP.out) 1 _ rfl
      obtain ⟨xr2, _⟩ := cell_row ((HB1.out.block _ (by omega)).trans HP.out) 2 _ rfl
      obtain ⟨xr3, _⟩ := cell_row ((HB1.out.block _ (by omega)).trans HP.out) 3 _ rfl
      simp only [List.getElem_toArray, List.getElem_cons_zero, List.getElem_cons_succ] at xr0 xr1 xr2 xr3
      obtain ⟨zr0, tzr0⟩ := cell_row ((HB1.out.block (w.heap.size + 1 + 1) (by omega)).trans HR.out) 0 _ rfl
      obtain ⟨zr1, tzr1⟩ := cell_row ((HB1.out.block (w.heap.size + 1 + 1) (by omega)).trans HR.out) 1 _ rfl
      obtain ⟨zr2, tzr2⟩ := cell_row ((HB1.out.block (w.heap.size + 1 + 1) (by omega)).trans HR.out) 2 _ rfl
      obtain ⟨zr3, tzr3⟩ := cell_row ((HB1.out.block (w.heap.size + 1 + 1) (by omega)).trans HR.out) 3 _ rfl
      simp only [List.getElem_toArray, List.getElem_cons_zero, List.getElem_cons_succ] at zr0 zr1 zr2 zr3
      have R4 := hidZ (ret4 ((HB1.out.block (w.heap.size + 1 + 1) (by omega)).trans HR.out) (.slice o0 n0 c0) (.slice o1 n1 c1) (.slice o2 n2 c2) (.slice o3 n3 c3))
      have ff0 := hidZ (cell_row R4.out.1 0 _ rfl).1
      have ff1 := hidZ (cell_row R4.out.1 1 _ rfl).1
      have ff2 := hidZ (cell_row R4.out.1 2 _ rfl).1
      have ff3 := hidZ (cell_row R4.out.1 3 _ rfl).1
      have hF := hidZ (hbW.out.trans ((HB1.out.mono (by omega)).trans (R4.out.2.2.2.mono (by omega))))
      go_wp2_with fail
      all_goals exact bodyPost_ret (v := .tuple #[.agg #[.slice o0 n0 c0, .slice o1 n1 c1, .slice o2 n2 c2, .slice o3 n3 c3], .int .i64 6]) (by simp [results, Try.results85, go_sem, ff0.out, ff1.out, ff2.out, ff3.out]) rfl (putP (HH.out.below hF.out) hX hF.out)
    case false =>
      have hl : n2 < 14 := by have := of_decide_eq_false dl; omega
      obtain ⟨x_0, _⟩ := cell_row ((HB1.out.block _ (by omega)).trans HP.out) 0 _ rfl
      obtain ⟨x_1, _⟩ := cell_row ((HB1.out.block _ (by omega)).trans HP.out) 1 _ rfl
      obtain ⟨x_2, _⟩ := cell_row ((HB1.out.block _ (by omega)).trans HP.out) 2 _ rfl
      obtain ⟨x_3, _⟩ := cell_row ((HB1.out.block _ (by omega)).trans HP.out) 3 _ rfl
      simp only [List.getElem_toArray, List.getElem_cons_zero, List.getElem_cons_succ] at x_0 x_1 x_2 x_3
      go_wp2_with fail
      go_loopw [6] (fun i wr => ∃ k : Nat, k ≤ n2 ∧ i = .int .i64 k ∧ Hid (Below W.heap.size W wr)) (fun i _ => n2 - (intOf i).toNat)
      case atStart => exact ⟨0, Nat.zero_le _, rfl, HB1⟩
      case round =>
        obtain ⟨k, hk, rfl, hbel⟩ := hrel
        have hsr : W.heap.size ≤ wr.heap.size := hbel.out.size
        obtain ⟨x0, y0⟩ := cell_row ((hbel.out.block _ (by omega)).trans HP.out) 2 _ rfl
        obtain ⟨g3, _⟩ := cell_row ((hbel.out.block _ (by omega)).trans HX.out) 0 _ rfl
        simp only [List.getElem_toArray, List.getElem_cons_zero, List.getElem_cons_succ] at x0 g3
        have q_x := fun d os => cell_regrown x0 d os
        have q_g := fun d os => cell_regrown g3 d os
        by_cases hlt : k < n2
        · obtain ⟨g, cap', e', _, hgW, hcell⟩ := Row.cell HW.out.p (i := k) (by omega)
          injection e' with e1 e2 e3
          subst e1
          obtain ⟨y, ey⟩ : ∃ y, (X.pp[k]'(by omega)).1 = y := ⟨_, rfl⟩
          have e0 : wr.cell? ⟨g, k * 3, none⟩ = some (.string y) := (hbel.out.cell (p := ⟨g, k * 3, none⟩) (by show g < _; omega)).trans (by have := (hcell 0 (by omega)).1; rw [← ey]; exact this)
          clear e2 e3 hcell
          have q_e := fun d os => cell_regrown e0 d os
          have hlt' : ((k : Int) < (n2 : Int)) := by omega
          cases hlb : Op.bytesLess y.toList nm.toList
          · go_wp2_with fail
            refine wp_region_quiet_below (by kernel_rfl) (by kernel_rfl) ?_
            repeat (first | go_big_quiet_step (fail) | quiet_step (fail))
            refine wpQuiet_nil ?_
            intro _ hw'
            obtain ⟨⟨dq, osq⟩, hw''⟩ := hw'
            subst hw''
            have hb3 : Hid (Below W.heap.size W (grow (redrawn wr dq) osq)) := hbel.out.trans ((below_regrown _ dq osq).mono hbel.out.size)
            generalize grow (redrawn wr dq) osq = u at hb3 ⊢
            have hsu : W.heap.size ≤ u.heap.size := hb3.out.size
            obtain ⟨xu2, yu2⟩ := cell_row ((hb3.out.block _ (by omega)).trans HP.out) 2 _ rfl
            obtain ⟨gu0, _⟩ := cell_row ((hb3.out.block _ (by omega)).trans HX.out) 0 _ rfl
            obtain ⟨gu1, _⟩ := cell_row ((hb3.out.block _ (by omega)).trans HX.out) 1 _ rfl
            obtain ⟨gu2, _⟩ := cell_row ((hb3.out.block _ (by omega)).trans HX.out) 2 _ rfl
            simp only [List.getElem_toArray, List.getElem_cons_zero, List.getElem_cons_succ] at xu2 gu0 gu1 gu2
            have q_xu := fun d os => cell_regrown xu2 d os
            have q_gu0 := fun d os => cell_regrown gu0 d os
            have q_gu1 := fun d os => cell_regrown gu1 d os
            have q_gu2 := fun d os => cell_regrown gu2 d os
            have SR : Src u (.slice (some ⟨g, 0, none⟩) n2 c2) n2 3 (enc 3 e3P X.pp) := by have := row_src (HW.out.p.below hb3.out); rw [en2] at this; exact this
            have hcap : n2 ≤ c2 := by
              rcases HW.out.p.2 with ⟨e, _⟩ | ⟨_, _, cur, e, _, _, hc, _⟩
              · cases e
              · injection e with _ _ e; omega
            have s1 : Src u (.slice (some ⟨g, 0, none⟩) k c2) k 3 (enc 3 e3P (X.pp.take k)) := by
              have := Src.take_ SR hk c2
              rwa [enc_take] at this
            have s2 : Src u (.slice (if c2 = k then some ⟨g, 0, none⟩ else some ⟨g, k * 3, none⟩) (n2 - k) (c2 - k)) (n2 - k) 3 (enc 3 e3P (X.pp.drop k)) := by
              have := Src.drop_ SR hk hcap
              rw [enc_drop, Nat.zero_add] at this
              exact this
            have hkc : (k : Int) ≤ (c2 : Int) := by omega
            have hkn : (k : Int) ≤ (n2 : Int) := by omega
            clear SR
            go_wp2_with fail
            refine wp_region_mix 14 [1, 2, 3, 4, 6, 9, 10, 11, 12] (by kernel_rfl) (by kernel_rfl) ?_
            simp only [List.filterMap_cons, List.filterMap_nil, List.getElem?_cons_succ, List.getElem?_cons_zero]
            repeat (first | go_big_quiet_step (fail) | quiet_step (fail))
            refine wpQuiet_nil ?_
            refine ins3 (md := .any) (i0 := 0) (i1 := 5) (i2 := 7) (i3 := 8) (i4 := 13) (d0 := 36) (d1 := 41) (d2 := 43) (d3 := 44) (d4 := 49) (k1 := 40) (k2 := 48) (kx := 42) (X := .agg #[.string nm, .int .i64 cp, .string st]) (t := 25) (e := 63)
              ⟨_, _, _, _, _, ⟨rfl, rfl, rfl, by decide⟩, ⟨rfl, rfl, rfl, by decide⟩, ⟨rfl, rfl, rfl, by decide⟩, ⟨rfl, rfl, rfl, by decide⟩, ⟨rfl, rfl, rfl, by decide⟩, rfl, rfl, rfl, ?run0, ?run2, by decide, by decide, by kernel_rfl, by kernel_rfl, by kernel_rfl, by kernel_rfl, by kernel_rfl, by kernel_rfl, by kernel_rfl⟩
              elP3 (W := u) ⟨by simp, by simp, by simp, by simp, by simp⟩ rfl rfl rfl s1 s2 rfl (enc_one' one_P _) (enc_one' one_P _) ?ux (by omega) (by unfold maxLen; omega) ?K
            case run0 => intro bb ww; go_simp
            case run2 =>
              intro bb hx ww
              have hx' : bb.tmps[42]?.getD undef = .agg #[.string nm, .int .i64 cp, .string st] := by simpa [Act.eval] using hx
              clear hx
              go_simp
            case ux => intro v hv; simp [Value.cells] at hv; rcases hv with rfl | rfl | rfl <;> rfl
            case K =>
              intro r0 r1 r2 r3 r4 w4 hown hb4
              refine ⟨by kernel_rfl, ?_⟩
              simp only [List.drop_succ_cons, List.drop_zero]
              have HOW : Hid (Row w4 u.heap.size 63 3 e3P r4 (X.pp.take k ++ (nm, cp, st) :: X.pp.drop k)) := ins_rowP (n := n2) en2 (by omega) (m := (n2 - k)) (by omega) rfl (x := (nm, cp, st)) rfl hown
              have hbw : Hid (Below W.heap.size W w4) := hb3.out.trans (hb4.mono hsu)
              have hs4 : u.heap.size ≤ w4.heap.size := hb4.size
              have HLN : Hid ((X.pp.take k ++ (nm, cp, st) :: X.pp.drop k).length = n2 + 1) := by show _ = _; simp; omega
              obtain ⟨nl, hnl⟩ : ∃ n, (X.pp.take k ++ (nm, cp, st) :: X.pp.drop k).length = n := ⟨_, rfl⟩
              obtain ⟨r, c4, cur4, e4, hr1, hr2, _⟩ : ∃ g c cur, r4 = .slice (some ⟨g, 0, none⟩) (X.pp.take k ++ (nm, cp, st) :: X.pp.drop k).length c ∧ u.heap.size ≤ g ∧ w4.heap[g]? = some (.cells cur 63 (0, 0)) ∧ True := by
                rcases HOW.out.2 with ⟨_, e⟩ | ⟨g, c, cur, e, hg, hr, _⟩
                · have := HLN.out; omega
                · exact ⟨g, c, cur, e, hg, hr, trivial⟩
              rw [hnl] at e4
              have H4 : Hid (r4 = .slice (some ⟨r, 0, none⟩) nl c4) := e4
              subst e4
              obtain ⟨p2, r_2⟩ := cell_row ((hbw.out.block _ (by omega)).trans HP.out) 2 _ rfl
              simp only [List.getElem_toArray, List.getElem_cons_zero, List.getElem_cons_succ] at p2
              have HP5 : Hid ((w4.setCell ⟨w.heap.size, 2, none⟩ (.slice (some ⟨r, 0, none⟩) nl c4)).heap[w.heap.size]? = some (.cells #[.slice o0 n0 c0, .slice o1 n1 c1, .slice (some ⟨r, 0, none⟩) nl c4, .slice o3 n3 c3] 28 (0, 0))) := set_row ((hbw.out.block w.heap.size (by omega)).trans HP.out) 2 (.slice (some ⟨r, 0, none⟩) nl c4)
              have HR5 : Hid ((w4.setCell ⟨w.heap.size, 2, none⟩ (.slice (some ⟨r, 0, none⟩) nl c4)).heap[w.heap.size + 1 + 1]? = some (.cells #[.slice none 0 0, .slice none 0 0, .slice none 0 0, .slice none 0 0] 28 (0, 0))) := (Below.heap_setCell _ ⟨w.heap.size, 2, none⟩ _ _ (by show _ ≠ w.heap.size; omega)).trans ((hbw.out.block (w.heap.size + 1 + 1) (by omega)).trans HR.out)
              have hB5 : Hid (Below w.heap.size w (w4.setCell ⟨w.heap.size, 2, none⟩ (.slice (some ⟨r, 0, none⟩) nl c4))) := (hbW.out.trans (hbw.out.mono (by omega))).setCell (p := ⟨w.heap.size, 2, none⟩) (by show w.heap.size ≤ w.heap.size; omega) (.slice (some ⟨r, 0, none⟩) nl c4)
              have HO5 : Hid (Row (w4.setCell ⟨w.heap.size, 2, none⟩ (.slice (some ⟨r, 0, none⟩) nl c4)) u.heap.size 63 3 e3P (.slice (some ⟨r, 0, none⟩) nl c4) (X.pp.take k ++ (nm, cp, st) :: X.pp.drop k)) := HOW.out.block (fun q hq => Below.heap_setCell _ ⟨w.heap.size, 2, none⟩ _ q (by cases hq; show r ≠ w.heap.size; omega))
              have hru : Hid (u.heap.size ≤ r) := hr1
              clear hr2 xu2 yu2 hb4 hown s1 s2 q_gu0 gu0 q_gu1 gu1 q_gu2 gu2 q_xu hkc hkn q_x q_g x0 g3 y0
              simp only [Act.put, List.setIfInBounds_toArray, List.set_cons_zero, List.set_cons_succ]
              go_upto_region 9 with fail
              generalize (w4.setCell ⟨w.heap.size, 2, none⟩ (.slice (some ⟨r, 0, none⟩) nl c4)) = w5 at HP5 HR5 hB5 HO5 ⊢
              clear p2 r_2
              have HOK : Hid (PlL.Ok { X with pp := X.pp.take k ++ (nm, cp, st) :: X.pp.drop k }) := ⟨hX.ns, hX.nf, by show (X.pp.take k ++ (nm, cp, st) :: X.pp.drop k).length ≤ 18; have := HLN.out; omega, hX.nv, hX.s, hX.f, fun y hy => by
                  rcases List.mem_append.1 hy with hy | hy
                  · exact hX.p _ (List.mem_of_mem_take hy)
                  · rcases List.mem_cons.1 hy with rfl | hy
                    · exact ⟨hnm, hst⟩
                    · exact hX.p _ (List.mem_of_mem_drop hy), hX.v⟩
              have hru2 := hru.out
              obtain ⟨xr0, _⟩ := cell_row (HP5.out) 0 _ rfl
              obtain ⟨xr1, _⟩ := cell_row (HP5.out) 1 _ rfl
              obtain ⟨xr2, _⟩ := cell_row (HP5.out) 2 _ rfl
              obtain ⟨xr3, _⟩ := cell_row (HP5.out) 3 _ rfl
              simp only [List.getElem_toArray, List.getElem_cons_zero, List.getElem_cons_succ] at xr0 xr1 xr2 xr3
              obtain ⟨zr0, tzr0⟩ := cell_row (HR5.out) 0 _ rfl
              obtain ⟨zr1, tzr1⟩ := cell_row (HR5.out) 1 _ rfl
              obtain ⟨zr2, tzr2⟩ := cell_row (HR5.out) 2 _ rfl
              obtain ⟨zr3, tzr3⟩ := cell_row (HR5.out) 3 _ rfl
              simp only [List.getElem_toArray, List.getElem_cons_zero, List.getElem_cons_succ] at zr0 zr1 zr2 zr3
              have R4 := hidZ (ret4 (HR5.out) (.slice o0 n0 c0) (.slice o1 n1 c1) (.slice (some ⟨r, 0, none⟩) nl c4) (.slice o3 n3 c3))
              have ff0 := hidZ (cell_row R4.out.1 0 _ rfl).1
              have ff1 := hidZ (cell_row R4.out.1 1 _ rfl).1
              have ff2 := hidZ (cell_row R4.out.1 2 _ rfl).1
              have ff3 := hidZ (cell_row R4.out.1 3 _ rfl).1
              have hF := hidZ (hB5.out.trans (R4.out.2.2.2.mono (by omega)))
              go_wp2_with fail
              all_goals exact bodyPost_ret (v := .tuple #[.agg #[.slice o0 n0 c0, .slice o1 n1 c1, .slice (some ⟨r, 0, none⟩) nl c4, .slice o3 n3 c3], .int .i64 0]) (by simp [results, Try.results85, go_sem, ff0.out, ff1.out, ff2.out, ff3.out]) rfl (putP (X := { X with pp := X.pp.take k ++ (nm, cp, st) :: X.pp.drop k }) ⟨HH.out.s.below hF.out, HH.out.f.below hF.out, (HO5.out.block (fun q hq => R4.out.2.1 q (by cases hq; show r ≠ _; omega))).low (by omega), HH.out.v.below hF.out⟩ HOK.out hF.out)
          · go_wp2_with fail
            refine wp_region_quiet_below (by kernel_rfl) (by kernel_rfl) ?_
            repeat (first | go_big_quiet_step (fail) | quiet_step (fail))
            refine wpQuiet_nil ?_
            intro _ hw'
            obtain ⟨⟨dq, osq⟩, hw''⟩ := hw'
            subst hw''
            have hb3 : Hid (Below W.heap.size W (grow (redrawn wr dq) osq)) := hbel.out.trans ((below_regrown _ dq osq).mono hbel.out.size)
            generalize grow (redrawn wr dq) osq = u at hb3 ⊢
            go_wp2_with fail
            go_roundw
            case rel => exact ⟨k + 1, by omega, by go_num, hb3⟩
            case measure => simp [intOf]; omega
        · have hge : decide ((k : Int) < (n2 : Int)) = false := by simp; omega
          rcases Go.Joins.ownsRow_forms HW.out.p with ⟨e', hn0⟩ | ⟨g, cap', e'⟩
          · injection e' with e1 e2 e3
            subst e1
            obtain rfl : n2 = 0 := e2
            obtain rfl : c2 = 0 := e3
            obtain rfl : k = 0 := by omega
            go_wp2_with fail
            refine wp_region_quiet_below (by kernel_rfl) (by kernel_rfl) ?_
            repeat (first | go_big_quiet_step (fail) | quiet_step (fail))
            refine wpQuiet_nil ?_
            intro _ hw'
            obtain ⟨⟨dq, osq⟩, hw''⟩ := hw'
            subst hw''
            have hb3 : Hid (Below W.heap.size W (grow (redrawn wr dq) osq)) := hbel.out.trans ((below_regrown _ dq osq).mono hbel.out.size)
            generalize grow (redrawn wr dq) osq = u at hb3 ⊢
            have hsu : W.heap.size ≤ u.heap.size := hb3.out.size
            obtain ⟨xu2, yu2⟩ := cell_row ((hb3.out.block _ (by omega)).trans HP.out) 2 _ rfl
            obtain ⟨gu0, _⟩ := cell_row ((hb3.out.block _ (by omega)).trans HX.out) 0 _ rfl
            obtain ⟨gu1, _⟩ := cell_row ((hb3.out.block _ (by omega)).trans HX.out) 1 _ rfl
            obtain ⟨gu2, _⟩ := cell_row ((hb3.out.block _ (by omega)).trans HX.out) 2 _ rfl
            simp only [List.getElem_toArray, List.getElem_cons_zero, List.getElem_cons_succ] at xu2 gu0 gu1 gu2
            have q_xu := fun d os => cell_regrown xu2 d os
            have q_gu0 := fun d os => cell_regrown gu0 d os
            have q_gu1 := fun d os => cell_regrown gu1 d os
            have q_gu2 := fun d os => cell_regrown gu2 d os
            have SR : Src u (.slice none 0 0) 0 3 (enc 3 e3P X.pp) := by have := row_src (HW.out.p.below hb3.out); rw [en2] at this; exact this
            have hnil : X.pp = [] := List.eq_nil_of_length_eq_zero en2
            have s1 : Src u (.slice none 0 0) 0 3 (enc 3 e3P (X.pp.take 0)) := by rw [hnil]; exact Src.none_ u 3
            have s2 : Src u (.slice none 0 0) 0 3 (enc 3 e3P (X.pp.drop 0)) := by rw [hnil]; exact Src.none_ u 3
            clear SR
            go_wp2_with fail
            refine wp_region_mix 14 [1, 2, 3, 4, 6, 9, 10, 11, 12] (by kernel_rfl) (by kernel_rfl) ?_
            simp only [List.filterMap_cons, List.filterMap_nil, List.getElem?_cons_succ, List.getElem?_cons_zero]
            repeat (first | go_big_quiet_step (fail) | quiet_step (fail))
            refine wpQuiet_nil ?_
            refine ins3 (md := .any) (i0 := 0) (i1 := 5) (i2 := 7) (i3 := 8) (i4 := 13) (d0 := 36) (d1 := 41) (d2 := 43) (d3 := 44) (d4 := 49) (k1 := 40) (k2 := 48) (kx := 42) (X := .agg #[.string nm, .int .i64 cp, .string st]) (t := 25) (e := 63)
              ⟨_, _, _, _, _, ⟨rfl, rfl, rfl, by decide⟩, ⟨rfl, rfl, rfl, by decide⟩, ⟨rfl, rfl, rfl, by decide⟩, ⟨rfl, rfl, rfl, by decide⟩, ⟨rfl, rfl, rfl, by decide⟩, rfl, rfl, rfl, ?run0, ?run2, by decide, by decide, by kernel_rfl, by kernel_rfl, by kernel_rfl, by kernel_rfl, by kernel_rfl, by kernel_rfl, by kernel_rfl⟩
              elP3 (W := u) ⟨by simp, by simp, by simp, by simp, by simp⟩ rfl rfl rfl s1 s2 rfl (enc_one' one_P _) (enc_one' one_P _) ?ux (by omega) (by unfold maxLen; omega) ?K
            case run0 => intro bb ww; go_simp
            case run2 =>
              intro bb hx ww
              have hx' : bb.tmps[42]?.getD undef = .agg #[.string nm, .int .i64 cp, .string st] := by simpa [Act.eval] using hx
              clear hx
              go_simp
            case ux => intro v hv; simp [Value.cells] at hv; rcases hv with rfl | rfl | rfl <;> rfl
            case K =>
              intro r0 r1 r2 r3 r4 w4 hown hb4
              refine ⟨by kernel_rfl, ?_⟩
              simp only [List.drop_succ_cons, List.drop_zero]
              have HOW : Hid (Row w4 u.heap.size 63 3 e3P r4 (X.pp.take 0 ++ (nm, cp, st) :: X.pp.drop 0)) := ins_rowP (n := 0) en2 (by omega) (m := 0) (by omega) rfl (x := (nm, cp, st)) rfl hown
              have hbw : Hid (Below W.heap.size W w4) := hb3.out.trans (hb4.mono hsu)
              have hs4 : u.heap.size ≤ w4.heap.size := hb4.size
              have HLN : Hid ((X.pp.take 0 ++ (nm, cp, st) :: X.pp.drop 0).length = 0 + 1) := by show _ = _; simp; omega
              obtain ⟨nl, hnl⟩ : ∃ n, (X.pp.take 0 ++ (nm, cp, st) :: X.pp.drop 0).length = n := ⟨_, rfl⟩
              obtain ⟨r, c4, cur4, e4, hr1, hr2, _⟩ : ∃ g c cur, r4 = .slice (some ⟨g, 0, none⟩) (X.pp.take 0 ++ (nm, cp, st) :: X.pp.drop 0).length c ∧ u.heap.size ≤ g ∧ w4.heap[g]? = some (.cells cur 63 (0, 0)) ∧ True := by
                rcases HOW.out.2 with ⟨_, e⟩ | ⟨g, c, cur, e, hg, hr, _⟩
                · have := HLN.out; omega
                · exact ⟨g, c, cur, e, hg, hr, trivial⟩
              rw [hnl] at e4
              have H4 : Hid (r4 = .slice (some ⟨r, 0, none⟩) nl c4) := e4
              subst e4
              obtain ⟨p2, r_2⟩ := cell_row ((hbw.out.block _ (by omega)).trans HP.out) 2 _ rfl
              simp only [List.getElem_toArray, List.getElem_cons_zero, List.getElem_cons_succ] at p2
              have HP5 : Hid ((w4.setCell ⟨w.heap.size, 2, none⟩ (.slice (some ⟨r, 0, none⟩) nl c4)).heap[w.heap.size]? = some (.cells #[.slice o0 n0 c0, .slice o1 n1 c1, .slice (some ⟨r, 0, none⟩) nl c4, .slice o3 n3 c3] 28 (0, 0))) := set_row ((hbw.out.block w.heap.size (by omega)).trans HP.out) 2 (.slice (some ⟨r, 0, none⟩) nl c4)
              have HR5 : Hid ((w4.setCell ⟨w.heap.size, 2, none⟩ (.slice (some ⟨r, 0, none⟩) nl c4)).heap[w.heap.size + 1 + 1]? = some (.cells #[.slice none 0 0, .slice none 0 0, .slice none 0 0, .slice none 0 0] 28 (0, 0))) := (Below.heap_setCell _ ⟨w.heap.size, 2, none⟩ _ _ (by show _ ≠ w.heap.size; omega)).trans ((hbw.out.block (w.heap.size + 1 + 1) (by omega)).trans HR.out)
              have hB5 : Hid (Below w.heap.size w (w4.setCell ⟨w.heap.size, 2, none⟩ (.slice (some ⟨r, 0, none⟩) nl c4))) := (hbW.out.trans (hbw.out.mono (by omega))).setCell (p := ⟨w.heap.size, 2, none⟩) (by show w.heap.size ≤ w.heap.size; omega) (.slice (some ⟨r, 0, none⟩) nl c4)
              have HO5 : Hid (Row (w4.setCell ⟨w.heap.size, 2, none⟩ (.slice (some ⟨r, 0, none⟩) nl c4)) u.heap.size 63 3 e3P (.slice (some ⟨r, 0, none⟩) nl c4) (X.pp.take 0 ++ (nm, cp, st) :: X.pp.drop 0)) := HOW.out.block (fun q hq => Below.heap_setCell _ ⟨w.heap.size, 2, none⟩ _ q (by cases hq; show r ≠ w.heap.size; omega))
              have hru : Hid (u.heap.size ≤ r) := hr1
              clear hr2 xu2 yu2 hb4 hown s1 s2 q_gu0 gu0 q_gu1 gu1 q_gu2 gu2 q_xu q_x q_g x0 g3 y0
              simp only [Act.put, List.setIfInBounds_toArray, List.set_cons_zero, List.set_cons_succ]
              go_upto_region 9 with fail
              generalize (w4.setCell ⟨w.heap.size, 2, none⟩ (.slice (some ⟨r, 0, none⟩) nl c4)) = w5 at HP5 HR5 hB5 HO5 ⊢
              clear p2 r_2
              have HOK : Hid (PlL.Ok { X with pp := X.pp.take 0 ++ (nm, cp, st) :: X.pp.drop 0 }) := ⟨hX.ns, hX.nf, by show (X.pp.take 0 ++ (nm, cp, st) :: X.pp.drop 0).length ≤ 18; have := HLN.out; omega, hX.nv, hX.s, hX.f, fun y hy => by
                  rcases List.mem_append.1 hy with hy | hy
                  · exact hX.p _ (List.mem_of_mem_take hy)
                  · rcases List.mem_cons.1 hy with rfl | hy
                    · exact ⟨hnm, hst⟩
                    · exact hX.p _ (List.mem_of_mem_drop hy), hX.v⟩
              have hru2 := hru.out
              obtain ⟨xr0, _⟩ := cell_row (HP5.out) 0 _ rfl
              obtain ⟨xr1, _⟩ := cell_row (HP5.out) 1 _ rfl
              obtain ⟨xr2, _⟩ := cell_row (HP5.out) 2 _ rfl
              obtain ⟨xr3, _⟩ := cell_row (HP5.out) 3 _ rfl
              simp only [List.getElem_toArray, List.getElem_cons_zero, List.getElem_cons_succ] at xr0 xr1 xr2 xr3
              obtain ⟨zr0, tzr0⟩ := cell_row (HR5.out) 0 _ rfl
              obtain ⟨zr1, tzr1⟩ := cell_row (HR5.out) 1 _ rfl
              obtain ⟨zr2, tzr2⟩ := cell_row (HR5.out) 2 _ rfl
              obtain ⟨zr3, tzr3⟩ := cell_row (HR5.out) 3 _ rfl
              simp only [List.getElem_toArray, List.getElem_cons_zero, List.getElem_cons_succ] at zr0 zr1 zr2 zr3
              have R4 := hidZ (ret4 (HR5.out) (.slice o0 n0 c0) (.slice o1 n1 c1) (.slice (some ⟨r, 0, none⟩) nl c4) (.slice o3 n3 c3))
              have ff0 := hidZ (cell_row R4.out.1 0 _ rfl).1
              have ff1 := hidZ (cell_row R4.out.1 1 _ rfl).1
              have ff2 := hidZ (cell_row R4.out.1 2 _ rfl).1
              have ff3 := hidZ (cell_row R4.out.1 3 _ rfl).1
              have hF := hidZ (hB5.out.trans (R4.out.2.2.2.mono (by omega)))
              go_wp2_with fail
              all_goals exact bodyPost_ret (v := .tuple #[.agg #[.slice o0 n0 c0, .slice o1 n1 c1, .slice (some ⟨r, 0, none⟩) nl c4, .slice o3 n3 c3], .int .i64 0]) (by simp [results, Try.results85, go_sem, ff0.out, ff1.out, ff2.out, ff3.out]) rfl (putP (X := { X with pp := X.pp.take 0 ++ (nm, cp, st) :: X.pp.drop 0 }) ⟨HH.out.s.below hF.out, HH.out.f.below hF.out, (HO5.out.block (fun q hq => R4.out.2.1 q (by cases hq; show r ≠ _; omega))).low (by omega), HH.out.v.below hF.out⟩ HOK.out hF.out)
          · injection e' with e1 e2 e3
            subst e1
            clear e2 e3
            go_wp2_with fail
            refine wp_region_quiet_below (by kernel_rfl) (by kernel_rfl) ?_
            repeat (first | go_big_quiet_step (fail) | quiet_step (fail))
            refine wpQuiet_nil ?_
            intro _ hw'
            obtain ⟨⟨dq, osq⟩, hw''⟩ := hw'
            subst hw''
            have hb3 : Hid (Below W.heap.size W (grow (redrawn wr dq) osq)) := hbel.out.trans ((below_regrown _ dq osq).mono hbel.out.size)
            generalize grow (redrawn wr dq) osq = u at hb3 ⊢
            have hsu : W.heap.size ≤ u.heap.size := hb3.out.size
            obtain ⟨xu2, yu2⟩ := cell_row ((hb3.out.block _ (by omega)).trans HP.out) 2 _ rfl
            obtain ⟨gu0, _⟩ := cell_row ((hb3.out.block _ (by omega)).trans HX.out) 0 _ rfl
            obtain ⟨gu1, _⟩ := cell_row ((hb3.out.block _ (by omega)).trans HX.out) 1 _ rfl
            obtain ⟨gu2, _⟩ := cell_row ((hb3.out.block _ (by omega)).trans HX.out) 2 _ rfl
            simp only [List.getElem_toArray, List.getElem_cons_zero, List.getElem_cons_succ] at xu2 gu0 gu1 gu2
            have q_xu := fun d os => cell_regrown xu2 d os
            have q_gu0 := fun d os => cell_regrown gu0 d os
            have q_gu1 := fun d os => cell_regrown gu1 d os
            have q_gu2 := fun d os => cell_regrown gu2 d os
            have SR : Src u (.slice (some ⟨g, 0, none⟩) n2 c2) n2 3 (enc 3 e3P X.pp) := by have := row_src (HW.out.p.below hb3.out); rw [en2] at this; exact this
            have hcap : n2 ≤ c2 := by
              rcases HW.out.p.2 with ⟨e, _⟩ | ⟨_, _, cur, e, _, _, hc, _⟩
              · cases e
              · injection e with _ _ e; omega
            have s1 : Src u (.slice (some ⟨g, 0, none⟩) k c2) k 3 (enc 3 e3P (X.pp.take k)) := by
              have := Src.take_ SR hk c2
              rwa [enc_take] at this
            have s2 : Src u (.slice (if c2 = k then some ⟨g, 0, none⟩ else some ⟨g, k * 3, none⟩) (n2 - k) (c2 - k)) (n2 - k) 3 (enc 3 e3P (X.pp.drop k)) := by
              have := Src.drop_ SR hk hcap
              rw [enc_drop, Nat.zero_add] at this
              exact this
            have hkc : (k : Int) ≤ (c2 : Int) := by omega
            have hkn : (k : Int) ≤ (n2 : Int) := by omega
            clear SR
            go_wp2_with fail
            refine wp_region_mix 14 [1, 2, 3, 4, 6, 9, 10, 11, 12] (by kernel_rfl) (by kernel_rfl) ?_
            simp only [List.filterMap_cons, List.filterMap_nil, List.getElem?_cons_succ, List.getElem?_cons_zero]
            repeat (first | go_big_quiet_step (fail) | quiet_step (fail))
            refine wpQuiet_nil ?_
            refine ins3 (md := .any) (i0 := 0) (i1 := 5) (i2 := 7) (i3 := 8) (i4 := 13) (d0 := 36) (d1 := 41) (d2 := 43) (d3 := 44) (d4 := 49) (k1 := 40) (k2 := 48) (kx := 42) (X := .agg #[.string nm, .int .i64 cp, .string st]) (t := 25) (e := 63)
              ⟨_, _, _, _, _, ⟨rfl, rfl, rfl, by decide⟩, ⟨rfl, rfl, rfl, by decide⟩, ⟨rfl, rfl, rfl, by decide⟩, ⟨rfl, rfl, rfl, by decide⟩, ⟨rfl, rfl, rfl, by decide⟩, rfl, rfl, rfl, ?run0, ?run2, by decide, by decide, by kernel_rfl, by kernel_rfl, by kernel_rfl, by kernel_rfl, by kernel_rfl, by kernel_rfl, by kernel_rfl⟩
              elP3 (W := u) ⟨by simp, by simp, by simp, by simp, by simp⟩ rfl rfl rfl s1 s2 rfl (enc_one' one_P _) (enc_one' one_P _) ?ux (by omega) (by unfold maxLen; omega) ?K
            case run0 => intro bb ww; go_simp
            case run2 =>
              intro bb hx ww
              have hx' : bb.tmps[42]?.getD undef = .agg #[.string nm, .int .i64 cp, .string st] := by simpa [Act.eval] using hx
              clear hx
              go_simp
            case ux => intro v hv; simp [Value.cells] at hv; rcases hv with rfl | rfl | rfl <;> rfl
            case K =>
              intro r0 r1 r2 r3 r4 w4 hown hb4
              refine ⟨by kernel_rfl, ?_⟩
              simp only [List.drop_succ_cons, List.drop_zero]
              have HOW : Hid (Row w4 u.heap.size 63 3 e3P r4 (X.pp.take k ++ (nm, cp, st) :: X.pp.drop k)) := ins_rowP (n := n2) en2 (by omega) (m := (n2 - k)) (by omega) rfl (x := (nm, cp, st)) rfl hown
              have hbw : Hid (Below W.heap.size W w4) := hb3.out.trans (hb4.mono hsu)
              have hs4 : u.heap.size ≤ w4.heap.size := hb4.size
              have HLN : Hid ((X.pp.take k ++ (nm, cp, st) :: X.pp.drop k).length = n2 + 1) := by show _ = _; simp; omega
              obtain ⟨nl, hnl⟩ : ∃ n, (X.pp.take k ++ (nm, cp, st) :: X.pp.drop k).length = n := ⟨_, rfl⟩
              obtain ⟨r, c4, cur4, e4, hr1, hr2, _⟩ : ∃ g c cur, r4 = .slice (some ⟨g, 0, none⟩) (X.pp.take k ++ (nm, cp, st) :: X.pp.drop k).length c ∧ u.heap.size ≤ g ∧ w4.heap[g]? = some (.cells cur 63 (0, 0)) ∧ True := by
                rcases HOW.out.2 with ⟨_, e⟩ | ⟨g, c, cur, e, hg, hr, _⟩
                · have := HLN.out; omega
                · exact ⟨g, c, cur, e, hg, hr, trivial⟩
              rw [hnl] at e4
              have H4 : Hid (r4 = .slice (some ⟨r, 0, none⟩) nl c4) := e4
              subst e4
              obtain ⟨p2, r_2⟩ := cell_row ((hbw.out.block _ (by omega)).trans HP.out) 2 _ rfl
              simp only [List.getElem_toArray, List.getElem_cons_zero, List.getElem_cons_succ] at p2
              have HP5 : Hid ((w4.setCell ⟨w.heap.size, 2, none⟩ (.slice (some ⟨r, 0, none⟩) nl c4)).heap[w.heap.size]? = some (.cells #[.slice o0 n0 c0, .slice o1 n1 c1, .slice (some ⟨r, 0, none⟩) nl c4, .slice o3 n3 c3] 28 (0, 0))) := set_row ((hbw.out.block w.heap.size (by omega)).trans HP.out) 2 (.slice (some ⟨r, 0, none⟩) nl c4)
              have HR5 : Hid ((w4.setCell ⟨w.heap.size, 2, none⟩ (.slice (some ⟨r, 0, none⟩) nl c4)).heap[w.heap.size + 1 + 1]? = some (.cells #[.slice none 0 0, .slice none 0 0, .slice none 0 0, .slice none 0 0] 28 (0, 0))) := (Below.heap_setCell _ ⟨w.heap.size, 2, none⟩ _ _ (by show _ ≠ w.heap.size; omega)).trans ((hbw.out.block (w.heap.size + 1 + 1) (by omega)).trans HR.out)
              have hB5 : Hid (Below w.heap.size w (w4.setCell ⟨w.heap.size, 2, none⟩ (.slice (some ⟨r, 0, none⟩) nl c4))) := (hbW.out.trans (hbw.out.mono (by omega))).setCell (p := ⟨w.heap.size, 2, none⟩) (by show w.heap.size ≤ w.heap.size; omega) (.slice (some ⟨r, 0, none⟩) nl c4)
              have HO5 : Hid (Row (w4.setCell ⟨w.heap.size, 2, none⟩ (.slice (some ⟨r, 0, none⟩) nl c4)) u.heap.size 63 3 e3P (.slice (some ⟨r, 0, none⟩) nl c4) (X.pp.take k ++ (nm, cp, st) :: X.pp.drop k)) := HOW.out.block (fun q hq => Below.heap_setCell _ ⟨w.heap.size, 2, none⟩ _ q (by cases hq; show r ≠ w.heap.size; omega))
              have hru : Hid (u.heap.size ≤ r) := hr1
              clear hr2 xu2 yu2 hb4 hown s1 s2 q_gu0 gu0 q_gu1 gu1 q_gu2 gu2 q_xu hkc hkn q_x q_g x0 g3 y0
              simp only [Act.put, List.setIfInBounds_toArray, List.set_cons_zero, List.set_cons_succ]
              go_upto_region 9 with fail
              generalize (w4.setCell ⟨w.heap.size, 2, none⟩ (.slice (some ⟨r, 0, none⟩) nl c4)) = w5 at HP5 HR5 hB5 HO5 ⊢
              clear p2 r_2
              have HOK : Hid (PlL.Ok { X with pp := X.pp.take k ++ (nm, cp, st) :: X.pp.drop k }) := ⟨hX.ns, hX.nf, by show (X.pp.take k ++ (nm, cp, st) :: X.pp.drop k).length ≤ 18; have := HLN.out; omega, hX.nv, hX.s, hX.f, fun y hy => by
                  rcases List.mem_append.1 hy with hy | hy
                  · exact hX.p _ (List.mem_of_mem_take hy)
                  · rcases List.mem_cons.1 hy with rfl | hy
                    · exact ⟨hnm, hst⟩
                    · exact hX.p _ (List.mem_of_mem_drop hy), hX.v⟩
              have hru2 := hru.out
              obtain ⟨xr0, _⟩ := cell_row (HP5.out) 0 _ rfl
              obtain ⟨xr1, _⟩ := cell_row (HP5.out) 1 _ rfl
              obtain ⟨xr2, _⟩ := cell_row (HP5.out) 2 _ rfl
              obtain ⟨xr3, _⟩ := cell_row (HP5.out) 3 _ rfl
              simp only [List.getElem_toArray, List.getElem_cons_zero, List.getElem_cons_succ] at xr0 xr1 xr2 xr3
              obtain ⟨zr0, tzr0⟩ := cell_row (HR5.out) 0 _ rfl
              obtain ⟨zr1, tzr1⟩ := cell_row (HR5.out) 1 _ rfl
              obtain ⟨zr2, tzr2⟩ := cell_row (HR5.out) 2 _ rfl
              obtain ⟨zr3, tzr3⟩ := cell_row (HR5.out) 3 _ rfl
              simp only [List.getElem_toArray, List.getElem_cons_zero, List.getElem_cons_succ] at zr0 zr1 zr2 zr3
              have R4 := hidZ (ret4 (HR5.out) (.slice o0 n0 c0) (.slice o1 n1 c1) (.slice (some ⟨r, 0, none⟩) nl c4) (.slice o3 n3 c3))
              have ff0 := hidZ (cell_row R4.out.1 0 _ rfl).1
              have ff1 := hidZ (cell_row R4.out.1 1 _ rfl).1
              have ff2 := hidZ (cell_row R4.out.1 2 _ rfl).1
              have ff3 := hidZ (cell_row R4.out.1 3 _ rfl).1
              have hF := hidZ (hB5.out.trans (R4.out.2.2.2.mono (by omega)))
              go_wp2_with fail
              all_goals exact bodyPost_ret (v := .tuple #[.agg #[.slice o0 n0 c0, .slice o1 n1 c1, .slice (some ⟨r, 0, none⟩) nl c4, .slice o3 n3 c3], .int .i64 0]) (by simp [results, Try.results85, go_sem, ff0.out, ff1.out, ff2.out, ff3.out]) rfl (putP (X := { X with pp := X.pp.take k ++ (nm, cp, st) :: X.pp.drop k }) ⟨HH.out.s.below hF.out, HH.out.f.below hF.out, (HO5.out.block (fun q hq => R4.out.2.1 q (by cases hq; show r ≠ _; omega))).low (by omega), HH.out.v.below hF.out⟩ HOK.out hF.out)
end Go.Proofs.Ytgjcppdeljoimaa
