import Derived.Test.YtaejlcanccfmmaaGreatDoorZqo
import Derived.Test.YtaejlcanccfmmaaGreatDoorM42
import Derived.Test.YtaejlcanccfmmaaGreatDoorHb
namespace Go.Proofs.YtaejlcanccfmmaaGreatDoor
open Go.RowKit Go.Sort
theorem box_stableZ {w w' : World} {g : Nat} {c : Array Value} {t : TypeId} (hb : Below w.heap.size w w') (h : w.heap[g]? = some (.cells c t (0, 0))) : w'.heap[g]? = some (.cells c t (0, 0)) := (hb.block g (Array.getElem?_eq_some_iff.1 h).1).trans h
theorem enc_insZ (L : List HB) (y : HB) (k : Nat) : (enc 3 eH L).take (k * 3) ++ [.string y.1, y.2.1.1, y.2.2.1] ++ (enc 3 eH L).drop (k * 3) = enc 3 eH (L.take k ++ [y] ++ L.drop k) := by
  rw [enc_take, enc_drop, enc_append, enc_append]
  rfl
theorem hdT_ins {v0 : Value} {L : List HB} {y : HB} {m : Nat} (k : Nat) (h : (hdT v0 L).Nodup) (hl : ∀ b ∈ hdT v0 L, b < m) (hy : (hdX y).Nodup) (hn : ∀ b ∈ hdX y, m ≤ b) : (hdT v0 (L.take k ++ [y] ++ L.drop k)).Nodup := by
  unfold hdT at h hl ⊢
  have e : hdB L = hdB (L.take k) ++ hdB (L.drop k) := by rw [← hdB_app, List.take_append_drop]
  rw [e] at h hl
  rw [hdB_app, hdB_app, hdB_one]
  simp only [List.nodup_append, List.mem_append] at h hl ⊢
  obtain ⟨h1, ⟨h2, h3, h4⟩, h5⟩ := h
  refine ⟨h1, ⟨⟨h2, hy, fun a ha b hb e => ?_⟩, h3, fun a ha b hb e => ?_⟩, fun a ha b hb e => ?_⟩
  · have := hl a (.inr (.inl ha)); have := hn b hb; omega
  · rcases ha with ha | ha
    · exact h4 a ha b hb e
    · have := hl b (.inr (.inr hb)); have := hn a ha; omega
  · rcases hb with (hb | hb) | hb
    · exact h5 a ha b (.inl hb) e
    · have := hl a (.inl ha); have := hn b hb; omega
    · exact h5 a ha b (.inr hb) e
set_option maxRecDepth 100000 in
set_option maxHeartbeats 16000000 in
theorem letEn_any (B gb : Nat) (v0 v1 : Value) (T : List ByteArray) (L : List HB) (x : ByteArray) (SN : Nat → Prop) (nd : List ByteArray) (on : Option Addr) (nn kn : Nat) (w : World) (hbx : w.heap[gb]? = some (.cells #[v0, v1] 26 (0, 0))) (hp : PkO B w v0 v1 T L) (hgb : B ≤ gb) (hL : L.length ≤ 64) (hN : AtL SN w nd (.slice on nn kn)) (hSN : ∀ b, SN b → b < B) (hnl : nd.length ≤ 64) (hnz : ∀ s ∈ nd, s.size ≤ 64) (hxz : x.size ≤ 64)
    (hmono : ∀ p q (hq : q < (L.map dH).length) (hpq : p ≤ q), ltB (L.map dH)[q].1 x = true → ltB ((L.map dH)[p]'(by omega)).1 x = true) (hno : ∀ q (hq : q < (L.map dH).length), eqB (L.map dH)[q].1 x = false) :
    Calls Tryz.prog 50 #[.pointer (some ⟨gb, 0, none⟩), .agg #[.string x, .slice on nn kn]] w fun e w' => e = .returned (.tuple #[]) ∧ ∃ v1' L', w'.heap[gb]? = some (.cells #[v0, v1'] 26 (0, 0)) ∧ PkO B w' v0 v1' T L' ∧ L'.map dH = (L.map dH).take (posB (L.map dH) x) ++ [(x, [], nd)] ++ (L.map dH).drop (posB (L.map dH) x) ∧ Below B w w' := by
  obtain ⟨o0, k0, rfl⟩ := Row.form hp.th
  obtain ⟨ob, kb, rfl⟩ := Row.form hp.bs.ro
  have hbl := (Array.getElem?_eq_some_iff.1 hbx).1
  obtain ⟨n, en⟩ : ∃ n, L.length = n := ⟨_, rfl⟩
  obtain ⟨nt, ent⟩ : ∃ n, T.length = n := ⟨_, rfl⟩
  rw [en] at hL hbx hp
  rw [ent] at hbx hp
  rw [ent]
  obtain ⟨W, EW, BW, RX, sW⟩ := box_new w #[.string x, .slice on nn kn] 56
  have HP : Hid (PkO B w (.slice o0 nt k0) (.slice ob n kb) T L) := hp
  have HBX : Hid (w.heap[gb]? = some (.cells #[.slice o0 nt k0, .slice ob n kb] 26 (0, 0))) := hbx
  have HEN : Hid (L.length = n) := en
  have HBB : Hid (B ≤ gb ∧ B ≤ w.heap.size) := ⟨hgb, by omega⟩
  have HSN : Hid (∀ b, SN b → b < B) := hSN
  have HN : Hid (∀ u, Below w.heap.size w u → AtL SN u nd (.slice on nn kn)) := fun u hu => hN.same (Same.of_below hu (fun b hb => by have := hSN b hb; omega))
  have HMO : Hid (∀ p q (hq : q < (L.map dH).length) (hpq : p ≤ q), ltB (L.map dH)[q].1 x = true → ltB ((L.map dH)[p]'(by omega)).1 x = true) := hmono
  have HNO : Hid (∀ q (hq : q < (L.map dH).length), eqB (L.map dH)[q].1 x = false) := hno
  have HNZ : Hid (∀ s ∈ nd, s.size ≤ 64) := hnz
  clear hp hbx en ent hgb hSN hN hmono hno hnz
  go_enter Tryz.func50, Tryz.ntmps50
  go_upto_region 1 with fail
  rw [← EW.out]
  have HDX : Hid (W.drew.heap[w.heap.size]? = some (.cells #[.string x, .slice on nn kn] 56 (0, 0))) := RX.out
  refine wp_region_movesC (fun v => Below W.drew.heap.size W.drew v) 8 [] (by kernel_rfl) (by kernel_rfl) (Below.refl _ _) ?_
  simp only [List.filterMap_nil, movD]
  refine takeHQ (f := 7) (i := 0) (.pointer (some ⟨w.heap.size, 0, none⟩)) ⟨rfl, rfl⟩ (by kernel_rfl) rfl (Below.refl _ _) ?r0 ?_
  case r0 => intro v hv; go_simp
  simp only [Act.put, List.setIfInBounds_toArray, List.set_cons_zero, List.set_cons_succ]
  refine takeHQ (f := 6) (i := 1) (.string x) ⟨rfl, rfl⟩ (by kernel_rfl) rfl (Below.refl _ _) ?r1 ?_
  case r1 => intro v hv; have k0 := (cell_row (box_stableZ hv HDX.out) 0 _ rfl).1; go_simp
  simp only [Act.put, List.setIfInBounds_toArray, List.set_cons_zero, List.set_cons_succ]
  refine takeHQ (f := 5) (i := 3) (.pointer (some ⟨w.heap.size, 1, none⟩)) ⟨rfl, rfl⟩ (by kernel_rfl) rfl (Below.refl _ _) ?r3 ?_
  case r3 => intro v hv; go_simp
  simp only [Act.put, List.setIfInBounds_toArray, List.set_cons_zero, List.set_cons_succ]
  refine takeHQ (f := 4) (i := 4) (.slice on nn kn) ⟨rfl, rfl⟩ (by kernel_rfl) rfl (Below.refl _ _) ?r4 ?_
  case r4 => intro v hv; have k0 := (cell_row (box_stableZ hv HDX.out) 1 _ rfl).1; go_simp
  simp only [Act.put, List.setIfInBounds_toArray, List.set_cons_zero, List.set_cons_succ]
  have CF : Hid (∀ v, Below W.drew.heap.size W.drew v → Calls Tryz.prog 48 #[.slice on nn kn] v fun e w' => ∃ r, e = .returned r ∧ Row w' v.heap.size 9 1 eS r nd ∧ Below v.heap.size v w') := fun v hv => by
    have hb : Below w.heap.size w v := BW.out.drew.trans (hv.mono BW.out.size)
    exact freshT_any SN _ nd v (HN.out v hb) (fun b hb' => by have := HSN.out b hb'; have := HBB.out.2; have := hb.size; omega) (by omega) (fun s hs => by have := HNZ.out s hs; omega)
  refine grow_all [⟨2, 7, [], (fun _ v => v = .string x)⟩, ⟨5, 10, [], (fun w' v => (∃ a b c, v = .slice a b c) ∧ Row w' W.drew.heap.size 9 1 eS v nd)⟩, ⟨6, 11, [2, 5], (fun w' v => ∃ a b c, v = .agg #[.string x, .slice none 0 0, .slice a b c] ∧ Row w' W.drew.heap.size 9 1 eS (.slice a b c) nd)⟩, ⟨7, 4, [], (fun w' v => ∃ g, v = .pointer (some ⟨g, 0, none⟩) ∧ W.drew.heap.size ≤ g ∧ w'.heap[g]? = some (.cells #[.string ⟨#[]⟩, .slice none 0 0, .slice none 0 0] 43 (0, 0)))⟩] (by kernel_rfl) (by kernel_rfl) ?hst ?hS (fun _ h => h) ?hK
  case hst =>
    intro m hm v v' z hb
    simp only [List.mem_cons, List.not_mem_nil, or_false] at hm
    rcases hm with rfl | rfl | rfl | rfl
    · exact fun h => h
    · exact fun h => ⟨h.1, Row.below h.2 hb⟩
    · exact fun ⟨a, b, c, h1, h2⟩ => ⟨a, b, c, h1, Row.below h2 hb⟩
    · exact fun ⟨g, h1, h2, h3⟩ => ⟨g, h1, h2, box_stableZ hb h3⟩
  case hS =>
    intro m hm
    simp only [List.mem_cons, List.not_mem_nil, or_false] at hm
    rcases hm with rfl | rfl | rfl | rfl
    · refine ⟨_, rfl, ?_⟩
      intro b v hA hb hu
      have e6 : b.tmps[6]?.getD undef = .string x := by simpa [Act.eval] using (hA.off 6 (off_of 6 (by kernel_rfl))).trans (rfl : _ = (.string x : Value))
      clear hA hu
      refine .inr ⟨39, #[.string x], ?_, (clones_any _ v (by omega)).mono ?_⟩
      · go_simp
      · rintro e u ⟨rfl, hbu⟩
        exact ⟨_, rfl, rfl, hbu⟩
    · refine ⟨_, rfl, ?_⟩
      intro b v hA hb hu
      have e9 : b.tmps[9]?.getD undef = .slice on nn kn := by simpa [Act.eval] using (hA.off 9 (off_of 9 (by kernel_rfl))).trans (rfl : _ = (.slice on nn kn : Value))
      clear hA hu
      refine .inr ⟨48, #[.slice on nn kn], ?_, (CF.out v hb).mono ?_⟩
      · go_simp
      · rintro e u ⟨r, rfl, hr, hbu⟩
        obtain ⟨a, c, e1⟩ := Row.form hr
        exact ⟨_, rfl, ⟨⟨_, _, _, e1⟩, Row.low hr hb.size⟩, hbu⟩
    · refine ⟨_, rfl, ?_⟩
      intro b v hA hb hu
      have e7 : b.tmps[7]?.getD undef = .string x := by simpa [Act.eval] using hu _ (List.mem_cons_self) (by simp)
      have h10 := hu _ (List.mem_cons_of_mem _ List.mem_cons_self) (by simp)
      obtain ⟨⟨a, bb, c, e10⟩, hr10⟩ := h10
      rw [e10] at hr10
      have e10' : b.tmps[10]?.getD undef = .slice a bb c := by simpa [Act.eval] using e10
      clear hA hu e10
      refine .inl ⟨.agg #[.string x, .slice none 0 0, .slice a bb c], v, ?_, ⟨a, bb, c, rfl, hr10⟩, Below.refl _ _⟩
      go_simp
    · refine ⟨_, rfl, ?_⟩
      intro b v hA hb hu
      clear hA hu
      refine .inl ⟨_, v.alloc (.cells #[.string ⟨#[]⟩, .slice none 0 0, .slice none 0 0] 43), ?_, ⟨v.heap.size, rfl, hb.size, heap_alloc_new v _⟩, (Below.refl _ _).alloc (Nat.le_refl _) _⟩
      go_simp
  case hK =>
    intro vv X hbX hF
    obtain ⟨pL, e4, hpL, hxL⟩ := hF _ (List.mem_cons_of_mem _ (List.mem_cons_of_mem _ (List.mem_cons_of_mem _ List.mem_cons_self)))
    obtain ⟨ar, br, cr, e11, hrr⟩ := hF _ (List.mem_cons_of_mem _ (List.mem_cons_of_mem _ List.mem_cons_self))
    have e7 : vv 7 = .string x := hF _ (List.mem_cons_self)
    obtain ⟨v10, e10⟩ : ∃ v, vv 10 = v := ⟨_, rfl⟩
    replace e4 : vv 4 = .pointer (some ⟨pL, 0, none⟩) := e4
    replace e11 : vv 11 = .agg #[.string x, .slice none 0 0, .slice ar br cr] := e11
    clear hF
    refine ⟨by kernel_rfl, ?_⟩
    simp only [putG, List.foldl_cons, List.foldl_nil, Act.put, List.setIfInBounds_toArray, List.set_cons_zero, List.set_cons_succ, List.drop_succ_cons, List.drop_zero]
    rw [e4, e11, e7, e10]
    clear e4 e11 e7 e10
    obtain ⟨l0, l0f⟩ := cell_row hxL 0 _ rfl
    obtain ⟨l1, l1f⟩ := cell_row hxL 1 _ rfl
    obtain ⟨l2, l2f⟩ := cell_row hxL 2 _ rfl
    have HXL : Hid (X.heap[pL]? = some (.cells #[.string ⟨#[]⟩, .slice none 0 0, .slice none 0 0] 43 (0, 0))) := hxL
    have HBXX : Hid (Below w.heap.size w X) := BW.out.drew.trans (hbX.mono BW.out.size)
    have HRR : Hid (Row X W.drew.heap.size 9 1 eS (.slice ar br cr) nd) := hrr
    have hsd : W.drew.heap.size = W.heap.size := rfl
    have hpw : w.heap.size < pL := by omega
    clear hxL hrr
    go_upto_region 2 with fail
    have HX2 : Hid ((((X.setCell ⟨pL, 0, none⟩ (.string x)).setCell ⟨pL, 1, none⟩ (.slice none 0 0)).setCell ⟨pL, 2, none⟩ (.slice ar br cr)).heap[pL]? = some (.cells #[.string x, .slice none 0 0, .slice ar br cr] 43 (0, 0))) := by
      have := set_row (set_row (set_row HXL.out 0 (.string x)) 1 (.slice none 0 0)) 2 (.slice ar br cr)
      show _ = _
      rw [this]; rfl
    have HO2 : Hid (∀ b, b ≠ pL → (((X.setCell ⟨pL, 0, none⟩ (.string x)).setCell ⟨pL, 1, none⟩ (.slice none 0 0)).setCell ⟨pL, 2, none⟩ (.slice ar br cr)).heap[b]? = X.heap[b]?) := fun b hb => (Below.heap_setCell _ _ _ _ hb).trans ((Below.heap_setCell _ _ _ _ hb).trans (Below.heap_setCell _ _ _ _ hb))
    have HB2 : Hid (Below w.heap.size w (((X.setCell ⟨pL, 0, none⟩ (.string x)).setCell ⟨pL, 1, none⟩ (.slice none 0 0)).setCell ⟨pL, 2, none⟩ (.slice ar br cr))) := ((HBXX.out.setCell (p := ⟨pL, 0, none⟩) (by show w.heap.size ≤ pL; omega) _).setCell (p := ⟨pL, 1, none⟩) (by show w.heap.size ≤ pL; omega) _).setCell (p := ⟨pL, 2, none⟩) (by show w.heap.size ≤ pL; omega) _
    generalize (((X.setCell ⟨pL, 0, none⟩ (.string x)).setCell ⟨pL, 1, none⟩ (.slice none 0 0)).setCell ⟨pL, 2, none⟩ (.slice ar br cr)) = X2 at HX2 HO2 HB2 ⊢
    clear l0 l0f l1 l1f l2 l2f
    have HR2 : Hid (Row X2 W.drew.heap.size 9 1 eS (.slice ar br cr) nd) := Row.block HRR.out fun b hb => HO2.out b (fun e => by
      obtain ⟨c, hc⟩ := Row.typed HRR.out b hb
      subst e
      exact tyS_ne hc HXL.out)
    have HP2 : Hid (PkO B X2 (.slice o0 nt k0) (.slice ob n kb) T L) := HP.out.below HB2.out
    have HG2 : Hid (X2.heap[gb]? = some (.cells #[.slice o0 nt k0, .slice ob n kb] 26 (0, 0))) := (HB2.out.block gb hbl).trans HBX.out
    have g1 := (cell_row HG2.out 1 (.slice ob n kb) rfl).1
    have hgbp : gb ≠ pL := by omega
    have hCL : Hid (Calls Tryz.prog 75 #[.slice ob n kb, .agg #[.string x, .slice none 0 0, .slice ar br cr], .func (.func 67) #[] #[]] X2.drew fun e w2 => ∃ (kk : Nat) (ov : Option Addr) (lv cv : Nat), e = .returned (.tuple #[.slice ov lv cv, .int .i64 kk]) ∧ w2.cell? ⟨gb, 1, none⟩ = some (.slice ob n kb) ∧ w2.frozen? ⟨gb, 1, none⟩ = false ∧ w2.heap[pL]? = some (.cells #[.string x, .slice none 0 0, .slice ar br cr] 43 (0, 0)) ∧ (w2.setCell ⟨gb, 1, none⟩ (.slice ov lv cv)).heap[pL]? = some (.cells #[.string x, .slice none 0 0, .slice ar br cr] 43 (0, 0)) ∧ ∃ L', (w2.setCell ⟨gb, 1, none⟩ (.slice ov lv cv)).heap[gb]? = some (.cells #[.slice o0 nt k0, .slice ov lv cv] 26 (0, 0)) ∧ PkO B (w2.setCell ⟨gb, 1, none⟩ (.slice ov lv cv)) (.slice o0 nt k0) (.slice ov lv cv) T L' ∧ L'.map dH = (L.map dH).take (posB (L.map dH) x) ++ [(x, [], nd)] ++ (L.map dH).drop (posB (L.map dH) x) ∧ Below B w (w2.setCell ⟨gb, 1, none⟩ (.slice ov lv cv))) := by
      have HD : PkO B X2.drew (.slice o0 nt k0) (.slice ob n kb) T L := HP2.out.below (Below.refl _ _).drew
      have hB2 : B ≤ X2.heap.size := by have := HBB.out.2; have := HB2.out.size; omega
      have hro := HD.bs.ro
      have hl := HEN.out
      refine (ordZ_any (fun b => B ≤ b ∧ b < X2.drew.heap.size) B n (.slice ob n kb) (enc 3 eH L) (L.map dH) x (.slice none 0 0) (.slice ar br cr) X2.drew (by rw [Row, hl] at hro; exact hro) HD.at_.2 (by rw [List.length_map]; exact hl) (fun b hb => hb.2) (by omega) hB2 HD.bs.one rfl rfl HMO.out).mono ?_
      rintro e w2 ⟨kk, hkk, hlo, hhi, v', rfl, hcase⟩
      rcases hcase with ⟨⟨hkl, he⟩, _, _⟩ | ⟨hnn, ho, hg, hw⟩
      · rw [HNO.out kk hkl] at he; cases he
      have epos : posB (L.map dH) x = kk := pos_at hkk hlo (fun h => hhi kk h (Nat.le_refl _))
      rw [List.length_map] at hkk
      rw [show ([.string x, .slice none 0 0, .slice ar br cr] : List Value) = [.string ((x, (Value.slice none 0 0, ([] : List ByteArray)), (Value.slice ar br cr, nd)) : HB).1, ((x, (Value.slice none 0 0, ([] : List ByteArray)), (Value.slice ar br cr, nd)) : HB).2.1.1, ((x, (Value.slice none 0 0, ([] : List ByteArray)), (Value.slice ar br cr, nd)) : HB).2.2.1] from rfl, enc_insZ] at ho
      obtain ⟨y, ey⟩ : ∃ y : HB, y = (x, (Value.slice none 0 0, ([] : List ByteArray)), (Value.slice ar br cr, nd)) := ⟨_, rfl⟩
      rw [← ey] at ho
      have hlen : (L.take kk ++ [y] ++ L.drop kk).length = n + 1 := by simp; omega
      have hrow : Row w2 B 43 3 eH v' (L.take kk ++ [y] ++ L.drop kk) := by rw [Row, hlen]; exact ho
      obtain ⟨ov, cv, ev⟩ := Row.form hrow
      rw [hlen] at ev
      subst ev
      have kst : ∀ (b : Nat) (c : Array Value), X2.heap[b]? = some (.cells c 9 (0, 0)) → w2.heap[b]? = X2.heap[b]? := fun b c hc => hg.block b (Array.getElem?_eq_some_iff.1 hc).1 (fun e => by
        obtain ⟨c', hc'⟩ := Row.typed hro b e.symm
        exact tyS_ne hc hc')
      have hgb2 : w2.heap[gb]? = some (.cells #[.slice o0 nt k0, .slice ob n kb] 26 (0, 0)) := (hg.block gb (Array.getElem?_eq_some_iff.1 HG2.out).1 (fun e => by
        obtain ⟨c', hc'⟩ := Row.typed hro gb e.symm
        exact tyK_ne HG2.out hc')).trans HG2.out
      have hpl2 : w2.heap[pL]? = some (.cells #[.string x, .slice none 0 0, .slice ar br cr] 43 (0, 0)) := (hg.block pL (Array.getElem?_eq_some_iff.1 HX2.out).1 (fun e => by
        have := (World.ownsRow.lt HP.out.bs.ro pL e.symm).2
        omega)).trans HX2.out
      have oth : ∀ b, b ≠ gb → (w2.setCell ⟨gb, 1, none⟩ (.slice ov (n + 1) cv)).heap[b]? = w2.heap[b]? := fun b hb => Below.heap_setCell _ _ _ _ hb
      have ks : ∀ {v : Value} {l : List ByteArray} {B' : Nat}, Row X2 B' 9 1 eS v l → Row (w2.setCell ⟨gb, 1, none⟩ (.slice ov (n + 1) cv)) B' 9 1 eS v l := fun hr => Row.block hr fun b hb => by
        obtain ⟨c, hc⟩ := Row.typed hr b hb
        exact (oth b (fun e => by subst e; exact tyKS_ne HG2.out hc)).trans (kst b c hc)
      refine ⟨kk, ov, n + 1, cv, rfl, (cell_row hgb2 1 _ rfl).1, (cell_row hgb2 1 _ rfl).2, hpl2, (oth pL (fun e => hgbp e.symm)).trans hpl2, L.take kk ++ [y] ++ L.drop kk, by rw [set_row hgb2 1 _]; rfl, ⟨ks HP2.out.th, HP2.out.zt, ⟨Row.block hrow fun b hb => oth b (fun e => by
        obtain ⟨c', hc'⟩ := Row.typed hrow b hb
        subst e
        exact tyK_ne hgb2 hc'), fun z hz => ?_⟩, ?_⟩, ?_, ?_⟩
      · have hz' : z ∈ L ∨ z = y := by
          rcases List.mem_append.1 hz with h | h
          · rcases List.mem_append.1 h with h | h
            · exact .inl (List.mem_of_mem_take h)
            · exact .inr (List.mem_singleton.1 h)
          · exact .inl (List.mem_of_mem_drop h)
        rcases hz' with h | h
        · have he := HP2.out.bs.el z h
          exact ⟨ks he.h, ks he.n, he.z, he.zh, he.zn⟩
        · rw [h, ey]
          exact ⟨Row.nil _ _ _ _ _, Row.low (ks HR2.out) (by have := HBB.out.2; omega), by unfold maxLen; show x.size ≤ _; omega, (fun s hs => by cases hs), fun s hs => by have := HNZ.out s hs; unfold maxLen; omega⟩
      · refine hdT_ins (m := w.heap.size) kk HP2.out.nd (fun b hb => (HP.out.lt hb).2) ?_ ?_
        · rw [ey]
          exact hdX_two (m := 0) (fun b hb => by cases hb) (fun b _ => Nat.zero_le _)
        · intro b hb
          rw [ey] at hb
          rcases hdX_mem.1 hb with h | h
          · cases h
          · have := (World.ownsRow.lt HR2.out b h).1; omega
      · rw [epos, List.map_append, List.map_append, List.map_take, List.map_drop, ey]
        rfl
      · refine (((HB2.out.mono HBB.out.2).drew.grown hg hB2 (fun p hpp => (World.ownsRow.lt hro p hpp).1))).setCell (p := ⟨gb, 1, none⟩) HBB.out.1 _
    refine wp_region_all (fun v => v.heap[pL]? = some (.cells #[.string x, .slice none 0 0, .slice ar br cr] 43 (0, 0))) (by kernel_rfl) ?_
    have HC : Hid (X2.drew.heap[pL]? = some (.cells #[.string x, .slice none 0 0, .slice ar br cr] 43 (0, 0))) := HX2.out
    have g1d : X2.drew.cell? ⟨gb, 1, none⟩ = some (.slice ob n kb) := g1
    refine takeA (f := 12) (i := 0) (.pointer (some ⟨gb, 0, none⟩)) ⟨rfl, rfl⟩ (by kernel_rfl) rfl (HC.out) ?r0 ?_
    case r0 => intro v hv; go_simp
    simp only [Act.put, List.setIfInBounds_toArray, List.set_cons_zero, List.set_cons_succ]
    refine takeA (f := 11) (i := 1) (.pointer (some ⟨gb, 0, none⟩)) ⟨rfl, rfl⟩ (by kernel_rfl) rfl (HC.out) ?r1 ?_
    case r1 => intro v hv; go_simp
    simp only [Act.put, List.setIfInBounds_toArray, List.set_cons_zero, List.set_cons_succ]
    refine takeA (f := 10) (i := 2) (.pointer (some ⟨gb, 0, none⟩)) ⟨rfl, rfl⟩ (by kernel_rfl) rfl (HC.out) ?r2 ?_
    case r2 => intro v hv; go_simp
    simp only [Act.put, List.setIfInBounds_toArray, List.set_cons_zero, List.set_cons_succ]
    refine takeA (f := 9) (i := 3) (.pointer (some ⟨gb, 1, none⟩)) ⟨rfl, rfl⟩ (by kernel_rfl) rfl (HC.out) ?r3 ?_
    case r3 => intro v hv; go_simp
    simp only [Act.put, List.setIfInBounds_toArray, List.set_cons_zero, List.set_cons_succ]
    refine takeA (f := 8) (i := 5) (.agg #[.string x, .slice none 0 0, .slice ar br cr]) ⟨rfl, rfl⟩ (by kernel_rfl) rfl (HC.out) ?r5 ?_
    case r5 => intro v hv; have k0 := (cell_row hv 0 _ rfl).1; have k1 := (cell_row hv 1 _ rfl).1; have k2 := (cell_row hv 2 _ rfl).1; go_simp
    simp only [Act.put, List.setIfInBounds_toArray, List.set_cons_zero, List.set_cons_succ]
    refine oneHd (f := 7) (i := 4) (.slice ob n kb) X2.drew ⟨rfl, rfl⟩ (by decide) (by kernel_rfl) rfl ?r4 HC.out ?_
    case r4 => go_simp
    simp only [Act.put, List.setIfInBounds_toArray, List.set_cons_zero, List.set_cons_succ]
    refine callHd (f := 6) (i := 6) ⟨rfl, rfl⟩ (by decide) (by kernel_rfl) rfl ?r6 (Calls.mono hCL.out ?_)
    case r6 => go_simp
    rintro e w2 ⟨kk, ov, lv, cv, rfl, t1, t1f, t2, t3, L', s1, s2, s3, s4⟩
    have HC : Hid _ := t2
    refine ⟨_, rfl, t2, ?_⟩
    simp only [Act.put, List.setIfInBounds_toArray, List.set_cons_zero, List.set_cons_succ]
    refine takeA (f := 5) (i := 7) (.tuple #[.slice ov lv cv, .int .i64 kk]) ⟨rfl, rfl⟩ (by kernel_rfl) rfl (HC.out) ?r7 ?_
    case r7 => intro v hv; go_simp
    simp only [Act.put, List.setIfInBounds_toArray, List.set_cons_zero, List.set_cons_succ]
    refine takeA (f := 4) (i := 8) (.slice ov lv cv) ⟨rfl, rfl⟩ (by kernel_rfl) rfl (HC.out) ?r8 ?_
    case r8 => intro v hv; go_simp
    simp only [Act.put, List.setIfInBounds_toArray, List.set_cons_zero, List.set_cons_succ]
    refine takeA (f := 3) (i := 9) (.int .i64 kk) ⟨rfl, rfl⟩ (by kernel_rfl) rfl (HC.out) ?r9 ?_
    case r9 => intro v hv; go_simp
    simp only [Act.put, List.setIfInBounds_toArray, List.set_cons_zero, List.set_cons_succ]
    refine takeA (f := 2) (i := 10) (.pointer (some ⟨gb, 0, none⟩)) ⟨rfl, rfl⟩ (by kernel_rfl) rfl (HC.out) ?r10 ?_
    case r10 => intro v hv; go_simp
    simp only [Act.put, List.setIfInBounds_toArray, List.set_cons_zero, List.set_cons_succ]
    refine takeA (f := 1) (i := 11) (.pointer (some ⟨gb, 1, none⟩)) ⟨rfl, rfl⟩ (by kernel_rfl) rfl (HC.out) ?r11 ?_
    case r11 => intro v hv; go_simp
    simp only [Act.put, List.setIfInBounds_toArray, List.set_cons_zero, List.set_cons_succ]
    refine storeHd (f := 0) (i := 12) (w2.setCell ⟨gb, 1, none⟩ (.slice ov lv cv)) ⟨rfl, rfl⟩ (by decide) (by kernel_rfl) rfl ?r12 t3 ?_
    case r12 => go_simp
    refine ⟨by kernel_rfl, ?_⟩
    have S1 : Hid _ := s1
    have S2 : Hid _ := s2
    have S3 : Hid _ := s3
    have S4 : Hid _ := s4
    clear t1 t1f t2 t3 s1 s2 s3 s4 g1 g1d hCL
    generalize w2.setCell ⟨gb, 1, none⟩ (.slice ov lv cv) = Y at S1 S2 S3 S4 ⊢
    go_wp2_with fail
    go_end0
    exact ⟨rfl, _, L', S1.out, S2.out, S3.out, S4.out⟩
end Go.Proofs.YtaejlcanccfmmaaGreatDoor
