/-
  Several texts in one.
-/
import Derived.Test.YtaejlcanccfmmaaGreatDoorM26
import Derived.Test.YtaejlcanccfmmaaGreatDoorZdf
import Derived.Test.YtaejlcanccfmmaaGreatDoorZdi
namespace Go.Proofs.YtaejlcanccfmmaaGreatDoor
open Go.RowKit Go.Sort
set_option maxRecDepth 100000 in
set_option maxHeartbeats 32000000 in
theorem book_rd (R : Nat) (ob : Option Addr) (n cb : Nat) (f : Nat → Int) (p : Int) (w : World) (h : Rd R w ob n cb p f) (hp : p ≤ 40000) :
    Calls Tryz.prog 41 #[.pointer (some ⟨R, 0, none⟩)] w fun e w' => ∃ (p0 : Option Addr) (m0 j0 : Nat) (p1 : Option Addr) (m1 j1 : Nat) (D : DShareBook), e = .returned (.agg #[.slice p0 m0 j0, .slice p1 m1 j1]) ∧ SzD 16 D ∧ Hid (AtL (fun b => w.heap.size < b ∧ b < w'.heap.size) w' D.1 (.slice p0 m0 j0) ∧ AtL (fun b => w.heap.size < b ∧ b < w'.heap.size) w' D.2 (.slice p1 m1 j1)) ∧ ∃ p', p' ≤ p + 26500 ∧ Hid (Rd R w' ob n cb p' f) ∧ Hid (But (fun k => k = R) w w') := by
  have rlt := h.lt
  obtain ⟨W, hW⟩ : ∃ W, W = w.alloc (.cells #[.slice none 0 0, .slice none 0 0] 26) := ⟨_, rfl⟩
  have EW : Hid (W = w.alloc (.cells #[.slice none 0 0, .slice none 0 0] 26)) := hW
  have BW : Hid (Below w.heap.size w W) := by rw [hW]; exact (Below.refl _ _).alloc (Nat.le_refl _) _
  have R1 : Hid (W.heap[w.heap.size]? = some (.cells #[.slice none 0 0, .slice none 0 0] 26 (0, 0))) := by rw [hW]; exact heap_alloc_new w _
  have sW : W.heap.size = w.heap.size + 1 := by rw [hW]; simp
  have SW : Hid (W.heap.size = w.heap.size + 1) := sW
  have RD0 : Hid (Rd R W ob n cb p f) := h.but (fun b hb => BW.out.block b (by omega))
  clear hW h sW
  go_enter Tryz.func41, Tryz.ntmps41
  go_upto_region 1 with fail
  rw [← EW.out]
  go_wp2_with fail
  refine (base_rd R ob n cb f p W RD0.out (by omega)).mono ?_
  rintro e w1 ⟨v0, T, rfl, hT, hrow, q1, hq1, rd1, bt1⟩
  obtain ⟨o0, k0, rfl⟩ := Row.form hrow.out
  obtain ⟨n0, en0⟩ : ∃ m, T.length = m := ⟨_, rfl⟩
  have HROW : Hid (Row w1 W.heap.size 9 1 eS (.slice o0 n0 k0) T) := by have h9 := hrow.out; rw [en0] at h9; exact h9
  rw [en0]
  obtain ⟨U, hU⟩ : ∃ U, U = w1.alloc (.cells #[.slice o0 n0 k0, .slice none 0 0] 26) := ⟨_, rfl⟩
  have EU : Hid (U = w1.alloc (.cells #[.slice o0 n0 k0, .slice none 0 0] 26)) := hU
  obtain ⟨gb, hgb⟩ : ∃ g, g = w1.heap.size := ⟨_, rfl⟩
  have EGB : Hid (gb = w1.heap.size) := hgb
  have b2 : Below w1.heap.size w1 U := by rw [hU]; exact (Below.refl _ _).alloc (Nat.le_refl _) _
  have s1 := bt1.out.size
  have sw := SW.out
  have hgl : w.heap.size < gb := by omega
  have BKU : Hid (U.heap[gb]? = some (.cells #[.slice o0 n0 k0, .slice none 0 0] 26 (0, 0))) := by rw [hgb, hU]; exact heap_alloc_new w1 _
  have RSU : Hid (U.heap[w.heap.size]? = some (.cells #[.slice none 0 0, .slice none 0 0] 26 (0, 0))) := (b2.block _ (by omega)).trans ((bt1.out.block _ (by omega) (by omega)).trans R1.out)
  have RDU0 : Hid (Rd R U ob n cb q1 f) := rd1.out.but (fun b hb => b2.block b (by omega))
  have BTU : Hid (But (fun k => k = R) w U) := (But.of_below BW.out).trans (bt1.out.trans (But.of_below b2))
  have m5 : ∀ s ∈ T, s.size ≤ maxLen := fun s hs => Nat.le_trans (hT.2 s hs) (by unfold maxLen; omega)
  have ATU : Hid (AtL (fun b => w.heap.size < b ∧ b < U.heap.size ∧ b ≠ gb) U T (.slice o0 n0 k0)) := by
    have hr := Row.below HROW.out b2
    have s2 := b2.size
    exact flatS.row_at hr (fun b hb => by
      have h1 := World.ownsRow.lt hr b hb
      have h2 := World.ownsRow.lt HROW.out b hb
      exact ⟨by omega, h1.2, by omega⟩) m5
  have HT5 : Hid (SzL 5 T) := hT
  clear hU hgb b2 hrow HROW rd1 bt1 s1 sw m5 en0 R1 RD0 BW hT
  go_upto_region 2 with fail
  rw [← EU.out, ← EGB.out]
  clear EU EGB
  go_wp2_with fail
  refine (pick_rd R ob n cb f q1 3 U RDU0.out (by omega) (by omega) (by omega)).mono ?_
  rintro e u1 ⟨z, rfl, hz0, hz1, q2, hq2, rdn, btn⟩
  have su := btn.out.size
  have BK1 : Hid (u1.heap[gb]? = some (.cells #[.slice o0 n0 k0, .slice none 0 0] 26 (0, 0))) := (btn.out.block _ (Array.getElem?_eq_some_iff.1 BKU.out).1 (by omega)).trans BKU.out
  have RS1 : Hid (u1.heap[w.heap.size]? = some (.cells #[.slice none 0 0, .slice none 0 0] 26 (0, 0))) := (btn.out.block _ (Array.getElem?_eq_some_iff.1 RSU.out).1 (by omega)).trans RSU.out
  have BT1 : Hid (But (fun k => k = R) w u1) := BTU.out.trans btn.out
  have RD1 : Hid (Rd R u1 ob n cb q2 f) := rdn
  have AT1 : Hid (AtL (fun b => w.heap.size < b ∧ b < u1.heap.size ∧ b ≠ gb) u1 T (.slice o0 n0 k0)) := (ATU.out.same (fun b hb => btn.out.block b hb.2.1 (fun e => by have e' : b = R := e; omega))).up (fun b hb => ⟨hb.1, by omega, hb.2.2⟩)
  clear rdn btn BKU RSU BTU RDU0 ATU su
  by_cases hz : z = 0
  · subst hz
    have x0 := (cell_row BK1.out 0 (.slice o0 n0 k0) rfl).1
    have x1 := (cell_row BK1.out 1 (.slice none 0 0) rfl).1
    go_wp2_with fail
    refine (wild_rd R ob n cb f q2 T o0 n0 k0 u1 RD1.out (by omega) (AT1.out.up (fun b hb => ⟨hb.2.1, by omega⟩)) HT5.out).mono ?_
    rintro e u2 ⟨o1, n1, k1, Bs, rfl, hsz, hat, q3, hq3, rd3, bt3⟩
    have s3 := bt3.out.size
    have RS := (bt3.out.block _ (Array.getElem?_eq_some_iff.1 RS1.out).1 (by omega)).trans RS1.out
    have BT := BT1.out.trans bt3.out
    have RDU : Hid (Rd R u2 ob n cb q3 f) := rd3
    have AA : Hid (AtL (fun b => w.heap.size < b ∧ b < u2.heap.size ∧ b ≠ R) u2 T (.slice o0 n0 k0) ∧ AtL (fun b => w.heap.size < b ∧ b < u2.heap.size ∧ b ≠ R) u2 Bs (.slice o1 n1 k1)) := ⟨(AT1.out.same (fun b hb => bt3.out.block b hb.2.1 (fun e => by have e' : b = R := e; omega))).up (fun b hb => ⟨hb.1, by omega, by omega⟩), hat.out.up (fun b hb => ⟨by have := BT1.out.size; have := (Array.getElem?_eq_some_iff.1 RS1.out).1; omega, hb.2, by have := (Array.getElem?_eq_some_iff.1 RS1.out).1; omega⟩)⟩
    have HSZ : Hid (SzD 16 (T, Bs)) := hsz
    clear hat rd3 bt3 x0 x1 hsz s3
    have FIN : Hid (((u2.setCell ⟨w.heap.size, 0, none⟩ (.slice o0 n0 k0)).setCell ⟨w.heap.size, 1, none⟩ (.slice o1 n1 k1)).heap[w.heap.size]? = some (.cells #[.slice o0 n0 k0, .slice o1 n1 k1] 26 (0, 0))) := by
      have := set_row (set_row RS 0 (.slice o0 n0 k0)) 1 (.slice o1 n1 k1)
      show _ = _
      rw [this]; rfl
    have OTH : Hid (∀ q, q ≠ w.heap.size → ((u2.setCell ⟨w.heap.size, 0, none⟩ (.slice o0 n0 k0)).setCell ⟨w.heap.size, 1, none⟩ (.slice o1 n1 k1)).heap[q]? = u2.heap[q]?) := fun q hq => (Below.heap_setCell _ _ _ _ hq).trans (Below.heap_setCell _ _ _ _ hq)
    have BBT : Hid (But (fun k => k = R) w ((u2.setCell ⟨w.heap.size, 0, none⟩ (.slice o0 n0 k0)).setCell ⟨w.heap.size, 1, none⟩ (.slice o1 n1 k1))) := but_new (but_new BT (Nat.le_refl _) 0 _) (Nat.le_refl _) 1 _
    have SZF : Hid (((u2.setCell ⟨w.heap.size, 0, none⟩ (.slice o0 n0 k0)).setCell ⟨w.heap.size, 1, none⟩ (.slice o1 n1 k1)).heap.size = u2.heap.size) := by show _ = _; simp [World.setCell]
    obtain ⟨z0, f0⟩ := cell_row RS 0 (.slice none 0 0) rfl
    obtain ⟨z1, f1⟩ := cell_row RS 1 (.slice none 0 0) rfl
    clear RS BT
    go_wp2_with fail
    generalize ((u2.setCell ⟨w.heap.size, 0, none⟩ (.slice o0 n0 k0)).setCell ⟨w.heap.size, 1, none⟩ (.slice o1 n1 k1)) = F at FIN OTH BBT SZF ⊢
    have g0 := (cell_row FIN.out 0 (.slice o0 n0 k0) rfl).1
    have g1 := (cell_row FIN.out 1 (.slice o1 n1 k1) rfl).1
    have szf := SZF.out
    refine bodyPost_ret (v := .agg #[.slice o0 n0 k0, .slice o1 n1 k1]) (by simp [results, Tryz.results41, go_sem, g0, g1]) rfl ⟨o0, n0, k0, o1, n1, k1, (T, Bs), rfl, HSZ.out, ⟨AtL.up (AtL.same (AA.out.1) (fun b hb => OTH.out b (by omega))) (fun b hb => ⟨by omega, by omega⟩), AtL.up (AtL.same (AA.out.2) (fun b hb => OTH.out b (by omega))) (fun b hb => ⟨by omega, by omega⟩)⟩, q3, by omega, RDU.out.but (fun b hb => OTH.out b (by omega)), BBT⟩
  have hzp : (z == 0) = false := by simpa using hz
  go_wp2_with fail
  refine (pick_rd R ob n cb f q2 24 u1 RD1.out (by omega) (by omega) (by omega)).mono ?_
  rintro e u2 ⟨z2, rfl, hz20, hz21, q3, hq3, rdn, btn⟩
  have su := btn.out.size
  have BK2 : Hid (u2.heap[gb]? = some (.cells #[.slice o0 n0 k0, .slice none 0 0] 26 (0, 0))) := (btn.out.block _ (Array.getElem?_eq_some_iff.1 BK1.out).1 (by omega)).trans BK1.out
  have RS2 : Hid (u2.heap[w.heap.size]? = some (.cells #[.slice none 0 0, .slice none 0 0] 26 (0, 0))) := (btn.out.block _ (Array.getElem?_eq_some_iff.1 RS1.out).1 (by omega)).trans RS1.out
  have BT2 : Hid (But (fun k => k = R) w u2) := BT1.out.trans btn.out
  have RD2 : Hid (Rd R u2 ob n cb q3 f) := rdn
  have AT2 : Hid (AtL (fun b => w.heap.size < b ∧ b < u2.heap.size ∧ b ≠ gb) u2 T (.slice o0 n0 k0)) := (AT1.out.same (fun b hb => btn.out.block b hb.2.1 (fun e => by have e' : b = R := e; omega))).up (fun b hb => ⟨hb.1, by omega, hb.2.2⟩)
  obtain ⟨m, rfl⟩ : ∃ m : Nat, z2 = (m : Int) := ⟨z2.toNat, by omega⟩
  clear rdn btn BK1 RS1 BT1 RD1 AT1 su
  go_wp2_with fail
  go_loopw [4] (fun i wr => ∃ (k : Nat) (pk : Int) (p0 : Option Addr) (m0 j0 : Nat) (p1 : Option Addr) (m1 j1 : Nat) (D : DShareBook), k ≤ m ∧ i = .int .i64 k ∧ pk ≤ q3 + (m - k) * 1100 ∧ Hid (SzD 16 D) ∧ Hid (wr.heap[gb]? = some (.cells #[.slice p0 m0 j0, .slice p1 m1 j1] 26 (0, 0))) ∧ Hid (wr.heap[w.heap.size]? = some (.cells #[.slice none 0 0, .slice none 0 0] 26 (0, 0))) ∧ Hid (AtL (fun b => w.heap.size < b ∧ b < wr.heap.size ∧ b ≠ gb) wr D.1 (.slice p0 m0 j0) ∧ AtL (fun b => w.heap.size < b ∧ b < wr.heap.size ∧ b ≠ gb) wr D.2 (.slice p1 m1 j1)) ∧ Hid (Rd R wr ob n cb pk f) ∧ Hid (But (fun k => k = R) w wr)) (fun i _ => (intOf i).toNat)
  case atStart => exact ⟨m, q3, o0, n0, k0, none, 0, 0, (T, []), Nat.le_refl _, rfl, by omega, ⟨HT5.out.mono (by omega), Nat.zero_le _, fun f hf => (nomatch hf)⟩, BK2, RS2, ⟨AT2.out, ⟨none, 0, rfl, ⟨by unfold maxLen; simp, Nat.le_refl _, fun _ => rfl⟩, fun i hi => by cases hi⟩⟩, RD2, BT2⟩
  case round =>
    obtain ⟨k, pk, p0, m0, j0, p1, m1, j1, D, hk, rfl, hpk, HSD, HBK, HRS, HAT, HRD, HBT⟩ := hrel
    clear BK2 RS2 BT2 RD2 AT2
    have x0 := (cell_row HBK.out 0 (.slice p0 m0 j0) rfl).1
    have x1 := (cell_row HBK.out 1 (.slice p1 m1 j1) rfl).1
    by_cases hk0 : 0 < k
    case neg =>
      have hke : ¬ (0 : Int) < (k : Int) := by omega
      have RS := HRS.out
      have BT := HBT.out
      have RDU : Hid (Rd R wr ob n cb pk f) := HRD
      have AA : Hid (AtL (fun b => w.heap.size < b ∧ b < wr.heap.size ∧ b ≠ R) wr D.1 (.slice p0 m0 j0) ∧ AtL (fun b => w.heap.size < b ∧ b < wr.heap.size ∧ b ≠ R) wr D.2 (.slice p1 m1 j1)) := ⟨HAT.out.1.up (fun b hb => ⟨hb.1, hb.2.1, by omega⟩), HAT.out.2.up (fun b hb => ⟨hb.1, hb.2.1, by omega⟩)⟩
      have HM : Hid (pk ≤ q3 + 23 * 1100) := by
        have e1 : ((m : Int) - k) * 1100 ≤ 23 * 1100 := by omega
        show _ ≤ _
        omega
      have FIN : Hid (((wr.setCell ⟨w.heap.size, 0, none⟩ (.slice p0 m0 j0)).setCell ⟨w.heap.size, 1, none⟩ (.slice p1 m1 j1)).heap[w.heap.size]? = some (.cells #[.slice p0 m0 j0, .slice p1 m1 j1] 26 (0, 0))) := by
        have := set_row (set_row RS 0 (.slice p0 m0 j0)) 1 (.slice p1 m1 j1)
        show _ = _
        rw [this]; rfl
      have OTH : Hid (∀ q, q ≠ w.heap.size → ((wr.setCell ⟨w.heap.size, 0, none⟩ (.slice p0 m0 j0)).setCell ⟨w.heap.size, 1, none⟩ (.slice p1 m1 j1)).heap[q]? = wr.heap[q]?) := fun q hq => (Below.heap_setCell _ _ _ _ hq).trans (Below.heap_setCell _ _ _ _ hq)
      have BBT : Hid (But (fun k => k = R) w ((wr.setCell ⟨w.heap.size, 0, none⟩ (.slice p0 m0 j0)).setCell ⟨w.heap.size, 1, none⟩ (.slice p1 m1 j1))) := but_new (but_new BT (Nat.le_refl _) 0 _) (Nat.le_refl _) 1 _
      have SZF : Hid (((wr.setCell ⟨w.heap.size, 0, none⟩ (.slice p0 m0 j0)).setCell ⟨w.heap.size, 1, none⟩ (.slice p1 m1 j1)).heap.size = wr.heap.size) := by show _ = _; simp [World.setCell]
      obtain ⟨z0, f0⟩ := cell_row RS 0 (.slice none 0 0) rfl
      obtain ⟨z1, f1⟩ := cell_row RS 1 (.slice none 0 0) rfl
      clear RS BT
      go_wp2_with fail
      generalize ((wr.setCell ⟨w.heap.size, 0, none⟩ (.slice p0 m0 j0)).setCell ⟨w.heap.size, 1, none⟩ (.slice p1 m1 j1)) = F at FIN OTH BBT SZF ⊢
      have g0 := (cell_row FIN.out 0 (.slice p0 m0 j0) rfl).1
      have g1 := (cell_row FIN.out 1 (.slice p1 m1 j1) rfl).1
      have szf := SZF.out
      refine bodyPost_ret (v := .agg #[.slice p0 m0 j0, .slice p1 m1 j1]) (by simp [results, Tryz.results41, go_sem, g0, g1]) rfl ⟨p0, m0, j0, p1, m1, j1, rfl, D.1, D.2, HSD.out, ⟨AtL.up (AtL.same (AA.out.1) (fun b hb => OTH.out b (by omega))) (fun b hb => ⟨by omega, by omega⟩), AtL.up (AtL.same (AA.out.2) (fun b hb => OTH.out b (by omega))) (fun b hb => ⟨by omega, by omega⟩)⟩, pk, (by have := HM.out; omega), RDU.out.but (fun b hb => OTH.out b (by omega)), BBT⟩
    obtain ⟨k', rfl⟩ : ∃ k', k = k' + 1 := ⟨k - 1, by omega⟩
    have HPK : Hid (pk ≤ q3 + (m - (k' + 1 : Nat)) * 1100) := hpk
    have hpk2 : pk ≤ 74000 := by
      have e1 : ((m : Int) - (k' + 1 : Nat)) * 1100 ≤ 23 * 1100 := by omega
      omega
    clear hpk x0 x1
    go_upto_region 7 with fail
    have HC : Hid (wr.drew.heap[gb]? = some (.cells #[.slice p0 m0 j0, .slice p1 m1 j1] 26 (0, 0))) := HBK.out
    refine wp_region_movesC (fun v => v.heap[gb]? = some (.cells #[.slice p0 m0 j0, .slice p1 m1 j1] 26 (0, 0))) 5 [] (by kernel_rfl) (by kernel_rfl) HC.out ?_
    simp only [List.filterMap_nil, movD]
    refine takeHQ (f := 4) (i := 0) (.agg #[.slice p0 m0 j0, .slice p1 m1 j1]) ⟨rfl, rfl⟩ (by kernel_rfl) rfl (HC.out) ?r0 ?_
    case r0 => intro v hv; have c0 := (cell_row hv 0 _ rfl).1; have c1 := (cell_row hv 1 _ rfl).1; go_simp
    simp only [Act.put, List.setIfInBounds_toArray, List.set_cons_zero, List.set_cons_succ]
    refine takeHQ (f := 3) (i := 1) (.pointer (some ⟨R, 0, none⟩)) ⟨rfl, rfl⟩ (by kernel_rfl) rfl (HC.out) ?r1 ?_
    case r1 => intro v hv; go_simp
    simp only [Act.put, List.setIfInBounds_toArray, List.set_cons_zero, List.set_cons_succ]
    refine takeHQ (f := 2) (i := 2) (.agg #[.slice p0 m0 j0, .slice p1 m1 j1]) ⟨rfl, rfl⟩ (by kernel_rfl) rfl (HC.out) ?r2 ?_
    case r2 => intro v hv; have c0 := (cell_row hv 0 _ rfl).1; have c1 := (cell_row hv 1 _ rfl).1; go_simp
    simp only [Act.put, List.setIfInBounds_toArray, List.set_cons_zero, List.set_cons_succ]
    have hdr : But (fun k => k = R) wr wr.drew := But.of_below ((Below.refl wr.heap.size wr).drew)
    have rdd : Rd R wr.drew ob n cb pk f := HRD.out.but (fun b hb => rfl)
    have dkd : Dk R wr.drew D (.slice p0 m0 j0) (.slice p1 m1 j1) := ⟨(HAT.out.1.same (fun b hb => rfl)).up (fun b hb => ⟨hb.2.1, by omega⟩), (HAT.out.2.same (fun b hb => rfl)).up (fun b hb => ⟨hb.2.1, by omega⟩)⟩
    refine callHd (f := 1) (i := 3) ⟨rfl, rfl⟩ (by decide) (by kernel_rfl) rfl ?r3 ((does_rd R ob n cb f pk D p0 p1 m0 j0 m1 j1 wr.drew rdd (by omega) dkd (HSD.out.mono (by omega))).mono ?_)
    case r3 => go_simp
    rintro e V2 ⟨kd, x, on, nn, kn, nd, rfl, hx, hnd, hrow, q5, hq5, rd5, bt5⟩
    have bt : But (fun k => k = R) wr V2 := hdr.trans bt5.out
    have s5 := bt.size
    have gbl := (Array.getElem?_eq_some_iff.1 HBK.out).1
    have wl := (Array.getElem?_eq_some_iff.1 HRS.out).1
    have BK5 := (bt.block gb gbl (by omega)).trans HBK.out
    have RS5 := (bt.block _ wl (by omega)).trans HRS.out
    refine ⟨_, rfl, BK5, ?_⟩
    simp only [Act.put, List.setIfInBounds_toArray, List.set_cons_zero, List.set_cons_succ]
    have sam : Same (fun b => w.heap.size < b ∧ b < wr.heap.size ∧ b ≠ gb) wr V2 := fun b hb => bt.block b hb.2.1 (fun e => by have e' : b = R := e; omega)
    have m64 : 65 ≤ maxLen := by unfold maxLen; omega
    have szd : wr.drew.heap.size = wr.heap.size := rfl
    refine callHd (f := 0) (i := 4) ⟨rfl, rfl⟩ (by decide) (by kernel_rfl) rfl ?r4 ((step_rd (fun b => w.heap.size < b ∧ b < wr.heap.size ∧ b ≠ gb) (fun b => b < V2.heap.size ∧ b ≠ R) D.1 D.2 p0 p1 m0 j0 m1 j1 kd x nd on nn kn V2 (HAT.out.1.same sam) (HAT.out.2.same sam) (fun b hb => by omega) (row_dk hrow.out (by omega) (fun s hs => Nat.le_trans (hnd.2 s hs) m64)) (fun b hb => hb.1) (by omega)).mono ?_)
    case r4 => go_simp
    rintro e V3 ⟨r0, r1, c0, d0, c1, d1, rfl, a0, a1, hb3⟩
    have BK6 := (hb3.out.block gb (by omega)).trans BK5
    have RS6 := (hb3.out.block _ (by omega)).trans RS5
    refine ⟨_, rfl, BK6, ?_⟩
    simp only [Act.put, List.setIfInBounds_toArray, List.set_cons_zero, List.set_cons_succ]
    refine ⟨by kernel_rfl, ?_⟩
    simp only [List.drop_succ_cons, List.drop_zero]
    obtain ⟨z0, f0⟩ := cell_row BK6 0 _ rfl
    obtain ⟨z1, f1⟩ := cell_row BK6 1 _ rfl
    have hszn : SzD 16 (stpD kd D x nd) := stp_sz HSD.out
    have HSN : Hid (SzD 16 (stpD kd D x nd)) := hszn
    have oth : ∀ q, q ≠ gb → ((V3.setCell ⟨gb, 0, none⟩ (.slice r0 c0 d0)).setCell ⟨gb, 1, none⟩ (.slice r1 c1 d1)).heap[q]? = V3.heap[q]? := fun q hq => (Below.heap_setCell _ _ _ _ hq).trans (Below.heap_setCell _ _ _ _ hq)
    have szs : ((V3.setCell ⟨gb, 0, none⟩ (.slice r0 c0 d0)).setCell ⟨gb, 1, none⟩ (.slice r1 c1 d1)).heap.size = V3.heap.size := by simp [World.setCell]
    have NBK : Hid (((V3.setCell ⟨gb, 0, none⟩ (.slice r0 c0 d0)).setCell ⟨gb, 1, none⟩ (.slice r1 c1 d1)).heap[gb]? = some (.cells #[.slice r0 c0 d0, .slice r1 c1 d1] 26 (0, 0))) := by
      have := set_row (set_row BK6 0 (.slice r0 c0 d0)) 1 (.slice r1 c1 d1)
      show _ = _
      rw [this]; rfl
    have NRS : Hid (((V3.setCell ⟨gb, 0, none⟩ (.slice r0 c0 d0)).setCell ⟨gb, 1, none⟩ (.slice r1 c1 d1)).heap[w.heap.size]? = some (.cells #[.slice none 0 0, .slice none 0 0] 26 (0, 0))) := (oth _ (by omega)).trans RS6
    have NAT : Hid (AtL (fun b => w.heap.size < b ∧ b < ((V3.setCell ⟨gb, 0, none⟩ (.slice r0 c0 d0)).setCell ⟨gb, 1, none⟩ (.slice r1 c1 d1)).heap.size ∧ b ≠ gb) ((V3.setCell ⟨gb, 0, none⟩ (.slice r0 c0 d0)).setCell ⟨gb, 1, none⟩ (.slice r1 c1 d1)) (stpD kd D x nd).1 (.slice r0 c0 d0) ∧ AtL (fun b => w.heap.size < b ∧ b < ((V3.setCell ⟨gb, 0, none⟩ (.slice r0 c0 d0)).setCell ⟨gb, 1, none⟩ (.slice r1 c1 d1)).heap.size ∧ b ≠ gb) ((V3.setCell ⟨gb, 0, none⟩ (.slice r0 c0 d0)).setCell ⟨gb, 1, none⟩ (.slice r1 c1 d1)) (stpD kd D x nd).2 (.slice r1 c1 d1)) := ⟨(AtL.same a0.out (fun b hb => oth b (by omega))).up (fun b hb => ⟨by omega, by rw [szs]; exact hb.2, by omega⟩), (AtL.same a1.out (fun b hb => oth b (by omega))).up (fun b hb => ⟨by omega, by rw [szs]; exact hb.2, by omega⟩)⟩
    have NRD : Hid (Rd R ((V3.setCell ⟨gb, 0, none⟩ (.slice r0 c0 d0)).setCell ⟨gb, 1, none⟩ (.slice r1 c1 d1)) ob n cb q5 f) := (rd5.out.but (w' := V3) (fun b hb => hb3.out.block b (by omega))).but (fun b hb => oth b (by omega))
    have NBT : Hid (But (fun k => k = R) w ((V3.setCell ⟨gb, 0, none⟩ (.slice r0 c0 d0)).setCell ⟨gb, 1, none⟩ (.slice r1 c1 d1))) := but_new (but_new (HBT.out.trans (bt.trans (But.of_below hb3.out))) (by omega) 0 _) (by omega) 1 _
    clear oth szs sam hszn a0 a1 hb3 rd5 bt5 hrow bt BK5 BK6 RS5 RS6 dkd rdd hdr
    go_wp2_with fail
    go_roundw
    case rel => exact ⟨k', q5, r0, c0, d0, r1, c1, d1, stpD kd D x nd, by omega, by go_num, by have h9 := HPK.out; have e9 : ((m : Int) - (k' + 1 : Nat)) * 1100 + 1100 = (m - k') * 1100 := (by omega); omega, HSN, NBK, NRS, NAT, NRD, NBT⟩
    case measure => simp [intOf]
end Go.Proofs.YtaejlcanccfmmaaGreatDoor

namespace Go.Proofs.YtaejlcanccfmmaaGreatDoor
open Go.RowKit Go.Sort
def SpoilC : Prop := ∀ (R : Nat) (ob : Option Addr) (n cb : Nat) (f : Nat → Int) (p : Int) (D : DShareBook) (o0 oa : Option Addr) (n0 k0 nb kb : Nat) (w : World), Rd R w ob n cb p f → p ≤ 80000 → Dk R w D (.slice o0 n0 k0) (.slice oa nb kb) → SzD 16 D →
    Calls Tryz.prog 42 #[.pointer (some ⟨R, 0, none⟩), .agg #[.slice o0 n0 k0, .slice oa nb kb]] w fun e w' => ∃ (p0 : Option Addr) (m0 j0 : Nat) (p1 : Option Addr) (m1 j1 : Nat) (D' : DShareBook), e = .returned (.agg #[.slice p0 m0 j0, .slice p1 m1 j1]) ∧ SzD 17 D' ∧ Hid (AtL (fun b => w.heap.size < b ∧ b < w'.heap.size) w' D'.1 (.slice p0 m0 j0) ∧ AtL (fun b => w.heap.size < b ∧ b < w'.heap.size) w' D'.2 (.slice p1 m1 j1)) ∧ ∃ p', p' ≤ p + 20 ∧ Hid (Rd R w' ob n cb p' f) ∧ Hid (But (fun k => k = R) w w')
set_option maxRecDepth 100000 in
set_option maxHeartbeats 16000000 in
theorem any_rd (SP : SpoilC) (R : Nat) (ob : Option Addr) (n cb : Nat) (f : Nat → Int) (p : Int) (w : World) (h : Rd R w ob n cb p f) (hp : p ≤ 40000) :
    Calls Tryz.prog 25 #[.pointer (some ⟨R, 0, none⟩)] w fun e w' => ∃ (p0 : Option Addr) (m0 j0 : Nat) (p1 : Option Addr) (m1 j1 : Nat) (D' : DShareBook), e = .returned (.agg #[.slice p0 m0 j0, .slice p1 m1 j1]) ∧ SzD 17 D' ∧ Hid (AtL (fun b => w.heap.size < b ∧ b < w'.heap.size) w' D'.1 (.slice p0 m0 j0) ∧ AtL (fun b => w.heap.size < b ∧ b < w'.heap.size) w' D'.2 (.slice p1 m1 j1)) ∧ ∃ p', p' ≤ p + 26600 ∧ Hid (Rd R w' ob n cb p' f) ∧ Hid (But (fun k => k = R) w w') := by
  have rlt := h.lt
  have HSP : Hid SpoilC := SP
  obtain ⟨W, hW⟩ : ∃ W, W = w.alloc (.cells #[.slice none 0 0, .slice none 0 0] 26) := ⟨_, rfl⟩
  have EW : Hid (W = w.alloc (.cells #[.slice none 0 0, .slice none 0 0] 26)) := hW
  have BW : Hid (Below w.heap.size w W) := by rw [hW]; exact (Below.refl _ _).alloc (Nat.le_refl _) _
  have R1 : Hid (W.heap[w.heap.size]? = some (.cells #[.slice none 0 0, .slice none 0 0] 26 (0, 0))) := by rw [hW]; exact heap_alloc_new w _
  have SW : Hid (W.heap.size = w.heap.size + 1) := by rw [hW]; simp [Hid]
  have RD0 : Hid (Rd R W ob n cb p f) := h.but (fun b hb => BW.out.block b (by omega))
  clear hW h SP
  go_enter Tryz.func25, Tryz.ntmps25
  go_upto_region 1 with fail
  rw [← EW.out]
  go_wp2_with fail
  refine (book_rd R ob n cb f p W RD0.out (by omega)).mono ?_
  rintro e w1 ⟨o0, n0, k0, oa, nb, kb, D, rfl, hsz, hdk, q1, hq1, rd1, bt1⟩
  obtain ⟨U, hU⟩ : ∃ U, U = w1.alloc (.cells #[.slice o0 n0 k0, .slice oa nb kb] 26) := ⟨_, rfl⟩
  have EU : Hid (U = w1.alloc (.cells #[.slice o0 n0 k0, .slice oa nb kb] 26)) := hU
  obtain ⟨gb, hgb⟩ : ∃ g, g = w1.heap.size := ⟨_, rfl⟩
  have EGB : Hid (gb = w1.heap.size) := hgb
  have b2 : Below w1.heap.size w1 U := by rw [hU]; exact (Below.refl _ _).alloc (Nat.le_refl _) _
  have s1 := bt1.out.size
  have s2 := b2.size
  have sw := SW.out
  have hgl : w.heap.size < gb := by omega
  have BKU : Hid (U.heap[gb]? = some (.cells #[.slice o0 n0 k0, .slice oa nb kb] 26 (0, 0))) := by rw [hgb, hU]; exact heap_alloc_new w1 _
  have RSU : Hid (U.heap[w.heap.size]? = some (.cells #[.slice none 0 0, .slice none 0 0] 26 (0, 0))) := (b2.block _ (by omega)).trans ((bt1.out.block _ (by omega) (by omega)).trans R1.out)
  have RDU0 : Hid (Rd R U ob n cb q1 f) := rd1.out.but (fun b hb => b2.block b (by omega))
  have BTU : Hid (But (fun k => k = R) w U) := (But.of_below BW.out).trans (bt1.out.trans (But.of_below b2))
  have ATU : Hid (AtL (fun b => w.heap.size < b ∧ b < U.heap.size) U D.1 (.slice o0 n0 k0) ∧ AtL (fun b => w.heap.size < b ∧ b < U.heap.size) U D.2 (.slice oa nb kb)) := ⟨(hdk.out.1.same (fun b hb => b2.block b hb.2)).up (fun b hb => ⟨by omega, by omega⟩), (hdk.out.2.same (fun b hb => b2.block b hb.2)).up (fun b hb => ⟨by omega, by omega⟩)⟩
  have HSZ : Hid (SzD 16 D) := hsz
  clear hU hgb b2 rd1 bt1 s1 s2 sw R1 RD0 BW hsz hdk
  go_upto_region 2 with fail
  rw [← EU.out, ← EGB.out]
  clear EU EGB
  go_wp2_with fail
  refine (pick_rd R ob n cb f q1 20 U RDU0.out (by omega) (by omega) (by omega)).mono ?_
  rintro e u1 ⟨z, rfl, hz0, hz1, q2, hq2, rdn, btn⟩
  have su := btn.out.size
  have BK1 : Hid (u1.heap[gb]? = some (.cells #[.slice o0 n0 k0, .slice oa nb kb] 26 (0, 0))) := (btn.out.block _ (Array.getElem?_eq_some_iff.1 BKU.out).1 (by omega)).trans BKU.out
  have RS1 : Hid (u1.heap[w.heap.size]? = some (.cells #[.slice none 0 0, .slice none 0 0] 26 (0, 0))) := (btn.out.block _ (Array.getElem?_eq_some_iff.1 RSU.out).1 (by omega)).trans RSU.out
  have BT1 : Hid (But (fun k => k = R) w u1) := BTU.out.trans btn.out
  have RD1 : Hid (Rd R u1 ob n cb q2 f) := rdn
  have AT1 : Hid (AtL (fun b => w.heap.size < b ∧ b < u1.heap.size) u1 D.1 (.slice o0 n0 k0) ∧ AtL (fun b => w.heap.size < b ∧ b < u1.heap.size) u1 D.2 (.slice oa nb kb)) := ⟨(ATU.out.1.same (fun b hb => btn.out.block b hb.2 (fun e => by have e' : b = R := e; omega))).up (fun b hb => ⟨hb.1, by omega⟩), (ATU.out.2.same (fun b hb => btn.out.block b hb.2 (fun e => by have e' : b = R := e; omega))).up (fun b hb => ⟨hb.1, by omega⟩)⟩
  clear rdn btn BKU RSU BTU RDU0 ATU su
  have x0 := (cell_row BK1.out 0 (.slice o0 n0 k0) rfl).1
  have x1 := (cell_row BK1.out 1 (.slice oa nb kb) rfl).1
  by_cases hz : z = 0
  · subst hz
    go_wp2_with fail
    refine (HSP.out R ob n cb f q2 D o0 oa n0 k0 nb kb u1 RD1.out (by omega) ⟨AT1.out.1.up (fun b hb => ⟨hb.2, by omega⟩), AT1.out.2.up (fun b hb => ⟨hb.2, by omega⟩)⟩ HSZ.out).mono ?_
    rintro e u2 ⟨p0, m0, j0, p1, m1, j1, D2, rfl, hsz, hat, q3, hq3, rd3, bt3⟩
    have s3 := bt3.out.size
    have RS := (bt3.out.block _ (Array.getElem?_eq_some_iff.1 RS1.out).1 (by omega)).trans RS1.out
    have BT := BT1.out.trans bt3.out
    have RDU : Hid (Rd R u2 ob n cb q3 f) := rd3
    have wl := (Array.getElem?_eq_some_iff.1 RS1.out).1
    have AA : Hid (AtL (fun b => w.heap.size < b ∧ b < u2.heap.size) u2 D2.1 (.slice p0 m0 j0) ∧ AtL (fun b => w.heap.size < b ∧ b < u2.heap.size) u2 D2.2 (.slice p1 m1 j1)) := ⟨hat.out.1.up (fun b hb => ⟨by omega, hb.2⟩), hat.out.2.up (fun b hb => ⟨by omega, hb.2⟩)⟩
    have HS2 : Hid (SzD 17 D2) := hsz
    clear hat rd3 bt3 x0 x1 hsz s3 wl
    have FIN : Hid (((u2.setCell ⟨w.heap.size, 0, none⟩ (.slice p0 m0 j0)).setCell ⟨w.heap.size, 1, none⟩ (.slice p1 m1 j1)).heap[w.heap.size]? = some (.cells #[.slice p0 m0 j0, .slice p1 m1 j1] 26 (0, 0))) := by
      have := set_row (set_row RS 0 (.slice p0 m0 j0)) 1 (.slice p1 m1 j1)
      show _ = _
      rw [this]; rfl
    have OTH : Hid (∀ q, q ≠ w.heap.size → ((u2.setCell ⟨w.heap.size, 0, none⟩ (.slice p0 m0 j0)).setCell ⟨w.heap.size, 1, none⟩ (.slice p1 m1 j1)).heap[q]? = u2.heap[q]?) := fun q hq => (Below.heap_setCell _ _ _ _ hq).trans (Below.heap_setCell _ _ _ _ hq)
    have BBT : Hid (But (fun k => k = R) w ((u2.setCell ⟨w.heap.size, 0, none⟩ (.slice p0 m0 j0)).setCell ⟨w.heap.size, 1, none⟩ (.slice p1 m1 j1))) := but_new (but_new BT (Nat.le_refl _) 0 _) (Nat.le_refl _) 1 _
    have SZF : Hid (((u2.setCell ⟨w.heap.size, 0, none⟩ (.slice p0 m0 j0)).setCell ⟨w.heap.size, 1, none⟩ (.slice p1 m1 j1)).heap.size = u2.heap.size) := by show _ = _; simp [World.setCell]
    obtain ⟨z0, f0⟩ := cell_row RS 0 (.slice none 0 0) rfl
    obtain ⟨z1, f1⟩ := cell_row RS 1 (.slice none 0 0) rfl
    clear RS BT
    go_wp2_with fail
    generalize ((u2.setCell ⟨w.heap.size, 0, none⟩ (.slice p0 m0 j0)).setCell ⟨w.heap.size, 1, none⟩ (.slice p1 m1 j1)) = F at FIN OTH BBT SZF ⊢
    have g0 := (cell_row FIN.out 0 (.slice p0 m0 j0) rfl).1
    have g1 := (cell_row FIN.out 1 (.slice p1 m1 j1) rfl).1
    have szf := SZF.out
    refine bodyPost_ret (v := .agg #[.slice p0 m0 j0, .slice p1 m1 j1]) (by simp [results, Tryz.results25, go_sem, g0, g1]) rfl ⟨p0, m0, j0, p1, m1, j1, D2, rfl, HS2.out, ⟨AtL.up (AtL.same (AA.out.1) (fun b hb => OTH.out b (by omega))) (fun b hb => ⟨by omega, by omega⟩), AtL.up (AtL.same (AA.out.2) (fun b hb => OTH.out b (by omega))) (fun b hb => ⟨by omega, by omega⟩)⟩, q3, by omega, RDU.out.but (fun b hb => OTH.out b (by omega)), BBT⟩
  have hzp : (z == 0) = false := by simpa using hz
  have RS := RS1.out
  have BT := BT1.out
  have RDU : Hid (Rd R u1 ob n cb q2 f) := RD1
  have FIN : Hid (((u1.setCell ⟨w.heap.size, 0, none⟩ (.slice o0 n0 k0)).setCell ⟨w.heap.size, 1, none⟩ (.slice oa nb kb)).heap[w.heap.size]? = some (.cells #[.slice o0 n0 k0, .slice oa nb kb] 26 (0, 0))) := by
    have := set_row (set_row RS 0 (.slice o0 n0 k0)) 1 (.slice oa nb kb)
    show _ = _
    rw [this]; rfl
  have OTH : Hid (∀ q, q ≠ w.heap.size → ((u1.setCell ⟨w.heap.size, 0, none⟩ (.slice o0 n0 k0)).setCell ⟨w.heap.size, 1, none⟩ (.slice oa nb kb)).heap[q]? = u1.heap[q]?) := fun q hq => (Below.heap_setCell _ _ _ _ hq).trans (Below.heap_setCell _ _ _ _ hq)
  have BBT : Hid (But (fun k => k = R) w ((u1.setCell ⟨w.heap.size, 0, none⟩ (.slice o0 n0 k0)).setCell ⟨w.heap.size, 1, none⟩ (.slice oa nb kb))) := but_new (but_new BT (Nat.le_refl _) 0 _) (Nat.le_refl _) 1 _
  have SZF : Hid (((u1.setCell ⟨w.heap.size, 0, none⟩ (.slice o0 n0 k0)).setCell ⟨w.heap.size, 1, none⟩ (.slice oa nb kb)).heap.size = u1.heap.size) := by show _ = _; simp [World.setCell]
  obtain ⟨z0, f0⟩ := cell_row RS 0 (.slice none 0 0) rfl
  obtain ⟨z1, f1⟩ := cell_row RS 1 (.slice none 0 0) rfl
  clear RS BT
  go_wp2_with fail
  generalize ((u1.setCell ⟨w.heap.size, 0, none⟩ (.slice o0 n0 k0)).setCell ⟨w.heap.size, 1, none⟩ (.slice oa nb kb)) = F at FIN OTH BBT SZF ⊢
  have g0 := (cell_row FIN.out 0 (.slice o0 n0 k0) rfl).1
  have g1 := (cell_row FIN.out 1 (.slice oa nb kb) rfl).1
  have szf := SZF.out
  refine bodyPost_ret (v := .agg #[.slice o0 n0 k0, .slice oa nb kb]) (by simp [results, Tryz.results25, go_sem, g0, g1]) rfl ⟨o0, n0, k0, oa, nb, kb, D, rfl, HSZ.out.mono (by omega), ⟨AtL.up (AtL.same (AT1.out.1) (fun b hb => OTH.out b (by omega))) (fun b hb => ⟨by omega, by omega⟩), AtL.up (AtL.same (AT1.out.2) (fun b hb => OTH.out b (by omega))) (fun b hb => ⟨by omega, by omega⟩)⟩, q2, by omega, RDU.out.but (fun b hb => OTH.out b (by omega)), BBT⟩
end Go.Proofs.YtaejlcanccfmmaaGreatDoor
