/-
  Any book of shares, drawn: l55Any, with what l55Spoil does as a hypothesis.
-/
import Derived.Test.YthgnhjkkfhfgmabZdj
namespace Go.Proofs.Ythgnhjkkfhfgmab
open Go.RowKit Go.Sort

/-- What l55Spoil does: a book of its own, somewhat greater. -/
def SpoilC : Prop := ∀ (R : Nat) (ob : Option Addr) (n cb : Nat) (f : Nat → Int) (p : Int) (D : DShareBook) (o0 oa : Option Addr) (n0 k0 nb kb : Nat) (w : World), Rd R w ob n cb p f → p ≤ 80000 → Dk R w D (.slice o0 n0 k0) (.slice oa nb kb) → SzD 16 D →
    Calls Try.prog 39 #[.pointer (some ⟨R, 0, none⟩), .agg #[.slice o0 n0 k0, .slice oa nb kb]] w fun e w' => ∃ (p0 : Option Addr) (m0 j0 : Nat) (p1 : Option Addr) (m1 j1 : Nat) (D' : DShareBook), e = .returned (.agg #[.slice p0 m0 j0, .slice p1 m1 j1]) ∧ SzD 17 D' ∧ Hid (AtL (fun b => w.heap.size < b ∧ b < w'.heap.size) w' D'.1 (.slice p0 m0 j0) ∧ AtL (fun b => w.heap.size < b ∧ b < w'.heap.size) w' D'.2 (.slice p1 m1 j1)) ∧ ∃ p', p' ≤ p + 20 ∧ Hid (Rd R w' ob n cb p' f) ∧ Hid (But (fun k => k = R) w w')

set_option maxRecDepth 100000 in
set_option maxHeartbeats 16000000 in
theorem any_rd (SP : SpoilC) (R : Nat) (ob : Option Addr) (n cb : Nat) (f : Nat → Int) (p : Int) (w : World) (h : Rd R w ob n cb p f) (hp : p ≤ 40000) :
    Calls Try.prog 15 #[.pointer (some ⟨R, 0, none⟩)] w fun e w' => ∃ (p0 : Option Addr) (m0 j0 : Nat) (p1 : Option Addr) (m1 j1 : Nat) (D' : DShareBook), e = .returned (.agg #[.slice p0 m0 j0, .slice p1 m1 j1]) ∧ SzD 17 D' ∧ Hid (AtL (fun b => w.heap.size < b ∧ b < w'.heap.size) w' D'.1 (.slice p0 m0 j0) ∧ AtL (fun b => w.heap.size < b ∧ b < w'.heap.size) w' D'.2 (.slice p1 m1 j1)) ∧ ∃ p', p' ≤ p + 26600 ∧ Hid (Rd R w' ob n cb p' f) ∧ Hid (But (fun k => k = R) w w') := by
  have rlt := h.lt
  have HSP : Hid SpoilC := SP
  obtain ⟨W, hW⟩ : ∃ W, W = w.alloc (.cells #[.slice none 0 0, .slice none 0 0] 26) := ⟨_, rfl⟩
  have EW : Hid (W = w.alloc (.cells #[.slice none 0 0, .slice none 0 0] 26)) := hW
  have BW : Hid (Below w.heap.size w W) := by rw [hW]; exact (Below.refl _ _).alloc (Nat.le_refl _) _
  have R1 : Hid (W.heap[w.heap.size]? = some (.cells #[.slice none 0 0, .slice none 0 0] 26 (0, 0))) := by rw [hW]; exact heap_alloc_new w _
  have SW : Hid (W.heap.size = w.heap.size + 1) := by rw [hW]; simp [Hid]
  have RD0 : Hid (Rd R W ob n cb p f) := h.but (fun b hb => BW.out.block b (by omega))
  clear hW h SP
  go_enter Try.func15, Try.ntmps15
  go_upto_region 1 with fail
  rw [← EW.out]
  go_wp2_with fail
  refine (book_rd R ob n cb f p W RD0.out (by omega)).mono ?_
  rintro e w1 ⟨o0, n0, k0, oa, nb, kb, D, rfl, hsz, hdk, q1, hq1, rd1, bt1⟩
  obtain ⟨U, hU⟩ : ∃ U, U = w1.alloc (.cells #[.slice o0 n0 k0, .slice oa nb kb] 26) := ⟨_, rfl⟩
  have EU : Hid (U = w1.alloc (.cells #[.slice o0 n0 k0, .slice oa nb kb] 26)) := hU
  obtain ⟨gb, hgb⟩ : ∃ g, g = w1.heap.size := ⟨_, rfl⟩
  have EGB : Hid (gb = w1.heap.size) := hgb
  have b2 : Below w1.heap.size w1 U := by rw [hU]; exact (Below.refl _ _).alloc (Nat.le_refl _) _
  have s1 := bt1.out.size
  have s2 := b2.size
  have sw := SW.out
  have hgl : w.heap.size < gb := by omega
  have BKU : Hid (U.heap[gb]? = some (.cells #[.slice o0 n0 k0, .slice oa nb kb] 26 (0, 0))) := by rw [hgb, hU]; exact heap_alloc_new w1 _
  have RSU : Hid (U.heap[w.heap.size]? = some (.cells #[.slice none 0 0, .slice none 0 0] 26 (0, 0))) := (b2.block _ (by omega)).trans ((bt1.out.block _ (by omega) (by omega)).trans R1.out)
  have RDU0 : Hid (Rd R U ob n cb q1 f) := rd1.out.but (fun b hb => b2.block b (by omega))
  have BTU : Hid (But (fun k => k = R) w U) := (But.of_below BW.out).trans (bt1.out.trans (But.of_below b2))
  have ATU : Hid (AtL (fun b => w.heap.size < b ∧ b < U.heap.size) U D.1 (.slice o0 n0 k0) ∧ AtL (fun b => w.heap.size < b ∧ b < U.heap.size) U D.2 (.slice oa nb kb)) := ⟨(hdk.out.1.same (fun b hb => b2.block b hb.2)).up (fun b hb => ⟨by omega, by omega⟩), (hdk.out.2.same (fun b hb => b2.block b hb.2)).up (fun b hb => ⟨by omega, by omega⟩)⟩
  have HSZ : Hid (SzD 16 D) := hsz
  clear hU hgb b2 rd1 bt1 s1 s2 sw R1 RD0 BW hsz hdk
  go_upto_region 2 with fail
  rw [← EU.out, ← EGB.out]
  clear EU EGB
  go_wp2_with fail
  refine (pick_rd R ob n cb f q1 20 U RDU0.out (by omega) (by omega) (by omega)).mono ?_
  rintro e u1 ⟨z, rfl, hz0, hz1, q2, hq2, rdn, btn⟩
  have su := btn.out.size
  have BK1 : Hid (u1.heap[gb]? = some (.cells #[.slice o0 n0 k0, .slice oa nb kb] 26 (0, 0))) := (btn.out.block _ (Array.getElem?_eq_some_iff.1 BKU.out).1 (by omega)).trans BKU.out
  have RS1 : Hid (u1.heap[w.heap.size]? = some (.cells #[.slice none 0 0, .slice none 0 0] 26 (0, 0))) := (btn.out.block _ (Array.getElem?_eq_some_iff.1 RSU.out).1 (by omega)).trans RSU.out
  have BT1 : Hid (But (fun k => k = R) w u1) := BTU.out.trans btn.out
  have RD1 : Hid (Rd R u1 ob n cb q2 f) := rdn
  have AT1 : Hid (AtL (fun b => w.heap.size < b ∧ b < u1.heap.size) u1 D.1 (.slice o0 n0 k0) ∧ AtL (fun b => w.heap.size < b ∧ b < u1.heap.size) u1 D.2 (.slice oa nb kb)) := ⟨(ATU.out.1.same (fun b hb => btn.out.block b hb.2 (fun e => by have e' : b = R := e; omega))).up (fun b hb => ⟨hb.1, by omega⟩), (ATU.out.2.same (fun b hb => btn.out.block b hb.2 (fun e => by have e' : b = R := e; omega))).up (fun b hb => ⟨hb.1, by omega⟩)⟩
  clear rdn btn BKU RSU BTU RDU0 ATU su
  have x0 := (cell_row BK1.out 0 (.slice o0 n0 k0) rfl).1
  have x1 := (cell_row BK1.out 1 (.slice oa nb kb) rfl).1
  by_cases hz : z = 0
  · subst hz
    go_wp2_with fail
    refine (HSP.out R ob n cb f q2 D o0 oa n0 k0 nb kb u1 RD1.out (by omega) ⟨AT1.out.1.up (fun b hb => ⟨hb.2, by omega⟩), AT1.out.2.up (fun b hb => ⟨hb.2, by omega⟩)⟩ HSZ.out).mono ?_
    rintro e u2 ⟨p0, m0, j0, p1, m1, j1, D2, rfl, hsz, hat, q3, hq3, rd3, bt3⟩
    have s3 := bt3.out.size
    have RS := (bt3.out.block _ (Array.getElem?_eq_some_iff.1 RS1.out).1 (by omega)).trans RS1.out
    have BT := BT1.out.trans bt3.out
    have RDU : Hid (Rd R u2 ob n cb q3 f) := rd3
    have wl := (Array.getElem?_eq_some_iff.1 RS1.out).1
    have AA : Hid (AtL (fun b => w.heap.size < b ∧ b < u2.heap.size) u2 D2.1 (.slice p0 m0 j0) ∧ AtL (fun b => w.heap.size < b ∧ b < u2.heap.size) u2 D2.2 (.slice p1 m1 j1)) := ⟨hat.out.1.up (fun b hb => ⟨by omega, hb.2⟩), hat.out.2.up (fun b hb => ⟨by omega, hb.2⟩)⟩
    have HS2 : Hid (SzD 17 D2) := hsz
    clear hat rd3 bt3 x0 x1 hsz s3 wl
    have FIN : Hid (((u2.setCell ⟨w.heap.size, 0, none⟩ (.slice p0 m0 j0)).setCell ⟨w.heap.size, 1, none⟩ (.slice p1 m1 j1)).heap[w.heap.size]? = some (.cells #[.slice p0 m0 j0, .slice p1 m1 j1] 26 (0, 0))) := by
      have := set_row (set_row RS 0 (.slice p0 m0 j0)) 1 (.slice p1 m1 j1)
      show _ = _
      rw [this]; rfl
    have OTH : Hid (∀ q, q ≠ w.heap.size → ((u2.setCell ⟨w.heap.size, 0, none⟩ (.slice p0 m0 j0)).setCell ⟨w.heap.size, 1, none⟩ (.slice p1 m1 j1)).heap[q]? = u2.heap[q]?) := fun q hq => (Below.heap_setCell _ _ _ _ hq).trans (Below.heap_setCell _ _ _ _ hq)
    have BBT : Hid (But (fun k => k = R) w ((u2.setCell ⟨w.heap.size, 0, none⟩ (.slice p0 m0 j0)).setCell ⟨w.heap.size, 1, none⟩ (.slice p1 m1 j1))) := but_new (but_new BT (Nat.le_refl _) 0 _) (Nat.le_refl _) 1 _
    have SZF : Hid (((u2.setCell ⟨w.heap.size, 0, none⟩ (.slice p0 m0 j0)).setCell ⟨w.heap.size, 1, none⟩ (.slice p1 m1 j1)).heap.size = u2.heap.size) := by show _ = _; simp [World.setCell]
    obtain ⟨z0, f0⟩ := cell_row RS 0 (.slice none 0 0) rfl
    obtain ⟨z1, f1⟩ := cell_row RS 1 (.slice none 0 0) rfl
    clear RS BT
    go_wp2_with fail
    generalize ((u2.setCell ⟨w.heap.size, 0, none⟩ (.slice p0 m0 j0)).setCell ⟨w.heap.size, 1, none⟩ (.slice p1 m1 j1)) = F at FIN OTH BBT SZF ⊢
    have g0 := (cell_row FIN.out 0 (.slice p0 m0 j0) rfl).1
    have g1 := (cell_row FIN.out 1 (.slice p1 m1 j1) rfl).1
    have szf := SZF.out
    refine bodyPost_ret (v := .agg #[.slice p0 m0 j0, .slice p1 m1 j1]) (by simp [results, Try.results15, go_sem, g0, g1]) rfl ⟨p0, m0, j0, p1, m1, j1, D2, rfl, HS2.out, ⟨AtL.up (AtL.same (AA.out.1) (fun b hb => OTH.out b (by omega))) (fun b hb => ⟨by omega, by omega⟩), AtL.up (AtL.same (AA.out.2) (fun b hb => OTH.out b (by omega))) (fun b hb => ⟨by omega, by omega⟩)⟩, q3, by omega, RDU.out.but (fun b hb => OTH.out b (by omega)), BBT⟩
  have hzp : (z == 0) = false := by simpa using hz
  have RS := RS1.out
  have BT := BT1.out
  have RDU : Hid (Rd R u1 ob n cb q2 f) := RD1
  have FIN : Hid (((u1.setCell ⟨w.heap.size, 0, none⟩ (.slice o0 n0 k0)).setCell ⟨w.heap.size, 1, none⟩ (.slice oa nb kb)).heap[w.heap.size]? = some (.cells #[.slice o0 n0 k0, .slice oa nb kb] 26 (0, 0))) := by
    have := set_row (set_row RS 0 (.slice o0 n0 k0)) 1 (.slice oa nb kb)
    show _ = _
    rw [this]; rfl
  have OTH : Hid (∀ q, q ≠ w.heap.size → ((u1.setCell ⟨w.heap.size, 0, none⟩ (.slice o0 n0 k0)).setCell ⟨w.heap.size, 1, none⟩ (.slice oa nb kb)).heap[q]? = u1.heap[q]?) := fun q hq => (Below.heap_setCell _ _ _ _ hq).trans (Below.heap_setCell _ _ _ _ hq)
  have BBT : Hid (But (fun k => k = R) w ((u1.setCell ⟨w.heap.size, 0, none⟩ (.slice o0 n0 k0)).setCell ⟨w.heap.size, 1, none⟩ (.slice oa nb kb))) := but_new (but_new BT (Nat.le_refl _) 0 _) (Nat.le_refl _) 1 _
  have SZF : Hid (((u1.setCell ⟨w.heap.size, 0, none⟩ (.slice o0 n0 k0)).setCell ⟨w.heap.size, 1, none⟩ (.slice oa nb kb)).heap.size = u1.heap.size) := by show _ = _; simp [World.setCell]
  obtain ⟨z0, f0⟩ := cell_row RS 0 (.slice none 0 0) rfl
  obtain ⟨z1, f1⟩ := cell_row RS 1 (.slice none 0 0) rfl
  clear RS BT
  go_wp2_with fail
  generalize ((u1.setCell ⟨w.heap.size, 0, none⟩ (.slice o0 n0 k0)).setCell ⟨w.heap.size, 1, none⟩ (.slice oa nb kb)) = F at FIN OTH BBT SZF ⊢
  have g0 := (cell_row FIN.out 0 (.slice o0 n0 k0) rfl).1
  have g1 := (cell_row FIN.out 1 (.slice oa nb kb) rfl).1
  have szf := SZF.out
  refine bodyPost_ret (v := .agg #[.slice o0 n0 k0, .slice oa nb kb]) (by simp [results, Try.results15, go_sem, g0, g1]) rfl ⟨o0, n0, k0, oa, nb, kb, D, rfl, HSZ.out.mono (by omega), ⟨AtL.up (AtL.same (AT1.out.1) (fun b hb => OTH.out b (by omega))) (fun b hb => ⟨by omega, by omega⟩), AtL.up (AtL.same (AT1.out.2) (fun b hb => OTH.out b (by omega))) (fun b hb => ⟨by omega, by omega⟩)⟩, q2, by omega, RDU.out.but (fun b hb => OTH.out b (by omega)), BBT⟩

end Go.Proofs.Ythgnhjkkfhfgmab
