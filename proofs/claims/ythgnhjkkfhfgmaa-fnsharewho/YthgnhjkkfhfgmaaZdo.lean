/-
  A book of shares and a thing, drawn: DrawShareWho, with what l55Spoil does as a hypothesis.
-/
import Derived.Test.YthgnhjkkfhfgmaaZdn
import Derived.Test.YthgnhjkkfhfgmaaZdk
namespace Go.Proofs.Ythgnhjkkfhfgmaa
open Go.RowKit Go.Sort

def DwE (w : World) (e : Ending) (w' : World) : Prop := ∃ (p0 : Option Addr) (m0 j0 : Nat) (p1 : Option Addr) (m1 j1 : Nat) (D : DShareBook) (s : ByteArray), e = .returned (.tuple #[.agg #[.slice p0 m0 j0, .slice p1 m1 j1], .string s]) ∧ SzD 17 D ∧ s.size ≤ 64 ∧ Hid (AtL (fun b => w.heap.size < b ∧ b < w'.heap.size) w' D.1 (.slice p0 m0 j0) ∧ AtL (fun b => w.heap.size < b ∧ b < w'.heap.size) w' D.2 (.slice p1 m1 j1)) ∧ Hid (Below w.heap.size w w')
theorem DwE.of {w : World} {e : Ending} {w' : World} (h : ∃ (p0 : Option Addr) (m0 j0 : Nat) (p1 : Option Addr) (m1 j1 : Nat) (D : DShareBook) (s : ByteArray), e = .returned (.tuple #[.agg #[.slice p0 m0 j0, .slice p1 m1 j1], .string s]) ∧ SzD 17 D ∧ s.size ≤ 64 ∧ Hid (AtL (fun b => w.heap.size < b ∧ b < w'.heap.size) w' D.1 (.slice p0 m0 j0) ∧ AtL (fun b => w.heap.size < b ∧ b < w'.heap.size) w' D.2 (.slice p1 m1 j1)) ∧ Hid (Below w.heap.size w w')) : DwE w e w' := h

set_option maxRecDepth 100000 in
set_option maxHeartbeats 16000000 in
theorem drawW_any (SP : SpoilC) (ob : Option Addr) (n cb : Nat) (f : Nat → Int) (w : World) (hn : n ≤ maxLen) (hnc : n ≤ cb) (fb : ∀ i, 0 ≤ f i ∧ f i ≤ 255)
    (ce : ∀ i, i < n → ∃ b off, ob = some ⟨b, off, none⟩ ∧ b < w.heap.size ∧ w.cell? ⟨b, off + i, none⟩ = some (.int .u8 (f i))) :
    Calls Try.prog 4 #[.slice ob n cb] w fun e w' => DwE w e w' := by
  have HSP : Hid SpoilC := SP
  have HOP : Hid (1 ≤ n → ∃ a, ob = some a) := fun h => by obtain ⟨b, off, h1, _⟩ := ce 0 (by omega); exact ⟨_, h1⟩
  have HCE : Hid _ := ce
  have HFB : Hid _ := fb
  obtain ⟨W, hW⟩ : ∃ W, W = w.alloc (.cells #[.slice none 0 0, .slice none 0 0] 26) := ⟨_, rfl⟩
  have EW : Hid (W = w.alloc (.cells #[.slice none 0 0, .slice none 0 0] 26)) := hW
  have BW : Hid (Below w.heap.size w W) := by rw [hW]; exact (Below.refl _ _).alloc (Nat.le_refl _) _
  have R1 : Hid (W.heap[w.heap.size]? = some (.cells #[.slice none 0 0, .slice none 0 0] 26 (0, 0))) := by rw [hW]; exact heap_alloc_new w _
  have SW : Hid (W.heap.size = w.heap.size + 1) := by rw [hW]; simp [Hid]
  clear ce fb hW SP
  go_enter Try.func4, Try.ntmps4
  go_upto_region 1 with fail
  rw [← EW.out]
  go_wp2_with fail
  refine (open_any ob n cb W hn hnc HOP.out).mono ?_
  rintro e W1 ⟨n', hn1, hn2, rfl, hW1⟩
  obtain ⟨R, hR⟩ : ∃ R, R = W.heap.size := ⟨_, rfl⟩
  have sw := SW.out
  have RD1 : Hid (Rd R W1 ob n' cb 0 f) := by
    rw [hW1, hR]
    refine ⟨heap_alloc_new W _, hn1, by omega, by omega, HFB.out, fun i hi => ?_⟩
    obtain ⟨b, off, h1, h2, h3⟩ := HCE.out i (by omega)
    exact ⟨b, off, h1, by omega, (World.cell?_of_block (w := w) (a := ⟨b, off + i, none⟩) ((Below.heap_alloc W _ b (by omega)).trans (BW.out.block b h2))).trans h3⟩
  have B1 : Hid (Below W.heap.size W W1) := by show Below W.heap.size W W1; rw [hW1]; exact (Below.refl _ _).alloc (Nat.le_refl _) _
  have s1 : W1.heap.size = w.heap.size + 2 := by rw [hW1]; simp; omega
  have rlo : R = w.heap.size + 1 := by omega
  rw [← hR]
  clear hR hW1 hn2 hn hnc HCE HFB HOP
  have RS1 : Hid (W1.heap[w.heap.size]? = some (.cells #[.slice none 0 0, .slice none 0 0] 26 (0, 0))) := (B1.out.block _ (by omega)).trans R1.out
  have BL1 : Hid (Below w.heap.size w W1) := BW.out.trans (B1.out.mono (by omega))
  have HR : Hid (R = w.heap.size + 1) := rlo
  have HS1 : Hid (W1.heap.size = w.heap.size + 2) := s1
  clear R1 B1 BW rlo s1 sw
  go_wp2_with fail
  refine (any_rd HSP.out R ob n' cb f 0 W1 RD1.out (by omega)).mono ?_
  rintro e W2 ⟨p0, m0, j0, p1, m1, j1, D, rfl, hsz, hat, q2, hq2, rd2, bt2⟩
  have rr := HR.out
  have s1 := HS1.out
  have s2 := bt2.out.size
  obtain ⟨U, hU⟩ : ∃ U, U = W2.alloc (.cells #[.slice p0 m0 j0, .slice p1 m1 j1] 26) := ⟨_, rfl⟩
  have EU : Hid (U = W2.alloc (.cells #[.slice p0 m0 j0, .slice p1 m1 j1] 26)) := hU
  obtain ⟨gb, hgb⟩ : ∃ g, g = W2.heap.size := ⟨_, rfl⟩
  have EGB : Hid (gb = W2.heap.size) := hgb
  have bU : Below W2.heap.size W2 U := by rw [hU]; exact (Below.refl _ _).alloc (Nat.le_refl _) _
  have sU := bU.size
  have hbt : But (fun k => k = R) W1 U := bt2.out.trans (But.of_below bU)
  have RSU : Hid (U.heap[w.heap.size]? = some (.cells #[.slice none 0 0, .slice none 0 0] 26 (0, 0))) := (hbt.block _ (by omega) (by omega)).trans RS1.out
  have BKU : Hid (U.heap[gb]? = some (.cells #[.slice p0 m0 j0, .slice p1 m1 j1] 26 (0, 0))) := by rw [hgb, hU]; exact heap_alloc_new W2 _
  have RDU : Hid (Rd R U ob n' cb q2 f) := rd2.out.but (fun b hb => bU.block b (by omega))
  have BLU : Hid (Below w.heap.size w U) := BL1.out.trans (hbt.below (B := w.heap.size) (fun b hb => by omega) (by omega))
  have ATU : Hid (AtL (fun b => W1.heap.size < b ∧ b < U.heap.size) U D.1 (.slice p0 m0 j0) ∧ AtL (fun b => W1.heap.size < b ∧ b < U.heap.size) U D.2 (.slice p1 m1 j1)) := ⟨(hat.out.1.same (fun b hb => bU.block b hb.2)).up (fun b hb => ⟨hb.1, by omega⟩), (hat.out.2.same (fun b hb => bU.block b hb.2)).up (fun b hb => ⟨hb.1, by omega⟩)⟩
  have HSZ : Hid (SzD 17 D) := hsz
  have hgl : w.heap.size + 2 ≤ gb := by omega
  clear hU hgb bU hbt hat hsz rd2 bt2 RS1 RD1 BL1 sU s2 s1 rr
  go_upto_region 3 with fail
  rw [← EU.out, ← EGB.out]
  clear EU EGB
  have HC : Hid (U.drew.heap[gb]? = some (.cells #[.slice p0 m0 j0, .slice p1 m1 j1] 26 (0, 0))) := BKU.out
  refine wp_region_movesC (fun v => v.heap[gb]? = some (.cells #[.slice p0 m0 j0, .slice p1 m1 j1] 26 (0, 0))) 4 [] (by kernel_rfl) (by kernel_rfl) HC.out ?_
  simp only [List.filterMap_nil, movD]
  refine takeHQ (f := 3) (i := 0) (.agg #[.slice p0 m0 j0, .slice p1 m1 j1]) ⟨rfl, rfl⟩ (by kernel_rfl) rfl (HC.out) ?r0 ?_
  case r0 => intro v hv; have c0 := (cell_row hv 0 _ rfl).1; have c1 := (cell_row hv 1 _ rfl).1; go_simp
  simp only [Act.put, List.setIfInBounds_toArray, List.set_cons_zero, List.set_cons_succ]
  refine takeHQ (f := 2) (i := 1) (.pointer (some ⟨R, 0, none⟩)) ⟨rfl, rfl⟩ (by kernel_rfl) rfl (HC.out) ?r1 ?_
  case r1 => intro v hv; go_simp
  simp only [Act.put, List.setIfInBounds_toArray, List.set_cons_zero, List.set_cons_succ]
  refine takeHQ (f := 1) (i := 2) (.agg #[.slice p0 m0 j0, .slice p1 m1 j1]) ⟨rfl, rfl⟩ (by kernel_rfl) rfl (HC.out) ?r2 ?_
  case r2 => intro v hv; have c0 := (cell_row hv 0 _ rfl).1; have c1 := (cell_row hv 1 _ rfl).1; go_simp
  simp only [Act.put, List.setIfInBounds_toArray, List.set_cons_zero, List.set_cons_succ]
  have rr := HR.out
  have s1 := HS1.out
  have rdd : Rd R U.drew ob n' cb q2 f := RDU.out.but (fun b hb => rfl)
  refine callHd (f := 0) (i := 3) ⟨rfl, rfl⟩ (by decide) (by kernel_rfl) rfl ?r3 ((thing_rd R ob n' cb f q2 D.1 p0 p1 m0 j0 m1 j1 U.drew rdd (by omega) ((ATU.out.1.same (fun b hb => rfl)).up (fun b hb => ⟨hb.2, by omega⟩)) (HSZ.out.1.mono (by omega))).mono ?_)
  case r3 => go_simp
  rintro e V2 ⟨s, rfl, hs, q3, hq3, rd3, bt3⟩
  have hbt : But (fun k => k = R) U V2 := (But.of_below ((Below.refl U.heap.size U).drew)).trans bt3.out
  have sV := hbt.size
  have wl := (Array.getElem?_eq_some_iff.1 RSU.out).1
  have gl := (Array.getElem?_eq_some_iff.1 BKU.out).1
  refine ⟨_, rfl, (hbt.block gb gl (by omega)).trans BKU.out, ?_⟩
  simp only [Act.put, List.setIfInBounds_toArray, List.set_cons_zero, List.set_cons_succ]
  refine ⟨by kernel_rfl, ?_⟩
  simp only [List.drop_succ_cons, List.drop_zero]
  have RS := (hbt.block _ wl (by omega)).trans RSU.out
  have FIN : Hid (((V2.setCell ⟨w.heap.size, 0, none⟩ (.slice p0 m0 j0)).setCell ⟨w.heap.size, 1, none⟩ (.slice p1 m1 j1)).heap[w.heap.size]? = some (.cells #[.slice p0 m0 j0, .slice p1 m1 j1] 26 (0, 0))) := by
    have := set_row (set_row RS 0 (.slice p0 m0 j0)) 1 (.slice p1 m1 j1)
    show _ = _
    rw [this]; rfl
  have OTH : Hid (∀ q, q ≠ w.heap.size → ((V2.setCell ⟨w.heap.size, 0, none⟩ (.slice p0 m0 j0)).setCell ⟨w.heap.size, 1, none⟩ (.slice p1 m1 j1)).heap[q]? = V2.heap[q]?) := fun q hq => (Below.heap_setCell _ _ _ _ hq).trans (Below.heap_setCell _ _ _ _ hq)
  have BEL : Hid (Below w.heap.size w ((V2.setCell ⟨w.heap.size, 0, none⟩ (.slice p0 m0 j0)).setCell ⟨w.heap.size, 1, none⟩ (.slice p1 m1 j1))) := ((BLU.out.trans (hbt.below (B := w.heap.size) (fun b hb => by omega) (by omega))).setCell (p := ⟨w.heap.size, 0, none⟩) (Nat.le_refl _) _).setCell (p := ⟨w.heap.size, 1, none⟩) (Nat.le_refl _) _
  have SZF : Hid (((V2.setCell ⟨w.heap.size, 0, none⟩ (.slice p0 m0 j0)).setCell ⟨w.heap.size, 1, none⟩ (.slice p1 m1 j1)).heap.size = V2.heap.size) := by show _ = _; simp [World.setCell]
  have ATV : Hid (AtL (fun b => W1.heap.size < b ∧ b < V2.heap.size) V2 D.1 (.slice p0 m0 j0) ∧ AtL (fun b => W1.heap.size < b ∧ b < V2.heap.size) V2 D.2 (.slice p1 m1 j1)) := ⟨(ATU.out.1.same (fun b hb => hbt.block b hb.2 (by omega))).up (fun b hb => ⟨hb.1, by omega⟩), (ATU.out.2.same (fun b hb => hbt.block b hb.2 (by omega))).up (fun b hb => ⟨hb.1, by omega⟩)⟩
  obtain ⟨z0, f0⟩ := cell_row RS 0 (.slice none 0 0) rfl
  obtain ⟨z1, f1⟩ := cell_row RS 1 (.slice none 0 0) rfl
  clear RS rdd rd3 bt3 hbt
  go_wp2_with fail
  generalize ((V2.setCell ⟨w.heap.size, 0, none⟩ (.slice p0 m0 j0)).setCell ⟨w.heap.size, 1, none⟩ (.slice p1 m1 j1)) = F at FIN OTH BEL SZF ⊢
  have g0 := (cell_row FIN.out 0 (.slice p0 m0 j0) rfl).1
  have g1 := (cell_row FIN.out 1 (.slice p1 m1 j1) rfl).1
  have szf := SZF.out
  exact bodyPost_ret (v := .tuple #[.agg #[.slice p0 m0 j0, .slice p1 m1 j1], .string s]) (by simp [results, Try.results4, go_sem, g0, g1]) rfl (DwE.of ⟨p0, m0, j0, p1, m1, j1, D, s, rfl, HSZ.out, hs, ⟨AtL.up (AtL.same ATV.out.1 (fun b hb => OTH.out b (by omega))) (fun b hb => ⟨by omega, by omega⟩), AtL.up (AtL.same ATV.out.2 (fun b hb => OTH.out b (by omega))) (fun b hb => ⟨by omega, by omega⟩)⟩, BEL⟩)

end Go.Proofs.Ythgnhjkkfhfgmaa
