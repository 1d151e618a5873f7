/-
  A book of shares, drawn: DrawShareOrder, with what l55Spoil does as a hypothesis.
-/
import Derived.Test.YthgnhjkkfhfgmabZdn
namespace Go.Proofs.Ythgnhjkkfhfgmab
open Go.RowKit Go.Sort

def DoE (w : World) (e : Ending) (w' : World) : Prop := ∃ (p0 : Option Addr) (m0 j0 : Nat) (p1 : Option Addr) (m1 j1 : Nat) (D : DShareBook), e = .returned (.agg #[.slice p0 m0 j0, .slice p1 m1 j1]) ∧ SzD 17 D ∧ Hid (AtL (fun b => w.heap.size < b ∧ b < w'.heap.size) w' D.1 (.slice p0 m0 j0) ∧ AtL (fun b => w.heap.size < b ∧ b < w'.heap.size) w' D.2 (.slice p1 m1 j1)) ∧ Hid (Below w.heap.size w w')
theorem DoE.of {w : World} {e : Ending} {w' : World} (h : ∃ (p0 : Option Addr) (m0 j0 : Nat) (p1 : Option Addr) (m1 j1 : Nat) (D : DShareBook), e = .returned (.agg #[.slice p0 m0 j0, .slice p1 m1 j1]) ∧ SzD 17 D ∧ Hid (AtL (fun b => w.heap.size < b ∧ b < w'.heap.size) w' D.1 (.slice p0 m0 j0) ∧ AtL (fun b => w.heap.size < b ∧ b < w'.heap.size) w' D.2 (.slice p1 m1 j1)) ∧ Hid (Below w.heap.size w w')) : DoE w e w' := h

set_option maxRecDepth 100000 in
set_option maxHeartbeats 16000000 in
theorem drawO_any (SP : SpoilC) (ob : Option Addr) (n cb : Nat) (f : Nat → Int) (w : World) (hn : n ≤ maxLen) (hnc : n ≤ cb) (fb : ∀ i, 0 ≤ f i ∧ f i ≤ 255)
    (ce : ∀ i, i < n → ∃ b off, ob = some ⟨b, off, none⟩ ∧ b < w.heap.size ∧ w.cell? ⟨b, off + i, none⟩ = some (.int .u8 (f i))) :
    Calls Try.prog 4 #[.slice ob n cb] w fun e w' => DoE w e w' := by
  have HSP : Hid SpoilC := SP
  have HOP : Hid (1 ≤ n → ∃ a, ob = some a) := fun h => by obtain ⟨b, off, h1, _⟩ := ce 0 (by omega); exact ⟨_, h1⟩
  have HCE : Hid _ := ce
  have HFB : Hid _ := fb
  obtain ⟨W, hW⟩ : ∃ W, W = w.alloc (.cells #[.slice none 0 0, .slice none 0 0] 26) := ⟨_, rfl⟩
  have EW : Hid (W = w.alloc (.cells #[.slice none 0 0, .slice none 0 0] 26)) := hW
  have BW : Hid (Below w.heap.size w W) := by rw [hW]; exact (Below.refl _ _).alloc (Nat.le_refl _) _
  have R1 : Hid (W.heap[w.heap.size]? = some (.cells #[.slice none 0 0, .slice none 0 0] 26 (0, 0))) := by rw [hW]; exact heap_alloc_new w _
  have SW : Hid (W.heap.size = w.heap.size + 1) := by rw [hW]; simp [Hid]
  clear ce fb hW SP
  go_enter Try.func4, Try.ntmps4
  go_upto_region 1 with fail
  rw [← EW.out]
  go_wp2_with fail
  refine (open_any ob n cb W hn hnc HOP.out).mono ?_
  rintro e W1 ⟨n', hn1, hn2, rfl, hW1⟩
  obtain ⟨R, hR⟩ : ∃ R, R = W.heap.size := ⟨_, rfl⟩
  have sw := SW.out
  have RD1 : Hid (Rd R W1 ob n' cb 0 f) := by
    rw [hW1, hR]
    refine ⟨heap_alloc_new W _, hn1, by omega, by omega, HFB.out, fun i hi => ?_⟩
    obtain ⟨b, off, h1, h2, h3⟩ := HCE.out i (by omega)
    exact ⟨b, off, h1, by omega, (World.cell?_of_block (w := w) (a := ⟨b, off + i, none⟩) ((Below.heap_alloc W _ b (by omega)).trans (BW.out.block b h2))).trans h3⟩
  have B1 : Hid (Below W.heap.size W W1) := by show Below W.heap.size W W1; rw [hW1]; exact (Below.refl _ _).alloc (Nat.le_refl _) _
  have s1 : W1.heap.size = w.heap.size + 2 := by rw [hW1]; simp; omega
  have rlo : R = w.heap.size + 1 := by omega
  rw [← hR]
  clear hR hW1 hn2 hn hnc HCE HFB HOP
  have RS1 : Hid (W1.heap[w.heap.size]? = some (.cells #[.slice none 0 0, .slice none 0 0] 26 (0, 0))) := (B1.out.block _ (by omega)).trans R1.out
  have BL1 : Hid (Below w.heap.size w W1) := BW.out.trans (B1.out.mono (by omega))
  have HR : Hid (R = w.heap.size + 1) := rlo
  have HS1 : Hid (W1.heap.size = w.heap.size + 2) := s1
  clear R1 B1 BW rlo s1 sw
  go_wp2_with fail
  refine (any_rd HSP.out R ob n' cb f 0 W1 RD1.out (by omega)).mono ?_
  rintro e W2 ⟨p0, m0, j0, p1, m1, j1, D, rfl, hsz, hat, q2, hq2, rd2, bt2⟩
  have rr := HR.out
  have s1 := HS1.out
  have s2 := bt2.out.size
  have HSZ : Hid (SzD 17 D) := hsz
  have RS := (bt2.out.block _ (by omega) (by omega)).trans RS1.out
  have BLV : Hid (Below w.heap.size w W2) := BL1.out.trans (bt2.out.below (B := w.heap.size) (fun b hb => by omega) (by omega))
  have ATV : Hid (AtL (fun b => W1.heap.size < b ∧ b < W2.heap.size) W2 D.1 (.slice p0 m0 j0) ∧ AtL (fun b => W1.heap.size < b ∧ b < W2.heap.size) W2 D.2 (.slice p1 m1 j1)) := hat
  have FIN : Hid (((W2.setCell ⟨w.heap.size, 0, none⟩ (.slice p0 m0 j0)).setCell ⟨w.heap.size, 1, none⟩ (.slice p1 m1 j1)).heap[w.heap.size]? = some (.cells #[.slice p0 m0 j0, .slice p1 m1 j1] 26 (0, 0))) := by
    have := set_row (set_row RS 0 (.slice p0 m0 j0)) 1 (.slice p1 m1 j1)
    show _ = _
    rw [this]; rfl
  have OTH : Hid (∀ q, q ≠ w.heap.size → ((W2.setCell ⟨w.heap.size, 0, none⟩ (.slice p0 m0 j0)).setCell ⟨w.heap.size, 1, none⟩ (.slice p1 m1 j1)).heap[q]? = W2.heap[q]?) := fun q hq => (Below.heap_setCell _ _ _ _ hq).trans (Below.heap_setCell _ _ _ _ hq)
  have BEL : Hid (Below w.heap.size w ((W2.setCell ⟨w.heap.size, 0, none⟩ (.slice p0 m0 j0)).setCell ⟨w.heap.size, 1, none⟩ (.slice p1 m1 j1))) := (BLV.out.setCell (p := ⟨w.heap.size, 0, none⟩) (Nat.le_refl _) _).setCell (p := ⟨w.heap.size, 1, none⟩) (Nat.le_refl _) _
  have SZF : Hid (((W2.setCell ⟨w.heap.size, 0, none⟩ (.slice p0 m0 j0)).setCell ⟨w.heap.size, 1, none⟩ (.slice p1 m1 j1)).heap.size = W2.heap.size) := by show _ = _; simp [World.setCell]
  obtain ⟨z0, f0⟩ := cell_row RS 0 (.slice none 0 0) rfl
  obtain ⟨z1, f1⟩ := cell_row RS 1 (.slice none 0 0) rfl
  clear RS rd2 bt2 hat hsz BLV RS1 RD1 BL1
  go_wp2_with fail
  generalize ((W2.setCell ⟨w.heap.size, 0, none⟩ (.slice p0 m0 j0)).setCell ⟨w.heap.size, 1, none⟩ (.slice p1 m1 j1)) = F at FIN OTH BEL SZF ⊢
  have g0 := (cell_row FIN.out 0 (.slice p0 m0 j0) rfl).1
  have g1 := (cell_row FIN.out 1 (.slice p1 m1 j1) rfl).1
  have szf := SZF.out
  exact bodyPost_ret (v := .agg #[.slice p0 m0 j0, .slice p1 m1 j1]) (by simp [results, Try.results4, go_sem, g0, g1]) rfl (DoE.of ⟨p0, m0, j0, p1, m1, j1, D, rfl, HSZ.out, ⟨AtL.up (AtL.same ATV.out.1 (fun b hb => OTH.out b (by omega))) (fun b hb => ⟨by omega, by omega⟩), AtL.up (AtL.same ATV.out.2 (fun b hb => OTH.out b (by omega))) (fun b hb => ⟨by omega, by omega⟩)⟩, BEL⟩)

end Go.Proofs.Ythgnhjkkfhfgmab
