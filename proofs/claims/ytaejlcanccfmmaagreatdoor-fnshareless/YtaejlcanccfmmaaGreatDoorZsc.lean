import Derived.Test.YtaejlcanccfmmaaGreatDoorM30
import Derived.Test.YtaejlcanccfmmaaGreatDoorZdf
import Derived.Test.YtaejlcanccfmmaaGreatDoorM19
import Derived.Test.YtaejlcanccfmmaaGreatDoorZrs
import Derived.Test.YtaejlcanccfmmaaGreatDoorHt
import Derived.Test.YtaejlcanccfmmaaGreatDoorM26
namespace Go.Proofs.YtaejlcanccfmmaaGreatDoor
open Go.RowKit Go.Sort
theorem readyH {P : Program} {ops : Array Oper} {C : World → Prop} {n f : Nat} {L : Array Bool → Act → World → Prop} {listed : Array Bool} {a : Act} {w : World} (rs : List Nat) (hr : Region.ready .any ops listed = rs) (h0 : rs ≠ []) (h : ∀ i ∈ rs, i < n ∧ stepH P ops i (fun a' w' => C w' ∧ anyH P .any ops C n L f (listed.setIfInBounds i true) a' w') a w) : anyH P .any ops C n L (f + 1) listed a w := by
  subst hr; exact ⟨h0, h⟩
theorem stepHs {P : Program} {ops : Array Oper} {i : Nat} {K : Act → World → Prop} {oc : Oper} {a : Act} {w : World} (w' : World) (hc : ops[i]? = some oc ∧ oc.dst = none) (hw : Region.wanted oc (yielded ops a.tmps) = true) (run : (execOp a.eval oc).run P w = .ok .skip w') (hk : K a w') : stepH P ops i K a w :=
  ⟨oc, hc.1, .inr (.inr (.inr ⟨hw, w', run, by rw [hc.2]; exact hk⟩))⟩
def DaE (w : World) (e : Ending) (w' : World) : Prop := ∃ (p0 : Option Addr) (m0 j0 : Nat) (p1 : Option Addr) (m1 j1 : Nat) (D : DShareBook) (s : ByteArray) (ov : Option Addr) (nv kv : Nat) (O : List ByteArray), e = .returned (.tuple #[.agg #[.slice p0 m0 j0, .slice p1 m1 j1], .string s, .slice ov nv kv]) ∧ SzD 17 D ∧ s.size ≤ 64 ∧ SzL 65 O ∧ Hid (AtL (fun b => w.heap.size < b ∧ b < w'.heap.size) w' D.1 (.slice p0 m0 j0) ∧ AtL (fun b => w.heap.size < b ∧ b < w'.heap.size) w' D.2 (.slice p1 m1 j1) ∧ AtL (fun b => w.heap.size < b ∧ b < w'.heap.size) w' O (.slice ov nv kv)) ∧ Hid (Below w.heap.size w w')
theorem DaE.of {w : World} {e : Ending} {w' : World} (h : ∃ (p0 : Option Addr) (m0 j0 : Nat) (p1 : Option Addr) (m1 j1 : Nat) (D : DShareBook) (s : ByteArray) (ov : Option Addr) (nv kv : Nat) (O : List ByteArray), e = .returned (.tuple #[.agg #[.slice p0 m0 j0, .slice p1 m1 j1], .string s, .slice ov nv kv]) ∧ SzD 17 D ∧ s.size ≤ 64 ∧ SzL 65 O ∧ Hid (AtL (fun b => w.heap.size < b ∧ b < w'.heap.size) w' D.1 (.slice p0 m0 j0) ∧ AtL (fun b => w.heap.size < b ∧ b < w'.heap.size) w' D.2 (.slice p1 m1 j1) ∧ AtL (fun b => w.heap.size < b ∧ b < w'.heap.size) w' O (.slice ov nv kv)) ∧ Hid (Below w.heap.size w w')) : DaE w e w' := h
set_option maxRecDepth 100000 in
set_option maxHeartbeats 16000000 in
theorem asksD_any (SP : SpoilC) (ob : Option Addr) (n cb : Nat) (f : Nat → Int) (w : World) (hn : n ≤ maxLen) (hnc : n ≤ cb) (fb : ∀ i, 0 ≤ f i ∧ f i ≤ 255)
    (ce : ∀ i, i < n → ∃ b off, ob = some ⟨b, off, none⟩ ∧ b < w.heap.size ∧ w.cell? ⟨b, off + i, none⟩ = some (.int .u8 (f i))) :
    Calls Tryz.prog 14 #[.slice ob n cb] w fun e w' => DaE w e w' := by
  have HSP : Hid SpoilC := SP
  have HOP : Hid (1 ≤ n → ∃ a, ob = some a) := fun h => by obtain ⟨b, off, h1, _⟩ := ce 0 (by omega); exact ⟨_, h1⟩
  have HCE : Hid _ := ce
  have HFB : Hid _ := fb
  obtain ⟨W, hW⟩ : ∃ W, W = w.alloc (.cells #[.slice none 0 0, .slice none 0 0] 26) := ⟨_, rfl⟩
  have EW : Hid (W = w.alloc (.cells #[.slice none 0 0, .slice none 0 0] 26)) := hW
  have BW : Hid (Below w.heap.size w W) := by rw [hW]; exact (Below.refl _ _).alloc (Nat.le_refl _) _
  have R1 : Hid (W.heap[w.heap.size]? = some (.cells #[.slice none 0 0, .slice none 0 0] 26 (0, 0))) := by rw [hW]; exact heap_alloc_new w _
  have SW : Hid (W.heap.size = w.heap.size + 1) := by rw [hW]; simp [Hid]
  clear ce fb hW SP
  go_enter Tryz.func14, Tryz.ntmps14
  go_upto_region 1 with fail
  rw [← EW.out]
  go_wp2_with fail
  refine (open_any ob n cb W hn hnc HOP.out).mono ?_
  rintro e W1 ⟨n', hn1, hn2, rfl, hW1⟩
  obtain ⟨R, hR⟩ : ∃ R, R = W.heap.size := ⟨_, rfl⟩
  have sw := SW.out
  have RD1 : Hid (Rd R W1 ob n' cb 0 f) := by
    rw [hW1, hR]
    refine ⟨heap_alloc_new W _, hn1, by omega, by omega, HFB.out, fun i hi => ?_⟩
    obtain ⟨b, off, h1, h2, h3⟩ := HCE.out i (by omega)
    exact ⟨b, off, h1, by omega, (World.cell?_of_block (w := w) (a := ⟨b, off + i, none⟩) ((Below.heap_alloc W _ b (by omega)).trans (BW.out.block b h2))).trans h3⟩
  have B1 : Hid (Below W.heap.size W W1) := by show Below W.heap.size W W1; rw [hW1]; exact (Below.refl _ _).alloc (Nat.le_refl _) _
  have s1 : W1.heap.size = w.heap.size + 2 := by rw [hW1]; simp; omega
  have rlo : R = w.heap.size + 1 := by omega
  rw [← hR]
  clear hR hW1 hn2 hn hnc HCE HFB HOP
  have RS1 : Hid (W1.heap[w.heap.size]? = some (.cells #[.slice none 0 0, .slice none 0 0] 26 (0, 0))) := (B1.out.block _ (by omega)).trans R1.out
  have BL1 : Hid (Below w.heap.size w W1) := BW.out.trans (B1.out.mono (by omega))
  have HR : Hid (R = w.heap.size + 1) := rlo
  have HS1 : Hid (W1.heap.size = w.heap.size + 2) := s1
  clear R1 B1 BW rlo s1 sw
  go_wp2_with fail
  refine (any_rd HSP.out R ob n' cb f 0 W1 RD1.out (by omega)).mono ?_
  rintro e W2 ⟨p0, m0, j0, p1, m1, j1, D, rfl, hsz, hat, q2, hq2, rd2, bt2⟩
  have rr := HR.out
  have s1 := HS1.out
  have s2 := bt2.out.size
  obtain ⟨U, hU⟩ : ∃ U, U = W2.alloc (.cells #[.slice p0 m0 j0, .slice p1 m1 j1] 26) := ⟨_, rfl⟩
  have EU : Hid (U = W2.alloc (.cells #[.slice p0 m0 j0, .slice p1 m1 j1] 26)) := hU
  obtain ⟨gb, hgb⟩ : ∃ g, g = W2.heap.size := ⟨_, rfl⟩
  have EGB : Hid (gb = W2.heap.size) := hgb
  have bU : Below W2.heap.size W2 U := by rw [hU]; exact (Below.refl _ _).alloc (Nat.le_refl _) _
  have sU := bU.size
  have hbt : But (fun k => k = R) W1 U := bt2.out.trans (But.of_below bU)
  have RSU : Hid (U.heap[w.heap.size]? = some (.cells #[.slice none 0 0, .slice none 0 0] 26 (0, 0))) := (hbt.block _ (by omega) (by omega)).trans RS1.out
  have BKU : Hid (U.heap[gb]? = some (.cells #[.slice p0 m0 j0, .slice p1 m1 j1] 26 (0, 0))) := by rw [hgb, hU]; exact heap_alloc_new W2 _
  have RDU : Hid (Rd R U ob n' cb q2 f) := rd2.out.but (fun b hb => bU.block b (by omega))
  have BLU : Hid (Below w.heap.size w U) := BL1.out.trans (hbt.below (B := w.heap.size) (fun b hb => by omega) (by omega))
  have ATU : Hid (AtL (fun b => W1.heap.size < b ∧ b < U.heap.size) U D.1 (.slice p0 m0 j0) ∧ AtL (fun b => W1.heap.size < b ∧ b < U.heap.size) U D.2 (.slice p1 m1 j1)) := ⟨(hat.out.1.same (fun b hb => bU.block b hb.2)).up (fun b hb => ⟨hb.1, by omega⟩), (hat.out.2.same (fun b hb => bU.block b hb.2)).up (fun b hb => ⟨hb.1, by omega⟩)⟩
  have HSZ : Hid (SzD 17 D) := hsz
  have hgl : w.heap.size + 2 ≤ gb := by omega
  clear hU hgb bU hbt hat hsz rd2 bt2 RS1 RD1 BL1 sU s2 s1 rr
  have CD : Hid (Calls Tryz.prog 30 #[.pointer (some ⟨R, 0, none⟩), .agg #[.slice p0 m0 j0, .slice p1 m1 j1]] U fun e w' => ∃ kd x on nn kn nd, e = .returned (.agg #[.int .i64 kd, .string x, .slice on nn kn]) ∧ x.size ≤ 64 ∧ SzL 65 nd ∧ Hid (Row w' U.heap.size 9 1 eS (.slice on nn kn) nd) ∧ ∃ p', p' ≤ q2 + 1100 ∧ Hid (Rd R w' ob n' cb p' f) ∧ Hid (But (fun k => k = R) U w')) := by
    have rr := HR.out
    have s1 := HS1.out
    exact does_rd R ob n' cb f q2 D p0 p1 m0 j0 m1 j1 U RDU.out (by omega) ⟨ATU.out.1.up (fun b hb => ⟨hb.2, by omega⟩), ATU.out.2.up (fun b hb => ⟨hb.2, by omega⟩)⟩ (HSZ.out.mono (by omega))
  go_upto_region 3 with fail
  rw [← EU.out, ← EGB.out]
  clear EU EGB
  have y0 := (cell_row BKU.out 0 _ rfl).1
  have y1 := (cell_row BKU.out 1 _ rfl).1
  go_wp2_with fail
  refine Calls.mono CD.out ?_
  rintro e V2 ⟨kd, x, on, nn, kn, nd, rfl, hx, hnd, hrow, q3, hq3, rd3, bt3⟩
  have rr := HR.out
  have s1 := HS1.out
  obtain ⟨X, hX⟩ : ∃ X, X = V2.alloc (.cells #[.int .i64 kd, .string x, .slice on nn kn] 59) := ⟨_, rfl⟩
  have EX : Hid (X = V2.alloc (.cells #[.int .i64 kd, .string x, .slice on nn kn] 59)) := hX
  obtain ⟨gd, hgd⟩ : ∃ g, g = V2.heap.size := ⟨_, rfl⟩
  have EGD : Hid (gd = V2.heap.size) := hgd
  have bX : Below V2.heap.size V2 X := by rw [hX]; exact (Below.refl _ _).alloc (Nat.le_refl _) _
  have sX := bX.size
  have hbt : But (fun k => k = R) U X := bt3.out.trans (But.of_below bX)
  have sU2 := bt3.out.size
  have wl := (Array.getElem?_eq_some_iff.1 RSU.out).1
  have gl := (Array.getElem?_eq_some_iff.1 BKU.out).1
  have RSX : Hid (X.heap[w.heap.size]? = some (.cells #[.slice none 0 0, .slice none 0 0] 26 (0, 0))) := (hbt.block _ wl (by omega)).trans RSU.out
  have BKX : Hid (X.heap[gb]? = some (.cells #[.slice p0 m0 j0, .slice p1 m1 j1] 26 (0, 0))) := (hbt.block _ gl (by omega)).trans BKU.out
  have DXX : Hid (X.heap[gd]? = some (.cells #[.int .i64 kd, .string x, .slice on nn kn] 59 (0, 0))) := by rw [hgd, hX]; exact heap_alloc_new V2 _
  have BLX : Hid (Below w.heap.size w X) := BLU.out.trans (hbt.below (B := w.heap.size) (fun b hb => by omega) (by omega))
  have ATX : Hid (AtL (fun b => W1.heap.size < b ∧ b < X.heap.size) X D.1 (.slice p0 m0 j0) ∧ AtL (fun b => W1.heap.size < b ∧ b < X.heap.size) X D.2 (.slice p1 m1 j1)) := ⟨(ATU.out.1.same (fun b hb => hbt.block b hb.2 (by omega))).up (fun b hb => ⟨hb.1, by omega⟩), (ATU.out.2.same (fun b hb => hbt.block b hb.2 (by omega))).up (fun b hb => ⟨hb.1, by omega⟩)⟩
  have HND : Hid (SzL 65 nd) := hnd
  have ATN : Hid (AtL (fun b => W1.heap.size < b ∧ b < X.heap.size) X nd (.slice on nn kn)) := flatS.row_at (Row.below hrow.out bX) (fun b hb => by have := World.ownsRow.lt hrow.out b hb; exact ⟨by omega, by omega⟩) (fun z hz => Nat.le_trans (hnd.2 z hz) (by unfold maxLen; omega))
  have HXS : Hid (x.size ≤ 64) := hx
  clear hX hgd bX hbt hnd hrow rd3 bt3 RSU BKU RDU BLU ATU y0 y1 hx rr s1 CD
  go_upto_region 4 with fail
  rw [← EX.out, ← EGD.out]
  clear EX EGD
  obtain ⟨Y, hY⟩ : ∃ Y, Y = X.drew := ⟨_, rfl⟩
  have RS : Y.heap[w.heap.size]? = some (.cells #[.slice none 0 0, .slice none 0 0] 26 (0, 0)) := by rw [hY]; exact RSX.out
  have BLD : Hid (Below w.heap.size w Y) := by rw [hY]; exact BLX.out.drew
  have ATD : Hid (AtL (fun b => W1.heap.size < b ∧ b < Y.heap.size) Y D.1 (.slice p0 m0 j0) ∧ AtL (fun b => W1.heap.size < b ∧ b < Y.heap.size) Y D.2 (.slice p1 m1 j1)) := by rw [hY]; exact ⟨ATX.out.1.same (fun b hb => rfl), ATX.out.2.same (fun b hb => rfl)⟩
  have AND : Hid (AtL (fun b => W1.heap.size < b ∧ b < Y.heap.size) Y nd (.slice on nn kn)) := by rw [hY]; exact ATN.out.same (fun b hb => rfl)
  have CY : (fun v : World => v.heap[gb]? = some (.cells #[.slice p0 m0 j0, .slice p1 m1 j1] 26 (0, 0)) ∧ v.heap[gd]? = some (.cells #[.int .i64 kd, .string x, .slice on nn kn] 59 (0, 0))) Y := by rw [hY]; exact ⟨BKX.out, DXX.out⟩
  obtain ⟨F, hF⟩ : ∃ F, F = (Y.setCell ⟨w.heap.size, 0, none⟩ (.slice p0 m0 j0)).setCell ⟨w.heap.size, 1, none⟩ (.slice p1 m1 j1) := ⟨_, rfl⟩
  have OTH : ∀ q, q ≠ w.heap.size → F.heap[q]? = Y.heap[q]? := fun q hq => by rw [hF]; exact (Below.heap_setCell _ _ _ _ hq).trans (Below.heap_setCell _ _ _ _ hq)
  have FR : F.heap[w.heap.size]? = some (.cells #[.slice p0 m0 j0, .slice p1 m1 j1] 26 (0, 0)) := by
    rw [hF]
    have := set_row (set_row RS 0 (.slice p0 m0 j0)) 1 (.slice p1 m1 j1)
    simpa using this
  have szf : F.heap.size = Y.heap.size := by rw [hF]; simp [World.setCell]
  have BEL : Below w.heap.size w F := by rw [hF]; exact (BLD.out.setCell (p := ⟨w.heap.size, 0, none⟩) (Nat.le_refl _) _).setCell (p := ⟨w.heap.size, 1, none⟩) (Nat.le_refl _) _
  have lgd : gd ≠ w.heap.size := by
    rintro e
    have h1 := CY.2
    rw [e, RS] at h1
    injection h1 with h1
    injection h1 with _ h2
    revert h2
    decide
  have CF : (fun v : World => v.heap[gb]? = some (.cells #[.slice p0 m0 j0, .slice p1 m1 j1] 26 (0, 0)) ∧ v.heap[gd]? = some (.cells #[.int .i64 kd, .string x, .slice on nn kn] 59 (0, 0))) F := ⟨(OTH gb (by omega)).trans CY.1, (OTH gd lgd).trans CY.2⟩
  have FIN : Hid (DaE w (.returned (.tuple #[.agg #[.slice p0 m0 j0, .slice p1 m1 j1], .string x, .slice on nn kn])) F) := by
    have s1 := HS1.out
    exact ⟨p0, m0, j0, p1, m1, j1, D, x, on, nn, kn, nd, rfl, HSZ.out, HXS.out, HND.out, ⟨AtL.up (AtL.same ATD.out.1 (fun b hb => OTH b (by omega))) (fun b hb => ⟨by omega, by omega⟩), AtL.up (AtL.same ATD.out.2 (fun b hb => OTH b (by omega))) (fun b hb => ⟨by omega, by omega⟩), AtL.up (AtL.same AND.out (fun b hb => OTH b (by omega))) (fun b hb => ⟨by omega, by omega⟩)⟩, BEL⟩
  obtain ⟨z0, f0⟩ := cell_row RS 0 (.slice none 0 0) rfl
  obtain ⟨z1, f1⟩ := cell_row RS 1 (.slice none 0 0) rfl
  have g0 := (cell_row FR 0 (.slice p0 m0 j0) rfl).1
  have g1 := (cell_row FR 1 (.slice p1 m1 j1) rfl).1
  have dy1 := (cell_row CY.2 1 (.string x) rfl).1
  have dy2 := (cell_row CY.2 2 (.slice on nn kn) rfl).1
  have df1 := (cell_row CF.2 1 (.string x) rfl).1
  have df2 := (cell_row CF.2 2 (.slice on nn kn) rfl).1
  have HF : Hid (F = (Y.setCell ⟨w.heap.size, 0, none⟩ (.slice p0 m0 j0)).setCell ⟨w.heap.size, 1, none⟩ (.slice p1 m1 j1)) := hF
  refine wp_region_all (fun v : World => v.heap[gb]? = some (.cells #[.slice p0 m0 j0, .slice p1 m1 j1] 26 (0, 0)) ∧ v.heap[gd]? = some (.cells #[.int .i64 kd, .string x, .slice on nn kn] 59 (0, 0))) (by kernel_rfl) ?_
  rw [← hY]
  clear hY hF RS OTH FR BEL BLD ATD AND szf lgd RSX BKX DXX BLX ATX ATN wl gl sU2 sX
  refine takeA (f := 7) (i := 0) (.agg #[.slice p0 m0 j0, .slice p1 m1 j1]) ⟨rfl, rfl⟩ (by kernel_rfl) rfl CY ?r0 ?_
  case r0 => intro v hv; have c0 := (cell_row hv.1 0 _ rfl).1; have c1 := (cell_row hv.1 1 _ rfl).1; go_simp
  simp only [Act.put, List.setIfInBounds_toArray, List.set_cons_zero, List.set_cons_succ]
  refine takeA (f := 6) (i := 1) (.pointer (some ⟨gd, 1, none⟩)) ⟨rfl, rfl⟩ (by kernel_rfl) rfl CY ?r1 ?_
  case r1 => intro v hv; have c0 := (cell_row hv.1 0 _ rfl).1; have c1 := (cell_row hv.1 1 _ rfl).1; go_simp
  simp only [Act.put, List.setIfInBounds_toArray, List.set_cons_zero, List.set_cons_succ]
  refine takeA (f := 5) (i := 3) (.pointer (some ⟨gd, 2, none⟩)) ⟨rfl, rfl⟩ (by kernel_rfl) rfl CY ?r3 ?_
  case r3 => intro v hv; have c0 := (cell_row hv.1 0 _ rfl).1; have c1 := (cell_row hv.1 1 _ rfl).1; go_simp
  simp only [Act.put, List.setIfInBounds_toArray, List.set_cons_zero, List.set_cons_succ]
  refine readyH [2, 4, 5] (by kernel_rfl) (by simp) (fun i hi => ?_)
  simp only [List.mem_cons, List.not_mem_nil, or_false] at hi
  rcases hi with rfl | rfl | rfl
  · refine ⟨by decide, stepHd (.string x) Y ⟨rfl, rfl⟩ rfl ?run ⟨CY, ?_⟩⟩
    case run => go_simp
    simp only [Act.put, List.setIfInBounds_toArray, List.set_cons_zero, List.set_cons_succ]
    refine readyH [4, 5] (by kernel_rfl) (by simp) (fun i hi => ?_)
    simp only [List.mem_cons, List.not_mem_nil, or_false] at hi
    rcases hi with rfl | rfl
    · refine ⟨by decide, stepHd (.slice on nn kn) Y ⟨rfl, rfl⟩ rfl ?run ⟨CY, ?_⟩⟩
      case run => go_simp
      simp only [Act.put, List.setIfInBounds_toArray, List.set_cons_zero, List.set_cons_succ]
      refine readyH [5] (by kernel_rfl) (by simp) (fun i hi => ?_)
      simp only [List.mem_cons, List.not_mem_nil, or_false] at hi
      obtain rfl := hi
      refine ⟨by decide, stepHs F ⟨rfl, rfl⟩ rfl ?run ⟨CF, ?_⟩⟩
      case run => rw [HF.out]; go_simp
      refine readyH [6] (by kernel_rfl) (by simp) (fun i hi => ?_)
      simp only [List.mem_cons, List.not_mem_nil, or_false] at hi
      obtain rfl := hi
      refine ⟨by decide, stepHd (.string x) F ⟨rfl, rfl⟩ rfl ?run ⟨CF, ?_⟩⟩
      case run => go_simp
      simp only [Act.put, List.setIfInBounds_toArray, List.set_cons_zero, List.set_cons_succ]
      refine readyH [7] (by kernel_rfl) (by simp) (fun i hi => ?_)
      simp only [List.mem_cons, List.not_mem_nil, or_false] at hi
      obtain rfl := hi
      refine ⟨by decide, stepHd (.slice on nn kn) F ⟨rfl, rfl⟩ rfl ?run ⟨CF, ?_⟩⟩
      case run => go_simp
      simp only [Act.put, List.setIfInBounds_toArray, List.set_cons_zero, List.set_cons_succ]
      refine ⟨by kernel_rfl, ?_⟩
      go_wp2_with fail
      exact bodyPost_ret (v := .tuple #[.agg #[.slice p0 m0 j0, .slice p1 m1 j1], .string x, .slice on nn kn]) (by simp [results, Tryz.results14, go_sem, g0, g1]) rfl FIN.out
    · refine ⟨by decide, stepHs F ⟨rfl, rfl⟩ rfl ?run ⟨CF, ?_⟩⟩
      case run => rw [HF.out]; go_simp
      refine readyH [4, 6] (by kernel_rfl) (by simp) (fun i hi => ?_)
      simp only [List.mem_cons, List.not_mem_nil, or_false] at hi
      rcases hi with rfl | rfl
      · refine ⟨by decide, stepHd (.slice on nn kn) F ⟨rfl, rfl⟩ rfl ?run ⟨CF, ?_⟩⟩
        case run => go_simp
        simp only [Act.put, List.setIfInBounds_toArray, List.set_cons_zero, List.set_cons_succ]
        refine readyH [6] (by kernel_rfl) (by simp) (fun i hi => ?_)
        simp only [List.mem_cons, List.not_mem_nil, or_false] at hi
        obtain rfl := hi
        refine ⟨by decide, stepHd (.string x) F ⟨rfl, rfl⟩ rfl ?run ⟨CF, ?_⟩⟩
        case run => go_simp
        simp only [Act.put, List.setIfInBounds_toArray, List.set_cons_zero, List.set_cons_succ]
        refine readyH [7] (by kernel_rfl) (by simp) (fun i hi => ?_)
        simp only [List.mem_cons, List.not_mem_nil, or_false] at hi
        obtain rfl := hi
        refine ⟨by decide, stepHd (.slice on nn kn) F ⟨rfl, rfl⟩ rfl ?run ⟨CF, ?_⟩⟩
        case run => go_simp
        simp only [Act.put, List.setIfInBounds_toArray, List.set_cons_zero, List.set_cons_succ]
        refine ⟨by kernel_rfl, ?_⟩
        go_wp2_with fail
        exact bodyPost_ret (v := .tuple #[.agg #[.slice p0 m0 j0, .slice p1 m1 j1], .string x, .slice on nn kn]) (by simp [results, Tryz.results14, go_sem, g0, g1]) rfl FIN.out
      · refine ⟨by decide, stepHd (.string x) F ⟨rfl, rfl⟩ rfl ?run ⟨CF, ?_⟩⟩
        case run => go_simp
        simp only [Act.put, List.setIfInBounds_toArray, List.set_cons_zero, List.set_cons_succ]
        refine readyH [4] (by kernel_rfl) (by simp) (fun i hi => ?_)
        simp only [List.mem_cons, List.not_mem_nil, or_false] at hi
        obtain rfl := hi
        refine ⟨by decide, stepHd (.slice on nn kn) F ⟨rfl, rfl⟩ rfl ?run ⟨CF, ?_⟩⟩
        case run => go_simp
        simp only [Act.put, List.setIfInBounds_toArray, List.set_cons_zero, List.set_cons_succ]
        refine readyH [7] (by kernel_rfl) (by simp) (fun i hi => ?_)
        simp only [List.mem_cons, List.not_mem_nil, or_false] at hi
        obtain rfl := hi
        refine ⟨by decide, stepHd (.slice on nn kn) F ⟨rfl, rfl⟩ rfl ?run ⟨CF, ?_⟩⟩
        case run => go_simp
        simp only [Act.put, List.setIfInBounds_toArray, List.set_cons_zero, List.set_cons_succ]
        refine ⟨by kernel_rfl, ?_⟩
        go_wp2_with fail
        exact bodyPost_ret (v := .tuple #[.agg #[.slice p0 m0 j0, .slice p1 m1 j1], .string x, .slice on nn kn]) (by simp [results, Tryz.results14, go_sem, g0, g1]) rfl FIN.out
  · refine ⟨by decide, stepHd (.slice on nn kn) Y ⟨rfl, rfl⟩ rfl ?run ⟨CY, ?_⟩⟩
    case run => go_simp
    simp only [Act.put, List.setIfInBounds_toArray, List.set_cons_zero, List.set_cons_succ]
    refine readyH [2, 5] (by kernel_rfl) (by simp) (fun i hi => ?_)
    simp only [List.mem_cons, List.not_mem_nil, or_false] at hi
    rcases hi with rfl | rfl
    · refine ⟨by decide, stepHd (.string x) Y ⟨rfl, rfl⟩ rfl ?run ⟨CY, ?_⟩⟩
      case run => go_simp
      simp only [Act.put, List.setIfInBounds_toArray, List.set_cons_zero, List.set_cons_succ]
      refine readyH [5] (by kernel_rfl) (by simp) (fun i hi => ?_)
      simp only [List.mem_cons, List.not_mem_nil, or_false] at hi
      obtain rfl := hi
      refine ⟨by decide, stepHs F ⟨rfl, rfl⟩ rfl ?run ⟨CF, ?_⟩⟩
      case run => rw [HF.out]; go_simp
      refine readyH [6] (by kernel_rfl) (by simp) (fun i hi => ?_)
      simp only [List.mem_cons, List.not_mem_nil, or_false] at hi
      obtain rfl := hi
      refine ⟨by decide, stepHd (.string x) F ⟨rfl, rfl⟩ rfl ?run ⟨CF, ?_⟩⟩
      case run => go_simp
      simp only [Act.put, List.setIfInBounds_toArray, List.set_cons_zero, List.set_cons_succ]
      refine readyH [7] (by kernel_rfl) (by simp) (fun i hi => ?_)
      simp only [List.mem_cons, List.not_mem_nil, or_false] at hi
      obtain rfl := hi
      refine ⟨by decide, stepHd (.slice on nn kn) F ⟨rfl, rfl⟩ rfl ?run ⟨CF, ?_⟩⟩
      case run => go_simp
      simp only [Act.put, List.setIfInBounds_toArray, List.set_cons_zero, List.set_cons_succ]
      refine ⟨by kernel_rfl, ?_⟩
      go_wp2_with fail
      exact bodyPost_ret (v := .tuple #[.agg #[.slice p0 m0 j0, .slice p1 m1 j1], .string x, .slice on nn kn]) (by simp [results, Tryz.results14, go_sem, g0, g1]) rfl FIN.out
    · refine ⟨by decide, stepHs F ⟨rfl, rfl⟩ rfl ?run ⟨CF, ?_⟩⟩
      case run => rw [HF.out]; go_simp
      refine readyH [2] (by kernel_rfl) (by simp) (fun i hi => ?_)
      simp only [List.mem_cons, List.not_mem_nil, or_false] at hi
      obtain rfl := hi
      refine ⟨by decide, stepHd (.string x) F ⟨rfl, rfl⟩ rfl ?run ⟨CF, ?_⟩⟩
      case run => go_simp
      simp only [Act.put, List.setIfInBounds_toArray, List.set_cons_zero, List.set_cons_succ]
      refine readyH [6] (by kernel_rfl) (by simp) (fun i hi => ?_)
      simp only [List.mem_cons, List.not_mem_nil, or_false] at hi
      obtain rfl := hi
      refine ⟨by decide, stepHd (.string x) F ⟨rfl, rfl⟩ rfl ?run ⟨CF, ?_⟩⟩
      case run => go_simp
      simp only [Act.put, List.setIfInBounds_toArray, List.set_cons_zero, List.set_cons_succ]
      refine readyH [7] (by kernel_rfl) (by simp) (fun i hi => ?_)
      simp only [List.mem_cons, List.not_mem_nil, or_false] at hi
      obtain rfl := hi
      refine ⟨by decide, stepHd (.slice on nn kn) F ⟨rfl, rfl⟩ rfl ?run ⟨CF, ?_⟩⟩
      case run => go_simp
      simp only [Act.put, List.setIfInBounds_toArray, List.set_cons_zero, List.set_cons_succ]
      refine ⟨by kernel_rfl, ?_⟩
      go_wp2_with fail
      exact bodyPost_ret (v := .tuple #[.agg #[.slice p0 m0 j0, .slice p1 m1 j1], .string x, .slice on nn kn]) (by simp [results, Tryz.results14, go_sem, g0, g1]) rfl FIN.out
  · refine ⟨by decide, stepHs F ⟨rfl, rfl⟩ rfl ?run ⟨CF, ?_⟩⟩
    case run => rw [HF.out]; go_simp
    refine readyH [2, 4] (by kernel_rfl) (by simp) (fun i hi => ?_)
    simp only [List.mem_cons, List.not_mem_nil, or_false] at hi
    rcases hi with rfl | rfl
    · refine ⟨by decide, stepHd (.string x) F ⟨rfl, rfl⟩ rfl ?run ⟨CF, ?_⟩⟩
      case run => go_simp
      simp only [Act.put, List.setIfInBounds_toArray, List.set_cons_zero, List.set_cons_succ]
      refine readyH [4, 6] (by kernel_rfl) (by simp) (fun i hi => ?_)
      simp only [List.mem_cons, List.not_mem_nil, or_false] at hi
      rcases hi with rfl | rfl
      · refine ⟨by decide, stepHd (.slice on nn kn) F ⟨rfl, rfl⟩ rfl ?run ⟨CF, ?_⟩⟩
        case run => go_simp
        simp only [Act.put, List.setIfInBounds_toArray, List.set_cons_zero, List.set_cons_succ]
        refine readyH [6] (by kernel_rfl) (by simp) (fun i hi => ?_)
        simp only [List.mem_cons, List.not_mem_nil, or_false] at hi
        obtain rfl := hi
        refine ⟨by decide, stepHd (.string x) F ⟨rfl, rfl⟩ rfl ?run ⟨CF, ?_⟩⟩
        case run => go_simp
        simp only [Act.put, List.setIfInBounds_toArray, List.set_cons_zero, List.set_cons_succ]
        refine readyH [7] (by kernel_rfl) (by simp) (fun i hi => ?_)
        simp only [List.mem_cons, List.not_mem_nil, or_false] at hi
        obtain rfl := hi
        refine ⟨by decide, stepHd (.slice on nn kn) F ⟨rfl, rfl⟩ rfl ?run ⟨CF, ?_⟩⟩
        case run => go_simp
        simp only [Act.put, List.setIfInBounds_toArray, List.set_cons_zero, List.set_cons_succ]
        refine ⟨by kernel_rfl, ?_⟩
        go_wp2_with fail
        exact bodyPost_ret (v := .tuple #[.agg #[.slice p0 m0 j0, .slice p1 m1 j1], .string x, .slice on nn kn]) (by simp [results, Tryz.results14, go_sem, g0, g1]) rfl FIN.out
      · refine ⟨by decide, stepHd (.string x) F ⟨rfl, rfl⟩ rfl ?run ⟨CF, ?_⟩⟩
        case run => go_simp
        simp only [Act.put, List.setIfInBounds_toArray, List.set_cons_zero, List.set_cons_succ]
        refine readyH [4] (by kernel_rfl) (by simp) (fun i hi => ?_)
        simp only [List.mem_cons, List.not_mem_nil, or_false] at hi
        obtain rfl := hi
        refine ⟨by decide, stepHd (.slice on nn kn) F ⟨rfl, rfl⟩ rfl ?run ⟨CF, ?_⟩⟩
        case run => go_simp
        simp only [Act.put, List.setIfInBounds_toArray, List.set_cons_zero, List.set_cons_succ]
        refine readyH [7] (by kernel_rfl) (by simp) (fun i hi => ?_)
        simp only [List.mem_cons, List.not_mem_nil, or_false] at hi
        obtain rfl := hi
        refine ⟨by decide, stepHd (.slice on nn kn) F ⟨rfl, rfl⟩ rfl ?run ⟨CF, ?_⟩⟩
        case run => go_simp
        simp only [Act.put, List.setIfInBounds_toArray, List.set_cons_zero, List.set_cons_succ]
        refine ⟨by kernel_rfl, ?_⟩
        go_wp2_with fail
        exact bodyPost_ret (v := .tuple #[.agg #[.slice p0 m0 j0, .slice p1 m1 j1], .string x, .slice on nn kn]) (by simp [results, Tryz.results14, go_sem, g0, g1]) rfl FIN.out
    · refine ⟨by decide, stepHd (.slice on nn kn) F ⟨rfl, rfl⟩ rfl ?run ⟨CF, ?_⟩⟩
      case run => go_simp
      simp only [Act.put, List.setIfInBounds_toArray, List.set_cons_zero, List.set_cons_succ]
      refine readyH [2] (by kernel_rfl) (by simp) (fun i hi => ?_)
      simp only [List.mem_cons, List.not_mem_nil, or_false] at hi
      obtain rfl := hi
      refine ⟨by decide, stepHd (.string x) F ⟨rfl, rfl⟩ rfl ?run ⟨CF, ?_⟩⟩
      case run => go_simp
      simp only [Act.put, List.setIfInBounds_toArray, List.set_cons_zero, List.set_cons_succ]
      refine readyH [6] (by kernel_rfl) (by simp) (fun i hi => ?_)
      simp only [List.mem_cons, List.not_mem_nil, or_false] at hi
      obtain rfl := hi
      refine ⟨by decide, stepHd (.string x) F ⟨rfl, rfl⟩ rfl ?run ⟨CF, ?_⟩⟩
      case run => go_simp
      simp only [Act.put, List.setIfInBounds_toArray, List.set_cons_zero, List.set_cons_succ]
      refine readyH [7] (by kernel_rfl) (by simp) (fun i hi => ?_)
      simp only [List.mem_cons, List.not_mem_nil, or_false] at hi
      obtain rfl := hi
      refine ⟨by decide, stepHd (.slice on nn kn) F ⟨rfl, rfl⟩ rfl ?run ⟨CF, ?_⟩⟩
      case run => go_simp
      simp only [Act.put, List.setIfInBounds_toArray, List.set_cons_zero, List.set_cons_succ]
      refine ⟨by kernel_rfl, ?_⟩
      go_wp2_with fail
      exact bodyPost_ret (v := .tuple #[.agg #[.slice p0 m0 j0, .slice p1 m1 j1], .string x, .slice on nn kn]) (by simp [results, Tryz.results14, go_sem, g0, g1]) rfl FIN.out
set_option maxRecDepth 100000 in
set_option maxHeartbeats 8000000 in
theorem drawL_any (SP : SpoilC) (ob : Option Addr) (n cb : Nat) (f : Nat → Int) (w : World) (hn : n ≤ maxLen) (hnc : n ≤ cb) (fb : ∀ i, 0 ≤ f i ∧ f i ≤ 255)
    (ce : ∀ i, i < n → ∃ b off, ob = some ⟨b, off, none⟩ ∧ b < w.heap.size ∧ w.cell? ⟨b, off + i, none⟩ = some (.int .u8 (f i))) :
    Calls Tryz.prog 4 #[.slice ob n cb] w fun e w' => DaE w e w' := by
  obtain ⟨W, hW⟩ : ∃ W, W = w.alloc (.cells #[.slice none 0 0, .slice none 0 0] 26) := ⟨_, rfl⟩
  have EW : Hid (W = w.alloc (.cells #[.slice none 0 0, .slice none 0 0] 26)) := hW
  have BW : Hid (Below w.heap.size w W) := by rw [hW]; exact (Below.refl _ _).alloc (Nat.le_refl _) _
  have R1 : Hid (W.heap[w.heap.size]? = some (.cells #[.slice none 0 0, .slice none 0 0] 26 (0, 0))) := by rw [hW]; exact heap_alloc_new w _
  have SW : W.heap.size = w.heap.size + 1 := by rw [hW]; simp
  clear hW
  have CA : Hid (Calls Tryz.prog 14 #[.slice ob n cb] W fun e w' => DaE W e w') := asksD_any SP ob n cb f W hn hnc fb (fun i hi => by
    obtain ⟨b, off, h1, h2, h3⟩ := ce i hi
    exact ⟨b, off, h1, by omega, (BW.out.cell (p := ⟨b, off + i, none⟩) h2).trans h3⟩)
  clear SP hn hnc fb ce
  go_enter Tryz.func4, Tryz.ntmps4
  go_upto_region 1 with fail
  rw [← EW.out]
  go_wp2_with fail
  refine Calls.mono CA.out ?_
  rintro e V ⟨p0, m0, j0, p1, m1, j1, D, x, on, nn, kn, nd, rfl, hsz, hx, hnd, hat, hbl⟩
  have sV := hbl.out.size
  have RS := (hbl.out.block _ (by omega)).trans R1.out
  have HSZ : Hid (SzD 17 D) := hsz
  have BLV : Hid (Below w.heap.size w V) := BW.out.trans (hbl.out.mono (by omega))
  clear CA hsz
  have FIN : Hid (((V.setCell ⟨w.heap.size, 0, none⟩ (.slice p0 m0 j0)).setCell ⟨w.heap.size, 1, none⟩ (.slice p1 m1 j1)).heap[w.heap.size]? = some (.cells #[.slice p0 m0 j0, .slice p1 m1 j1] 26 (0, 0))) := by
    have := set_row (set_row RS 0 (.slice p0 m0 j0)) 1 (.slice p1 m1 j1)
    show _ = _
    rw [this]; rfl
  have OTH : Hid (∀ q, q ≠ w.heap.size → ((V.setCell ⟨w.heap.size, 0, none⟩ (.slice p0 m0 j0)).setCell ⟨w.heap.size, 1, none⟩ (.slice p1 m1 j1)).heap[q]? = V.heap[q]?) := fun q hq => (Below.heap_setCell _ _ _ _ hq).trans (Below.heap_setCell _ _ _ _ hq)
  have BEL : Hid (Below w.heap.size w ((V.setCell ⟨w.heap.size, 0, none⟩ (.slice p0 m0 j0)).setCell ⟨w.heap.size, 1, none⟩ (.slice p1 m1 j1))) := (BLV.out.setCell (p := ⟨w.heap.size, 0, none⟩) (Nat.le_refl _) _).setCell (p := ⟨w.heap.size, 1, none⟩) (Nat.le_refl _) _
  have SZF : Hid (((V.setCell ⟨w.heap.size, 0, none⟩ (.slice p0 m0 j0)).setCell ⟨w.heap.size, 1, none⟩ (.slice p1 m1 j1)).heap.size = V.heap.size) := by show _ = _; simp [World.setCell]
  obtain ⟨z0, f0⟩ := cell_row RS 0 (.slice none 0 0) rfl
  obtain ⟨z1, f1⟩ := cell_row RS 1 (.slice none 0 0) rfl
  clear RS
  go_wp2_with fail
  generalize ((V.setCell ⟨w.heap.size, 0, none⟩ (.slice p0 m0 j0)).setCell ⟨w.heap.size, 1, none⟩ (.slice p1 m1 j1)) = F at FIN OTH BEL SZF ⊢
  have g0 := (cell_row FIN.out 0 (.slice p0 m0 j0) rfl).1
  have g1 := (cell_row FIN.out 1 (.slice p1 m1 j1) rfl).1
  have szf := SZF.out
  exact bodyPost_ret (v := .tuple #[.agg #[.slice p0 m0 j0, .slice p1 m1 j1], .string x, .slice on nn kn]) (by simp [results, Tryz.results4, go_sem, g0, g1]) rfl (DaE.of ⟨p0, m0, j0, p1, m1, j1, D, x, _, _, _, nd, rfl, HSZ.out, hx, hnd, ⟨AtL.up (AtL.same hat.out.1 (fun b hb => OTH.out b (by omega))) (fun b hb => ⟨by omega, by omega⟩), AtL.up (AtL.same hat.out.2.1 (fun b hb => OTH.out b (by omega))) (fun b hb => ⟨by omega, by omega⟩), AtL.up (AtL.same hat.out.2.2 (fun b hb => OTH.out b (by omega))) (fun b hb => ⟨by omega, by omega⟩)⟩, BEL⟩)
end Go.Proofs.YtaejlcanccfmmaaGreatDoor
