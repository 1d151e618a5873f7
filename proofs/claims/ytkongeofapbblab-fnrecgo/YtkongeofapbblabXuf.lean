/-
  What the law FnRecGo draws: a recipe, where a run of it is, and how a phase goes.
-/
import Derived.Test.YtkongeofapbblabM19
import Derived.Test.YtkongeofapbblabXuc
import Derived.Test.YtkongeofapbblabXg
import Derived.Test.YtkongeofapbblabXgb
import Derived.Test.YtkongeofapbblabM8
import Derived.Test.YtkongeofapbblabXua
import Derived.Test.YtkongeofapbblabM12
import Derived.Test.YtkongeofapbblabHzb
import Derived.Deep.Cut
namespace Go.Proofs.Ytkongeofapbblab
open Go.RowKit Go.Sort

theorem ret3d {w : World} {g : Nat} {x0 x1 x2 : Value} {t : TypeId} (h : w.heap[g]? = some (.cells #[x0, x1, x2] t (0, 0))) (a b c : Value) :
    (((w.setCell ⟨g, 0, none⟩ a).setCell ⟨g, 1, none⟩ b).setCell ⟨g, 2, none⟩ c).heap[g]? = some (.cells #[a, b, c] t (0, 0)) ∧ (∀ q, q ≠ g → (((w.setCell ⟨g, 0, none⟩ a).setCell ⟨g, 1, none⟩ b).setCell ⟨g, 2, none⟩ c).heap[q]? = w.heap[q]?) ∧ Below g w (((w.setCell ⟨g, 0, none⟩ a).setCell ⟨g, 1, none⟩ b).setCell ⟨g, 2, none⟩ c) := by
  refine ⟨?_, ?_, ?_⟩
  · have := set_row (set_row (set_row h 0 a) 1 b) 2 c
    simpa using this
  · intro q hq
    exact (Below.heap_setCell _ ⟨g, 2, none⟩ c q hq).trans ((Below.heap_setCell _ ⟨g, 1, none⟩ b q hq).trans (Below.heap_setCell _ ⟨g, 0, none⟩ a q hq))
  · exact (((Below.refl _ _).setCell (p := ⟨g, 0, none⟩) (Nat.le_refl _) a).setCell (p := ⟨g, 1, none⟩) (Nat.le_refl _) b).setCell (p := ⟨g, 2, none⟩) (Nat.le_refl _) c
/-- Where the drawing of a run's state stands: the reader, the recipe, the state in its box g, the boxes of the answer. -/
structure Dv (R : Nat) (ob : Option Addr) (n cb : Nat) (f : Nat → Int) (w : World) (lo g : Nat) (M : List DRecPhase) (v : Value) (W : World) (p : Int) (st : Array Value) : Prop where
  rd : Rd R W ob n cb p f
  row : Row W lo 33 8 eR v M
  mlt : ∀ q, v.ownBlock = some q → lo ≤ q ∧ q < g
  box : W.heap[g]? = some (.cells st 25 (0, 0))
  r3 : W.heap[w.heap.size]? = some (.cells #[.string ⟨#[]⟩, .int .i64 0, .int .i64 0] 25 (0, 0))
  r4 : W.heap[w.heap.size + 1]? = some (.cells #[.int .i64 0, .bool false] 27 (0, 0))
  bel : Below w.heap.size w W
  h1 : w.heap.size + 1 < R
  h2 : R < lo
  h3 : lo ≤ g
section
variable {R : Nat} {ob : Option Addr} {n cb : Nat} {f : Nat → Int} {w : World} {lo g : Nat} {M : List DRecPhase} {v : Value} {W W' : World} {p p' : Int} {st st' : Array Value}
theorem Dv.glt (h : Dv R ob n cb f w lo g M v W p st) : g < W.heap.size := (Array.getElem?_eq_some_iff.1 h.box).1
theorem Dv.call (h : Dv R ob n cb f w lo g M v W p st) (rd : Rd R W' ob n cb p' f) (bt : But (fun q => q = R) W W') : Dv R ob n cb f w lo g M v W' p' st :=
  have h0 := h.glt; have h1 := h.h1; have h2 := h.h2; have h3 := h.h3
  ⟨rd, Row.block h.row (fun q hq => bt.block q (by have := h.mlt q hq; omega) (by have := h.mlt q hq; omega)), h.mlt, (bt.block g h0 (by omega)).trans h.box, (bt.block _ (by omega) (by omega)).trans h.r3, (bt.block _ (by omega) (by omega)).trans h.r4, h.bel.trans (bt.below (B := w.heap.size) (fun b hb => by omega) (by omega)), h1, h2, h3⟩
theorem Dv.keep (h : Dv R ob n cb f w lo g M v W p st) (hb : Below W.heap.size W W') : Dv R ob n cb f w lo g M v W' p st :=
  h.call (h.rd.but (fun b hb2 => hb.block b (by have := h.rd.lt; omega))) (But.of_below hb)
theorem Dv.put (h : Dv R ob n cb f w lo g M v W p st) (j : Nat) (u : Value) (hr : st.setIfInBounds j u = st') : Dv R ob n cb f w lo g M v (W.setCell ⟨g, j, none⟩ u) p st' :=
  have h0 := h.glt; have h1 := h.h1; have h2 := h.h2; have h3 := h.h3
  ⟨h.rd.but (fun b hb => Below.heap_setCell W ⟨g, j, none⟩ u b (by show b ≠ g; omega)), Row.block h.row (fun q hq => Below.heap_setCell W ⟨g, j, none⟩ u q (by show q ≠ g; have := h.mlt q hq; omega)), h.mlt, by rw [← hr]; exact set_row h.box j u, (Below.heap_setCell W ⟨g, j, none⟩ u _ (by show w.heap.size ≠ g; omega)).trans h.r3, (Below.heap_setCell W ⟨g, j, none⟩ u _ (by show w.heap.size + 1 ≠ g; omega)).trans h.r4, h.bel.setCell (p := ⟨g, j, none⟩) (by show w.heap.size ≤ g; omega) u, h1, h2, h3⟩
theorem Dv.at_ (h : Dv R ob n cb f w lo g M v W p st) (hz : ∀ x ∈ M, PzL 2000 x) : AtL (fun b => lo ≤ b ∧ b < g) W M v := flatR.row_at h.row h.mlt (fun x hx => (hz x hx).ok (by omega))
end
theorem goS_ok {r : List DRecPhase} {x : ByteArray} {now lf t : Int} {well : Bool} (h1 : OkN now) (h2 : OkN lf) : OkN (goS r x now lf t well).1.2.1 ∧ OkN (goS r x now lf t well).1.2.2 := by
  unfold goS
  by_cases h : recB r = true ∧ 0 ≤ atI r x ∧ inB now 0 12000 = true
  · have hR := rec_iff.1 h.1
    rw [if_pos h]
    obtain ⟨k, hk, e⟩ : ∃ k : Nat, ∃ _ : k < r.length, atI r x = (k : Int) := by
      rcases at_cases r x with e | ⟨k, hk, e, _⟩
      · have := h.2.1; omega
      · exact ⟨k, hk, e⟩
    have hg := goT_le r[k] t well (ph_name (step_of hR hk).1).2.2.1
    have hn : 0 ≤ now ∧ now ≤ 12000 := by have := h.2.2; simpa [inB] using this
    have hb := bnd_le hR 12 (nxT r[k] (goT r[k] t well).2)
    rw [ph_at hk e]
    exact ⟨⟨by simp only; omega, by simp only; omega⟩, ⟨by simp only; omega, by simp only; omega⟩⟩
  · rw [if_neg h]; exact ⟨h1, h2⟩
theorem beg_ok (r : List DRecPhase) : OkN (begS r).2.1 ∧ OkN (begS r).2.2 := by
  unfold begS
  by_cases h : recB r = true
  · rw [if_pos h]
    have hb := bnd_le (rec_iff.1 h) 12 (r[0]?.getD default).1
    exact ⟨⟨by simp only; omega, by simp only; omega⟩, ⟨by simp only; omega, by simp only; omega⟩⟩
  · rw [if_neg h]; exact ⟨⟨by decide, by decide⟩, ⟨by decide, by decide⟩⟩
theorem goS_sz {r : List DRecPhase} {x : ByteArray} {now lf t : Int} {well : Bool} (h0 : x.size ≤ 1048576) : (goS r x now lf t well).1.1.size ≤ 1048576 := by
  by_cases h : recB r = true ∧ 0 ≤ atI r x ∧ inB now 0 12000 = true
  · have hR := rec_iff.1 h.1
    obtain ⟨k, hk, e⟩ : ∃ k : Nat, ∃ _ : k < r.length, atI r x = (k : Int) := by
      rcases at_cases r x with e | ⟨k, hk, e, _⟩
      · have := h.2.1; omega
      · exact ⟨k, hk, e⟩
    have hn : 0 ≤ now ∧ now ≤ 12000 := by have := h.2.2; simpa [inB] using this
    have := (step_all hR (lf := lf) (t := t) (well := well) hk e hn.1 (by omega)).size
    omega
  · unfold goS
    rw [if_neg h]; exact h0
theorem beg_sz (r : List DRecPhase) : (begS r).1.size ≤ 1048576 := by
  unfold begS
  by_cases h : recB r = true
  · rw [if_pos h]
    have hR := rec_iff.1 h
    have hl : 0 < r.length := hR.1.1
    have := (ph_name (step_of hR hl).1).1
    rw [List.getElem?_eq_getElem hl]
    simp only [nameB, Bool.and_eq_true, decide_eq_true_eq] at this
    simp only [Option.getD_some]
    omega
  · rw [if_neg h]; decide
/-- What is drawn for one step. -/
def DgE (w : World) (e : Ending) (w' : World) : Prop := ∃ v M x now lf t b, e = .returned (.tuple #[v, .agg #[.string x, .int .i64 now, .int .i64 lf], .agg #[.int .i64 t, .bool b]]) ∧ M.length ≤ 14 ∧ (∀ x ∈ M, PzL 2000 x) ∧ OkN now ∧ OkN lf ∧ x.size ≤ 1048576 ∧ OkN t ∧ Hid (Row w' w.heap.size 33 8 eR v M) ∧ Hid (Below w.heap.size w w')
theorem DgE.of {w : World} {e : Ending} {w' : World} (h : ∃ v M x now lf t b, e = .returned (.tuple #[v, .agg #[.string x, .int .i64 now, .int .i64 lf], .agg #[.int .i64 t, .bool b]]) ∧ M.length ≤ 14 ∧ (∀ x ∈ M, PzL 2000 x) ∧ OkN now ∧ OkN lf ∧ x.size ≤ 1048576 ∧ OkN t ∧ Hid (Row w' w.heap.size 33 8 eR v M) ∧ Hid (Below w.heap.size w w')) : DgE w e w' := h

set_option maxRecDepth 100000 in
set_option maxHeartbeats 20000000 in
theorem drawG_any (ob : Option Addr) (n cb : Nat) (f : Nat → Int) (w : World) (hn : n ≤ maxLen) (hnc : n ≤ cb) (fb : ∀ i, 0 ≤ f i ∧ f i ≤ 255)
    (ce : ∀ i, i < n → ∃ b off, ob = some ⟨b, off, none⟩ ∧ b < w.heap.size ∧ w.cell? ⟨b, off + i, none⟩ = some (.int .u8 (f i))) :
    Calls Try.prog 4 #[.slice ob n cb] w fun e w' => DgE w e w' := by
  have HOP : Hid (1 ≤ n → ∃ a, ob = some a) := fun h => by obtain ⟨b, off, h1, _⟩ := ce 0 (by omega); exact ⟨_, h1⟩
  have HCE : Hid _ := ce
  have HFB : Hid _ := fb
  clear ce fb
  obtain ⟨W0, hW0⟩ : ∃ W0, W0 = (w.alloc (.cells #[.string ⟨#[]⟩, .int .i64 0, .int .i64 0] 25)).alloc (.cells #[.int .i64 0, .bool false] 27) := ⟨_, rfl⟩
  have E0 : Hid (W0 = (w.alloc (.cells #[.string ⟨#[]⟩, .int .i64 0, .int .i64 0] 25)).alloc (.cells #[.int .i64 0, .bool false] 27)) := hW0
  have s0 : w.heap.size + 2 ≤ W0.heap.size ∧ W0.heap.size ≤ w.heap.size + 2 := by rw [hW0]; simp
  have B0 : Hid (Below w.heap.size w W0) := by rw [hW0]; exact ((Below.refl _ _).alloc (Nat.le_refl _) _).alloc (by simp) _
  have K3 : Hid (W0.heap[w.heap.size]? = some (.cells #[.string ⟨#[]⟩, .int .i64 0, .int .i64 0] 25 (0, 0))) := by rw [hW0]; exact alloc_upD _ (heap_alloc_new w _)
  have K4 : Hid (W0.heap[w.heap.size + 1]? = some (.cells #[.int .i64 0, .bool false] 27 (0, 0))) := by rw [hW0]; exact alloc_atD _ (by simp)
  clear hW0
  go_enter Try.func4, Try.ntmps4
  go_upto_region 1 with fail
  rw [← E0.out]
  clear E0
  go_wp2_with fail
  refine (open_any ob n cb W0 hn hnc HOP.out).mono ?_
  rintro e W1 ⟨n', hn1, hn2, rfl, hW1⟩
  obtain ⟨R, hR⟩ : ∃ R, R = W0.heap.size := ⟨_, rfl⟩
  have hrd : Rd R W1 ob n' cb 0 f := by
    rw [hW1, hR]
    refine ⟨heap_alloc_new W0 _, hn1, by omega, by omega, HFB.out, fun i hi => ?_⟩
    obtain ⟨b, off, h1, h2, h3⟩ := HCE.out i (by omega)
    exact ⟨b, off, h1, by omega, (World.cell?_of_block (w := W0) (a := ⟨b, off + i, none⟩) (Below.heap_alloc W0 _ b (by omega))).trans ((World.cell?_of_block (w := w) (a := ⟨b, off + i, none⟩) (B0.out.block b h2)).trans h3)⟩
  have RD1 : Hid (Rd R W1 ob n' cb 0 f) := hrd
  have B01 : Hid (Below W0.heap.size W0 W1) := by show Below W0.heap.size W0 W1; rw [hW1]; exact (Below.refl _ _).alloc (Nat.le_refl _) _
  have s1 : W0.heap.size + 1 ≤ W1.heap.size ∧ W1.heap.size ≤ W0.heap.size + 1 := by rw [hW1]; simp
  have rlo : w.heap.size + 2 ≤ R ∧ R ≤ w.heap.size + 2 := by omega
  rw [← hR]
  clear hR hW1 hrd hn2 hn hnc HCE HFB HOP
  have C : Hid _ := any_rd R ob n' cb f 0 W1 RD1.out (by omega)
  go_wp2_with fail
  refine Calls.mono C.out ?_
  rintro e W2 ⟨v, M, rfl, hm, hz, p2, hp2, RD2, BT2, RW2⟩
  have HZ : Hid (∀ x ∈ M, PzL 2000 x) := hz
  clear C hz RD1
  obtain ⟨oo, ko, hf⟩ := Row.form RW2.out
  subst hf
  obtain ⟨nl, hnl⟩ : ∃ nl, M.length = nl := ⟨_, rfl⟩
  have HLK : Hid (M.length = nl) := hnl
  rw [hnl] at hm RW2
  rw [hnl]
  clear hnl
  have s2 := BT2.out.size
  have MLT : Hid (∀ q, (Value.slice oo nl ko).ownBlock = some q → W1.heap.size ≤ q ∧ q < W2.heap.size) := fun q hq => World.ownsRow.lt RW2.out q hq
  have C : Hid _ := begX_any (fun b => W1.heap.size ≤ b ∧ b < W2.heap.size) M _ W2 (flatR.row_at RW2.out MLT.out (fun x hx => (HZ.out x hx).ok (by omega))) (fun b hb => hb.2)
  obtain ⟨sb, hsb⟩ : ∃ s, begS M = s := ⟨_, rfl⟩
  have HB : Hid (OkN sb.2.1 ∧ OkN sb.2.2 ∧ sb.1.size ≤ 1048576) := by rw [← hsb]; exact ⟨(beg_ok M).1, (beg_ok M).2, beg_sz M⟩
  rw [hsb] at C
  clear hsb
  obtain ⟨xb, nb, lb⟩ := sb
  simp only at C HB
  go_wp2_with fail
  refine Calls.mono C.out ?_
  rintro e W3 ⟨rfl, hb⟩
  have s3 := hb.size
  obtain ⟨W4, hW4⟩ : ∃ W4, W4 = W3.alloc (.cells #[.string xb, .int .i64 nb, .int .i64 lb] 25) := ⟨_, rfl⟩
  have E4 : Hid (W4 = W3.alloc (.cells #[.string xb, .int .i64 nb, .int .i64 lb] 25)) := hW4
  have D4 : Hid (Dv R ob n' cb f w W1.heap.size W3.heap.size M (.slice oo nl ko) W4 p2 #[.string xb, .int .i64 nb, .int .i64 lb]) := by
    have b34 : Below W3.heap.size W3 W4 := by rw [hW4]; exact (Below.refl _ _).alloc (Nat.le_refl _) _
    have b24 : Below W2.heap.size W2 W4 := hb.trans (b34.mono (by omega))
    have bt : But (fun q => q = R) W1 W4 := BT2.out.trans (But.of_below b24)
    exact ⟨RD2.out.but (fun b hb2 => b24.block b (by omega)), Row.block RW2.out (fun q hq => b24.block q (MLT.out q hq).2), fun q hq => ⟨(MLT.out q hq).1, by have := (MLT.out q hq).2; omega⟩, by rw [hW4]; exact heap_alloc_new W3 _,
      (bt.block _ (by omega) (by omega)).trans ((B01.out.block _ (by omega)).trans K3.out), (bt.block _ (by omega) (by omega)).trans ((B01.out.block _ (by omega)).trans K4.out),
      (B0.out.trans (B01.out.mono (by omega))).trans (bt.below (B := w.heap.size) (fun b hb => by omega) (by omega)), by omega, by omega, by omega⟩
  clear hW4 C hb RD2 BT2 RW2 K3 K4 B0 B01
  generalize hg : W3.heap.size = g at D4 s3
  have C : Hid _ := pick_rd R ob n' cb f p2 5 W4 D4.out.rd (by omega) (by omega) (by omega)
  go_upto_region 4 with fail
  rw [← E4.out]
  clear E4
  go_wp2_with fail
  refine Calls.mono C.out ?_
  rintro e W5 ⟨z, rfl, z0, z1, p5, hp5, RD5, BT5⟩
  have D5 : Hid (Dv R ob n' cb f w W1.heap.size g M (.slice oo nl ko) W5 p5 #[.string xb, .int .i64 nb, .int .i64 lb]) := D4.out.call RD5.out BT5.out
  clear C D4 RD5 BT5
  obtain ⟨c, rfl⟩ : ∃ c : Nat, z = c := ⟨z.toNat, by omega⟩
  go_wp2_with fail
  go_loopw [8] (fun i wr => ∃ (j : Nat) (p6 : Int) (x : ByteArray) (now lf : Int), j ≤ 5 ∧ i = .int .i64 j ∧ p6 + 4 * j ≤ 4000 ∧ Hid (OkN now ∧ OkN lf ∧ x.size ≤ 1048576) ∧ Hid (Dv R ob n' cb f w W1.heap.size g M (.slice oo nl ko) wr p6 #[.string x, .int .i64 now, .int .i64 lf])) (fun i _ => (intOf i).toNat)
  case atStart => exact ⟨c, p5, xb, nb, lb, by omega, rfl, by omega, HB, D5⟩
  case round =>
    clear D5 HB
    obtain ⟨j, p6, x, now, lf, hj, rfl, hp6, HO, D6⟩ := hrel
    have glt := D6.out.glt
    have d1 := D6.out.h1
    have d2 := D6.out.h2
    have d3 := D6.out.h3
    by_cases hj0 : 0 < j
    · have GO : Hid (∀ t b u, OkN t → (∃ q, Dv R ob n' cb f w W1.heap.size g M (.slice oo nl ko) u q #[.string x, .int .i64 now, .int .i64 lf]) → Calls Try.prog 6 #[.slice oo nl ko, .agg #[.string x, .int .i64 now, .int .i64 lf], .agg #[.int .i64 t, .bool b]] u fun e w' => e = .returned (.tuple #[.agg #[.string (goS M x now lf t b).1.1, .int .i64 (goS M x now lf t b).1.2.1, .int .i64 (goS M x now lf t b).1.2.2], .bool (goS M x now lf t b).2]) ∧ Below u.heap.size u w') := fun t b u ht hd => by
        obtain ⟨q, hd⟩ := hd
        exact recGoX_any (fun b => W1.heap.size ≤ b ∧ b < g) M _ x now lf t b u (hd.at_ HZ.out) (fun b hb => by have := hd.glt; omega) ht
      have DX : Hid (∀ v, But (fun q => q = R) wr v → v.heap[g]? = some (.cells #[.string x, .int .i64 now, .int .i64 lf] 25 (0, 0))) := fun v hv => (hv.block g glt (by omega)).trans D6.out.box
      have Q0 : Hid (∀ v, But (fun q => q = R) wr v → v.cell? ⟨g, 0, none⟩ = some (.string x)) := fun v hv => (cell_row (DX.out v hv) 0 (.string x) rfl).1
      have Q1 : Hid (∀ v, But (fun q => q = R) wr v → v.cell? ⟨g, 1, none⟩ = some (.int .i64 now)) := fun v hv => (cell_row (DX.out v hv) 1 (.int .i64 now) rfl).1
      have Q2 : Hid (∀ v, But (fun q => q = R) wr v → v.cell? ⟨g, 2, none⟩ = some (.int .i64 lf)) := fun v hv => (cell_row (DX.out v hv) 2 (.int .i64 lf) rfl).1
      have hdr : Hid (But (fun q => q = R) wr wr.drew) := But.of_below (Below.refl _ _).drew
      go_upto_region 7 with fail
      refine wp_region_movesC (fun v => But (fun q => q = R) wr v) 10 [] (by kernel_rfl) (by kernel_rfl) hdr.out ?_
      simp only [List.filterMap_nil, movD]
      refine takeHQ (f := 9) (i := 0) (.slice oo nl ko) ⟨rfl, rfl⟩ (by kernel_rfl) rfl hdr.out ?r0 ?_
      case r0 => intro v hv; go_simp
      simp only [Act.put, List.setIfInBounds_toArray, List.set_cons_zero, List.set_cons_succ]
      refine takeHQ (f := 8) (i := 1) (.agg #[.string x, .int .i64 now, .int .i64 lf]) ⟨rfl, rfl⟩ (by kernel_rfl) rfl hdr.out ?r1 ?_
      case r1 => intro v hv; have k0 := Q0.out v hv; have k1 := Q1.out v hv; have k2 := Q2.out v hv; go_simp
      simp only [Act.put, List.setIfInBounds_toArray, List.set_cons_zero, List.set_cons_succ]
      refine takeHQ (f := 7) (i := 2) (.pointer (some ⟨R, 0, none⟩)) ⟨rfl, rfl⟩ (by kernel_rfl) rfl hdr.out ?r2 ?_
      case r2 => intro v hv; go_simp
      simp only [Act.put, List.setIfInBounds_toArray, List.set_cons_zero, List.set_cons_succ]
      refine chainH_box0 (g := 4) (fun a0 o k a u => But (fun q => q = R) wr u ∧ (∀ p, o = some p → u.heap[p]? = some (.cells #[.string ⟨#[]⟩, .int .i64 0, .int .i64 0] 25 (0, 0)) ∧ wr.heap.size ≤ p) ∧ (match k with
        | 0 => Dv R ob n' cb f w W1.heap.size g M (.slice oo nl ko) u p6 #[.string x, .int .i64 now, .int .i64 lf] ∧ a = bx 9 o a0
        | 1 => ∃ t b q, OkN t ∧ q ≤ p6 + 4 ∧ Dv R ob n' cb f w W1.heap.size g M (.slice oo nl ko) u q #[.string x, .int .i64 now, .int .i64 lf] ∧ a = bx 9 o (a0.put (some 27) (.agg #[.int .i64 t, .bool b]))
        | _ => ∃ t b q, OkN t ∧ q ≤ p6 + 4 ∧ Dv R ob n' cb f w W1.heap.size g M (.slice oo nl ko) u q #[.string x, .int .i64 now, .int .i64 lf] ∧ a = bx 9 o ((a0.put (some 27) (.agg #[.int .i64 t, .bool b])).put (some 28) (.tuple #[.agg #[.string (goS M x now lf t b).1.1, .int .i64 (goS M x now lf t b).1.2.1, .int .i64 (goS M x now lf t b).1.2.2], .bool (goS M x now lf t b).2])))) [3, 4] 8 9 _ #[.string ⟨#[]⟩, .int .i64 0, .int .i64 0] 25 ⟨rfl, rfl, rfl, by decide⟩ (by decide) (by decide) ?exa (by kernel_rfl) ?hal ?hs ?h0 ?he ?he1
      case exa => intro b u; go_simp
      case h0 => exact ⟨hdr.out, fun p hp => (by cases hp), D6.out.call (D6.out.rd.but (fun b _ => rfl)) hdr.out, rfl⟩
      case hal =>
        intro k b u h
        obtain ⟨hb, _, h⟩ := h
        have h1 : Below u.heap.size u (u.alloc (.cells #[.string ⟨#[]⟩, .int .i64 0, .int .i64 0] 25)) := (Below.refl _ _).alloc (Nat.le_refl _) _
        have hal : But (fun q => q = R) wr (u.alloc (.cells #[.string ⟨#[]⟩, .int .i64 0, .int .i64 0] 25)) := hb.trans (But.of_below h1)
        refine ⟨hal, hal, fun p hp => (by cases hp; exact ⟨heap_alloc_new u _, hb.size⟩), ?_⟩
        match k, h with
        | 0, ⟨hd, h⟩ => exact ⟨hd.keep h1, by subst h; rfl⟩
        | 1, ⟨t, b, q, ht, hq, hd, h⟩ => exact ⟨t, b, q, ht, hq, hd.keep h1, by subst h; rfl⟩
        | _ + 2, ⟨t, b, q, ht, hq, hd, h⟩ => exact ⟨t, b, q, ht, hq, hd.keep h1, by subst h; rfl⟩
      case hs =>
        intro o j hj b u h
        obtain ⟨hb, hp, h⟩ := h
        have hRlt : R < wr.heap.size := by omega
        have ROW : ∀ w', But (fun q => q = R) u w' → ∀ p, o = some p → w'.heap[p]? = some (.cells #[.string ⟨#[]⟩, .int .i64 0, .int .i64 0] 25 (0, 0)) ∧ wr.heap.size ≤ p := fun w' hb' p hp' => ⟨(hb'.block p (Array.getElem?_eq_some_iff.1 (hp p hp').1).1 (by have := (hp p hp').2; omega)).trans (hp p hp').1, (hp p hp').2⟩
        have : j = 0 ∨ j = 1 := (by simp at hj; omega)
        rcases this with rfl | rfl
        · obtain ⟨hd, h⟩ := h
          subst h
          refine stepH_call (fn := 11) (args := #[.pointer (some ⟨R, 0, none⟩)]) rfl (wanted_none rfl _) (by cases o <;> simp only [bx, Act.put, List.setIfInBounds_toArray, List.set_cons_zero, List.set_cons_succ] <;> go_simp) ((say_rd R ob n' cb f p6 u hd.rd (by omega)).mono ?_)
          rintro e w' ⟨t, b, he, hok, q, hq, RDq, BTq⟩
          exact ⟨_, he, hb.trans BTq.out, hb.trans BTq.out, ROW w' BTq.out, t, b, q, hok, hq, hd.call RDq.out BTq.out, bx_put (by decide) o _ _⟩
        · obtain ⟨t, b, q, ht, hq, hd, h⟩ := h
          subst h
          refine stepH_call (fn := 6) (args := #[.slice oo nl ko, .agg #[.string x, .int .i64 now, .int .i64 lf], .agg #[.int .i64 t, .bool b]]) rfl (wanted_none rfl _) (by cases o <;> simp only [bx, Act.put, List.setIfInBounds_toArray, List.set_cons_zero, List.set_cons_succ] <;> go_simp) ((GO.out t b u ht ⟨q, hd⟩).mono ?_)
          rintro e w' ⟨he, hb'⟩
          exact ⟨_, he, hb.trans (But.of_below hb'), hb.trans (But.of_below hb'), ROW w' (But.of_below hb'), t, b, q, ht, hq, hd.keep hb', bx_put (by decide) o _ _⟩
      case he =>
        intro a u h
        obtain ⟨hb, _, t, b, q, ht, hq, hd, h⟩ := h
        subst h
        obtain ⟨gs, hgs⟩ : ∃ s, goS M x now lf t b = s := ⟨_, rfl⟩
        have GSO : Hid (OkN gs.1.2.1 ∧ OkN gs.1.2.2 ∧ gs.1.1.size ≤ 1048576) := by rw [← hgs]; exact ⟨(goS_ok HO.out.1 HO.out.2.1).1, (goS_ok HO.out.1 HO.out.2.1).2, goS_sz HO.out.2.2⟩
        rw [hgs]
        clear hgs
        obtain ⟨⟨x', now', lf'⟩, okb⟩ := gs
        simp only at GSO ⊢
        simp only [bx, Act.put, List.setIfInBounds_toArray, List.set_cons_zero, List.set_cons_succ]
        refine takeHQ (f := 4) (i := 5) (.tuple #[.agg #[.string x', .int .i64 now', .int .i64 lf'], .bool okb]) ⟨rfl, rfl⟩ (by kernel_rfl) rfl hb ?r5 ?_
        case r5 => intro v hv; go_simp
        simp only [Act.put, List.setIfInBounds_toArray, List.set_cons_zero, List.set_cons_succ]
        refine takeHQ (f := 3) (i := 6) (.agg #[.string x', .int .i64 now', .int .i64 lf']) ⟨rfl, rfl⟩ (by kernel_rfl) rfl hb ?r6 ?_
        case r6 => intro v hv; go_simp
        simp only [Act.put, List.setIfInBounds_toArray, List.set_cons_zero, List.set_cons_succ]
        refine takeHQ (f := 2) (i := 7) (.bool okb) ⟨rfl, rfl⟩ (by kernel_rfl) rfl hb ?r7 ?_
        case r7 => intro v hv; go_simp
        simp only [Act.put, List.setIfInBounds_toArray, List.set_cons_zero, List.set_cons_succ]
        refine oneH (f := 1) (i := 8) (.pointer (some ⟨u.heap.size, 0, none⟩)) (u.alloc (.cells #[.string ⟨#[]⟩, .int .i64 0, .int .i64 0] 25)) ⟨rfl, by decide⟩ (by kernel_rfl) (wanted_none rfl _) ?run (hb.trans (But.of_below ((Below.refl _ _).alloc (Nat.le_refl _) _))) ?_
        case run => go_simp
        simp only [Act.put, List.setIfInBounds_toArray]
        have row : (u.alloc (.cells #[.string ⟨#[]⟩, .int .i64 0, .int .i64 0] 25)).heap[u.heap.size]? = some (.cells #[.string ⟨#[]⟩, .int .i64 0, .int .i64 0] 25 (0, 0)) := heap_alloc_new u _
        have hd6 : Dv R ob n' cb f w W1.heap.size g M (.slice oo nl ko) (u.alloc (.cells #[.string ⟨#[]⟩, .int .i64 0, .int .i64 0] 25)) q #[.string x, .int .i64 now, .int .i64 lf] := hd.keep ((Below.refl _ _).alloc (Nat.le_refl _) _)
        have hb6 : But (fun q => q = R) wr (u.alloc (.cells #[.string ⟨#[]⟩, .int .i64 0, .int .i64 0] 25)) := hb.trans (But.of_below ((Below.refl _ _).alloc (Nat.le_refl _) _))
        have hge := hb.size
        clear hb hd
        generalize u.alloc (.cells #[.string ⟨#[]⟩, .int .i64 0, .int .i64 0] 25) = w6 at row hd6 hb6 ⊢
        generalize u.heap.size = p9 at row hge ⊢
        have lt9 : p9 < w6.heap.size := (Array.getElem?_eq_some_iff.1 row).1
        obtain ⟨e0, f0⟩ := cell_row row 0 _ rfl
        obtain ⟨e1, f1⟩ := cell_row row 1 _ rfl
        obtain ⟨e2, f2⟩ := cell_row row 2 _ rfl
        have fin := set_row (set_row (set_row row 0 (.string x')) 1 (.int .i64 now')) 2 (.int .i64 lf')
        have bF : Below p9 w6 (((w6.setCell ⟨p9, 0, none⟩ (.string x')).setCell ⟨p9, 1, none⟩ (.int .i64 now')).setCell ⟨p9, 2, none⟩ (.int .i64 lf')) := (((Below.refl _ _).setCell (p := ⟨p9, 0, none⟩) (Nat.le_refl _) (.string x')).setCell (p := ⟨p9, 1, none⟩) (Nat.le_refl _) (.int .i64 now')).setCell (p := ⟨p9, 2, none⟩) (Nat.le_refl _) (.int .i64 lf')
        have bN : ∀ k, k ≠ p9 → (((w6.setCell ⟨p9, 0, none⟩ (.string x')).setCell ⟨p9, 1, none⟩ (.int .i64 now')).setCell ⟨p9, 2, none⟩ (.int .i64 lf')).heap[k]? = w6.heap[k]? := fun k hk => (Below.heap_setCell _ ⟨p9, 2, none⟩ _ k hk).trans ((Below.heap_setCell _ ⟨p9, 1, none⟩ _ k hk).trans (Below.heap_setCell _ ⟨p9, 0, none⟩ _ k hk))
        have hbF : But (fun q => q = R) wr (((w6.setCell ⟨p9, 0, none⟩ (.string x')).setCell ⟨p9, 1, none⟩ (.int .i64 now')).setCell ⟨p9, 2, none⟩ (.int .i64 lf')) := ⟨bF.os.trans hb6.os, bF.tape.trans hb6.tape, bF.output.trans hb6.output, Nat.le_trans hb6.size bF.size, fun k h1 h2 => (bN k (by omega)).trans (hb6.block k h1 h2)⟩
        have hdF : Dv R ob n' cb f w W1.heap.size g M (.slice oo nl ko) (((w6.setCell ⟨p9, 0, none⟩ (.string x')).setCell ⟨p9, 1, none⟩ (.int .i64 now')).setCell ⟨p9, 2, none⟩ (.int .i64 lf')) q #[.string x, .int .i64 now, .int .i64 lf] :=
          ⟨hd6.rd.but (fun k hk => bN k (by omega)), Row.block hd6.row (fun k hk => bN k (by have := hd6.mlt k hk; omega)), hd6.mlt, (bN g (by omega)).trans hd6.box, (bN _ (by omega)).trans hd6.r3, (bN _ (by omega)).trans hd6.r4, hd6.bel.trans (bF.mono (by omega)), hd6.h1, hd6.h2, hd6.h3⟩
        refine storeH (f := 0) (i := 9) (((w6.setCell ⟨p9, 0, none⟩ (.string x')).setCell ⟨p9, 1, none⟩ (.int .i64 now')).setCell ⟨p9, 2, none⟩ (.int .i64 lf')) ⟨rfl, by decide⟩ (by kernel_rfl) (wanted_none rfl _) ?st hbF ?_
        case st => go_simp
        refine ⟨by kernel_rfl, ?_⟩
        simp only [List.drop_succ_cons, List.drop_zero]
        have fin' : Hid ((((w6.setCell ⟨p9, 0, none⟩ (.string x')).setCell ⟨p9, 1, none⟩ (.int .i64 now')).setCell ⟨p9, 2, none⟩ (.int .i64 lf')).heap[p9]? = some (.cells #[.string x', .int .i64 now', .int .i64 lf'] 25 (0, 0))) := by show _ = _; simpa using fin
        have DF : Hid _ := hdF
        clear fin hdF hbF bF bN hd6 hb6 row e0 e1 e2 f0 f1 f2
        generalize ((w6.setCell ⟨p9, 0, none⟩ (.string x')).setCell ⟨p9, 1, none⟩ (.int .i64 now')).setCell ⟨p9, 2, none⟩ (.int .i64 lf') = w7 at fin' DF ⊢
        have m0 := (cell_row fin'.out 0 (.string x') rfl).1
        have m1 := (cell_row fin'.out 1 (.int .i64 now') rfl).1
        have m2 := (cell_row fin'.out 2 (.int .i64 lf') rfl).1
        obtain ⟨i0, j0⟩ := cell_row DF.out.box 0 (.string x) rfl
        obtain ⟨i1, j1⟩ := cell_row DF.out.box 1 (.int .i64 now) rfl
        obtain ⟨i2, j2⟩ := cell_row DF.out.box 2 (.int .i64 lf) rfl
        cases okb
        · go_wp2_with fail
          go_roundw
          case rel => exact ⟨j - 1, q, x, now, lf, by omega, by first | go_num | (congr 1; omega), by omega, HO, DF⟩
          case measure => simp [intOf]; omega
        · have D8 : Hid (Dv R ob n' cb f w W1.heap.size g M (.slice oo nl ko) (((w7.setCell ⟨g, 0, none⟩ (.string x')).setCell ⟨g, 1, none⟩ (.int .i64 now')).setCell ⟨g, 2, none⟩ (.int .i64 lf')) q #[.string x', .int .i64 now', .int .i64 lf']) := ((DF.out.put 0 (.string x') rfl).put 1 (.int .i64 now') rfl).put 2 (.int .i64 lf') rfl
          go_wp2_with fail
          go_roundw
          case rel => exact ⟨j - 1, q, x', now', lf', by omega, by first | go_num | (congr 1; omega), by omega, GSO, D8⟩
          case measure => simp [intOf]; omega
      case he1 =>
        intro p9 a u h
        obtain ⟨hb6, hp9, t, b, q, ht, hq, hd6, h⟩ := h
        obtain ⟨row, hge⟩ := hp9 p9 rfl
        subst h
        obtain ⟨gs, hgs⟩ : ∃ s, goS M x now lf t b = s := ⟨_, rfl⟩
        have GSO : Hid (OkN gs.1.2.1 ∧ OkN gs.1.2.2 ∧ gs.1.1.size ≤ 1048576) := by rw [← hgs]; exact ⟨(goS_ok HO.out.1 HO.out.2.1).1, (goS_ok HO.out.1 HO.out.2.1).2, goS_sz HO.out.2.2⟩
        rw [hgs]
        clear hgs
        obtain ⟨⟨x', now', lf'⟩, okb⟩ := gs
        simp only at GSO ⊢
        simp only [bx, Act.put, List.setIfInBounds_toArray, List.set_cons_zero, List.set_cons_succ]
        refine takeHQ (f := 3) (i := 5) (.tuple #[.agg #[.string x', .int .i64 now', .int .i64 lf'], .bool okb]) ⟨rfl, rfl⟩ (by kernel_rfl) rfl hb6 ?r5 ?_
        case r5 => intro v hv; go_simp
        simp only [Act.put, List.setIfInBounds_toArray, List.set_cons_zero, List.set_cons_succ]
        refine takeHQ (f := 2) (i := 6) (.agg #[.string x', .int .i64 now', .int .i64 lf']) ⟨rfl, rfl⟩ (by kernel_rfl) rfl hb6 ?r6 ?_
        case r6 => intro v hv; go_simp
        simp only [Act.put, List.setIfInBounds_toArray, List.set_cons_zero, List.set_cons_succ]
        refine takeHQ (f := 1) (i := 7) (.bool okb) ⟨rfl, rfl⟩ (by kernel_rfl) rfl hb6 ?r7 ?_
        case r7 => intro v hv; go_simp
        simp only [Act.put, List.setIfInBounds_toArray, List.set_cons_zero, List.set_cons_succ]
        generalize u = w6 at row hd6 hb6 ⊢
        have lt9 : p9 < w6.heap.size := (Array.getElem?_eq_some_iff.1 row).1
        obtain ⟨e0, f0⟩ := cell_row row 0 _ rfl
        obtain ⟨e1, f1⟩ := cell_row row 1 _ rfl
        obtain ⟨e2, f2⟩ := cell_row row 2 _ rfl
        have fin := set_row (set_row (set_row row 0 (.string x')) 1 (.int .i64 now')) 2 (.int .i64 lf')
        have bF : Below p9 w6 (((w6.setCell ⟨p9, 0, none⟩ (.string x')).setCell ⟨p9, 1, none⟩ (.int .i64 now')).setCell ⟨p9, 2, none⟩ (.int .i64 lf')) := (((Below.refl _ _).setCell (p := ⟨p9, 0, none⟩) (Nat.le_refl _) (.string x')).setCell (p := ⟨p9, 1, none⟩) (Nat.le_refl _) (.int .i64 now')).setCell (p := ⟨p9, 2, none⟩) (Nat.le_refl _) (.int .i64 lf')
        have bN : ∀ k, k ≠ p9 → (((w6.setCell ⟨p9, 0, none⟩ (.string x')).setCell ⟨p9, 1, none⟩ (.int .i64 now')).setCell ⟨p9, 2, none⟩ (.int .i64 lf')).heap[k]? = w6.heap[k]? := fun k hk => (Below.heap_setCell _ ⟨p9, 2, none⟩ _ k hk).trans ((Below.heap_setCell _ ⟨p9, 1, none⟩ _ k hk).trans (Below.heap_setCell _ ⟨p9, 0, none⟩ _ k hk))
        have hbF : But (fun q => q = R) wr (((w6.setCell ⟨p9, 0, none⟩ (.string x')).setCell ⟨p9, 1, none⟩ (.int .i64 now')).setCell ⟨p9, 2, none⟩ (.int .i64 lf')) := ⟨bF.os.trans hb6.os, bF.tape.trans hb6.tape, bF.output.trans hb6.output, Nat.le_trans hb6.size bF.size, fun k h1 h2 => (bN k (by omega)).trans (hb6.block k h1 h2)⟩
        have hdF : Dv R ob n' cb f w W1.heap.size g M (.slice oo nl ko) (((w6.setCell ⟨p9, 0, none⟩ (.string x')).setCell ⟨p9, 1, none⟩ (.int .i64 now')).setCell ⟨p9, 2, none⟩ (.int .i64 lf')) q #[.string x, .int .i64 now, .int .i64 lf] :=
          ⟨hd6.rd.but (fun k hk => bN k (by omega)), Row.block hd6.row (fun k hk => bN k (by have := hd6.mlt k hk; omega)), hd6.mlt, (bN g (by omega)).trans hd6.box, (bN _ (by omega)).trans hd6.r3, (bN _ (by omega)).trans hd6.r4, hd6.bel.trans (bF.mono (by omega)), hd6.h1, hd6.h2, hd6.h3⟩
        refine storeH (f := 0) (i := 9) (((w6.setCell ⟨p9, 0, none⟩ (.string x')).setCell ⟨p9, 1, none⟩ (.int .i64 now')).setCell ⟨p9, 2, none⟩ (.int .i64 lf')) ⟨rfl, by decide⟩ (by kernel_rfl) (wanted_none rfl _) ?st hbF ?_
        case st => go_simp
        refine ⟨by kernel_rfl, ?_⟩
        simp only [List.drop_succ_cons, List.drop_zero]
        have fin' : Hid ((((w6.setCell ⟨p9, 0, none⟩ (.string x')).setCell ⟨p9, 1, none⟩ (.int .i64 now')).setCell ⟨p9, 2, none⟩ (.int .i64 lf')).heap[p9]? = some (.cells #[.string x', .int .i64 now', .int .i64 lf'] 25 (0, 0))) := by show _ = _; simpa using fin
        have DF : Hid _ := hdF
        clear fin hdF hbF bF bN hd6 hb6 row e0 e1 e2 f0 f1 f2
        generalize ((w6.setCell ⟨p9, 0, none⟩ (.string x')).setCell ⟨p9, 1, none⟩ (.int .i64 now')).setCell ⟨p9, 2, none⟩ (.int .i64 lf') = w7 at fin' DF ⊢
        have m0 := (cell_row fin'.out 0 (.string x') rfl).1
        have m1 := (cell_row fin'.out 1 (.int .i64 now') rfl).1
        have m2 := (cell_row fin'.out 2 (.int .i64 lf') rfl).1
        obtain ⟨i0, j0⟩ := cell_row DF.out.box 0 (.string x) rfl
        obtain ⟨i1, j1⟩ := cell_row DF.out.box 1 (.int .i64 now) rfl
        obtain ⟨i2, j2⟩ := cell_row DF.out.box 2 (.int .i64 lf) rfl
        cases okb
        · go_wp2_with fail
          go_roundw
          case rel => exact ⟨j - 1, q, x, now, lf, by omega, by first | go_num | (congr 1; omega), by omega, HO, DF⟩
          case measure => simp [intOf]; omega
        · have D8 : Hid (Dv R ob n' cb f w W1.heap.size g M (.slice oo nl ko) (((w7.setCell ⟨g, 0, none⟩ (.string x')).setCell ⟨g, 1, none⟩ (.int .i64 now')).setCell ⟨g, 2, none⟩ (.int .i64 lf')) q #[.string x', .int .i64 now', .int .i64 lf']) := ((DF.out.put 0 (.string x') rfl).put 1 (.int .i64 now') rfl).put 2 (.int .i64 lf') rfl
          go_wp2_with fail
          go_roundw
          case rel => exact ⟨j - 1, q, x', now', lf', by omega, by first | go_num | (congr 1; omega), by omega, GSO, D8⟩
          case measure => simp [intOf]; omega
    · obtain rfl : 0 = j := by omega
      have C : Hid _ := pick_rd R ob n' cb f p6 16 wr D6.out.rd (by omega) (by omega) (by omega)
      go_wp2_with fail
      refine Calls.mono C.out ?_
      rintro e W7 ⟨z, rfl, z0, z1, p7, hp7, RD7, BT7⟩
      have D7 : Hid (Dv R ob n' cb f w W1.heap.size g M (.slice oo nl ko) W7 p7 #[.string x, .int .i64 now, .int .i64 lf]) := D6.out.call RD7.out BT7.out
      clear C D6 RD7 BT7 glt d1 d2 d3
      rcases (show z = 0 ∨ z = 1 ∨ 2 ≤ z by omega) with rfl | rfl | hz
      · have glt := D7.out.glt
        have d1 := D7.out.h1
        have d2 := D7.out.h2
        have d3 := D7.out.h3
        have DA : Hid (Dv R ob n' cb f w W1.heap.size g M (.slice oo nl ko) (W7.alloc (.cells #[.string ⟨#[]⟩, .string ⟨#[110, 111, 110, 101]⟩, .string ⟨#[103, 111, 111, 100]⟩] 9)) p7 #[.string x, .int .i64 now, .int .i64 lf]) := D7.out.keep ((Below.refl _ _).alloc (Nat.le_refl _) _)
        have C : Hid _ := of_rd R ob n' cb f p7 (fun q => q = W7.heap.size) [⟨#[]⟩, ⟨#[110, 111, 110, 101]⟩, ⟨#[103, 111, 111, 100]⟩] (.slice (some ⟨W7.heap.size, 0, none⟩) 3 3) _ DA.out.rd (by omega) (lit_at 9 W7 [⟨#[]⟩, ⟨#[110, 111, 110, 101]⟩, ⟨#[103, 111, 111, 100]⟩] (by show 3 ≤ maxLen; decide) (fun s hs => by simp only [List.mem_cons, List.not_mem_nil, or_false] at hs; rcases hs with rfl | rfl | rfl <;> decide)) (fun b hb => ⟨by rw [hb]; simp, by rw [hb]; omega⟩) (by simp) (by simp)
        go_wp2_with fail
        refine Calls.mono C.out ?_
        rintro e W8 ⟨s, hs, rfl, p8, hp8, RD8, BT8⟩
        have D8 : Hid (Dv R ob n' cb f w W1.heap.size g M (.slice oo nl ko) W8 p8 #[.string x, .int .i64 now, .int .i64 lf]) := DA.out.call RD8.out BT8.out
        have hsz : s.size ≤ 1048576 := by
          simp only [List.mem_cons, List.not_mem_nil, or_false] at hs
          rcases hs with rfl | rfl | rfl <;> decide
        clear C DA RD8 BT8 hs D7
        obtain ⟨i0, j0⟩ := cell_row D8.out.box 0 (.string x) rfl
        have D9 : Hid (Dv R ob n' cb f w W1.heap.size g M (.slice oo nl ko) (W8.setCell ⟨g, 0, none⟩ (.string s)) p8 #[.string s, .int .i64 now, .int .i64 lf]) := D8.out.put 0 (.string s) rfl
        obtain ⟨W9, hW9⟩ : ∃ W9, W9 = W8.setCell ⟨g, 0, none⟩ (.string s) := ⟨_, rfl⟩
        have E9 : Hid (W9 = W8.setCell ⟨g, 0, none⟩ (.string s)) := hW9
        rw [← hW9] at D9
        clear hW9 glt d1 d2 d3
        go_upto_region 15 with fail
        rw [← E9.out]
        clear E9
        have glt := D9.out.glt
        have d1 := D9.out.h1
        have d2 := D9.out.h2
        have d3 := D9.out.h3
        have DX : Hid (∀ v, But (fun q => q = R) W9 v → v.heap[g]? = some (.cells #[.string s, .int .i64 now, .int .i64 lf] 25 (0, 0))) := fun v hv => (hv.block g glt (by omega)).trans D9.out.box
        have Q0 : Hid (∀ v, But (fun q => q = R) W9 v → v.cell? ⟨g, 0, none⟩ = some (.string s)) := fun v hv => (cell_row (DX.out v hv) 0 (.string s) rfl).1
        have Q1 : Hid (∀ v, But (fun q => q = R) W9 v → v.cell? ⟨g, 1, none⟩ = some (.int .i64 now)) := fun v hv => (cell_row (DX.out v hv) 1 (.int .i64 now) rfl).1
        have Q2 : Hid (∀ v, But (fun q => q = R) W9 v → v.cell? ⟨g, 2, none⟩ = some (.int .i64 lf)) := fun v hv => (cell_row (DX.out v hv) 2 (.int .i64 lf) rfl).1
        have hdr : Hid (But (fun q => q = R) W9 W9.drew) := But.of_below (Below.refl _ _).drew
        have OKS : Hid (OkN now ∧ OkN lf ∧ (s : ByteArray).size ≤ 1048576) := ⟨HO.out.1, HO.out.2.1, hsz⟩
        have CS : Hid _ := say_rd R ob n' cb f p8 W9.drew (D9.out.rd.but (fun b _ => rfl)) (by omega)
        clear DX
        refine wp_region_movesC (fun v => But (fun q => q = R) W9 v) 5 [] (by kernel_rfl) (by kernel_rfl) hdr.out ?_
        simp only [List.filterMap_nil, movD]
        refine takeHQ (f := 4) (i := 0) (.slice oo nl ko) ⟨rfl, rfl⟩ (by kernel_rfl) rfl hdr.out ?r0 ?_
        case r0 => intro v hv; go_simp
        simp only [Act.put, List.setIfInBounds_toArray, List.set_cons_zero, List.set_cons_succ]
        refine takeHQ (f := 3) (i := 1) (.agg #[.string s, .int .i64 now, .int .i64 lf]) ⟨rfl, rfl⟩ (by kernel_rfl) rfl hdr.out ?r1 ?_
        case r1 => intro v hv; have k0 := Q0.out v hv; have k1 := Q1.out v hv; have k2 := Q2.out v hv; go_simp
        simp only [Act.put, List.setIfInBounds_toArray, List.set_cons_zero, List.set_cons_succ]
        refine takeHQ (f := 2) (i := 2) (.pointer (some ⟨R, 0, none⟩)) ⟨rfl, rfl⟩ (by kernel_rfl) rfl hdr.out ?r2 ?_
        case r2 => intro v hv; go_simp
        simp only [Act.put, List.setIfInBounds_toArray, List.set_cons_zero, List.set_cons_succ]
        refine callHd (f := 1) (i := 3) (d := 52) (fn := 11) (args := #[.pointer (some ⟨R, 0, none⟩)]) ⟨rfl, rfl⟩ (by decide) (by kernel_rfl) rfl ?rc (Calls.mono CS.out ?_)
        case rc => go_simp
        rintro e wl ⟨t, b, rfl, hok, pl, hpl, RDl, BTl⟩
        have hbl : Hid (But (fun q => q = R) W9 wl) := hdr.out.trans BTl.out
        have DL : Hid (Dv R ob n' cb f w W1.heap.size g M (.slice oo nl ko) wl pl #[.string s, .int .i64 now, .int .i64 lf]) := D9.out.call RDl.out hbl.out
        have OKT : Hid (OkN t) := hok
        clear RDl BTl hok CS
        refine ⟨_, rfl, hbl.out, ?_⟩
        simp only [Act.put, List.setIfInBounds_toArray, List.set_cons_zero, List.set_cons_succ]
        refine takeHQ (f := 0) (i := 4) (.slice oo nl ko) ⟨rfl, rfl⟩ (by kernel_rfl) rfl hbl.out ?r4 ?_
        case r4 => intro v hv; go_simp
        simp only [Act.put, List.setIfInBounds_toArray, List.set_cons_zero, List.set_cons_succ]
        refine ⟨by kernel_rfl, ?_⟩
        simp only [List.drop_succ_cons, List.drop_zero]
        obtain ⟨c0, t0⟩ := cell_row DL.out.r3 0 (.string ⟨#[]⟩) rfl
        obtain ⟨c1, t1⟩ := cell_row DL.out.r3 1 (.int .i64 0) rfl
        obtain ⟨c2, t2⟩ := cell_row DL.out.r3 2 (.int .i64 0) rfl
        have hsz := DL.out.glt
        have HF : Hid _ := ret3d DL.out.r3 (.string s) (.int .i64 now) (.int .i64 lf)
        obtain ⟨F, hF⟩ : ∃ F, F = ((wl.setCell ⟨w.heap.size, 0, none⟩ (.string s)).setCell ⟨w.heap.size, 1, none⟩ (.int .i64 now)).setCell ⟨w.heap.size, 2, none⟩ (.int .i64 lf) := ⟨_, rfl⟩
        have EF : Hid (F = ((wl.setCell ⟨w.heap.size, 0, none⟩ (.string s)).setCell ⟨w.heap.size, 1, none⟩ (.int .i64 now)).setCell ⟨w.heap.size, 2, none⟩ (.int .i64 lf)) := hF
        rw [← hF] at HF
        clear hF
        have r4F : F.heap[w.heap.size + 1]? = some (.cells #[.int .i64 0, .bool false] 27 (0, 0)) := (HF.out.2.1 _ (by omega)).trans DL.out.r4
        obtain ⟨c3, t3⟩ := cell_row r4F 0 (.int .i64 0) rfl
        obtain ⟨c4, t4⟩ := cell_row r4F 1 (.bool false) rfl
        have HG : Hid _ := ret2c r4F (.int .i64 t) (.bool b)
        rw [EF.out] at c3 c4 t3 t4
        obtain ⟨G2, hG2⟩ : ∃ G2, G2 = (F.setCell ⟨w.heap.size + 1, 0, none⟩ (.int .i64 t)).setCell ⟨w.heap.size + 1, 1, none⟩ (.bool b) := ⟨_, rfl⟩
        have EG : Hid (G2 = (F.setCell ⟨w.heap.size + 1, 0, none⟩ (.int .i64 t)).setCell ⟨w.heap.size + 1, 1, none⟩ (.bool b)) := hG2
        rw [← hG2] at HG
        clear hG2
        have k3 : Hid (G2.heap[w.heap.size]? = some (.cells #[.string s, .int .i64 now, .int .i64 lf] 25 (0, 0))) := (HG.out.2.1 _ (by omega)).trans HF.out.1
        have u0 := (cell_row k3.out 0 (.string s) rfl).1
        have u1 := (cell_row k3.out 1 (.int .i64 now) rfl).1
        have u2 := (cell_row k3.out 2 (.int .i64 lf) rfl).1
        have u3 := (cell_row HG.out.1 0 (.int .i64 t) rfl).1
        have u4 := (cell_row HG.out.1 1 (.bool b) rfl).1
        have BF : Hid (Below w.heap.size w G2) := DL.out.bel.trans ((HF.out.2.2.trans (HG.out.2.2.mono (by omega))))
        have RF : Hid (Row G2 w.heap.size 33 8 eR (.slice oo nl ko) M) := Row.low (Row.block DL.out.row (fun k hk => (HG.out.2.1 k (by have := DL.out.mlt k hk; omega)).trans (HF.out.2.1 k (by have := DL.out.mlt k hk; omega)))) (by omega)
        go_wp2_with fail
        first | rw [← EF.out, ← EG.out] | rw [← EF.out] | skip
        exact bodyPost_ret (v := .tuple #[.slice oo nl ko, .agg #[.string s, .int .i64 now, .int .i64 lf], .agg #[.int .i64 t, .bool b]]) (by simp [results, Try.results4, go_sem, u0, u1, u2, u3, u4]) rfl (DgE.of ⟨_, M, _, _, _, t, b, rfl, by have := HLK.out; omega, HZ.out, OKS.out.1, OKS.out.2.1, OKS.out.2.2, OKT.out, RF, BF⟩)
      · have glt := D7.out.glt
        have d1 := D7.out.h1
        have d2 := D7.out.h2
        have d3 := D7.out.h3
        have DA : Hid (Dv R ob n' cb f w W1.heap.size g M (.slice oo nl ko) (W7.alloc (.cells #[.int .i64 (-1), .int .i64 12000, .int .i64 12001] 3)) p7 #[.string x, .int .i64 now, .int .i64 lf]) := D7.out.keep ((Below.refl _ _).alloc (Nat.le_refl _) _)
        have C : Hid _ := pick_rd R ob n' cb f p7 3 _ DA.out.rd (by omega) (by omega) (by omega)
        go_wp2_with fail
        refine Calls.mono C.out ?_
        rintro e W8 ⟨y, rfl, y0, y1, p8, hp8, RD8, BT8⟩
        have D8 : Hid (Dv R ob n' cb f w W1.heap.size g M (.slice oo nl ko) W8 p8 #[.string x, .int .i64 now, .int .i64 lf]) := DA.out.call RD8.out BT8.out
        have L8 : Hid (W8.heap[W7.heap.size]? = some (.cells #[.int .i64 (-1), .int .i64 12000, .int .i64 12001] 3 (0, 0))) := (BT8.out.block W7.heap.size (by simp) (by omega)).trans (heap_alloc_new W7 _)
        clear C DA RD8 BT8 D7
        obtain ⟨i0, j0⟩ := cell_row D8.out.box 1 (.int .i64 now) rfl
        clear glt d1 d2 d3
        rcases (show y = 0 ∨ y = 1 ∨ y = 2 by omega) with rfl | rfl | rfl
        · have k0 := (cell_row L8.out 0 (.int .i64 (-1)) rfl).1
          have D9 : Hid (Dv R ob n' cb f w W1.heap.size g M (.slice oo nl ko) (W8.setCell ⟨g, 1, none⟩ (.int .i64 (-1))) p8 #[.string x, .int .i64 (-1), .int .i64 lf]) := D8.out.put 1 (.int .i64 (-1)) rfl
          obtain ⟨W9, hW9⟩ : ∃ W9, W9 = W8.setCell ⟨g, 1, none⟩ (.int .i64 (-1)) := ⟨_, rfl⟩
          have E9 : Hid (W9 = W8.setCell ⟨g, 1, none⟩ (.int .i64 (-1))) := hW9
          rw [← hW9] at D9
          clear hW9
          go_upto_region 15 with fail
          rw [← E9.out]
          clear E9
          have glt := D9.out.glt
          have d1 := D9.out.h1
          have d2 := D9.out.h2
          have d3 := D9.out.h3
          have DX : Hid (∀ v, But (fun q => q = R) W9 v → v.heap[g]? = some (.cells #[.string x, .int .i64 (-1), .int .i64 lf] 25 (0, 0))) := fun v hv => (hv.block g glt (by omega)).trans D9.out.box
          have Q0 : Hid (∀ v, But (fun q => q = R) W9 v → v.cell? ⟨g, 0, none⟩ = some (.string x)) := fun v hv => (cell_row (DX.out v hv) 0 (.string x) rfl).1
          have Q1 : Hid (∀ v, But (fun q => q = R) W9 v → v.cell? ⟨g, 1, none⟩ = some (.int .i64 (-1))) := fun v hv => (cell_row (DX.out v hv) 1 (.int .i64 (-1)) rfl).1
          have Q2 : Hid (∀ v, But (fun q => q = R) W9 v → v.cell? ⟨g, 2, none⟩ = some (.int .i64 lf)) := fun v hv => (cell_row (DX.out v hv) 2 (.int .i64 lf) rfl).1
          have hdr : Hid (But (fun q => q = R) W9 W9.drew) := But.of_below (Below.refl _ _).drew
          have OKS : Hid (OkN (-1) ∧ OkN lf ∧ (x : ByteArray).size ≤ 1048576) := ⟨by show _ ∧ _; omega, HO.out.2⟩
          have CS : Hid _ := say_rd R ob n' cb f p8 W9.drew (D9.out.rd.but (fun b _ => rfl)) (by omega)
          clear DX
          refine wp_region_movesC (fun v => But (fun q => q = R) W9 v) 5 [] (by kernel_rfl) (by kernel_rfl) hdr.out ?_
          simp only [List.filterMap_nil, movD]
          refine takeHQ (f := 4) (i := 0) (.slice oo nl ko) ⟨rfl, rfl⟩ (by kernel_rfl) rfl hdr.out ?r0 ?_
          case r0 => intro v hv; go_simp
          simp only [Act.put, List.setIfInBounds_toArray, List.set_cons_zero, List.set_cons_succ]
          refine takeHQ (f := 3) (i := 1) (.agg #[.string x, .int .i64 (-1), .int .i64 lf]) ⟨rfl, rfl⟩ (by kernel_rfl) rfl hdr.out ?r1 ?_
          case r1 => intro v hv; have k0 := Q0.out v hv; have k1 := Q1.out v hv; have k2 := Q2.out v hv; go_simp
          simp only [Act.put, List.setIfInBounds_toArray, List.set_cons_zero, List.set_cons_succ]
          refine takeHQ (f := 2) (i := 2) (.pointer (some ⟨R, 0, none⟩)) ⟨rfl, rfl⟩ (by kernel_rfl) rfl hdr.out ?r2 ?_
          case r2 => intro v hv; go_simp
          simp only [Act.put, List.setIfInBounds_toArray, List.set_cons_zero, List.set_cons_succ]
          refine callHd (f := 1) (i := 3) (d := 52) (fn := 11) (args := #[.pointer (some ⟨R, 0, none⟩)]) ⟨rfl, rfl⟩ (by decide) (by kernel_rfl) rfl ?rc (Calls.mono CS.out ?_)
          case rc => go_simp
          rintro e wl ⟨t, b, rfl, hok, pl, hpl, RDl, BTl⟩
          have hbl : Hid (But (fun q => q = R) W9 wl) := hdr.out.trans BTl.out
          have DL : Hid (Dv R ob n' cb f w W1.heap.size g M (.slice oo nl ko) wl pl #[.string x, .int .i64 (-1), .int .i64 lf]) := D9.out.call RDl.out hbl.out
          have OKT : Hid (OkN t) := hok
          clear RDl BTl hok CS
          refine ⟨_, rfl, hbl.out, ?_⟩
          simp only [Act.put, List.setIfInBounds_toArray, List.set_cons_zero, List.set_cons_succ]
          refine takeHQ (f := 0) (i := 4) (.slice oo nl ko) ⟨rfl, rfl⟩ (by kernel_rfl) rfl hbl.out ?r4 ?_
          case r4 => intro v hv; go_simp
          simp only [Act.put, List.setIfInBounds_toArray, List.set_cons_zero, List.set_cons_succ]
          refine ⟨by kernel_rfl, ?_⟩
          simp only [List.drop_succ_cons, List.drop_zero]
          obtain ⟨c0, t0⟩ := cell_row DL.out.r3 0 (.string ⟨#[]⟩) rfl
          obtain ⟨c1, t1⟩ := cell_row DL.out.r3 1 (.int .i64 0) rfl
          obtain ⟨c2, t2⟩ := cell_row DL.out.r3 2 (.int .i64 0) rfl
          have hsz := DL.out.glt
          have HF : Hid _ := ret3d DL.out.r3 (.string x) (.int .i64 (-1)) (.int .i64 lf)
          obtain ⟨F, hF⟩ : ∃ F, F = ((wl.setCell ⟨w.heap.size, 0, none⟩ (.string x)).setCell ⟨w.heap.size, 1, none⟩ (.int .i64 (-1))).setCell ⟨w.heap.size, 2, none⟩ (.int .i64 lf) := ⟨_, rfl⟩
          have EF : Hid (F = ((wl.setCell ⟨w.heap.size, 0, none⟩ (.string x)).setCell ⟨w.heap.size, 1, none⟩ (.int .i64 (-1))).setCell ⟨w.heap.size, 2, none⟩ (.int .i64 lf)) := hF
          rw [← hF] at HF
          clear hF
          have r4F : F.heap[w.heap.size + 1]? = some (.cells #[.int .i64 0, .bool false] 27 (0, 0)) := (HF.out.2.1 _ (by omega)).trans DL.out.r4
          obtain ⟨c3, t3⟩ := cell_row r4F 0 (.int .i64 0) rfl
          obtain ⟨c4, t4⟩ := cell_row r4F 1 (.bool false) rfl
          have HG : Hid _ := ret2c r4F (.int .i64 t) (.bool b)
          rw [EF.out] at c3 c4 t3 t4
          obtain ⟨G2, hG2⟩ : ∃ G2, G2 = (F.setCell ⟨w.heap.size + 1, 0, none⟩ (.int .i64 t)).setCell ⟨w.heap.size + 1, 1, none⟩ (.bool b) := ⟨_, rfl⟩
          have EG : Hid (G2 = (F.setCell ⟨w.heap.size + 1, 0, none⟩ (.int .i64 t)).setCell ⟨w.heap.size + 1, 1, none⟩ (.bool b)) := hG2
          rw [← hG2] at HG
          clear hG2
          have k3 : Hid (G2.heap[w.heap.size]? = some (.cells #[.string x, .int .i64 (-1), .int .i64 lf] 25 (0, 0))) := (HG.out.2.1 _ (by omega)).trans HF.out.1
          have u0 := (cell_row k3.out 0 (.string x) rfl).1
          have u1 := (cell_row k3.out 1 (.int .i64 (-1)) rfl).1
          have u2 := (cell_row k3.out 2 (.int .i64 lf) rfl).1
          have u3 := (cell_row HG.out.1 0 (.int .i64 t) rfl).1
          have u4 := (cell_row HG.out.1 1 (.bool b) rfl).1
          have BF : Hid (Below w.heap.size w G2) := DL.out.bel.trans ((HF.out.2.2.trans (HG.out.2.2.mono (by omega))))
          have RF : Hid (Row G2 w.heap.size 33 8 eR (.slice oo nl ko) M) := Row.low (Row.block DL.out.row (fun k hk => (HG.out.2.1 k (by have := DL.out.mlt k hk; omega)).trans (HF.out.2.1 k (by have := DL.out.mlt k hk; omega)))) (by omega)
          go_wp2_with fail
          first | rw [← EF.out, ← EG.out] | rw [← EF.out] | skip
          exact bodyPost_ret (v := .tuple #[.slice oo nl ko, .agg #[.string x, .int .i64 (-1), .int .i64 lf], .agg #[.int .i64 t, .bool b]]) (by simp [results, Try.results4, go_sem, u0, u1, u2, u3, u4]) rfl (DgE.of ⟨_, M, _, _, _, t, b, rfl, by have := HLK.out; omega, HZ.out, OKS.out.1, OKS.out.2.1, OKS.out.2.2, OKT.out, RF, BF⟩)
        · have k0 := (cell_row L8.out 1 (.int .i64 12000) rfl).1
          have D9 : Hid (Dv R ob n' cb f w W1.heap.size g M (.slice oo nl ko) (W8.setCell ⟨g, 1, none⟩ (.int .i64 12000)) p8 #[.string x, .int .i64 12000, .int .i64 lf]) := D8.out.put 1 (.int .i64 12000) rfl
          obtain ⟨W9, hW9⟩ : ∃ W9, W9 = W8.setCell ⟨g, 1, none⟩ (.int .i64 12000) := ⟨_, rfl⟩
          have E9 : Hid (W9 = W8.setCell ⟨g, 1, none⟩ (.int .i64 12000)) := hW9
          rw [← hW9] at D9
          clear hW9
          go_upto_region 15 with fail
          rw [← E9.out]
          clear E9
          have glt := D9.out.glt
          have d1 := D9.out.h1
          have d2 := D9.out.h2
          have d3 := D9.out.h3
          have DX : Hid (∀ v, But (fun q => q = R) W9 v → v.heap[g]? = some (.cells #[.string x, .int .i64 12000, .int .i64 lf] 25 (0, 0))) := fun v hv => (hv.block g glt (by omega)).trans D9.out.box
          have Q0 : Hid (∀ v, But (fun q => q = R) W9 v → v.cell? ⟨g, 0, none⟩ = some (.string x)) := fun v hv => (cell_row (DX.out v hv) 0 (.string x) rfl).1
          have Q1 : Hid (∀ v, But (fun q => q = R) W9 v → v.cell? ⟨g, 1, none⟩ = some (.int .i64 12000)) := fun v hv => (cell_row (DX.out v hv) 1 (.int .i64 12000) rfl).1
          have Q2 : Hid (∀ v, But (fun q => q = R) W9 v → v.cell? ⟨g, 2, none⟩ = some (.int .i64 lf)) := fun v hv => (cell_row (DX.out v hv) 2 (.int .i64 lf) rfl).1
          have hdr : Hid (But (fun q => q = R) W9 W9.drew) := But.of_below (Below.refl _ _).drew
          have OKS : Hid (OkN 12000 ∧ OkN lf ∧ (x : ByteArray).size ≤ 1048576) := ⟨by show _ ∧ _; omega, HO.out.2⟩
          have CS : Hid _ := say_rd R ob n' cb f p8 W9.drew (D9.out.rd.but (fun b _ => rfl)) (by omega)
          clear DX
          refine wp_region_movesC (fun v => But (fun q => q = R) W9 v) 5 [] (by kernel_rfl) (by kernel_rfl) hdr.out ?_
          simp only [List.filterMap_nil, movD]
          refine takeHQ (f := 4) (i := 0) (.slice oo nl ko) ⟨rfl, rfl⟩ (by kernel_rfl) rfl hdr.out ?r0 ?_
          case r0 => intro v hv; go_simp
          simp only [Act.put, List.setIfInBounds_toArray, List.set_cons_zero, List.set_cons_succ]
          refine takeHQ (f := 3) (i := 1) (.agg #[.string x, .int .i64 12000, .int .i64 lf]) ⟨rfl, rfl⟩ (by kernel_rfl) rfl hdr.out ?r1 ?_
          case r1 => intro v hv; have k0 := Q0.out v hv; have k1 := Q1.out v hv; have k2 := Q2.out v hv; go_simp
          simp only [Act.put, List.setIfInBounds_toArray, List.set_cons_zero, List.set_cons_succ]
          refine takeHQ (f := 2) (i := 2) (.pointer (some ⟨R, 0, none⟩)) ⟨rfl, rfl⟩ (by kernel_rfl) rfl hdr.out ?r2 ?_
          case r2 => intro v hv; go_simp
          simp only [Act.put, List.setIfInBounds_toArray, List.set_cons_zero, List.set_cons_succ]
          refine callHd (f := 1) (i := 3) (d := 52) (fn := 11) (args := #[.pointer (some ⟨R, 0, none⟩)]) ⟨rfl, rfl⟩ (by decide) (by kernel_rfl) rfl ?rc (Calls.mono CS.out ?_)
          case rc => go_simp
          rintro e wl ⟨t, b, rfl, hok, pl, hpl, RDl, BTl⟩
          have hbl : Hid (But (fun q => q = R) W9 wl) := hdr.out.trans BTl.out
          have DL : Hid (Dv R ob n' cb f w W1.heap.size g M (.slice oo nl ko) wl pl #[.string x, .int .i64 12000, .int .i64 lf]) := D9.out.call RDl.out hbl.out
          have OKT : Hid (OkN t) := hok
          clear RDl BTl hok CS
          refine ⟨_, rfl, hbl.out, ?_⟩
          simp only [Act.put, List.setIfInBounds_toArray, List.set_cons_zero, List.set_cons_succ]
          refine takeHQ (f := 0) (i := 4) (.slice oo nl ko) ⟨rfl, rfl⟩ (by kernel_rfl) rfl hbl.out ?r4 ?_
          case r4 => intro v hv; go_simp
          simp only [Act.put, List.setIfInBounds_toArray, List.set_cons_zero, List.set_cons_succ]
          refine ⟨by kernel_rfl, ?_⟩
          simp only [List.drop_succ_cons, List.drop_zero]
          obtain ⟨c0, t0⟩ := cell_row DL.out.r3 0 (.string ⟨#[]⟩) rfl
          obtain ⟨c1, t1⟩ := cell_row DL.out.r3 1 (.int .i64 0) rfl
          obtain ⟨c2, t2⟩ := cell_row DL.out.r3 2 (.int .i64 0) rfl
          have hsz := DL.out.glt
          have HF : Hid _ := ret3d DL.out.r3 (.string x) (.int .i64 12000) (.int .i64 lf)
          obtain ⟨F, hF⟩ : ∃ F, F = ((wl.setCell ⟨w.heap.size, 0, none⟩ (.string x)).setCell ⟨w.heap.size, 1, none⟩ (.int .i64 12000)).setCell ⟨w.heap.size, 2, none⟩ (.int .i64 lf) := ⟨_, rfl⟩
          have EF : Hid (F = ((wl.setCell ⟨w.heap.size, 0, none⟩ (.string x)).setCell ⟨w.heap.size, 1, none⟩ (.int .i64 12000)).setCell ⟨w.heap.size, 2, none⟩ (.int .i64 lf)) := hF
          rw [← hF] at HF
          clear hF
          have r4F : F.heap[w.heap.size + 1]? = some (.cells #[.int .i64 0, .bool false] 27 (0, 0)) := (HF.out.2.1 _ (by omega)).trans DL.out.r4
          obtain ⟨c3, t3⟩ := cell_row r4F 0 (.int .i64 0) rfl
          obtain ⟨c4, t4⟩ := cell_row r4F 1 (.bool false) rfl
          have HG : Hid _ := ret2c r4F (.int .i64 t) (.bool b)
          rw [EF.out] at c3 c4 t3 t4
          obtain ⟨G2, hG2⟩ : ∃ G2, G2 = (F.setCell ⟨w.heap.size + 1, 0, none⟩ (.int .i64 t)).setCell ⟨w.heap.size + 1, 1, none⟩ (.bool b) := ⟨_, rfl⟩
          have EG : Hid (G2 = (F.setCell ⟨w.heap.size + 1, 0, none⟩ (.int .i64 t)).setCell ⟨w.heap.size + 1, 1, none⟩ (.bool b)) := hG2
          rw [← hG2] at HG
          clear hG2
          have k3 : Hid (G2.heap[w.heap.size]? = some (.cells #[.string x, .int .i64 12000, .int .i64 lf] 25 (0, 0))) := (HG.out.2.1 _ (by omega)).trans HF.out.1
          have u0 := (cell_row k3.out 0 (.string x) rfl).1
          have u1 := (cell_row k3.out 1 (.int .i64 12000) rfl).1
          have u2 := (cell_row k3.out 2 (.int .i64 lf) rfl).1
          have u3 := (cell_row HG.out.1 0 (.int .i64 t) rfl).1
          have u4 := (cell_row HG.out.1 1 (.bool b) rfl).1
          have BF : Hid (Below w.heap.size w G2) := DL.out.bel.trans ((HF.out.2.2.trans (HG.out.2.2.mono (by omega))))
          have RF : Hid (Row G2 w.heap.size 33 8 eR (.slice oo nl ko) M) := Row.low (Row.block DL.out.row (fun k hk => (HG.out.2.1 k (by have := DL.out.mlt k hk; omega)).trans (HF.out.2.1 k (by have := DL.out.mlt k hk; omega)))) (by omega)
          go_wp2_with fail
          first | rw [← EF.out, ← EG.out] | rw [← EF.out] | skip
          exact bodyPost_ret (v := .tuple #[.slice oo nl ko, .agg #[.string x, .int .i64 12000, .int .i64 lf], .agg #[.int .i64 t, .bool b]]) (by simp [results, Try.results4, go_sem, u0, u1, u2, u3, u4]) rfl (DgE.of ⟨_, M, _, _, _, t, b, rfl, by have := HLK.out; omega, HZ.out, OKS.out.1, OKS.out.2.1, OKS.out.2.2, OKT.out, RF, BF⟩)
        · have k0 := (cell_row L8.out 2 (.int .i64 12001) rfl).1
          have D9 : Hid (Dv R ob n' cb f w W1.heap.size g M (.slice oo nl ko) (W8.setCell ⟨g, 1, none⟩ (.int .i64 12001)) p8 #[.string x, .int .i64 12001, .int .i64 lf]) := D8.out.put 1 (.int .i64 12001) rfl
          obtain ⟨W9, hW9⟩ : ∃ W9, W9 = W8.setCell ⟨g, 1, none⟩ (.int .i64 12001) := ⟨_, rfl⟩
          have E9 : Hid (W9 = W8.setCell ⟨g, 1, none⟩ (.int .i64 12001)) := hW9
          rw [← hW9] at D9
          clear hW9
          go_upto_region 15 with fail
          rw [← E9.out]
          clear E9
          have glt := D9.out.glt
          have d1 := D9.out.h1
          have d2 := D9.out.h2
          have d3 := D9.out.h3
          have DX : Hid (∀ v, But (fun q => q = R) W9 v → v.heap[g]? = some (.cells #[.string x, .int .i64 12001, .int .i64 lf] 25 (0, 0))) := fun v hv => (hv.block g glt (by omega)).trans D9.out.box
          have Q0 : Hid (∀ v, But (fun q => q = R) W9 v → v.cell? ⟨g, 0, none⟩ = some (.string x)) := fun v hv => (cell_row (DX.out v hv) 0 (.string x) rfl).1
          have Q1 : Hid (∀ v, But (fun q => q = R) W9 v → v.cell? ⟨g, 1, none⟩ = some (.int .i64 12001)) := fun v hv => (cell_row (DX.out v hv) 1 (.int .i64 12001) rfl).1
          have Q2 : Hid (∀ v, But (fun q => q = R) W9 v → v.cell? ⟨g, 2, none⟩ = some (.int .i64 lf)) := fun v hv => (cell_row (DX.out v hv) 2 (.int .i64 lf) rfl).1
          have hdr : Hid (But (fun q => q = R) W9 W9.drew) := But.of_below (Below.refl _ _).drew
          have OKS : Hid (OkN 12001 ∧ OkN lf ∧ (x : ByteArray).size ≤ 1048576) := ⟨by show _ ∧ _; omega, HO.out.2⟩
          have CS : Hid _ := say_rd R ob n' cb f p8 W9.drew (D9.out.rd.but (fun b _ => rfl)) (by omega)
          clear DX
          refine wp_region_movesC (fun v => But (fun q => q = R) W9 v) 5 [] (by kernel_rfl) (by kernel_rfl) hdr.out ?_
          simp only [List.filterMap_nil, movD]
          refine takeHQ (f := 4) (i := 0) (.slice oo nl ko) ⟨rfl, rfl⟩ (by kernel_rfl) rfl hdr.out ?r0 ?_
          case r0 => intro v hv; go_simp
          simp only [Act.put, List.setIfInBounds_toArray, List.set_cons_zero, List.set_cons_succ]
          refine takeHQ (f := 3) (i := 1) (.agg #[.string x, .int .i64 12001, .int .i64 lf]) ⟨rfl, rfl⟩ (by kernel_rfl) rfl hdr.out ?r1 ?_
          case r1 => intro v hv; have k0 := Q0.out v hv; have k1 := Q1.out v hv; have k2 := Q2.out v hv; go_simp
          simp only [Act.put, List.setIfInBounds_toArray, List.set_cons_zero, List.set_cons_succ]
          refine takeHQ (f := 2) (i := 2) (.pointer (some ⟨R, 0, none⟩)) ⟨rfl, rfl⟩ (by kernel_rfl) rfl hdr.out ?r2 ?_
          case r2 => intro v hv; go_simp
          simp only [Act.put, List.setIfInBounds_toArray, List.set_cons_zero, List.set_cons_succ]
          refine callHd (f := 1) (i := 3) (d := 52) (fn := 11) (args := #[.pointer (some ⟨R, 0, none⟩)]) ⟨rfl, rfl⟩ (by decide) (by kernel_rfl) rfl ?rc (Calls.mono CS.out ?_)
          case rc => go_simp
          rintro e wl ⟨t, b, rfl, hok, pl, hpl, RDl, BTl⟩
          have hbl : Hid (But (fun q => q = R) W9 wl) := hdr.out.trans BTl.out
          have DL : Hid (Dv R ob n' cb f w W1.heap.size g M (.slice oo nl ko) wl pl #[.string x, .int .i64 12001, .int .i64 lf]) := D9.out.call RDl.out hbl.out
          have OKT : Hid (OkN t) := hok
          clear RDl BTl hok CS
          refine ⟨_, rfl, hbl.out, ?_⟩
          simp only [Act.put, List.setIfInBounds_toArray, List.set_cons_zero, List.set_cons_succ]
          refine takeHQ (f := 0) (i := 4) (.slice oo nl ko) ⟨rfl, rfl⟩ (by kernel_rfl) rfl hbl.out ?r4 ?_
          case r4 => intro v hv; go_simp
          simp only [Act.put, List.setIfInBounds_toArray, List.set_cons_zero, List.set_cons_succ]
          refine ⟨by kernel_rfl, ?_⟩
          simp only [List.drop_succ_cons, List.drop_zero]
          obtain ⟨c0, t0⟩ := cell_row DL.out.r3 0 (.string ⟨#[]⟩) rfl
          obtain ⟨c1, t1⟩ := cell_row DL.out.r3 1 (.int .i64 0) rfl
          obtain ⟨c2, t2⟩ := cell_row DL.out.r3 2 (.int .i64 0) rfl
          have hsz := DL.out.glt
          have HF : Hid _ := ret3d DL.out.r3 (.string x) (.int .i64 12001) (.int .i64 lf)
          obtain ⟨F, hF⟩ : ∃ F, F = ((wl.setCell ⟨w.heap.size, 0, none⟩ (.string x)).setCell ⟨w.heap.size, 1, none⟩ (.int .i64 12001)).setCell ⟨w.heap.size, 2, none⟩ (.int .i64 lf) := ⟨_, rfl⟩
          have EF : Hid (F = ((wl.setCell ⟨w.heap.size, 0, none⟩ (.string x)).setCell ⟨w.heap.size, 1, none⟩ (.int .i64 12001)).setCell ⟨w.heap.size, 2, none⟩ (.int .i64 lf)) := hF
          rw [← hF] at HF
          clear hF
          have r4F : F.heap[w.heap.size + 1]? = some (.cells #[.int .i64 0, .bool false] 27 (0, 0)) := (HF.out.2.1 _ (by omega)).trans DL.out.r4
          obtain ⟨c3, t3⟩ := cell_row r4F 0 (.int .i64 0) rfl
          obtain ⟨c4, t4⟩ := cell_row r4F 1 (.bool false) rfl
          have HG : Hid _ := ret2c r4F (.int .i64 t) (.bool b)
          rw [EF.out] at c3 c4 t3 t4
          obtain ⟨G2, hG2⟩ : ∃ G2, G2 = (F.setCell ⟨w.heap.size + 1, 0, none⟩ (.int .i64 t)).setCell ⟨w.heap.size + 1, 1, none⟩ (.bool b) := ⟨_, rfl⟩
          have EG : Hid (G2 = (F.setCell ⟨w.heap.size + 1, 0, none⟩ (.int .i64 t)).setCell ⟨w.heap.size + 1, 1, none⟩ (.bool b)) := hG2
          rw [← hG2] at HG
          clear hG2
          have k3 : Hid (G2.heap[w.heap.size]? = some (.cells #[.string x, .int .i64 12001, .int .i64 lf] 25 (0, 0))) := (HG.out.2.1 _ (by omega)).trans HF.out.1
          have u0 := (cell_row k3.out 0 (.string x) rfl).1
          have u1 := (cell_row k3.out 1 (.int .i64 12001) rfl).1
          have u2 := (cell_row k3.out 2 (.int .i64 lf) rfl).1
          have u3 := (cell_row HG.out.1 0 (.int .i64 t) rfl).1
          have u4 := (cell_row HG.out.1 1 (.bool b) rfl).1
          have BF : Hid (Below w.heap.size w G2) := DL.out.bel.trans ((HF.out.2.2.trans (HG.out.2.2.mono (by omega))))
          have RF : Hid (Row G2 w.heap.size 33 8 eR (.slice oo nl ko) M) := Row.low (Row.block DL.out.row (fun k hk => (HG.out.2.1 k (by have := DL.out.mlt k hk; omega)).trans (HF.out.2.1 k (by have := DL.out.mlt k hk; omega)))) (by omega)
          go_wp2_with fail
          first | rw [← EF.out, ← EG.out] | rw [← EF.out] | skip
          exact bodyPost_ret (v := .tuple #[.slice oo nl ko, .agg #[.string x, .int .i64 12001, .int .i64 lf], .agg #[.int .i64 t, .bool b]]) (by simp [results, Try.results4, go_sem, u0, u1, u2, u3, u4]) rfl (DgE.of ⟨_, M, _, _, _, t, b, rfl, by have := HLK.out; omega, HZ.out, OKS.out.1, OKS.out.2.1, OKS.out.2.2, OKT.out, RF, BF⟩)
      · have hz0 : (z == 0) = false := by simp; omega
        have hz1 : (z == 1) = false := by simp; omega
        have glt := D7.out.glt
        have d1 := D7.out.h1
        have d2 := D7.out.h2
        have d3 := D7.out.h3
        have DX : Hid (∀ v, But (fun q => q = R) W7 v → v.heap[g]? = some (.cells #[.string x, .int .i64 now, .int .i64 lf] 25 (0, 0))) := fun v hv => (hv.block g glt (by omega)).trans D7.out.box
        have Q0 : Hid (∀ v, But (fun q => q = R) W7 v → v.cell? ⟨g, 0, none⟩ = some (.string x)) := fun v hv => (cell_row (DX.out v hv) 0 (.string x) rfl).1
        have Q1 : Hid (∀ v, But (fun q => q = R) W7 v → v.cell? ⟨g, 1, none⟩ = some (.int .i64 now)) := fun v hv => (cell_row (DX.out v hv) 1 (.int .i64 now) rfl).1
        have Q2 : Hid (∀ v, But (fun q => q = R) W7 v → v.cell? ⟨g, 2, none⟩ = some (.int .i64 lf)) := fun v hv => (cell_row (DX.out v hv) 2 (.int .i64 lf) rfl).1
        have hdr : Hid (But (fun q => q = R) W7 W7.drew) := But.of_below (Below.refl _ _).drew
        have OKS : Hid (OkN now ∧ OkN lf ∧ (x : ByteArray).size ≤ 1048576) := HO.out
        have CS : Hid _ := say_rd R ob n' cb f p7 W7.drew (D7.out.rd.but (fun b _ => rfl)) (by omega)
        clear DX
        go_upto_region 15 with fail
        refine wp_region_movesC (fun v => But (fun q => q = R) W7 v) 5 [] (by kernel_rfl) (by kernel_rfl) hdr.out ?_
        simp only [List.filterMap_nil, movD]
        refine takeHQ (f := 4) (i := 0) (.slice oo nl ko) ⟨rfl, rfl⟩ (by kernel_rfl) rfl hdr.out ?r0 ?_
        case r0 => intro v hv; go_simp
        simp only [Act.put, List.setIfInBounds_toArray, List.set_cons_zero, List.set_cons_succ]
        refine takeHQ (f := 3) (i := 1) (.agg #[.string x, .int .i64 now, .int .i64 lf]) ⟨rfl, rfl⟩ (by kernel_rfl) rfl hdr.out ?r1 ?_
        case r1 => intro v hv; have k0 := Q0.out v hv; have k1 := Q1.out v hv; have k2 := Q2.out v hv; go_simp
        simp only [Act.put, List.setIfInBounds_toArray, List.set_cons_zero, List.set_cons_succ]
        refine takeHQ (f := 2) (i := 2) (.pointer (some ⟨R, 0, none⟩)) ⟨rfl, rfl⟩ (by kernel_rfl) rfl hdr.out ?r2 ?_
        case r2 => intro v hv; go_simp
        simp only [Act.put, List.setIfInBounds_toArray, List.set_cons_zero, List.set_cons_succ]
        refine callHd (f := 1) (i := 3) (d := 52) (fn := 11) (args := #[.pointer (some ⟨R, 0, none⟩)]) ⟨rfl, rfl⟩ (by decide) (by kernel_rfl) rfl ?rc (Calls.mono CS.out ?_)
        case rc => go_simp
        rintro e wl ⟨t, b, rfl, hok, pl, hpl, RDl, BTl⟩
        have hbl : Hid (But (fun q => q = R) W7 wl) := hdr.out.trans BTl.out
        have DL : Hid (Dv R ob n' cb f w W1.heap.size g M (.slice oo nl ko) wl pl #[.string x, .int .i64 now, .int .i64 lf]) := D7.out.call RDl.out hbl.out
        have OKT : Hid (OkN t) := hok
        clear RDl BTl hok CS
        refine ⟨_, rfl, hbl.out, ?_⟩
        simp only [Act.put, List.setIfInBounds_toArray, List.set_cons_zero, List.set_cons_succ]
        refine takeHQ (f := 0) (i := 4) (.slice oo nl ko) ⟨rfl, rfl⟩ (by kernel_rfl) rfl hbl.out ?r4 ?_
        case r4 => intro v hv; go_simp
        simp only [Act.put, List.setIfInBounds_toArray, List.set_cons_zero, List.set_cons_succ]
        refine ⟨by kernel_rfl, ?_⟩
        simp only [List.drop_succ_cons, List.drop_zero]
        obtain ⟨c0, t0⟩ := cell_row DL.out.r3 0 (.string ⟨#[]⟩) rfl
        obtain ⟨c1, t1⟩ := cell_row DL.out.r3 1 (.int .i64 0) rfl
        obtain ⟨c2, t2⟩ := cell_row DL.out.r3 2 (.int .i64 0) rfl
        have hsz := DL.out.glt
        have HF : Hid _ := ret3d DL.out.r3 (.string x) (.int .i64 now) (.int .i64 lf)
        obtain ⟨F, hF⟩ : ∃ F, F = ((wl.setCell ⟨w.heap.size, 0, none⟩ (.string x)).setCell ⟨w.heap.size, 1, none⟩ (.int .i64 now)).setCell ⟨w.heap.size, 2, none⟩ (.int .i64 lf) := ⟨_, rfl⟩
        have EF : Hid (F = ((wl.setCell ⟨w.heap.size, 0, none⟩ (.string x)).setCell ⟨w.heap.size, 1, none⟩ (.int .i64 now)).setCell ⟨w.heap.size, 2, none⟩ (.int .i64 lf)) := hF
        rw [← hF] at HF
        clear hF
        have r4F : F.heap[w.heap.size + 1]? = some (.cells #[.int .i64 0, .bool false] 27 (0, 0)) := (HF.out.2.1 _ (by omega)).trans DL.out.r4
        obtain ⟨c3, t3⟩ := cell_row r4F 0 (.int .i64 0) rfl
        obtain ⟨c4, t4⟩ := cell_row r4F 1 (.bool false) rfl
        have HG : Hid _ := ret2c r4F (.int .i64 t) (.bool b)
        rw [EF.out] at c3 c4 t3 t4
        obtain ⟨G2, hG2⟩ : ∃ G2, G2 = (F.setCell ⟨w.heap.size + 1, 0, none⟩ (.int .i64 t)).setCell ⟨w.heap.size + 1, 1, none⟩ (.bool b) := ⟨_, rfl⟩
        have EG : Hid (G2 = (F.setCell ⟨w.heap.size + 1, 0, none⟩ (.int .i64 t)).setCell ⟨w.heap.size + 1, 1, none⟩ (.bool b)) := hG2
        rw [← hG2] at HG
        clear hG2
        have k3 : Hid (G2.heap[w.heap.size]? = some (.cells #[.string x, .int .i64 now, .int .i64 lf] 25 (0, 0))) := (HG.out.2.1 _ (by omega)).trans HF.out.1
        have u0 := (cell_row k3.out 0 (.string x) rfl).1
        have u1 := (cell_row k3.out 1 (.int .i64 now) rfl).1
        have u2 := (cell_row k3.out 2 (.int .i64 lf) rfl).1
        have u3 := (cell_row HG.out.1 0 (.int .i64 t) rfl).1
        have u4 := (cell_row HG.out.1 1 (.bool b) rfl).1
        have BF : Hid (Below w.heap.size w G2) := DL.out.bel.trans ((HF.out.2.2.trans (HG.out.2.2.mono (by omega))))
        have RF : Hid (Row G2 w.heap.size 33 8 eR (.slice oo nl ko) M) := Row.low (Row.block DL.out.row (fun k hk => (HG.out.2.1 k (by have := DL.out.mlt k hk; omega)).trans (HF.out.2.1 k (by have := DL.out.mlt k hk; omega)))) (by omega)
        go_wp2_with fail
        first | rw [← EF.out, ← EG.out] | rw [← EF.out] | skip
        exact bodyPost_ret (v := .tuple #[.slice oo nl ko, .agg #[.string x, .int .i64 now, .int .i64 lf], .agg #[.int .i64 t, .bool b]]) (by simp [results, Try.results4, go_sem, u0, u1, u2, u3, u4]) rfl (DgE.of ⟨_, M, _, _, _, t, b, rfl, by have := HLK.out; omega, HZ.out, OKS.out.1, OKS.out.2.1, OKS.out.2.2, OKT.out, RF, BF⟩)

end Go.Proofs.Ytkongeofapbblab
