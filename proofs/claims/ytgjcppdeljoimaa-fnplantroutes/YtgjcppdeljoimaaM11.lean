/-
  Several texts in one.
-/
import Derived.Test.YtgjcppdeljoimaaM8
import Derived.Test.YtgjcppdeljoimaaPzd
import Derived.Test.YtgjcppdeljoimaaPzf
import Derived.Test.YtgjcppdeljoimaaM2
import Derived.ArgAppend
namespace Go.Proofs.Ytgjcppdeljoimaa
open Go.RowKit Go.Sort
def TryP (B : Nat) (w : World) (e : Ending) (w' : World) : Prop := ∃ v0' v1' v2' v3' X', e = .returned (.agg #[v0', v1', v2', v3']) ∧ PlR B w' v0' v1' v2' v3' X' ∧ X'.Ok ∧ Below w.heap.size w w'
theorem tryP {B : Nat} {w w' : World} {v0 v1 v2 v3 : Value} {X : PlL} (h : PlR B w' v0 v1 v2 v3 X) (ho : X.Ok) (hb : Below w.heap.size w w') : TryP B w (.returned (.agg #[v0, v1, v2, v3])) w' := ⟨_, _, _, _, X, rfl, h, ho, hb⟩
set_option maxRecDepth 100000 in
set_option maxHeartbeats 4000000 in
theorem put_foe (B : Nat) (v0 v1 v2 v3 : Value) (X : PlL) (bw cw : Nat) (g : Nat → ByteArray) (w : World) (h : PlR B w v0 v1 v2 v3 X) (hX : X.Ok) (hcw : 3 ≤ cw) (hc : ∀ i, i < 3 → w.cell? ⟨bw, i, none⟩ = some (.string (g i))) (hs : ∀ i, (g i).size ≤ maxLen) (hB : B ≤ w.heap.size) (hk : g 0 = ⟨#[102, 111, 101]⟩) :
    Calls Try.prog 70 #[.agg #[v0, v1, v2, v3], .slice (some ⟨bw, 0, none⟩) 3 cw] w fun e w' => PutP B w e w' := by
  obtain ⟨o0, c0, rfl⟩ := Row.form h.s
  obtain ⟨o1, c1, rfl⟩ := Row.form h.f
  obtain ⟨o2, c2, rfl⟩ := Row.form h.p
  obtain ⟨o3, c3, rfl⟩ := Row.form h.v
  generalize en0 : X.ss.length = n0 at h ⊢
  generalize en1 : X.ff.length = n1 at h ⊢
  generalize en2 : X.pp.length = n2 at h ⊢
  generalize en3 : X.vv.length = n3 at h ⊢
  have HH : Hid (PlR B w (.slice o0 n0 c0) (.slice o1 n1 c1) (.slice o2 n2 c2) (.slice o3 n3 c3) X) := h
  clear h
  obtain ⟨W, hW⟩ : ∃ W, W = (w.alloc (.cells #[.slice o0 n0 c0, .slice o1 n1 c1, .slice o2 n2 c2, .slice o3 n3 c3] 28)).alloc (.cells #[.slice none 0 0, .slice none 0 0, .slice none 0 0, .slice none 0 0] 28) := ⟨_, rfl⟩
  have hbW : Hid (Below w.heap.size w W) := by rw [hW]; exact ((Below.refl _ _).alloc (Nat.le_refl _) _).alloc (by simp) _
  have hsW : W.heap.size = w.heap.size + 1 + 1 := by rw [hW]; simp
  have HP : Hid (W.heap[w.heap.size]? = some (.cells #[.slice o0 n0 c0, .slice o1 n1 c1, .slice o2 n2 c2, .slice o3 n3 c3] 28 (0, 0))) := by
    rw [hW]; exact (Below.heap_alloc _ _ _ (by simp)).trans (heap_alloc_new w _)
  have HR : Hid (W.heap[w.heap.size + 1]? = some (.cells #[.slice none 0 0, .slice none 0 0, .slice none 0 0, .slice none 0 0] 28 (0, 0))) := by
    have e : (w.alloc (.cells #[.slice o0 n0 c0, .slice o1 n1 c1, .slice o2 n2 c2, .slice o3 n3 c3] 28)).heap.size = w.heap.size + 1 := by simp
    rw [hW, ← e]; exact heap_alloc_new _ _
  have HW : Hid (PlR B W (.slice o0 n0 c0) (.slice o1 n1 c1) (.slice o2 n2 c2) (.slice o3 n3 c3) X) := HH.out.below hbW.out
  have HC : Hid (∀ i, i < 3 → W.cell? ⟨bw, i, none⟩ = some (.string (g i))) := fun i hi => (hbW.out.cell (p := ⟨bw, i, none⟩) (World.block_lt_of_cell? w _ (hc i hi))).trans (hc i hi)
  clear hc
  have hcw' : (3 : Int) ≤ (cw : Int) := by omega
  have g0 := HC.out 0 (by decide)
  rw [hk] at g0
  obtain ⟨X0, _⟩ := cell_row (HP.out) 0 _ rfl
  obtain ⟨X1, _⟩ := cell_row (HP.out) 1 _ rfl
  obtain ⟨X2, _⟩ := cell_row (HP.out) 2 _ rfl
  obtain ⟨X3, _⟩ := cell_row (HP.out) 3 _ rfl
  simp only [List.getElem_toArray, List.getElem_cons_zero, List.getElem_cons_succ] at X0 X1 X2 X3
  have hq_stuff : ((⟨#[102, 111, 101]⟩ : ByteArray).toList == (⟨#[115, 116, 117, 102, 102]⟩ : ByteArray).toList) = false := by kernel_rfl
  have hq_foe : ((⟨#[102, 111, 101]⟩ : ByteArray).toList == (⟨#[102, 111, 101]⟩ : ByteArray).toList) = true := by kernel_rfl
  go_enter Try.func70, Try.ntmps70
  go_upto_region 1 with fail
  rw [← hW]
  clear hW
  go_wp2_with fail
  refine (foe_ex B _ _ _ _ X bw cw g W HW.out hX hcw HC.out hs (by omega)).mono ?_; rintro _ w3 ⟨v0', v1', v2', v3', X', cd, rfl, hL, hO, hb4'⟩
  clear X0 X1 X2 X3 g0
  obtain ⟨p0, k0, rfl⟩ := Row.form hL.s
  obtain ⟨p1, k1, rfl⟩ := Row.form hL.f
  obtain ⟨p2, k2, rfl⟩ := Row.form hL.p
  obtain ⟨p3, k3, rfl⟩ := Row.form hL.v
  generalize X'.ss.length = m0 at hL ⊢
  generalize X'.ff.length = m1 at hL ⊢
  generalize X'.pp.length = m2 at hL ⊢
  generalize X'.vv.length = m3 at hL ⊢
  have hb4 : Hid (Below W.heap.size W w3) := hb4'
  have HL : Hid (PlR B w3 (.slice p0 m0 k0) (.slice p1 m1 k1) (.slice p2 m2 k2) (.slice p3 m3 k3) X') := hL
  have HO : Hid X'.Ok := hO
  clear hb4' hL hO
  have hs3 : W.heap.size ≤ w3.heap.size := hb4.out.size
  obtain ⟨zr0, tzr0⟩ := cell_row ((hb4.out.block (w.heap.size + 1) (by omega)).trans HR.out) 0 _ rfl
  obtain ⟨zr1, tzr1⟩ := cell_row ((hb4.out.block (w.heap.size + 1) (by omega)).trans HR.out) 1 _ rfl
  obtain ⟨zr2, tzr2⟩ := cell_row ((hb4.out.block (w.heap.size + 1) (by omega)).trans HR.out) 2 _ rfl
  obtain ⟨zr3, tzr3⟩ := cell_row ((hb4.out.block (w.heap.size + 1) (by omega)).trans HR.out) 3 _ rfl
  simp only [List.getElem_toArray, List.getElem_cons_zero, List.getElem_cons_succ] at zr0 zr1 zr2 zr3
  have R4 := hidZ (ret4 ((hb4.out.block (w.heap.size + 1) (by omega)).trans HR.out) (.slice p0 m0 k0) (.slice p1 m1 k1) (.slice p2 m2 k2) (.slice p3 m3 k3))
  have ff0 := hidZ (cell_row R4.out.1 0 _ rfl).1
  have ff1 := hidZ (cell_row R4.out.1 1 _ rfl).1
  have ff2 := hidZ (cell_row R4.out.1 2 _ rfl).1
  have ff3 := hidZ (cell_row R4.out.1 3 _ rfl).1
  have hF := hidZ (hbW.out.trans ((hb4.out.mono (by omega)).trans (R4.out.2.2.2.mono (by omega))))
  have hr0 := hidZ (Row.block HL.out.s (fun q hq => R4.out.2.1 q (fun e => by subst e; exact row_not HL.out.s hq ((hb4.out.block _ (by omega)).trans HR.out) (by decide))))
  have hr1 := hidZ (Row.block HL.out.f (fun q hq => R4.out.2.1 q (fun e => by subst e; exact row_not HL.out.f hq ((hb4.out.block _ (by omega)).trans HR.out) (by decide))))
  have hr2 := hidZ (Row.block HL.out.p (fun q hq => R4.out.2.1 q (fun e => by subst e; exact row_not HL.out.p hq ((hb4.out.block _ (by omega)).trans HR.out) (by decide))))
  have hr3 := hidZ (Row.block HL.out.v (fun q hq => R4.out.2.1 q (fun e => by subst e; exact row_not HL.out.v hq ((hb4.out.block _ (by omega)).trans HR.out) (by decide))))
  go_wp2_with fail
  all_goals exact bodyPost_ret (v := .tuple #[.agg #[.slice p0 m0 k0, .slice p1 m1 k1, .slice p2 m2 k2, .slice p3 m3 k3], .int .i64 cd]) (by simp [results, Try.results70, go_sem, ff0.out, ff1.out, ff2.out, ff3.out]) rfl (putP (X := X') ⟨hr0.out, hr1.out, hr2.out, hr3.out⟩ HO.out hF.out)
set_option maxRecDepth 100000 in
set_option maxHeartbeats 4000000 in
theorem put_vessel (B : Nat) (v0 v1 v2 v3 : Value) (X : PlL) (bw cw : Nat) (g : Nat → ByteArray) (w : World) (h : PlR B w v0 v1 v2 v3 X) (hX : X.Ok) (hcw : 4 ≤ cw) (hc : ∀ i, i < 4 → w.cell? ⟨bw, i, none⟩ = some (.string (g i))) (hs : ∀ i, (g i).size ≤ maxLen) (hB : B ≤ w.heap.size) (hk : g 0 = ⟨#[118, 101, 115, 115, 101, 108]⟩) :
    Calls Try.prog 70 #[.agg #[v0, v1, v2, v3], .slice (some ⟨bw, 0, none⟩) 4 cw] w fun e w' => PutP B w e w' := by
  obtain ⟨o0, c0, rfl⟩ := Row.form h.s
  obtain ⟨o1, c1, rfl⟩ := Row.form h.f
  obtain ⟨o2, c2, rfl⟩ := Row.form h.p
  obtain ⟨o3, c3, rfl⟩ := Row.form h.v
  generalize en0 : X.ss.length = n0 at h ⊢
  generalize en1 : X.ff.length = n1 at h ⊢
  generalize en2 : X.pp.length = n2 at h ⊢
  generalize en3 : X.vv.length = n3 at h ⊢
  have HH : Hid (PlR B w (.slice o0 n0 c0) (.slice o1 n1 c1) (.slice o2 n2 c2) (.slice o3 n3 c3) X) := h
  clear h
  obtain ⟨W, hW⟩ : ∃ W, W = (w.alloc (.cells #[.slice o0 n0 c0, .slice o1 n1 c1, .slice o2 n2 c2, .slice o3 n3 c3] 28)).alloc (.cells #[.slice none 0 0, .slice none 0 0, .slice none 0 0, .slice none 0 0] 28) := ⟨_, rfl⟩
  have hbW : Hid (Below w.heap.size w W) := by rw [hW]; exact ((Below.refl _ _).alloc (Nat.le_refl _) _).alloc (by simp) _
  have hsW : W.heap.size = w.heap.size + 1 + 1 := by rw [hW]; simp
  have HP : Hid (W.heap[w.heap.size]? = some (.cells #[.slice o0 n0 c0, .slice o1 n1 c1, .slice o2 n2 c2, .slice o3 n3 c3] 28 (0, 0))) := by
    rw [hW]; exact (Below.heap_alloc _ _ _ (by simp)).trans (heap_alloc_new w _)
  have HR : Hid (W.heap[w.heap.size + 1]? = some (.cells #[.slice none 0 0, .slice none 0 0, .slice none 0 0, .slice none 0 0] 28 (0, 0))) := by
    have e : (w.alloc (.cells #[.slice o0 n0 c0, .slice o1 n1 c1, .slice o2 n2 c2, .slice o3 n3 c3] 28)).heap.size = w.heap.size + 1 := by simp
    rw [hW, ← e]; exact heap_alloc_new _ _
  have HW : Hid (PlR B W (.slice o0 n0 c0) (.slice o1 n1 c1) (.slice o2 n2 c2) (.slice o3 n3 c3) X) := HH.out.below hbW.out
  have HC : Hid (∀ i, i < 4 → W.cell? ⟨bw, i, none⟩ = some (.string (g i))) := fun i hi => (hbW.out.cell (p := ⟨bw, i, none⟩) (World.block_lt_of_cell? w _ (hc i hi))).trans (hc i hi)
  clear hc
  have hcw' : (4 : Int) ≤ (cw : Int) := by omega
  have g0 := HC.out 0 (by decide)
  rw [hk] at g0
  obtain ⟨X0, _⟩ := cell_row (HP.out) 0 _ rfl
  obtain ⟨X1, _⟩ := cell_row (HP.out) 1 _ rfl
  obtain ⟨X2, _⟩ := cell_row (HP.out) 2 _ rfl
  obtain ⟨X3, _⟩ := cell_row (HP.out) 3 _ rfl
  simp only [List.getElem_toArray, List.getElem_cons_zero, List.getElem_cons_succ] at X0 X1 X2 X3
  have hq_stuff : ((⟨#[118, 101, 115, 115, 101, 108]⟩ : ByteArray).toList == (⟨#[115, 116, 117, 102, 102]⟩ : ByteArray).toList) = false := by kernel_rfl
  have hq_foe : ((⟨#[118, 101, 115, 115, 101, 108]⟩ : ByteArray).toList == (⟨#[102, 111, 101]⟩ : ByteArray).toList) = false := by kernel_rfl
  have hq_vessel : ((⟨#[118, 101, 115, 115, 101, 108]⟩ : ByteArray).toList == (⟨#[118, 101, 115, 115, 101, 108]⟩ : ByteArray).toList) = true := by kernel_rfl
  go_enter Try.func70, Try.ntmps70
  go_upto_region 1 with fail
  rw [← hW]
  clear hW
  go_wp2_with fail
  refine (vessel_ex B _ _ _ _ X bw cw g W HW.out hX hcw HC.out hs (by omega)).mono ?_; rintro _ w3 ⟨v0', v1', v2', v3', X', cd, rfl, hL, hO, hb4'⟩
  clear X0 X1 X2 X3 g0
  obtain ⟨p0, k0, rfl⟩ := Row.form hL.s
  obtain ⟨p1, k1, rfl⟩ := Row.form hL.f
  obtain ⟨p2, k2, rfl⟩ := Row.form hL.p
  obtain ⟨p3, k3, rfl⟩ := Row.form hL.v
  generalize X'.ss.length = m0 at hL ⊢
  generalize X'.ff.length = m1 at hL ⊢
  generalize X'.pp.length = m2 at hL ⊢
  generalize X'.vv.length = m3 at hL ⊢
  have hb4 : Hid (Below W.heap.size W w3) := hb4'
  have HL : Hid (PlR B w3 (.slice p0 m0 k0) (.slice p1 m1 k1) (.slice p2 m2 k2) (.slice p3 m3 k3) X') := hL
  have HO : Hid X'.Ok := hO
  clear hb4' hL hO
  have hs3 : W.heap.size ≤ w3.heap.size := hb4.out.size
  obtain ⟨zr0, tzr0⟩ := cell_row ((hb4.out.block (w.heap.size + 1) (by omega)).trans HR.out) 0 _ rfl
  obtain ⟨zr1, tzr1⟩ := cell_row ((hb4.out.block (w.heap.size + 1) (by omega)).trans HR.out) 1 _ rfl
  obtain ⟨zr2, tzr2⟩ := cell_row ((hb4.out.block (w.heap.size + 1) (by omega)).trans HR.out) 2 _ rfl
  obtain ⟨zr3, tzr3⟩ := cell_row ((hb4.out.block (w.heap.size + 1) (by omega)).trans HR.out) 3 _ rfl
  simp only [List.getElem_toArray, List.getElem_cons_zero, List.getElem_cons_succ] at zr0 zr1 zr2 zr3
  have R4 := hidZ (ret4 ((hb4.out.block (w.heap.size + 1) (by omega)).trans HR.out) (.slice p0 m0 k0) (.slice p1 m1 k1) (.slice p2 m2 k2) (.slice p3 m3 k3))
  have ff0 := hidZ (cell_row R4.out.1 0 _ rfl).1
  have ff1 := hidZ (cell_row R4.out.1 1 _ rfl).1
  have ff2 := hidZ (cell_row R4.out.1 2 _ rfl).1
  have ff3 := hidZ (cell_row R4.out.1 3 _ rfl).1
  have hF := hidZ (hbW.out.trans ((hb4.out.mono (by omega)).trans (R4.out.2.2.2.mono (by omega))))
  have hr0 := hidZ (Row.block HL.out.s (fun q hq => R4.out.2.1 q (fun e => by subst e; exact row_not HL.out.s hq ((hb4.out.block _ (by omega)).trans HR.out) (by decide))))
  have hr1 := hidZ (Row.block HL.out.f (fun q hq => R4.out.2.1 q (fun e => by subst e; exact row_not HL.out.f hq ((hb4.out.block _ (by omega)).trans HR.out) (by decide))))
  have hr2 := hidZ (Row.block HL.out.p (fun q hq => R4.out.2.1 q (fun e => by subst e; exact row_not HL.out.p hq ((hb4.out.block _ (by omega)).trans HR.out) (by decide))))
  have hr3 := hidZ (Row.block HL.out.v (fun q hq => R4.out.2.1 q (fun e => by subst e; exact row_not HL.out.v hq ((hb4.out.block _ (by omega)).trans HR.out) (by decide))))
  go_wp2_with fail
  all_goals exact bodyPost_ret (v := .tuple #[.agg #[.slice p0 m0 k0, .slice p1 m1 k1, .slice p2 m2 k2, .slice p3 m3 k3], .int .i64 cd]) (by simp [results, Try.results70, go_sem, ff0.out, ff1.out, ff2.out, ff3.out]) rfl (putP (X := X') ⟨hr0.out, hr1.out, hr2.out, hr3.out⟩ HO.out hF.out)
set_option maxRecDepth 100000 in
set_option maxHeartbeats 4000000 in
theorem put_joint (B : Nat) (v0 v1 v2 v3 : Value) (X : PlL) (bw cw : Nat) (g : Nat → ByteArray) (w : World) (h : PlR B w v0 v1 v2 v3 X) (hX : X.Ok) (hcw : 3 ≤ cw) (hc : ∀ i, i < 3 → w.cell? ⟨bw, i, none⟩ = some (.string (g i))) (hs : ∀ i, (g i).size ≤ maxLen) (hB : B ≤ w.heap.size) (hk : g 0 = ⟨#[106, 111, 105, 110, 116]⟩) :
    Calls Try.prog 70 #[.agg #[v0, v1, v2, v3], .slice (some ⟨bw, 0, none⟩) 3 cw] w fun e w' => PutP B w e w' := by
  obtain ⟨o0, c0, rfl⟩ := Row.form h.s
  obtain ⟨o1, c1, rfl⟩ := Row.form h.f
  obtain ⟨o2, c2, rfl⟩ := Row.form h.p
  obtain ⟨o3, c3, rfl⟩ := Row.form h.v
  generalize en0 : X.ss.length = n0 at h ⊢
  generalize en1 : X.ff.length = n1 at h ⊢
  generalize en2 : X.pp.length = n2 at h ⊢
  generalize en3 : X.vv.length = n3 at h ⊢
  have HH : Hid (PlR B w (.slice o0 n0 c0) (.slice o1 n1 c1) (.slice o2 n2 c2) (.slice o3 n3 c3) X) := h
  clear h
  obtain ⟨W, hW⟩ : ∃ W, W = (w.alloc (.cells #[.slice o0 n0 c0, .slice o1 n1 c1, .slice o2 n2 c2, .slice o3 n3 c3] 28)).alloc (.cells #[.slice none 0 0, .slice none 0 0, .slice none 0 0, .slice none 0 0] 28) := ⟨_, rfl⟩
  have hbW : Hid (Below w.heap.size w W) := by rw [hW]; exact ((Below.refl _ _).alloc (Nat.le_refl _) _).alloc (by simp) _
  have hsW : W.heap.size = w.heap.size + 1 + 1 := by rw [hW]; simp
  have HP : Hid (W.heap[w.heap.size]? = some (.cells #[.slice o0 n0 c0, .slice o1 n1 c1, .slice o2 n2 c2, .slice o3 n3 c3] 28 (0, 0))) := by
    rw [hW]; exact (Below.heap_alloc _ _ _ (by simp)).trans (heap_alloc_new w _)
  have HR : Hid (W.heap[w.heap.size + 1]? = some (.cells #[.slice none 0 0, .slice none 0 0, .slice none 0 0, .slice none 0 0] 28 (0, 0))) := by
    have e : (w.alloc (.cells #[.slice o0 n0 c0, .slice o1 n1 c1, .slice o2 n2 c2, .slice o3 n3 c3] 28)).heap.size = w.heap.size + 1 := by simp
    rw [hW, ← e]; exact heap_alloc_new _ _
  have HW : Hid (PlR B W (.slice o0 n0 c0) (.slice o1 n1 c1) (.slice o2 n2 c2) (.slice o3 n3 c3) X) := HH.out.below hbW.out
  have HC : Hid (∀ i, i < 3 → W.cell? ⟨bw, i, none⟩ = some (.string (g i))) := fun i hi => (hbW.out.cell (p := ⟨bw, i, none⟩) (World.block_lt_of_cell? w _ (hc i hi))).trans (hc i hi)
  clear hc
  have hcw' : (3 : Int) ≤ (cw : Int) := by omega
  have g0 := HC.out 0 (by decide)
  rw [hk] at g0
  obtain ⟨X0, _⟩ := cell_row (HP.out) 0 _ rfl
  obtain ⟨X1, _⟩ := cell_row (HP.out) 1 _ rfl
  obtain ⟨X2, _⟩ := cell_row (HP.out) 2 _ rfl
  obtain ⟨X3, _⟩ := cell_row (HP.out) 3 _ rfl
  simp only [List.getElem_toArray, List.getElem_cons_zero, List.getElem_cons_succ] at X0 X1 X2 X3
  have hq_stuff : ((⟨#[106, 111, 105, 110, 116]⟩ : ByteArray).toList == (⟨#[115, 116, 117, 102, 102]⟩ : ByteArray).toList) = false := by kernel_rfl
  have hq_foe : ((⟨#[106, 111, 105, 110, 116]⟩ : ByteArray).toList == (⟨#[102, 111, 101]⟩ : ByteArray).toList) = false := by kernel_rfl
  have hq_vessel : ((⟨#[106, 111, 105, 110, 116]⟩ : ByteArray).toList == (⟨#[118, 101, 115, 115, 101, 108]⟩ : ByteArray).toList) = false := by kernel_rfl
  have hq_joint : ((⟨#[106, 111, 105, 110, 116]⟩ : ByteArray).toList == (⟨#[106, 111, 105, 110, 116]⟩ : ByteArray).toList) = true := by kernel_rfl
  go_enter Try.func70, Try.ntmps70
  go_upto_region 1 with fail
  rw [← hW]
  clear hW
  go_wp2_with fail
  refine (joint_ex B _ _ _ _ X bw cw g W HW.out hX hcw HC.out hs (by omega)).mono ?_; rintro _ w3 ⟨v0', v1', v2', v3', X', cd, rfl, hL, hO, hb4'⟩
  clear X0 X1 X2 X3 g0
  obtain ⟨p0, k0, rfl⟩ := Row.form hL.s
  obtain ⟨p1, k1, rfl⟩ := Row.form hL.f
  obtain ⟨p2, k2, rfl⟩ := Row.form hL.p
  obtain ⟨p3, k3, rfl⟩ := Row.form hL.v
  generalize X'.ss.length = m0 at hL ⊢
  generalize X'.ff.length = m1 at hL ⊢
  generalize X'.pp.length = m2 at hL ⊢
  generalize X'.vv.length = m3 at hL ⊢
  have hb4 : Hid (Below W.heap.size W w3) := hb4'
  have HL : Hid (PlR B w3 (.slice p0 m0 k0) (.slice p1 m1 k1) (.slice p2 m2 k2) (.slice p3 m3 k3) X') := hL
  have HO : Hid X'.Ok := hO
  clear hb4' hL hO
  have hs3 : W.heap.size ≤ w3.heap.size := hb4.out.size
  obtain ⟨zr0, tzr0⟩ := cell_row ((hb4.out.block (w.heap.size + 1) (by omega)).trans HR.out) 0 _ rfl
  obtain ⟨zr1, tzr1⟩ := cell_row ((hb4.out.block (w.heap.size + 1) (by omega)).trans HR.out) 1 _ rfl
  obtain ⟨zr2, tzr2⟩ := cell_row ((hb4.out.block (w.heap.size + 1) (by omega)).trans HR.out) 2 _ rfl
  obtain ⟨zr3, tzr3⟩ := cell_row ((hb4.out.block (w.heap.size + 1) (by omega)).trans HR.out) 3 _ rfl
  simp only [List.getElem_toArray, List.getElem_cons_zero, List.getElem_cons_succ] at zr0 zr1 zr2 zr3
  have R4 := hidZ (ret4 ((hb4.out.block (w.heap.size + 1) (by omega)).trans HR.out) (.slice p0 m0 k0) (.slice p1 m1 k1) (.slice p2 m2 k2) (.slice p3 m3 k3))
  have ff0 := hidZ (cell_row R4.out.1 0 _ rfl).1
  have ff1 := hidZ (cell_row R4.out.1 1 _ rfl).1
  have ff2 := hidZ (cell_row R4.out.1 2 _ rfl).1
  have ff3 := hidZ (cell_row R4.out.1 3 _ rfl).1
  have hF := hidZ (hbW.out.trans ((hb4.out.mono (by omega)).trans (R4.out.2.2.2.mono (by omega))))
  have hr0 := hidZ (Row.block HL.out.s (fun q hq => R4.out.2.1 q (fun e => by subst e; exact row_not HL.out.s hq ((hb4.out.block _ (by omega)).trans HR.out) (by decide))))
  have hr1 := hidZ (Row.block HL.out.f (fun q hq => R4.out.2.1 q (fun e => by subst e; exact row_not HL.out.f hq ((hb4.out.block _ (by omega)).trans HR.out) (by decide))))
  have hr2 := hidZ (Row.block HL.out.p (fun q hq => R4.out.2.1 q (fun e => by subst e; exact row_not HL.out.p hq ((hb4.out.block _ (by omega)).trans HR.out) (by decide))))
  have hr3 := hidZ (Row.block HL.out.v (fun q hq => R4.out.2.1 q (fun e => by subst e; exact row_not HL.out.v hq ((hb4.out.block _ (by omega)).trans HR.out) (by decide))))
  go_wp2_with fail
  all_goals exact bodyPost_ret (v := .tuple #[.agg #[.slice p0 m0 k0, .slice p1 m1 k1, .slice p2 m2 k2, .slice p3 m3 k3], .int .i64 cd]) (by simp [results, Try.results70, go_sem, ff0.out, ff1.out, ff2.out, ff3.out]) rfl (putP (X := X') ⟨hr0.out, hr1.out, hr2.out, hr3.out⟩ HO.out hF.out)
set_option maxRecDepth 100000 in
set_option maxHeartbeats 4000000 in
theorem put_valve (B : Nat) (v0 v1 v2 v3 : Value) (X : PlL) (bw cw : Nat) (g : Nat → ByteArray) (w : World) (h : PlR B w v0 v1 v2 v3 X) (hX : X.Ok) (hcw : 5 ≤ cw) (hc : ∀ i, i < 5 → w.cell? ⟨bw, i, none⟩ = some (.string (g i))) (hs : ∀ i, (g i).size ≤ maxLen) (hB : B ≤ w.heap.size) (hk : g 0 = ⟨#[118, 97, 108, 118, 101]⟩) :
    Calls Try.prog 70 #[.agg #[v0, v1, v2, v3], .slice (some ⟨bw, 0, none⟩) 5 cw] w fun e w' => PutP B w e w' := by
  obtain ⟨o0, c0, rfl⟩ := Row.form h.s
  obtain ⟨o1, c1, rfl⟩ := Row.form h.f
  obtain ⟨o2, c2, rfl⟩ := Row.form h.p
  obtain ⟨o3, c3, rfl⟩ := Row.form h.v
  generalize en0 : X.ss.length = n0 at h ⊢
  generalize en1 : X.ff.length = n1 at h ⊢
  generalize en2 : X.pp.length = n2 at h ⊢
  generalize en3 : X.vv.length = n3 at h ⊢
  have HH : Hid (PlR B w (.slice o0 n0 c0) (.slice o1 n1 c1) (.slice o2 n2 c2) (.slice o3 n3 c3) X) := h
  clear h
  obtain ⟨W, hW⟩ : ∃ W, W = (w.alloc (.cells #[.slice o0 n0 c0, .slice o1 n1 c1, .slice o2 n2 c2, .slice o3 n3 c3] 28)).alloc (.cells #[.slice none 0 0, .slice none 0 0, .slice none 0 0, .slice none 0 0] 28) := ⟨_, rfl⟩
  have hbW : Hid (Below w.heap.size w W) := by rw [hW]; exact ((Below.refl _ _).alloc (Nat.le_refl _) _).alloc (by simp) _
  have hsW : W.heap.size = w.heap.size + 1 + 1 := by rw [hW]; simp
  have HP : Hid (W.heap[w.heap.size]? = some (.cells #[.slice o0 n0 c0, .slice o1 n1 c1, .slice o2 n2 c2, .slice o3 n3 c3] 28 (0, 0))) := by
    rw [hW]; exact (Below.heap_alloc _ _ _ (by simp)).trans (heap_alloc_new w _)
  have HR : Hid (W.heap[w.heap.size + 1]? = some (.cells #[.slice none 0 0, .slice none 0 0, .slice none 0 0, .slice none 0 0] 28 (0, 0))) := by
    have e : (w.alloc (.cells #[.slice o0 n0 c0, .slice o1 n1 c1, .slice o2 n2 c2, .slice o3 n3 c3] 28)).heap.size = w.heap.size + 1 := by simp
    rw [hW, ← e]; exact heap_alloc_new _ _
  have HW : Hid (PlR B W (.slice o0 n0 c0) (.slice o1 n1 c1) (.slice o2 n2 c2) (.slice o3 n3 c3) X) := HH.out.below hbW.out
  have HC : Hid (∀ i, i < 5 → W.cell? ⟨bw, i, none⟩ = some (.string (g i))) := fun i hi => (hbW.out.cell (p := ⟨bw, i, none⟩) (World.block_lt_of_cell? w _ (hc i hi))).trans (hc i hi)
  clear hc
  have hcw' : (5 : Int) ≤ (cw : Int) := by omega
  have g0 := HC.out 0 (by decide)
  rw [hk] at g0
  obtain ⟨X0, _⟩ := cell_row (HP.out) 0 _ rfl
  obtain ⟨X1, _⟩ := cell_row (HP.out) 1 _ rfl
  obtain ⟨X2, _⟩ := cell_row (HP.out) 2 _ rfl
  obtain ⟨X3, _⟩ := cell_row (HP.out) 3 _ rfl
  simp only [List.getElem_toArray, List.getElem_cons_zero, List.getElem_cons_succ] at X0 X1 X2 X3
  have hq_stuff : ((⟨#[118, 97, 108, 118, 101]⟩ : ByteArray).toList == (⟨#[115, 116, 117, 102, 102]⟩ : ByteArray).toList) = false := by kernel_rfl
  have hq_foe : ((⟨#[118, 97, 108, 118, 101]⟩ : ByteArray).toList == (⟨#[102, 111, 101]⟩ : ByteArray).toList) = false := by kernel_rfl
  have hq_vessel : ((⟨#[118, 97, 108, 118, 101]⟩ : ByteArray).toList == (⟨#[118, 101, 115, 115, 101, 108]⟩ : ByteArray).toList) = false := by kernel_rfl
  have hq_joint : ((⟨#[118, 97, 108, 118, 101]⟩ : ByteArray).toList == (⟨#[106, 111, 105, 110, 116]⟩ : ByteArray).toList) = false := by kernel_rfl
  have hq_valve : ((⟨#[118, 97, 108, 118, 101]⟩ : ByteArray).toList == (⟨#[118, 97, 108, 118, 101]⟩ : ByteArray).toList) = true := by kernel_rfl
  go_enter Try.func70, Try.ntmps70
  go_upto_region 1 with fail
  rw [← hW]
  clear hW
  go_wp2_with fail
  refine (valve_ex B _ _ _ _ X bw cw g W HW.out hX hcw HC.out hs (by omega)).mono ?_; rintro _ w3 ⟨v0', v1', v2', v3', X', cd, rfl, hL, hO, hb4'⟩
  clear X0 X1 X2 X3 g0
  obtain ⟨p0, k0, rfl⟩ := Row.form hL.s
  obtain ⟨p1, k1, rfl⟩ := Row.form hL.f
  obtain ⟨p2, k2, rfl⟩ := Row.form hL.p
  obtain ⟨p3, k3, rfl⟩ := Row.form hL.v
  generalize X'.ss.length = m0 at hL ⊢
  generalize X'.ff.length = m1 at hL ⊢
  generalize X'.pp.length = m2 at hL ⊢
  generalize X'.vv.length = m3 at hL ⊢
  have hb4 : Hid (Below W.heap.size W w3) := hb4'
  have HL : Hid (PlR B w3 (.slice p0 m0 k0) (.slice p1 m1 k1) (.slice p2 m2 k2) (.slice p3 m3 k3) X') := hL
  have HO : Hid X'.Ok := hO
  clear hb4' hL hO
  have hs3 : W.heap.size ≤ w3.heap.size := hb4.out.size
  obtain ⟨zr0, tzr0⟩ := cell_row ((hb4.out.block (w.heap.size + 1) (by omega)).trans HR.out) 0 _ rfl
  obtain ⟨zr1, tzr1⟩ := cell_row ((hb4.out.block (w.heap.size + 1) (by omega)).trans HR.out) 1 _ rfl
  obtain ⟨zr2, tzr2⟩ := cell_row ((hb4.out.block (w.heap.size + 1) (by omega)).trans HR.out) 2 _ rfl
  obtain ⟨zr3, tzr3⟩ := cell_row ((hb4.out.block (w.heap.size + 1) (by omega)).trans HR.out) 3 _ rfl
  simp only [List.getElem_toArray, List.getElem_cons_zero, List.getElem_cons_succ] at zr0 zr1 zr2 zr3
  have R4 := hidZ (ret4 ((hb4.out.block (w.heap.size + 1) (by omega)).trans HR.out) (.slice p0 m0 k0) (.slice p1 m1 k1) (.slice p2 m2 k2) (.slice p3 m3 k3))
  have ff0 := hidZ (cell_row R4.out.1 0 _ rfl).1
  have ff1 := hidZ (cell_row R4.out.1 1 _ rfl).1
  have ff2 := hidZ (cell_row R4.out.1 2 _ rfl).1
  have ff3 := hidZ (cell_row R4.out.1 3 _ rfl).1
  have hF := hidZ (hbW.out.trans ((hb4.out.mono (by omega)).trans (R4.out.2.2.2.mono (by omega))))
  have hr0 := hidZ (Row.block HL.out.s (fun q hq => R4.out.2.1 q (fun e => by subst e; exact row_not HL.out.s hq ((hb4.out.block _ (by omega)).trans HR.out) (by decide))))
  have hr1 := hidZ (Row.block HL.out.f (fun q hq => R4.out.2.1 q (fun e => by subst e; exact row_not HL.out.f hq ((hb4.out.block _ (by omega)).trans HR.out) (by decide))))
  have hr2 := hidZ (Row.block HL.out.p (fun q hq => R4.out.2.1 q (fun e => by subst e; exact row_not HL.out.p hq ((hb4.out.block _ (by omega)).trans HR.out) (by decide))))
  have hr3 := hidZ (Row.block HL.out.v (fun q hq => R4.out.2.1 q (fun e => by subst e; exact row_not HL.out.v hq ((hb4.out.block _ (by omega)).trans HR.out) (by decide))))
  go_wp2_with fail
  all_goals exact bodyPost_ret (v := .tuple #[.agg #[.slice p0 m0 k0, .slice p1 m1 k1, .slice p2 m2 k2, .slice p3 m3 k3], .int .i64 cd]) (by simp [results, Try.results70, go_sem, ff0.out, ff1.out, ff2.out, ff3.out]) rfl (putP (X := X') ⟨hr0.out, hr1.out, hr2.out, hr3.out⟩ HO.out hF.out)
set_option maxRecDepth 100000 in
set_option maxHeartbeats 4000000 in
theorem try_ex (B : Nat) (v0 v1 v2 v3 wv : Value) (X : PlL) (w : World) (h : PlR B w v0 v1 v2 v3 X) (hX : X.Ok) (hp : ∀ u, Below w.heap.size w u → Calls Try.prog 70 #[.agg #[v0, v1, v2, v3], wv] u fun e w' => PutP B u e w') :
    Calls Try.prog 49 #[.agg #[v0, v1, v2, v3], wv] w fun e w' => TryP B w e w' := by
  obtain ⟨o0, c0, rfl⟩ := Row.form h.s
  obtain ⟨o1, c1, rfl⟩ := Row.form h.f
  obtain ⟨o2, c2, rfl⟩ := Row.form h.p
  obtain ⟨o3, c3, rfl⟩ := Row.form h.v
  generalize en0 : X.ss.length = n0 at h hp ⊢
  generalize en1 : X.ff.length = n1 at h hp ⊢
  generalize en2 : X.pp.length = n2 at h hp ⊢
  generalize en3 : X.vv.length = n3 at h hp ⊢
  have HH : Hid (PlR B w (.slice o0 n0 c0) (.slice o1 n1 c1) (.slice o2 n2 c2) (.slice o3 n3 c3) X) := h
  have HPUT : Hid _ := hp
  clear h hp
  obtain ⟨W, hW⟩ : ∃ W, W = (w.alloc (.cells #[.slice o0 n0 c0, .slice o1 n1 c1, .slice o2 n2 c2, .slice o3 n3 c3] 28)).alloc (.cells #[.slice none 0 0, .slice none 0 0, .slice none 0 0, .slice none 0 0] 28) := ⟨_, rfl⟩
  have hbW : Hid (Below w.heap.size w W) := by rw [hW]; exact ((Below.refl _ _).alloc (Nat.le_refl _) _).alloc (by simp) _
  have hsW : W.heap.size = w.heap.size + 1 + 1 := by rw [hW]; simp
  have HP : Hid (W.heap[w.heap.size]? = some (.cells #[.slice o0 n0 c0, .slice o1 n1 c1, .slice o2 n2 c2, .slice o3 n3 c3] 28 (0, 0))) := by
    rw [hW]; exact (Below.heap_alloc _ _ _ (by simp)).trans (heap_alloc_new w _)
  have HR : Hid (W.heap[w.heap.size + 1]? = some (.cells #[.slice none 0 0, .slice none 0 0, .slice none 0 0, .slice none 0 0] 28 (0, 0))) := by
    have e : (w.alloc (.cells #[.slice o0 n0 c0, .slice o1 n1 c1, .slice o2 n2 c2, .slice o3 n3 c3] 28)).heap.size = w.heap.size + 1 := by simp
    rw [hW, ← e]; exact heap_alloc_new _ _
  have HW : Hid (PlR B W (.slice o0 n0 c0) (.slice o1 n1 c1) (.slice o2 n2 c2) (.slice o3 n3 c3) X) := HH.out.below hbW.out
  obtain ⟨X0, _⟩ := cell_row (HP.out) 0 _ rfl
  obtain ⟨X1, _⟩ := cell_row (HP.out) 1 _ rfl
  obtain ⟨X2, _⟩ := cell_row (HP.out) 2 _ rfl
  obtain ⟨X3, _⟩ := cell_row (HP.out) 3 _ rfl
  simp only [List.getElem_toArray, List.getElem_cons_zero, List.getElem_cons_succ] at X0 X1 X2 X3
  go_enter Try.func49, Try.ntmps49
  go_upto_region 1 with fail
  rw [← hW]
  clear hW
  go_wp2_with fail
  refine (HPUT.out W hbW.out).mono ?_; rintro _ w3 ⟨v0', v1', v2', v3', X', cd, rfl, hL, hO, hb4'⟩
  clear X0 X1 X2 X3
  obtain ⟨p0, k0, rfl⟩ := Row.form hL.s
  obtain ⟨p1, k1, rfl⟩ := Row.form hL.f
  obtain ⟨p2, k2, rfl⟩ := Row.form hL.p
  obtain ⟨p3, k3, rfl⟩ := Row.form hL.v
  generalize X'.ss.length = m0 at hL ⊢
  generalize X'.ff.length = m1 at hL ⊢
  generalize X'.pp.length = m2 at hL ⊢
  generalize X'.vv.length = m3 at hL ⊢
  have hb4 : Hid (Below W.heap.size W w3) := hb4'
  have HL : Hid (PlR B w3 (.slice p0 m0 k0) (.slice p1 m1 k1) (.slice p2 m2 k2) (.slice p3 m3 k3) X') := hL
  have HO : Hid X'.Ok := hO
  clear hb4' hL hO
  have hs3 : W.heap.size ≤ w3.heap.size := hb4.out.size
  obtain ⟨W5, hW5⟩ : ∃ x, x = w3.alloc (.cells #[.slice p0 m0 k0, .slice p1 m1 k1, .slice p2 m2 k2, .slice p3 m3 k3] 28) := ⟨_, rfl⟩
  have hb35 : Hid (Below w3.heap.size w3 W5) := by rw [hW5]; exact (Below.refl _ _).alloc (Nat.le_refl _) _
  have hb5 : Hid (Below W.heap.size W W5) := hb4.out.trans (hb35.out.mono hs3)
  have HX5 : Hid (W5.heap[w3.heap.size]? = some (.cells #[.slice p0 m0 k0, .slice p1 m1 k1, .slice p2 m2 k2, .slice p3 m3 k3] 28 (0, 0))) := by rw [hW5]; exact heap_alloc_new _ _
  have hal : Hid (W5.heap.size = w3.heap.size + 1) := by show W5.heap.size = w3.heap.size + 1; rw [hW5]; simp
  go_upto_region 2 with fail
  rw [← hW5]
  clear hW5
  have hs5 := hal.out
  cases hcd : ((cd : Int) != 0)
  case true =>
    obtain ⟨xr0, _⟩ := cell_row ((hb5.out.block _ (by omega)).trans HP.out) 0 _ rfl
    obtain ⟨xr1, _⟩ := cell_row ((hb5.out.block _ (by omega)).trans HP.out) 1 _ rfl
    obtain ⟨xr2, _⟩ := cell_row ((hb5.out.block _ (by omega)).trans HP.out) 2 _ rfl
    obtain ⟨xr3, _⟩ := cell_row ((hb5.out.block _ (by omega)).trans HP.out) 3 _ rfl
    simp only [List.getElem_toArray, List.getElem_cons_zero, List.getElem_cons_succ] at xr0 xr1 xr2 xr3
    obtain ⟨zr0, tzr0⟩ := cell_row ((hb5.out.block (w.heap.size + 1) (by omega)).trans HR.out) 0 _ rfl
    obtain ⟨zr1, tzr1⟩ := cell_row ((hb5.out.block (w.heap.size + 1) (by omega)).trans HR.out) 1 _ rfl
    obtain ⟨zr2, tzr2⟩ := cell_row ((hb5.out.block (w.heap.size + 1) (by omega)).trans HR.out) 2 _ rfl
    obtain ⟨zr3, tzr3⟩ := cell_row ((hb5.out.block (w.heap.size + 1) (by omega)).trans HR.out) 3 _ rfl
    simp only [List.getElem_toArray, List.getElem_cons_zero, List.getElem_cons_succ] at zr0 zr1 zr2 zr3
    have R4 := hidZ (ret4 ((hb5.out.block (w.heap.size + 1) (by omega)).trans HR.out) (.slice o0 n0 c0) (.slice o1 n1 c1) (.slice o2 n2 c2) (.slice o3 n3 c3))
    have ff0 := hidZ (cell_row R4.out.1 0 _ rfl).1
    have ff1 := hidZ (cell_row R4.out.1 1 _ rfl).1
    have ff2 := hidZ (cell_row R4.out.1 2 _ rfl).1
    have ff3 := hidZ (cell_row R4.out.1 3 _ rfl).1
    have hF := hidZ (hbW.out.trans ((hb5.out.mono (by omega)).trans (R4.out.2.2.2.mono (by omega))))
    go_wp2_with fail
    all_goals exact bodyPost_ret (v := .agg #[.slice o0 n0 c0, .slice o1 n1 c1, .slice o2 n2 c2, .slice o3 n3 c3]) (by simp [results, Try.results49, go_sem, ff0.out, ff1.out, ff2.out, ff3.out]) rfl (tryP (X := X) (HH.out.below hF.out) hX hF.out)
  case false =>
    obtain ⟨xr0, _⟩ := cell_row (HX5.out) 0 _ rfl
    obtain ⟨xr1, _⟩ := cell_row (HX5.out) 1 _ rfl
    obtain ⟨xr2, _⟩ := cell_row (HX5.out) 2 _ rfl
    obtain ⟨xr3, _⟩ := cell_row (HX5.out) 3 _ rfl
    simp only [List.getElem_toArray, List.getElem_cons_zero, List.getElem_cons_succ] at xr0 xr1 xr2 xr3
    obtain ⟨zr0, tzr0⟩ := cell_row ((hb5.out.block (w.heap.size + 1) (by omega)).trans HR.out) 0 _ rfl
    obtain ⟨zr1, tzr1⟩ := cell_row ((hb5.out.block (w.heap.size + 1) (by omega)).trans HR.out) 1 _ rfl
    obtain ⟨zr2, tzr2⟩ := cell_row ((hb5.out.block (w.heap.size + 1) (by omega)).trans HR.out) 2 _ rfl
    obtain ⟨zr3, tzr3⟩ := cell_row ((hb5.out.block (w.heap.size + 1) (by omega)).trans HR.out) 3 _ rfl
    simp only [List.getElem_toArray, List.getElem_cons_zero, List.getElem_cons_succ] at zr0 zr1 zr2 zr3
    have R4 := hidZ (ret4 ((hb5.out.block (w.heap.size + 1) (by omega)).trans HR.out) (.slice p0 m0 k0) (.slice p1 m1 k1) (.slice p2 m2 k2) (.slice p3 m3 k3))
    have ff0 := hidZ (cell_row R4.out.1 0 _ rfl).1
    have ff1 := hidZ (cell_row R4.out.1 1 _ rfl).1
    have ff2 := hidZ (cell_row R4.out.1 2 _ rfl).1
    have ff3 := hidZ (cell_row R4.out.1 3 _ rfl).1
    have hF := hidZ (hbW.out.trans ((hb5.out.mono (by omega)).trans (R4.out.2.2.2.mono (by omega))))
    have hr0 := hidZ (Row.block (Row.below HL.out.s hb35.out) (fun q hq => R4.out.2.1 q (fun e => by subst e; exact row_not HL.out.s hq ((hb4.out.block _ (by omega)).trans HR.out) (by decide))))
    have hr1 := hidZ (Row.block (Row.below HL.out.f hb35.out) (fun q hq => R4.out.2.1 q (fun e => by subst e; exact row_not HL.out.f hq ((hb4.out.block _ (by omega)).trans HR.out) (by decide))))
    have hr2 := hidZ (Row.block (Row.below HL.out.p hb35.out) (fun q hq => R4.out.2.1 q (fun e => by subst e; exact row_not HL.out.p hq ((hb4.out.block _ (by omega)).trans HR.out) (by decide))))
    have hr3 := hidZ (Row.block (Row.below HL.out.v hb35.out) (fun q hq => R4.out.2.1 q (fun e => by subst e; exact row_not HL.out.v hq ((hb4.out.block _ (by omega)).trans HR.out) (by decide))))
    go_wp2_with fail
    all_goals exact bodyPost_ret (v := .agg #[.slice p0 m0 k0, .slice p1 m1 k1, .slice p2 m2 k2, .slice p3 m3 k3]) (by simp [results, Try.results49, go_sem, ff0.out, ff1.out, ff2.out, ff3.out]) rfl (tryP (X := X') ⟨hr0.out, hr1.out, hr2.out, hr3.out⟩ HO.out hF.out)
end Go.Proofs.Ytgjcppdeljoimaa

namespace Go.Proofs.Ytgjcppdeljoimaa
open Go.RowKit
theorem app_newP {P : Program} {t e : TypeId} {size bytes m g B : Nat} {w : World} {sv : Value} {news : List Value} (T : ElT P t e size bytes) (hown : w.ownsRow B e size (.slice (some ⟨g, 0, none⟩) 0 0) 0 []) (hB : B ≤ w.heap.size) (hsrc : Src w sv m size news) (h63 : m ≤ maxLen) (hbytes : m * bytes ≤ 140737488355328) (ty : TypeId) :
    ∃ v' w', (Builtin.append_ #[t, t] ty #[.slice (some ⟨g, 0, none⟩) 0 0, sv]).run P w = .ok v' w' ∧ w'.ownsRow B e size v' m news ∧ Below w.heap.size w w' := by
  obtain ⟨i, z, hi, hz, h2, h3, h4⟩ := T.info
  rcases hsrc with ⟨hl, ⟨rfl, rfl⟩ | ⟨ad, c, rfl, hc⟩⟩
  · have hn : news = [] := List.eq_nil_of_length_eq_zero (by simpa using hl)
    subst hn
    exact ⟨_, w, run_append_owned_none (P := P) (w := w) B t ty e i size T.ht hi _ 0 [] hown, hown, Below.refl _ _⟩
  · by_cases h0 : m = 0
    · subst h0
      have hn : news = [] := List.eq_nil_of_length_eq_zero (by simpa using hl)
      subst hn
      refine ⟨.slice (some ⟨g, 0, none⟩) 0 0, w, ?_, hown, Below.refl _ _⟩
      simp [Builtin.append_, run_underlying T.ht, sizeOf, typeInfo, hi, storeCells, loadCells, Builtin.lenOf, Builtin.firstCells, loadCellsFrom]
    · obtain ⟨v', w', hr, q1, q2⟩ := run_append_arg_grows (P := P) (w := w) t ty e i z size bytes T.ht hi hz h2 h3 h4 T.pos ⟨g, 0, none⟩ 0 0 [] (by simp) (fun j u h => by simp at h) ad m c news hl hc (by omega) (by omega) (by simpa using hbytes)
      refine ⟨v', w', hr, ?_, ?_⟩
      · rw [Nat.zero_add, List.nil_append] at q1; exact Go.Joins.ownsRow_le q1 hB
      · exact ⟨q2.os, q2.tape, q2.output, q2.size, fun b hb => q2.block b hb (fun e => by cases e)⟩
end Go.Proofs.Ytgjcppdeljoimaa
