/-
  The program's tests of what may be in a vessel and of what is in it.
-/
import Derived.Test.YthleodbbppgadaaGreatIh
import Derived.Test.YthleodbbppgadaaGreatMs
namespace Go.Proofs.YthleodbbppgadaaGreat
open Go.RowKit

def mayP (lots : List DStuffLot) : Option ByteArray → ByteArray → Bool := tst (fun f : ByteArray => decide (0 ≤ idxI lots (fun p : DStuffLot => eqB p.1 f))) (fun p f : ByteArray => ltB p f)
def mayI (foes : List DStuffFoe) (lots : List DStuffLot) (may : List ByteArray) : Prop := okB lots.length (mayP lots) may = true ∧ meetL foes lots may may = false
noncomputable def mayB (foes : List DStuffFoe) (lots : List DStuffLot) (may : List ByteArray) : Bool := okB lots.length (mayP lots) may && !meetL foes lots may may
def partP (may : List ByteArray) : Option DStuffPart → DStuffPart → Bool := tst (fun f : DStuffPart => inB f.2 1 1000 && hasB may f.1) (fun p f : DStuffPart => ltB p.1 f.1)
noncomputable def partsB (parts : List DStuffPart) (may : List ByteArray) (most : Int) : Bool := okB may.length (partP may) parts && decide (psum parts parts.length ≤ most)

set_option maxRecDepth 100000 in
set_option maxHeartbeats 4000000 in
theorem mayI_any (S : Nat → Prop) (v0 v1 v2 v3 : Value) (foes : List DStuffFoe) (lots : List DStuffLot) (ves : List DStuffVessel) (may : List ByteArray) (vm : Value) (mb : Nat) (w : World) (h1 : AtL S w lots v1) (h2 : AtL S w ves v2) (hm : AtL S w may vm) (hS : ∀ b, S b → b < w.heap.size) (hl : lots.length ≤ 1048576) (hmp : Mp w mb (cntF (nthF foes) foes.length)) :
    Calls Tryz.prog 94 #[.agg #[v0, v1, v2, v3], vm, .map (some mb)] w fun e w' => e = .returned (.bool (mayB foes lots may)) ∧ Below w.heap.size w w' := by
  have hmf : ∀ (fn : Fn) (first cap : Array Value) (w : World), (Instr.makeFunc fn first cap).run Tryz.prog w = .ok (.func fn first cap) w := fun _ _ _ _ => rfl
  have H1 : Hid (AtL S w lots v1) := h1
  have H2 : Hid (AtL S w ves v2) := h2
  have HY : Hid (AtL S w may vm) := hm
  have HM : Hid (Mp w mb (cntF (nthF foes) foes.length)) := hmp
  have hmb : mb < w.heap.size := hmp.lt
  obtain ⟨o1, c1, hv1, hn1, _⟩ := h1
  rw [hv1] at H1
  subst hv1
  obtain ⟨n1, en1⟩ : ∃ n, lots.length = n := ⟨_, rfl⟩
  rw [en1] at hn1 H1 hl
  have EN1 : Hid (lots.length = n1) := en1
  rw [en1]
  unfold maxLen at hn1
  clear h2 hm hmp en1
  have hbel0 : Hid (Below (w.heap.size + 1) (w.alloc (.cells #[v0, .slice o1 n1 c1, v2, v3] 36)) (w.alloc (.cells #[v0, .slice o1 n1 c1, v2, v3] 36))) := Below.refl _ _
  have hS0 : ∀ b, S b → b < (w.alloc (.cells #[v0, .slice o1 n1 c1, v2, v3] 36)).heap.size := fun b hb => by have := hS b hb; simp; omega
  have hbw0 := below_end hbel0.out
  have KB : Hid (CapBook S (w.alloc (.cells #[v0, .slice o1 n1 c1, v2, v3] 36)) w.heap.size v0 (.slice o1 n1 c1) v2 v3 lots ves) := ⟨by simp, new_cell w _ _ 0 _ rfl, new_cell w _ _ 1 _ rfl, new_cell w _ _ 2 _ rfl, new_cell w _ _ 3 _ rfl, H1.out.same (Same.of_below hbw0 hS), H2.out.same (Same.of_below hbw0 hS), hS0⟩
  have KY : Hid (AtL S (w.alloc (.cells #[v0, .slice o1 n1 c1, v2, v3] 36)) may vm) := HY.out.same (Same.of_below hbw0 hS)
  have HL : Hid (okB n1 (mayP lots) may = okB lots.length (mayP lots) may) := by show _ = _; rw [EN1.out]
  cases hc : okB lots.length (mayP lots) may
  · have hres : mayB foes lots may = false := by unfold mayB; rw [hc]; rfl
    rw [hres]
    go_enter Tryz.func94, Tryz.ntmps94
    go_wp2_with fail
    refine (liststring_any S w.heap.size v0 (.slice o1 n1 c1) v2 v3 lots ves vm may n1 _ KY.out hS0 KB.out).mono ?_
    rintro e w1 ⟨rfl, hb1⟩
    rw [show okB n1 (tst (fun f : ByteArray => decide (0 ≤ idxI lots (fun p : DStuffLot => eqB p.1 f))) (fun p f : ByteArray => ltB p f)) may = false from HL.out.trans hc]
    have hbel1 : Hid (Below (w.heap.size + 1) (w.alloc (.cells #[v0, .slice o1 n1 c1, v2, v3] 36)) w1) := by simpa [Hid] using hb1
    go_wp2_with fail
    go_ret
    exact ⟨rfl, below_end hbel1.out⟩
  · have hres : mayB foes lots may = !meetL foes lots may may := by unfold mayB; rw [hc, Bool.true_and]
    have hmy : may.length ≤ 1048576 := by have := (ok_iff.1 hc).1; have := EN1.out; omega
    cases hd : meetL foes lots may may
    all_goals
      rw [hd] at hres
      rw [hres]
      go_enter Tryz.func94, Tryz.ntmps94
      go_wp2_with fail
      refine (liststring_any S w.heap.size v0 (.slice o1 n1 c1) v2 v3 lots ves vm may n1 _ KY.out hS0 KB.out).mono ?_
      rintro e w1 ⟨rfl, hb1⟩
      rw [show okB n1 (tst (fun f : ByteArray => decide (0 ≤ idxI lots (fun p : DStuffLot => eqB p.1 f))) (fun p f : ByteArray => ltB p f)) may = true from HL.out.trans hc]
      have hbel1 : Hid (Below (w.heap.size + 1) (w.alloc (.cells #[v0, .slice o1 n1 c1, v2, v3] 36)) w1) := by simpa [Hid] using hb1
      have y0 := box_at _ _ hbel1.out 0 (v0) rfl
      have y1 := box_at _ _ hbel1.out 1 (.slice o1 n1 c1) rfl
      have y2 := box_at _ _ hbel1.out 2 (v2) rfl
      have y3 := box_at _ _ hbel1.out 3 (v3) rfl
      have hS1 : ∀ b, S b → b < w1.heap.size := fun b hb => by have := hS b hb; have := (below_end hbel1.out).size; omega
      have sm := Same.of_below (below_end hbel1.out) hS
      go_wp2_with fail
      refine (lotsMeet_any S _ _ _ _ foes lots may may vm vm mb _ (H1.out.same sm) (HY.out.same sm) (HY.out.same sm) hS1 hmy hmy (HM.out.below (below_end hbel1.out) hmb)).mono ?_
      rintro e w2 ⟨rfl, hb2⟩
      rw [hd]
      have hbel2 : Hid (Below (w.heap.size + 1) (w.alloc (.cells #[v0, .slice o1 n1 c1, v2, v3] 36)) w2) := below_of hbel1.out hb2
      go_wp2_with fail
      go_ret
      exact ⟨rfl, below_end hbel2.out⟩

set_option maxRecDepth 100000 in
set_option maxHeartbeats 4000000 in
theorem heldI_any (S : Nat → Prop) (v : Value) (l : List DStuffPart) (w : World) (h : AtL S w l v) (hS : ∀ b, S b → b < w.heap.size) (hl : l.length ≤ 1048576) (ha : ∀ i (h : i < l.length), 0 ≤ l[i].2 ∧ l[i].2 ≤ 1000) :
    Calls Tryz.prog 72 #[v] w fun e w' => e = .returned (.int .i64 (psum l l.length)) ∧ Below w.heap.size w w' := by
  obtain ⟨oa, cap, rfl, hn, hc⟩ := h
  obtain ⟨n, en⟩ : ∃ n, l.length = n := ⟨_, rfl⟩
  rw [en] at hn hl
  rw [en]
  unfold maxLen at hn
  have HC : Hid _ := hc
  have HA : Hid _ := ha
  clear hc ha
  go_enter Tryz.func72, Tryz.ntmps72
  go_wp2
  go_loopw [3, 8] (fun s i wr => ∃ k : Nat, k ≤ n ∧ i = .int .i64 k ∧ s = .int .i64 (psum l k) ∧ 0 ≤ psum l k ∧ psum l k ≤ 1000 * k ∧ Hid (Below w.heap.size w wr)) (fun _ i _ => n - (intOf i).toNat)
  case atStart => exact ⟨0, Nat.zero_le _, rfl, rfl, Int.le_refl _, Int.le_refl _, Below.refl _ _⟩
  case round =>
    obtain ⟨k, hk, rfl, rfl, hp0, hp1, hbel⟩ := hrel
    have hs := hbel.out.size
    by_cases hlt : k < n
    · obtain ⟨b, off, rfl, hbS, ce, hcelle, hate⟩ := HC.out k (by omega)
      have hbb := hS b hbS
      have hbw := hbel.out
      rw [width_DStuffPart] at hcelle
      have e0 : wr.cell? ⟨b, off + k * 2, none⟩ = some (ce 0) := (hbw.cell (p := ⟨b, off + k * 2, none⟩) (by show b < _; omega)).trans (by simpa using hcelle 0 (by omega))
      have e1 : wr.cell? ⟨b, off + k * 2 + 1, none⟩ = some (ce 1) := (hbw.cell (p := ⟨b, off + k * 2 + 1, none⟩) (by show b < _; omega)).trans (by simpa using hcelle 1 (by omega))
      clear hcelle
      have hate := Lay.same hate (Same.of_below hbw hS)
      rw [at_DStuffPart] at hate
      obtain ⟨ef, eef⟩ : ∃ f, l[k]'(by omega) = f := ⟨_, rfl⟩
      rw [eef] at hate
      obtain ⟨⟨te0, ze0⟩, ⟨te1, zle1, zhe1⟩⟩ := hate
      rw [te0] at e0
      rw [te1] at e1
      clear te0 te1
      clear hbw
      have hst := psum_succ l k (by omega)
      rw [eef] at hst
      have hak := HA.out k (by omega)
      rw [eef] at hak
      have hB1 : Hid (Below w.heap.size w (wr.alloc (.cells #[.string ef.1, .int .i64 ef.2] 107))) := hbel.out.alloc hs _
      generalize hpk : psum l k = p at *
      go_wp2
      go_roundw
      case rel => exact ⟨k + 1, by omega, by go_num, by rw [hst], by rw [hst]; omega, by rw [hst]; omega, hB1⟩
      case measure => simp [intOf]; omega
    · go_wp2
      go_ret
      have hkn : k = n := by omega
      subst hkn
      exact ⟨rfl, hbel.out⟩

set_option maxRecDepth 100000 in
set_option maxHeartbeats 4000000 in
theorem partsI_any (S : Nat → Prop) (parts : List DStuffPart) (may : List ByteArray) (vp vm : Value) (most : Int) (w : World) (hp : AtL S w parts vp) (hm : AtL S w may vm) (hS : ∀ b, S b → b < w.heap.size) (hml : may.length ≤ 1048576) :
    Calls Tryz.prog 95 #[vp, vm, .int .i64 most] w fun e w' => e = .returned (.bool (partsB parts may most)) ∧ Below w.heap.size w w' := by
  have hmf : ∀ (fn : Fn) (first cap : Array Value) (w : World), (Instr.makeFunc fn first cap).run Tryz.prog w = .ok (.func fn first cap) w := fun _ _ _ _ => rfl
  have HP : Hid (AtL S w parts vp) := hp
  have HY : Hid (AtL S w may vm) := hm
  obtain ⟨om, cm, hvm, hnm, _⟩ := hm
  rw [hvm] at HY
  subst hvm
  obtain ⟨nm, enm⟩ : ∃ n, may.length = n := ⟨_, rfl⟩
  rw [enm] at hnm HY hml
  have ENM : Hid (may.length = nm) := enm
  rw [enm]
  unfold maxLen at hnm
  clear hp enm
  have hbel0 : Hid (Below (w.heap.size + 1) (w.alloc (.cells #[.slice om nm cm] 29)) (w.alloc (.cells #[.slice om nm cm] 29))) := Below.refl _ _
  have hS0 : ∀ b, S b → b < (w.alloc (.cells #[.slice om nm cm] 29)).heap.size := fun b hb => by have := hS b hb; simp; omega
  have hbw0 := below_end hbel0.out
  have KB : Hid (CapMay S (w.alloc (.cells #[.slice om nm cm] 29)) w.heap.size (.slice om nm cm) may) := ⟨by simp, new_cell w _ _ 0 _ rfl, HY.out.same (Same.of_below hbw0 hS), hS0⟩
  have KP : Hid (AtL S (w.alloc (.cells #[.slice om nm cm] 29)) parts vp) := HP.out.same (Same.of_below hbw0 hS)
  have HL : Hid (okB nm (partP may) parts = okB may.length (partP may) parts) := by show _ = _; rw [ENM.out]
  cases hc : okB may.length (partP may) parts
  · have hres : partsB parts may most = false := by unfold partsB; rw [hc]; rfl
    rw [hres]
    go_enter Tryz.func95, Tryz.ntmps95
    go_wp2_with fail
    refine (listStuffPart_any S w.heap.size (.slice om nm cm) may vp parts nm _ KP.out hS0 KB.out).mono ?_
    rintro e w1 ⟨rfl, hb1⟩
    rw [show okB nm (tst (fun f : DStuffPart => inB f.2 1 1000 && hasB may f.1) (fun p f : DStuffPart => ltB p.1 f.1)) parts = false from HL.out.trans hc]
    have hbel1 : Hid (Below (w.heap.size + 1) (w.alloc (.cells #[.slice om nm cm] 29)) w1) := by simpa [Hid] using hb1
    go_wp2_with fail
    go_ret
    exact ⟨rfl, below_end hbel1.out⟩
  · have hres : partsB parts may most = decide (psum parts parts.length ≤ most) := by unfold partsB; rw [hc, Bool.true_and]
    rw [hres]
    have hpl : parts.length ≤ 1048576 := by have := (ok_iff.1 hc).1; have := ENM.out; omega
    have hpa : ∀ i (h : i < parts.length), 0 ≤ parts[i].2 ∧ parts[i].2 ≤ 1000 := fun i h => by
      have := (ok_iff.1 hc).2 i h
      unfold partP tst at this
      rw [Bool.and_eq_true, Bool.and_eq_true] at this
      have := of_decide_eq_true this.1.1
      omega
    go_enter Tryz.func95, Tryz.ntmps95
    go_wp2_with fail
    refine (listStuffPart_any S w.heap.size (.slice om nm cm) may vp parts nm _ KP.out hS0 KB.out).mono ?_
    rintro e w1 ⟨rfl, hb1⟩
    rw [show okB nm (tst (fun f : DStuffPart => inB f.2 1 1000 && hasB may f.1) (fun p f : DStuffPart => ltB p.1 f.1)) parts = true from HL.out.trans hc]
    have hbel1 : Hid (Below (w.heap.size + 1) (w.alloc (.cells #[.slice om nm cm] 29)) w1) := by simpa [Hid] using hb1
    have hS1 : ∀ b, S b → b < w1.heap.size := fun b hb => by have := hS b hb; have := (below_end hbel1.out).size; omega
    go_wp2_with fail
    refine (heldI_any S _ parts _ (HP.out.same (Same.of_below (below_end hbel1.out) hS)) hS1 hpl hpa).mono ?_
    rintro e w2 ⟨rfl, hb2⟩
    have hbel2 : Hid (Below (w.heap.size + 1) (w.alloc (.cells #[.slice om nm cm] 29)) w2) := below_of hbel1.out hb2
    go_wp2_with fail
    go_ret
    exact ⟨rfl, below_end hbel2.out⟩

end Go.Proofs.YthleodbbppgadaaGreat
