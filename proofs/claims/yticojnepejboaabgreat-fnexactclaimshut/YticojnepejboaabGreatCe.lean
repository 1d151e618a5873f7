/-
  The model's crossing of two wants.
-/
import Derived.Test.YticojnepejboaabGreatCd
namespace Go.Proofs.YticojnepejboaabGreat
open Go.RowKit

/-- Do the valves of two wants cross? -/
def crossB (ao az bo bs : List ByteArray) : Bool := shareB ao bo || shareB ao bs || shareB az bo

theorem below2 {w wr : World} {o p : Obj} (hb : Below (w.heap.size + 2) ((w.alloc o).alloc p) wr) : Below (w.heap.size + 1) (w.alloc o) wr :=
  ((Below.refl _ _).alloc (by simp) p).trans (hb.mono (by omega))
theorem box2_at {w : World} (o : Array Value) (t : TypeId) (q : Obj) {wr : World} (hb : Below (w.heap.size + 2) ((w.alloc q).alloc (.cells o t)) wr) (j : Nat) (v : Value) (h : o[j]? = some v) : wr.cell? ⟨w.heap.size + 1, j, none⟩ = some v := by
  have e : (w.alloc q).heap.size = w.heap.size + 1 := by simp
  have := box_at (w := w.alloc q) o t (wr := wr) (by rw [e]; exact hb) j v h
  rw [e] at this
  exact this

set_option maxRecDepth 100000 in
set_option maxHeartbeats 8000000 in
theorem crossC_any (S : Nat → Prop) (x0 x1 x2 x3 x4 x5 y0 y1 y2 y3 y4 y5 : Value) (ao az bo bs : List ByteArray) (w : World) (ha : AtL S w ao x4) (hb : AtL S w az x5) (hc : AtL S w bo y4) (hd : AtL S w bs y5) (hS : ∀ b, S b → b < w.heap.size) :
    Calls Tryz.prog 62 #[.agg #[x0, x1, x2, x3, x4, x5], .agg #[y0, y1, y2, y3, y4, y5]] w fun e w' => e = .returned (.bool (crossB ao az bo bs)) ∧ Below w.heap.size w w' := by
  have HA : Hid (∀ w', Below w.heap.size w w' → AtL S w' ao x4) := fun w' h => ha.same (Same.of_below h hS)
  have HB : Hid (∀ w', Below w.heap.size w w' → AtL S w' az x5) := fun w' h => hb.same (Same.of_below h hS)
  have HC : Hid (∀ w', Below w.heap.size w w' → AtL S w' bo y4) := fun w' h => hc.same (Same.of_below h hS)
  have HD : Hid (∀ w', Below w.heap.size w w' → AtL S w' bs y5) := fun w' h => hd.same (Same.of_below h hS)
  clear ha hb hc hd
  have D0 : Hid (Below (w.heap.size + 2) ((w.alloc (.cells #[x0, x1, x2, x3, x4, x5] 50)).alloc (.cells #[y0, y1, y2, y3, y4, y5] 50)) ((w.alloc (.cells #[x0, x1, x2, x3, x4, x5] 50)).alloc (.cells #[y0, y1, y2, y3, y4, y5] 50))) := Below.refl _ _
  have B0 : Hid (Below w.heap.size w ((w.alloc (.cells #[x0, x1, x2, x3, x4, x5] 50)).alloc (.cells #[y0, y1, y2, y3, y4, y5] 50))) := below_end (below2 D0.out)
  have S0 : ∀ b, S b → b < ((w.alloc (.cells #[x0, x1, x2, x3, x4, x5] 50)).alloc (.cells #[y0, y1, y2, y3, y4, y5] 50)).heap.size := fun b hb => by have := hS b hb; simp; omega
  go_enter Tryz.func62, Tryz.ntmps62
  cases h0 : shareB ao bo
  · go_wp2_with fail
    refine (shareC_any S _ _ ao bo _ (HA.out _ B0.out) (HC.out _ B0.out) S0).mono ?_
    rintro e w1 ⟨rfl, hb⟩
    rw [h0]
    have D1 : Hid (Below (w.heap.size + 2) ((w.alloc (.cells #[x0, x1, x2, x3, x4, x5] 50)).alloc (.cells #[y0, y1, y2, y3, y4, y5] 50)) w1) := D0.out.trans (hb.mono (by have := D0.out.size; simp at this ⊢; try omega))
    have B1 : Hid (Below w.heap.size w w1) := below_end (below2 D1.out)
    have S1 : ∀ b, S b → b < w1.heap.size := fun b hb => by have := hS b hb; have := B1.out.size; omega
    have p14 := box_at _ _ (below2 D1.out) 4 x4 rfl
    have p15 := box_at _ _ (below2 D1.out) 5 x5 rfl
    have q14 := box2_at _ _ _ D1.out 4 y4 rfl
    have q15 := box2_at _ _ _ D1.out 5 y5 rfl
    clear hb
    cases h1 : shareB ao bs
    · go_wp2_with fail
      refine (shareC_any S _ _ ao bs _ (HA.out _ B1.out) (HD.out _ B1.out) S1).mono ?_
      rintro e w2 ⟨rfl, hb⟩
      rw [h1]
      have D2 : Hid (Below (w.heap.size + 2) ((w.alloc (.cells #[x0, x1, x2, x3, x4, x5] 50)).alloc (.cells #[y0, y1, y2, y3, y4, y5] 50)) w2) := D1.out.trans (hb.mono (by have := D1.out.size; simp at this ⊢; try omega))
      have B2 : Hid (Below w.heap.size w w2) := below_end (below2 D2.out)
      have S2 : ∀ b, S b → b < w2.heap.size := fun b hb => by have := hS b hb; have := B2.out.size; omega
      have p24 := box_at _ _ (below2 D2.out) 4 x4 rfl
      have p25 := box_at _ _ (below2 D2.out) 5 x5 rfl
      have q24 := box2_at _ _ _ D2.out 4 y4 rfl
      have q25 := box2_at _ _ _ D2.out 5 y5 rfl
      clear hb
      cases h2 : shareB az bo
      · go_wp2_with fail
        refine (shareC_any S _ _ az bo _ (HB.out _ B2.out) (HC.out _ B2.out) S2).mono ?_
        rintro e w3 ⟨rfl, hb⟩
        rw [h2]
        have D3 : Hid (Below (w.heap.size + 2) ((w.alloc (.cells #[x0, x1, x2, x3, x4, x5] 50)).alloc (.cells #[y0, y1, y2, y3, y4, y5] 50)) w3) := D2.out.trans (hb.mono (by have := D2.out.size; simp at this ⊢; try omega))
        have B3 : Hid (Below w.heap.size w w3) := below_end (below2 D3.out)
        have S3 : ∀ b, S b → b < w3.heap.size := fun b hb => by have := hS b hb; have := B3.out.size; omega
        have p34 := box_at _ _ (below2 D3.out) 4 x4 rfl
        have p35 := box_at _ _ (below2 D3.out) 5 x5 rfl
        have q34 := box2_at _ _ _ D3.out 4 y4 rfl
        have q35 := box2_at _ _ _ D3.out 5 y5 rfl
        clear hb
        go_wp2_with fail
        go_ret
        exact ⟨by rw [show crossB ao az bo bs = false by simp [crossB, h0, h1, h2]]; rfl, B3.out⟩
      · go_wp2_with fail
        refine (shareC_any S _ _ az bo _ (HB.out _ B2.out) (HC.out _ B2.out) S2).mono ?_
        rintro e w3 ⟨rfl, hb⟩
        rw [h2]
        have D3 : Hid (Below (w.heap.size + 2) ((w.alloc (.cells #[x0, x1, x2, x3, x4, x5] 50)).alloc (.cells #[y0, y1, y2, y3, y4, y5] 50)) w3) := D2.out.trans (hb.mono (by have := D2.out.size; simp at this ⊢; try omega))
        have B3 : Hid (Below w.heap.size w w3) := below_end (below2 D3.out)
        have S3 : ∀ b, S b → b < w3.heap.size := fun b hb => by have := hS b hb; have := B3.out.size; omega
        have p34 := box_at _ _ (below2 D3.out) 4 x4 rfl
        have p35 := box_at _ _ (below2 D3.out) 5 x5 rfl
        have q34 := box2_at _ _ _ D3.out 4 y4 rfl
        have q35 := box2_at _ _ _ D3.out 5 y5 rfl
        clear hb
        go_wp2_with fail
        go_ret
        exact ⟨by rw [show crossB ao az bo bs = true by simp [crossB, h0, h1, h2]]; rfl, B3.out⟩
    · go_wp2_with fail
      refine (shareC_any S _ _ ao bs _ (HA.out _ B1.out) (HD.out _ B1.out) S1).mono ?_
      rintro e w2 ⟨rfl, hb⟩
      rw [h1]
      have D2 : Hid (Below (w.heap.size + 2) ((w.alloc (.cells #[x0, x1, x2, x3, x4, x5] 50)).alloc (.cells #[y0, y1, y2, y3, y4, y5] 50)) w2) := D1.out.trans (hb.mono (by have := D1.out.size; simp at this ⊢; try omega))
      have B2 : Hid (Below w.heap.size w w2) := below_end (below2 D2.out)
      have S2 : ∀ b, S b → b < w2.heap.size := fun b hb => by have := hS b hb; have := B2.out.size; omega
      have p24 := box_at _ _ (below2 D2.out) 4 x4 rfl
      have p25 := box_at _ _ (below2 D2.out) 5 x5 rfl
      have q24 := box2_at _ _ _ D2.out 4 y4 rfl
      have q25 := box2_at _ _ _ D2.out 5 y5 rfl
      clear hb
      go_wp2_with fail
      go_ret
      exact ⟨by rw [show crossB ao az bo bs = true by simp [crossB, h0, h1]]; rfl, B2.out⟩
  · go_wp2_with fail
    refine (shareC_any S _ _ ao bo _ (HA.out _ B0.out) (HC.out _ B0.out) S0).mono ?_
    rintro e w1 ⟨rfl, hb⟩
    rw [h0]
    have D1 : Hid (Below (w.heap.size + 2) ((w.alloc (.cells #[x0, x1, x2, x3, x4, x5] 50)).alloc (.cells #[y0, y1, y2, y3, y4, y5] 50)) w1) := D0.out.trans (hb.mono (by have := D0.out.size; simp at this ⊢; try omega))
    have B1 : Hid (Below w.heap.size w w1) := below_end (below2 D1.out)
    have S1 : ∀ b, S b → b < w1.heap.size := fun b hb => by have := hS b hb; have := B1.out.size; omega
    have p14 := box_at _ _ (below2 D1.out) 4 x4 rfl
    have p15 := box_at _ _ (below2 D1.out) 5 x5 rfl
    have q14 := box2_at _ _ _ D1.out 4 y4 rfl
    have q15 := box2_at _ _ _ D1.out 5 y5 rfl
    clear hb
    go_wp2_with fail
    go_ret
    exact ⟨by rw [show crossB ao az bo bs = true by simp [crossB, h0]]; rfl, B1.out⟩

end Go.Proofs.YticojnepejboaabGreat
