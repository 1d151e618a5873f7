/-
  Contracts of the program's tests of one element of each list of the book.
-/
import Derived.Test.YthleodbbppgadaaGreatIb
namespace Go.Proofs.YthleodbbppgadaaGreat
open Go.RowKit

/-- A book in a box that a test has caught, and its lists. -/
structure CapBook (S : Nat → Prop) (w : World) (nb : Nat) (v0 v1 v2 v3 : Value) (lots : List DStuffLot) (ves : List DStuffVessel) : Prop where
  lt : nb < w.heap.size
  c0 : w.cell? ⟨nb, 0, none⟩ = some v0
  c1 : w.cell? ⟨nb, 1, none⟩ = some v1
  c2 : w.cell? ⟨nb, 2, none⟩ = some v2
  c3 : w.cell? ⟨nb, 3, none⟩ = some v3
  lots : AtL S w lots v1
  ves : AtL S w ves v2
  sub : ∀ b, S b → b < w.heap.size
theorem CapBook.below {S : Nat → Prop} {w w' : World} {nb B : Nat} {v0 v1 v2 v3 : Value} {lots : List DStuffLot} {ves : List DStuffVessel} (h : CapBook S w nb v0 v1 v2 v3 lots ves) (hb : Below B w w') (hB : w.heap.size ≤ B) : CapBook S w' nb v0 v1 v2 v3 lots ves := by
  have hn := h.lt
  have hs := hb.size
  have hb' := hb.mono hB
  have hs' := hb'.size
  refine ⟨by omega, (hb'.cell (p := ⟨nb, 0, none⟩) hn).trans h.c0, (hb'.cell (p := ⟨nb, 1, none⟩) hn).trans h.c1, (hb'.cell (p := ⟨nb, 2, none⟩) hn).trans h.c2, (hb'.cell (p := ⟨nb, 3, none⟩) hn).trans h.c3, h.lots.same (Same.of_below hb' h.sub), h.ves.same (Same.of_below hb' h.sub), fun b hb => by have := h.sub b hb; omega⟩
/-- Names in a box that a test has caught. -/
structure CapMay (S : Nat → Prop) (w : World) (nb : Nat) (v : Value) (may : List ByteArray) : Prop where
  lt : nb < w.heap.size
  c0 : w.cell? ⟨nb, 0, none⟩ = some v
  may : AtL S w may v
  sub : ∀ b, S b → b < w.heap.size
theorem CapMay.below {S : Nat → Prop} {w w' : World} {nb B : Nat} {v : Value} {may : List ByteArray} (h : CapMay S w nb v may) (hb : Below B w w') (hB : w.heap.size ≤ B) : CapMay S w' nb v may := by
  have hn := h.lt
  have hb' := hb.mono hB
  have hs' := hb'.size
  exact ⟨by omega, (hb'.cell (p := ⟨nb, 0, none⟩) hn).trans h.c0, h.may.same (Same.of_below hb' h.sub), fun b hb => by have := h.sub b hb; omega⟩


set_option maxRecDepth 100000 in
set_option maxHeartbeats 4000000 in
theorem foeOk_any (a b : ByteArray) (w : World) (ha : a.size ≤ maxLen) (hb : b.size ≤ maxLen) :
    Calls Tryz.prog 81 #[.agg #[.string a, .string b]] w fun e w' => e = .returned (.bool (nameB a && nameB b && ltB a b)) ∧ Below w.heap.size w w' := by
  cases h0 : nameB a
  · go_enter Tryz.func81, Tryz.ntmps81
    go_wp2_with fail
    refine (nameI_any _ _ ha).mono ?_
    rintro e w1 ⟨rfl, hb1⟩
    rw [h0]
    have hbel1 : Hid (Below (w.heap.size + 1) (w.alloc (.cells #[.string a, .string b] 93)) w1) := by simpa [Hid] using hb1
    have y10 := box_at _ _ hbel1.out 0 (.string a) rfl
    have y11 := box_at _ _ hbel1.out 1 (.string b) rfl
    clear hb1
    go_wp2_with fail
    go_ret
    exact ⟨rfl, below_end hbel1.out⟩
  · cases h1 : nameB b
    · go_enter Tryz.func81, Tryz.ntmps81
      go_wp2_with fail
      refine (nameI_any _ _ ha).mono ?_
      rintro e w1 ⟨rfl, hb1⟩
      rw [h0]
      have hbel1 : Hid (Below (w.heap.size + 1) (w.alloc (.cells #[.string a, .string b] 93)) w1) := by simpa [Hid] using hb1
      have y10 := box_at _ _ hbel1.out 0 (.string a) rfl
      have y11 := box_at _ _ hbel1.out 1 (.string b) rfl
      clear hb1
      go_wp2_with fail
      refine (nameI_any _ _ hb).mono ?_
      rintro e w2 ⟨rfl, hb2⟩
      rw [h1]
      have hbel2 : Hid (Below (w.heap.size + 1) (w.alloc (.cells #[.string a, .string b] 93)) w2) := below_of hbel1.out hb2
      have y20 := box_at _ _ hbel2.out 0 (.string a) rfl
      have y21 := box_at _ _ hbel2.out 1 (.string b) rfl
      clear hb2
      go_wp2_with fail
      go_ret
      exact ⟨rfl, below_end hbel2.out⟩
    · go_enter Tryz.func81, Tryz.ntmps81
      go_wp2_with fail
      refine (nameI_any _ _ ha).mono ?_
      rintro e w1 ⟨rfl, hb1⟩
      rw [h0]
      have hbel1 : Hid (Below (w.heap.size + 1) (w.alloc (.cells #[.string a, .string b] 93)) w1) := by simpa [Hid] using hb1
      have y10 := box_at _ _ hbel1.out 0 (.string a) rfl
      have y11 := box_at _ _ hbel1.out 1 (.string b) rfl
      clear hb1
      go_wp2_with fail
      refine (nameI_any _ _ hb).mono ?_
      rintro e w2 ⟨rfl, hb2⟩
      rw [h1]
      have hbel2 : Hid (Below (w.heap.size + 1) (w.alloc (.cells #[.string a, .string b] 93)) w2) := below_of hbel1.out hb2
      have y20 := box_at _ _ hbel2.out 0 (.string a) rfl
      have y21 := box_at _ _ hbel2.out 1 (.string b) rfl
      clear hb2
      go_wp2_with fail
      go_ret
      exact ⟨rfl, below_end hbel2.out⟩

set_option maxRecDepth 100000 in
set_option maxHeartbeats 4000000 in
theorem lotOk_any (a b : ByteArray) (w : World) (ha : a.size ≤ maxLen) (hb : b.size ≤ maxLen) :
    Calls Tryz.prog 85 #[.agg #[.string a, .string b]] w fun e w' => e = .returned (.bool (nameB a && nameB b)) ∧ Below w.heap.size w w' := by
  cases h0 : nameB a
  · go_enter Tryz.func85, Tryz.ntmps85
    go_wp2_with fail
    refine (nameI_any _ _ ha).mono ?_
    rintro e w1 ⟨rfl, hb1⟩
    rw [h0]
    have hbel1 : Hid (Below (w.heap.size + 1) (w.alloc (.cells #[.string a, .string b] 95)) w1) := by simpa [Hid] using hb1
    have y10 := box_at _ _ hbel1.out 0 (.string a) rfl
    have y11 := box_at _ _ hbel1.out 1 (.string b) rfl
    clear hb1
    go_wp2_with fail
    go_ret
    exact ⟨rfl, below_end hbel1.out⟩
  · cases h1 : nameB b
    · go_enter Tryz.func85, Tryz.ntmps85
      go_wp2_with fail
      refine (nameI_any _ _ ha).mono ?_
      rintro e w1 ⟨rfl, hb1⟩
      rw [h0]
      have hbel1 : Hid (Below (w.heap.size + 1) (w.alloc (.cells #[.string a, .string b] 95)) w1) := by simpa [Hid] using hb1
      have y10 := box_at _ _ hbel1.out 0 (.string a) rfl
      have y11 := box_at _ _ hbel1.out 1 (.string b) rfl
      clear hb1
      go_wp2_with fail
      refine (nameI_any _ _ hb).mono ?_
      rintro e w2 ⟨rfl, hb2⟩
      rw [h1]
      have hbel2 : Hid (Below (w.heap.size + 1) (w.alloc (.cells #[.string a, .string b] 95)) w2) := below_of hbel1.out hb2
      have y20 := box_at _ _ hbel2.out 0 (.string a) rfl
      have y21 := box_at _ _ hbel2.out 1 (.string b) rfl
      clear hb2
      go_wp2_with fail
      go_ret
      exact ⟨rfl, below_end hbel2.out⟩
    · go_enter Tryz.func85, Tryz.ntmps85
      go_wp2_with fail
      refine (nameI_any _ _ ha).mono ?_
      rintro e w1 ⟨rfl, hb1⟩
      rw [h0]
      have hbel1 : Hid (Below (w.heap.size + 1) (w.alloc (.cells #[.string a, .string b] 95)) w1) := by simpa [Hid] using hb1
      have y10 := box_at _ _ hbel1.out 0 (.string a) rfl
      have y11 := box_at _ _ hbel1.out 1 (.string b) rfl
      clear hb1
      go_wp2_with fail
      refine (nameI_any _ _ hb).mono ?_
      rintro e w2 ⟨rfl, hb2⟩
      rw [h1]
      have hbel2 : Hid (Below (w.heap.size + 1) (w.alloc (.cells #[.string a, .string b] 95)) w2) := below_of hbel1.out hb2
      have y20 := box_at _ _ hbel2.out 0 (.string a) rfl
      have y21 := box_at _ _ hbel2.out 1 (.string b) rfl
      clear hb2
      go_wp2_with fail
      go_ret
      exact ⟨rfl, below_end hbel2.out⟩

set_option maxRecDepth 100000 in
set_option maxHeartbeats 4000000 in
theorem vesOk_any (a : ByteArray) (n : Int) (a2 a3 : Value) (w : World) (ha : a.size ≤ maxLen) :
    Calls Tryz.prog 88 #[.agg #[.string a, .int .i64 n, a2, a3]] w fun e w' => e = .returned (.bool (nameB a && inB n 1 1000)) ∧ Below w.heap.size w w' := by
  cases h0 : nameB a
  · go_enter Tryz.func88, Tryz.ntmps88
    go_wp2_with fail
    refine (nameI_any _ _ ha).mono ?_
    rintro e w1 ⟨rfl, hb1⟩
    rw [h0]
    have hbel1 : Hid (Below (w.heap.size + 1) (w.alloc (.cells #[.string a, .int .i64 n, a2, a3] 53)) w1) := by simpa [Hid] using hb1
    have y10 := box_at _ _ hbel1.out 0 (.string a) rfl
    have y11 := box_at _ _ hbel1.out 1 (.int .i64 n) rfl
    have y12 := box_at _ _ hbel1.out 2 (a2) rfl
    have y13 := box_at _ _ hbel1.out 3 (a3) rfl
    clear hb1
    go_wp2_with fail
    go_ret
    exact ⟨rfl, below_end hbel1.out⟩
  · by_cases h1 : 1 ≤ n
    · have d1 : decide ((1 : Int) ≤ n) = true := by simp; omega
      by_cases h2 : n ≤ 1000
      · have d2 : decide (n ≤ (1000 : Int)) = true := by simp; omega
        have hin : inB n 1 1000 = true := by simp [inB]; omega
        rw [hin]
        go_enter Tryz.func88, Tryz.ntmps88
        go_wp2_with fail
        refine (nameI_any _ _ ha).mono ?_
        rintro e w1 ⟨rfl, hb1⟩
        rw [h0]
        have hbel1 : Hid (Below (w.heap.size + 1) (w.alloc (.cells #[.string a, .int .i64 n, a2, a3] 53)) w1) := by simpa [Hid] using hb1
        have y10 := box_at _ _ hbel1.out 0 (.string a) rfl
        have y11 := box_at _ _ hbel1.out 1 (.int .i64 n) rfl
        have y12 := box_at _ _ hbel1.out 2 (a2) rfl
        have y13 := box_at _ _ hbel1.out 3 (a3) rfl
        clear hb1
        go_wp2_with fail
        go_ret
        exact ⟨rfl, below_end hbel1.out⟩
      · have d2 : decide (n ≤ (1000 : Int)) = false := by simp; omega
        have hin : inB n 1 1000 = false := by simp [inB]; omega
        rw [hin]
        go_enter Tryz.func88, Tryz.ntmps88
        go_wp2_with fail
        refine (nameI_any _ _ ha).mono ?_
        rintro e w1 ⟨rfl, hb1⟩
        rw [h0]
        have hbel1 : Hid (Below (w.heap.size + 1) (w.alloc (.cells #[.string a, .int .i64 n, a2, a3] 53)) w1) := by simpa [Hid] using hb1
        have y10 := box_at _ _ hbel1.out 0 (.string a) rfl
        have y11 := box_at _ _ hbel1.out 1 (.int .i64 n) rfl
        have y12 := box_at _ _ hbel1.out 2 (a2) rfl
        have y13 := box_at _ _ hbel1.out 3 (a3) rfl
        clear hb1
        go_wp2_with fail
        go_ret
        exact ⟨rfl, below_end hbel1.out⟩
    · have d1 : decide ((1 : Int) ≤ n) = false := by simp; omega
      have hin : inB n 1 1000 = false := by simp [inB]; omega
      rw [hin]
      go_enter Tryz.func88, Tryz.ntmps88
      go_wp2_with fail
      refine (nameI_any _ _ ha).mono ?_
      rintro e w1 ⟨rfl, hb1⟩
      rw [h0]
      have hbel1 : Hid (Below (w.heap.size + 1) (w.alloc (.cells #[.string a, .int .i64 n, a2, a3] 53)) w1) := by simpa [Hid] using hb1
      have y10 := box_at _ _ hbel1.out 0 (.string a) rfl
      have y11 := box_at _ _ hbel1.out 1 (.int .i64 n) rfl
      have y12 := box_at _ _ hbel1.out 2 (a2) rfl
      have y13 := box_at _ _ hbel1.out 3 (a3) rfl
      clear hb1
      go_wp2_with fail
      go_ret
      exact ⟨rfl, below_end hbel1.out⟩

set_option maxRecDepth 100000 in
set_option maxHeartbeats 4000000 in
theorem outOk_any (S : Nat → Prop) (a : ByteArray) (a1 a2 : Value) (nb : Nat) (v0 v1 v2 v3 : Value) (lots : List DStuffLot) (ves : List DStuffVessel) (w : World) (hK : CapBook S w nb v0 v1 v2 v3 lots ves) (ha : a.size ≤ maxLen) :
    Calls Tryz.prog 91 #[.agg #[.string a, a1, a2], .pointer (some ⟨nb, 0, none⟩)] w fun e w' => e = .returned (.bool (nameB a && !decide (0 ≤ idxI ves (fun p : DStuffVessel => eqB p.1 a)))) ∧ Below w.heap.size w w' := by
  have qx0 := fun o => cell_past hK.c0 hK.lt o
  have qx1 := fun o => cell_past hK.c1 hK.lt o
  have qx2 := fun o => cell_past hK.c2 hK.lt o
  have qx3 := fun o => cell_past hK.c3 hK.lt o
  have HK : Hid (CapBook S w nb v0 v1 v2 v3 lots ves) := hK
  clear hK
  have hneg : decide (idxI ves (fun p : DStuffVessel => eqB p.1 a) < 0) = !decide (0 ≤ idxI ves (fun p : DStuffVessel => eqB p.1 a)) := by
    rw [Bool.eq_iff_iff]; simp
  cases h0 : nameB a
  · go_enter Tryz.func91, Tryz.ntmps91
    go_wp2_with fail
    refine (nameI_any _ _ ha).mono ?_
    rintro e w1 ⟨rfl, hb1⟩
    rw [h0]
    have hbel1 : Hid (Below (w.heap.size + 1) (w.alloc (.cells #[.string a, a1, a2] 55)) w1) := by simpa [Hid] using hb1
    have y10 := box_at _ _ hbel1.out 0 (.string a) rfl
    have y11 := box_at _ _ hbel1.out 1 (a1) rfl
    have y12 := box_at _ _ hbel1.out 2 (a2) rfl
    clear hb1
    have x10 := (HK.out.below (below_end hbel1.out) (Nat.le_refl _)).c0
    have x11 := (HK.out.below (below_end hbel1.out) (Nat.le_refl _)).c1
    have x12 := (HK.out.below (below_end hbel1.out) (Nat.le_refl _)).c2
    have x13 := (HK.out.below (below_end hbel1.out) (Nat.le_refl _)).c3
    go_wp2_with fail
    go_ret
    exact ⟨rfl, below_end hbel1.out⟩
  · go_enter Tryz.func91, Tryz.ntmps91
    go_wp2_with fail
    refine (nameI_any _ _ ha).mono ?_
    rintro e w1 ⟨rfl, hb1⟩
    rw [h0]
    have hbel1 : Hid (Below (w.heap.size + 1) (w.alloc (.cells #[.string a, a1, a2] 55)) w1) := by simpa [Hid] using hb1
    have y10 := box_at _ _ hbel1.out 0 (.string a) rfl
    have y11 := box_at _ _ hbel1.out 1 (a1) rfl
    have y12 := box_at _ _ hbel1.out 2 (a2) rfl
    clear hb1
    have x10 := (HK.out.below (below_end hbel1.out) (Nat.le_refl _)).c0
    have x11 := (HK.out.below (below_end hbel1.out) (Nat.le_refl _)).c1
    have x12 := (HK.out.below (below_end hbel1.out) (Nat.le_refl _)).c2
    have x13 := (HK.out.below (below_end hbel1.out) (Nat.le_refl _)).c3
    have K1 := HK.out.below (below_end hbel1.out) (Nat.le_refl _)
    go_wp2_with fail
    refine (vesselAtI_any S _ _ _ _ ves _ _ K1.ves K1.sub).mono ?_
    rintro e w2 ⟨rfl, hb2⟩
    have hbel2 : Hid (Below (w.heap.size + 1) (w.alloc (.cells #[.string a, a1, a2] 55)) w2) := below_of hbel1.out hb2
    have y20 := box_at _ _ hbel2.out 0 (.string a) rfl
    have y21 := box_at _ _ hbel2.out 1 (a1) rfl
    have y22 := box_at _ _ hbel2.out 2 (a2) rfl
    clear hb2
    go_wp2_with fail
    go_ret
    exact ⟨rfl, below_end hbel2.out⟩

set_option maxRecDepth 100000 in
set_option maxHeartbeats 4000000 in
theorem isLot_any (S : Nat → Prop) (a : ByteArray) (nb : Nat) (v0 v1 v2 v3 : Value) (lots : List DStuffLot) (ves : List DStuffVessel) (w : World) (hK : CapBook S w nb v0 v1 v2 v3 lots ves) :
    Calls Tryz.prog 130 #[.string a, .pointer (some ⟨nb, 0, none⟩)] w fun e w' => e = .returned (.bool (decide (0 ≤ idxI lots (fun p : DStuffLot => eqB p.1 a)))) ∧ Below w.heap.size w w' := by
  have x0 := hK.c0
  have x1 := hK.c1
  have x2 := hK.c2
  have x3 := hK.c3
  have HK : Hid (CapBook S w nb v0 v1 v2 v3 lots ves) := hK
  clear hK
  go_enter Tryz.func130, Tryz.ntmps130
  go_wp2_with fail
  refine (lotAtI_any S _ _ _ _ lots _ _ HK.out.lots HK.out.sub).mono ?_
  rintro e w1 ⟨rfl, hb1⟩
  go_wp2_with fail
  go_ret
  exact ⟨rfl, hb1⟩

set_option maxRecDepth 100000 in
set_option maxHeartbeats 4000000 in
theorem partOk_any (S : Nat → Prop) (a : ByteArray) (n : Int) (nb : Nat) (v : Value) (may : List ByteArray) (w : World) (hK : CapMay S w nb v may) :
    Calls Tryz.prog 135 #[.agg #[.string a, .int .i64 n], .pointer (some ⟨nb, 0, none⟩)] w fun e w' => e = .returned (.bool (inB n 1 1000 && hasB may a)) ∧ Below w.heap.size w w' := by
  have qx0 := fun o => cell_past hK.c0 hK.lt o
  have HK : Hid (CapMay S w nb v may) := hK
  clear hK
  by_cases h1 : 1 ≤ n
  · have d1 : decide ((1 : Int) ≤ n) = true := by simp; omega
    by_cases h2 : n ≤ 1000
    · have d2 : decide (n ≤ (1000 : Int)) = true := by simp; omega
      have hin : inB n 1 1000 = true := by simp [inB]; omega
      rw [hin]
      go_enter Tryz.func135, Tryz.ntmps135
      go_wp2_with fail
      refine (hasI_any S v may a _ (HK.out.may.same (Same.of_alloc w _ HK.out.sub))).mono ?_
      rintro e w1 ⟨rfl, rfl⟩
      go_wp2_with fail
      go_ret
      exact ⟨rfl, (Below.refl _ _).alloc (Nat.le_refl _) _⟩
    · have d2 : decide (n ≤ (1000 : Int)) = false := by simp; omega
      have hin : inB n 1 1000 = false := by simp [inB]; omega
      rw [hin]
      go_enter Tryz.func135, Tryz.ntmps135
      go_wp2_with fail
      go_ret
      exact ⟨rfl, (Below.refl _ _).alloc (Nat.le_refl _) _⟩
  · have d1 : decide ((1 : Int) ≤ n) = false := by simp; omega
    have hin : inB n 1 1000 = false := by simp [inB]; omega
    rw [hin]
    go_enter Tryz.func135, Tryz.ntmps135
    go_wp2_with fail
    go_ret
    exact ⟨rfl, (Below.refl _ _).alloc (Nat.le_refl _) _⟩

end Go.Proofs.YthleodbbppgadaaGreat
