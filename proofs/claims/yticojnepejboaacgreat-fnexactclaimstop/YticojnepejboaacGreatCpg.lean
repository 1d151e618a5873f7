/-
  Contracts of the program's tests of one foe, spot and part of a book of claims, and of lists of them.
-/
import Derived.Test.YticojnepejboaacGreatCpf
import Derived.Test.YticojnepejboaacGreatCz
namespace Go.Proofs.YticojnepejboaacGreat
open Go.RowKit

/-- Are the amounts of a spot as they are to be? -/
def withB (cap least most : Int) : Bool := decide (0 ≤ least) && (decide (least ≤ most) && (decide (most ≤ cap) && decide (cap ≤ 1000)))
/-- Is a spot as it is to be, as the program asks? -/
noncomputable def spI (M : ByteArray → ByteArray → Int) (nm : ByteArray) (cap least most : Int) (may : List ByteArray) : Bool :=
  nameB nm && (withB cap least most && (okB 8 (tst nameB ltB) may && !pairB (fun x y => decide (0 < M x y)) may))
/-- Is a part as it is to be, by itself? -/
noncomputable def paI (sp : List DClaimSpot) (va : List ByteArray) (seen : Int) (a : DClaimWant) : Bool :=
  decide (a.1 ≤ seen) && (wantI a && knowB sp va a.2.2.2.1 a.2.2.2.2.1 a.2.2.2.2.2)
theorem atl_len {α : Type} [Lay α] {S : Nat → Prop} {w : World} {l : List α} {v : Value} (h : AtL S w l v) : l.length ≤ maxLen := by
  obtain ⟨_, _, _, h, _⟩ := h
  exact h.1
/-- A map of foes in a box that a test has caught. -/
structure CapM (w : World) (nb m : Nat) (M : ByteArray → ByteArray → Int) : Prop where
  lt : nb < w.heap.size
  c0 : w.cell? ⟨nb, 0, none⟩ = some (.map (some m))
  mp : Mp w m M
theorem CapM.below {w w' : World} {nb B m : Nat} {M : ByteArray → ByteArray → Int} (h : CapM w nb m M) (hb : Below B w w') (hB : w.heap.size ≤ B) : CapM w' nb m M := by
  have hn := h.lt
  have hb' := hb.mono hB
  exact ⟨Nat.lt_of_lt_of_le hn hb'.size, (hb'.cell (p := ⟨nb, 0, none⟩) hn).trans h.c0, h.mp.below hb' h.mp.lt⟩
/-- A book in a box that a test has caught. -/
structure CapC (S : Nat → Prop) (w : World) (nb : Nat) (v0 v1 v2 v3 : Value) (seen : Int) (sp : List DClaimSpot) (va : List ByteArray) : Prop where
  lt : nb < w.heap.size
  c0 : w.cell? ⟨nb, 0, none⟩ = some v0
  c1 : w.cell? ⟨nb, 1, none⟩ = some v1
  c2 : w.cell? ⟨nb, 2, none⟩ = some v2
  c3 : w.cell? ⟨nb, 3, none⟩ = some v3
  c4 : w.cell? ⟨nb, 4, none⟩ = some (.int .i64 seen)
  sp : AtL S w sp v1
  va : AtL S w va v2
  sub : ∀ b, S b → b < w.heap.size
theorem CapC.below {S : Nat → Prop} {w w' : World} {nb B : Nat} {v0 v1 v2 v3 : Value} {seen : Int} {sp : List DClaimSpot} {va : List ByteArray} (h : CapC S w nb v0 v1 v2 v3 seen sp va) (hb : Below B w w') (hB : w.heap.size ≤ B) : CapC S w' nb v0 v1 v2 v3 seen sp va := by
  have hn := h.lt
  have hb' := hb.mono hB
  have hs' := hb'.size
  exact ⟨by omega, (hb'.cell (p := ⟨nb, 0, none⟩) hn).trans h.c0, (hb'.cell (p := ⟨nb, 1, none⟩) hn).trans h.c1, (hb'.cell (p := ⟨nb, 2, none⟩) hn).trans h.c2, (hb'.cell (p := ⟨nb, 3, none⟩) hn).trans h.c3, (hb'.cell (p := ⟨nb, 4, none⟩) hn).trans h.c4, h.sp.same (Same.of_below hb' h.sub), h.va.same (Same.of_below hb' h.sub), fun b hb => by have := h.sub b hb; omega⟩

set_option maxRecDepth 100000 in
set_option maxHeartbeats 4000000 in
theorem foeOkC_any (a b : ByteArray) (w : World) (ha : a.size ≤ maxLen) (hb : b.size ≤ maxLen) :
    Calls Tryz.prog 89 #[.agg #[.string a, .string b]] w fun e w' => e = .returned (.bool (nameB a && nameB b && ltB a b)) ∧ Below w.heap.size w w' := by
  cases h0 : nameB a
  · go_enter Tryz.func89, Tryz.ntmps89
    go_wp2_with fail
    refine (nameI_any _ _ ha).mono ?_
    rintro e w1 ⟨rfl, hb1⟩
    rw [h0]
    have hbel1 : Hid (Below (w.heap.size + 1) (w.alloc (.cells #[.string a, .string b] 83)) w1) := by simpa [Hid] using hb1
    have y10 := box_at _ _ hbel1.out 0 (.string a) rfl
    have y11 := box_at _ _ hbel1.out 1 (.string b) rfl
    clear hb1
    go_wp2_with fail
    go_ret
    exact ⟨rfl, below_end hbel1.out⟩
  · cases h1 : nameB b
    · go_enter Tryz.func89, Tryz.ntmps89
      go_wp2_with fail
      refine (nameI_any _ _ ha).mono ?_
      rintro e w1 ⟨rfl, hb1⟩
      rw [h0]
      have hbel1 : Hid (Below (w.heap.size + 1) (w.alloc (.cells #[.string a, .string b] 83)) w1) := by simpa [Hid] using hb1
      have y10 := box_at _ _ hbel1.out 0 (.string a) rfl
      have y11 := box_at _ _ hbel1.out 1 (.string b) rfl
      clear hb1
      go_wp2_with fail
      refine (nameI_any _ _ hb).mono ?_
      rintro e w2 ⟨rfl, hb2⟩
      rw [h1]
      have hbel2 : Hid (Below (w.heap.size + 1) (w.alloc (.cells #[.string a, .string b] 83)) w2) := below_of hbel1.out hb2
      have y20 := box_at _ _ hbel2.out 0 (.string a) rfl
      have y21 := box_at _ _ hbel2.out 1 (.string b) rfl
      clear hb2
      go_wp2_with fail
      go_ret
      exact ⟨rfl, below_end hbel2.out⟩
    · go_enter Tryz.func89, Tryz.ntmps89
      go_wp2_with fail
      refine (nameI_any _ _ ha).mono ?_
      rintro e w1 ⟨rfl, hb1⟩
      rw [h0]
      have hbel1 : Hid (Below (w.heap.size + 1) (w.alloc (.cells #[.string a, .string b] 83)) w1) := by simpa [Hid] using hb1
      have y10 := box_at _ _ hbel1.out 0 (.string a) rfl
      have y11 := box_at _ _ hbel1.out 1 (.string b) rfl
      clear hb1
      go_wp2_with fail
      refine (nameI_any _ _ hb).mono ?_
      rintro e w2 ⟨rfl, hb2⟩
      rw [h1]
      have hbel2 : Hid (Below (w.heap.size + 1) (w.alloc (.cells #[.string a, .string b] 83)) w2) := below_of hbel1.out hb2
      have y20 := box_at _ _ hbel2.out 0 (.string a) rfl
      have y21 := box_at _ _ hbel2.out 1 (.string b) rfl
      clear hb2
      go_wp2_with fail
      go_ret
      exact ⟨rfl, below_end hbel2.out⟩

set_option maxRecDepth 100000 in
set_option maxHeartbeats 4000000 in
theorem spotOkI_any (S : Nat → Prop) (nm : ByteArray) (cap least most : Int) (om : Option Addr) (nm8 km : Nat) (may : List ByteArray) (nb m : Nat) (M : ByteArray → ByteArray → Int) (w : World) (hK : CapM w nb m M) (hz : nm.size ≤ maxLen) (hm : AtL S w may (.slice om nm8 km)) (hS : ∀ b, S b → b < w.heap.size) :
    Calls Tryz.prog 94 #[.agg #[.string nm, .int .i64 cap, .int .i64 least, .int .i64 most, .slice om nm8 km], .pointer (some ⟨nb, 0, none⟩)] w fun e w' => e = .returned (.bool (spI M nm cap least most may)) ∧ Below w.heap.size w w' := by
  have hmf : ∀ (fn : Fn) (first cap : Array Value) (w : World), (Instr.makeFunc fn first cap).run Tryz.prog w = .ok (.func fn first cap) w := fun _ _ _ _ => rfl
  have HK : Hid (CapM w nb m M) := hK
  have HM : Hid (∀ w', Below w.heap.size w w' → AtL S w' may (.slice om nm8 km)) := fun w' h => hm.same (Same.of_below h hS)
  clear hK hm
  cases d0 : decide (0 ≤ least)
  · have hw : withB cap least most = false := by unfold withB; rw [d0]; rfl
    cases h0 : nameB nm
    · go_enter Tryz.func94, Tryz.ntmps94
      go_wp2_with fail
      refine (nameI_any _ _ hz).mono ?_
      rintro e w1 ⟨rfl, hb1⟩
      rw [h0]
      have hbel1 : Hid (Below (w.heap.size + 1) (w.alloc (.cells #[.string nm, .int .i64 cap, .int .i64 least, .int .i64 most, .slice om nm8 km] 81)) w1) := by simpa [Hid] using hb1
      have y10 := box_at _ _ hbel1.out 0 (.string nm) rfl
      have y11 := box_at _ _ hbel1.out 1 (.int .i64 cap) rfl
      have y12 := box_at _ _ hbel1.out 2 (.int .i64 least) rfl
      have y13 := box_at _ _ hbel1.out 3 (.int .i64 most) rfl
      have y14 := box_at _ _ hbel1.out 4 (.slice om nm8 km) rfl
      clear hb1
      go_wp2_with fail
      go_ret
      exact ⟨(by rw [show spI M nm cap least most may = false by unfold spI; rw [h0]; rfl]; rfl), below_end hbel1.out⟩
    · go_enter Tryz.func94, Tryz.ntmps94
      go_wp2_with fail
      refine (nameI_any _ _ hz).mono ?_
      rintro e w1 ⟨rfl, hb1⟩
      rw [h0]
      have hbel1 : Hid (Below (w.heap.size + 1) (w.alloc (.cells #[.string nm, .int .i64 cap, .int .i64 least, .int .i64 most, .slice om nm8 km] 81)) w1) := by simpa [Hid] using hb1
      have y10 := box_at _ _ hbel1.out 0 (.string nm) rfl
      have y11 := box_at _ _ hbel1.out 1 (.int .i64 cap) rfl
      have y12 := box_at _ _ hbel1.out 2 (.int .i64 least) rfl
      have y13 := box_at _ _ hbel1.out 3 (.int .i64 most) rfl
      have y14 := box_at _ _ hbel1.out 4 (.slice om nm8 km) rfl
      clear hb1
      go_wp2_with fail
      go_ret
      exact ⟨(by rw [show spI M nm cap least most may = false by unfold spI; rw [h0, hw]; rfl]; rfl), below_end hbel1.out⟩
  · have _u := trivial
    cases d1 : decide (least ≤ most)
    · have hw : withB cap least most = false := by unfold withB; rw [d0, d1]; rfl
      cases h0 : nameB nm
      · go_enter Tryz.func94, Tryz.ntmps94
        go_wp2_with fail
        refine (nameI_any _ _ hz).mono ?_
        rintro e w1 ⟨rfl, hb1⟩
        rw [h0]
        have hbel1 : Hid (Below (w.heap.size + 1) (w.alloc (.cells #[.string nm, .int .i64 cap, .int .i64 least, .int .i64 most, .slice om nm8 km] 81)) w1) := by simpa [Hid] using hb1
        have y10 := box_at _ _ hbel1.out 0 (.string nm) rfl
        have y11 := box_at _ _ hbel1.out 1 (.int .i64 cap) rfl
        have y12 := box_at _ _ hbel1.out 2 (.int .i64 least) rfl
        have y13 := box_at _ _ hbel1.out 3 (.int .i64 most) rfl
        have y14 := box_at _ _ hbel1.out 4 (.slice om nm8 km) rfl
        clear hb1
        go_wp2_with fail
        go_ret
        exact ⟨(by rw [show spI M nm cap least most may = false by unfold spI; rw [h0]; rfl]; rfl), below_end hbel1.out⟩
      · go_enter Tryz.func94, Tryz.ntmps94
        go_wp2_with fail
        refine (nameI_any _ _ hz).mono ?_
        rintro e w1 ⟨rfl, hb1⟩
        rw [h0]
        have hbel1 : Hid (Below (w.heap.size + 1) (w.alloc (.cells #[.string nm, .int .i64 cap, .int .i64 least, .int .i64 most, .slice om nm8 km] 81)) w1) := by simpa [Hid] using hb1
        have y10 := box_at _ _ hbel1.out 0 (.string nm) rfl
        have y11 := box_at _ _ hbel1.out 1 (.int .i64 cap) rfl
        have y12 := box_at _ _ hbel1.out 2 (.int .i64 least) rfl
        have y13 := box_at _ _ hbel1.out 3 (.int .i64 most) rfl
        have y14 := box_at _ _ hbel1.out 4 (.slice om nm8 km) rfl
        clear hb1
        go_wp2_with fail
        go_ret
        exact ⟨(by rw [show spI M nm cap least most may = false by unfold spI; rw [h0, hw]; rfl]; rfl), below_end hbel1.out⟩
    · have _u := trivial
      cases d2 : decide (most ≤ cap)
      · have hw : withB cap least most = false := by unfold withB; rw [d0, d1, d2]; rfl
        cases h0 : nameB nm
        · go_enter Tryz.func94, Tryz.ntmps94
          go_wp2_with fail
          refine (nameI_any _ _ hz).mono ?_
          rintro e w1 ⟨rfl, hb1⟩
          rw [h0]
          have hbel1 : Hid (Below (w.heap.size + 1) (w.alloc (.cells #[.string nm, .int .i64 cap, .int .i64 least, .int .i64 most, .slice om nm8 km] 81)) w1) := by simpa [Hid] using hb1
          have y10 := box_at _ _ hbel1.out 0 (.string nm) rfl
          have y11 := box_at _ _ hbel1.out 1 (.int .i64 cap) rfl
          have y12 := box_at _ _ hbel1.out 2 (.int .i64 least) rfl
          have y13 := box_at _ _ hbel1.out 3 (.int .i64 most) rfl
          have y14 := box_at _ _ hbel1.out 4 (.slice om nm8 km) rfl
          clear hb1
          go_wp2_with fail
          go_ret
          exact ⟨(by rw [show spI M nm cap least most may = false by unfold spI; rw [h0]; rfl]; rfl), below_end hbel1.out⟩
        · go_enter Tryz.func94, Tryz.ntmps94
          go_wp2_with fail
          refine (nameI_any _ _ hz).mono ?_
          rintro e w1 ⟨rfl, hb1⟩
          rw [h0]
          have hbel1 : Hid (Below (w.heap.size + 1) (w.alloc (.cells #[.string nm, .int .i64 cap, .int .i64 least, .int .i64 most, .slice om nm8 km] 81)) w1) := by simpa [Hid] using hb1
          have y10 := box_at _ _ hbel1.out 0 (.string nm) rfl
          have y11 := box_at _ _ hbel1.out 1 (.int .i64 cap) rfl
          have y12 := box_at _ _ hbel1.out 2 (.int .i64 least) rfl
          have y13 := box_at _ _ hbel1.out 3 (.int .i64 most) rfl
          have y14 := box_at _ _ hbel1.out 4 (.slice om nm8 km) rfl
          clear hb1
          go_wp2_with fail
          go_ret
          exact ⟨(by rw [show spI M nm cap least most may = false by unfold spI; rw [h0, hw]; rfl]; rfl), below_end hbel1.out⟩
      · have _u := trivial
        cases d3 : decide (cap ≤ 1000)
        · have hw : withB cap least most = false := by unfold withB; rw [d0, d1, d2, d3]; rfl
          cases h0 : nameB nm
          · go_enter Tryz.func94, Tryz.ntmps94
            go_wp2_with fail
            refine (nameI_any _ _ hz).mono ?_
            rintro e w1 ⟨rfl, hb1⟩
            rw [h0]
            have hbel1 : Hid (Below (w.heap.size + 1) (w.alloc (.cells #[.string nm, .int .i64 cap, .int .i64 least, .int .i64 most, .slice om nm8 km] 81)) w1) := by simpa [Hid] using hb1
            have y10 := box_at _ _ hbel1.out 0 (.string nm) rfl
            have y11 := box_at _ _ hbel1.out 1 (.int .i64 cap) rfl
            have y12 := box_at _ _ hbel1.out 2 (.int .i64 least) rfl
            have y13 := box_at _ _ hbel1.out 3 (.int .i64 most) rfl
            have y14 := box_at _ _ hbel1.out 4 (.slice om nm8 km) rfl
            clear hb1
            go_wp2_with fail
            go_ret
            exact ⟨(by rw [show spI M nm cap least most may = false by unfold spI; rw [h0]; rfl]; rfl), below_end hbel1.out⟩
          · go_enter Tryz.func94, Tryz.ntmps94
            go_wp2_with fail
            refine (nameI_any _ _ hz).mono ?_
            rintro e w1 ⟨rfl, hb1⟩
            rw [h0]
            have hbel1 : Hid (Below (w.heap.size + 1) (w.alloc (.cells #[.string nm, .int .i64 cap, .int .i64 least, .int .i64 most, .slice om nm8 km] 81)) w1) := by simpa [Hid] using hb1
            have y10 := box_at _ _ hbel1.out 0 (.string nm) rfl
            have y11 := box_at _ _ hbel1.out 1 (.int .i64 cap) rfl
            have y12 := box_at _ _ hbel1.out 2 (.int .i64 least) rfl
            have y13 := box_at _ _ hbel1.out 3 (.int .i64 most) rfl
            have y14 := box_at _ _ hbel1.out 4 (.slice om nm8 km) rfl
            clear hb1
            go_wp2_with fail
            go_ret
            exact ⟨(by rw [show spI M nm cap least most may = false by unfold spI; rw [h0, hw]; rfl]; rfl), below_end hbel1.out⟩
        · have _u := trivial
          have hw : withB cap least most = true := by unfold withB; rw [d0, d1, d2, d3]; rfl
          cases h0 : nameB nm
          · go_enter Tryz.func94, Tryz.ntmps94
            go_wp2_with fail
            refine (nameI_any _ _ hz).mono ?_
            rintro e w1 ⟨rfl, hb1⟩
            rw [h0]
            have hbel1 : Hid (Below (w.heap.size + 1) (w.alloc (.cells #[.string nm, .int .i64 cap, .int .i64 least, .int .i64 most, .slice om nm8 km] 81)) w1) := by simpa [Hid] using hb1
            have y10 := box_at _ _ hbel1.out 0 (.string nm) rfl
            have y11 := box_at _ _ hbel1.out 1 (.int .i64 cap) rfl
            have y12 := box_at _ _ hbel1.out 2 (.int .i64 least) rfl
            have y13 := box_at _ _ hbel1.out 3 (.int .i64 most) rfl
            have y14 := box_at _ _ hbel1.out 4 (.slice om nm8 km) rfl
            clear hb1
            go_wp2_with fail
            go_ret
            exact ⟨(by rw [show spI M nm cap least most may = false by unfold spI; rw [h0]; rfl]; rfl), below_end hbel1.out⟩
          · cases h1 : okB 8 (tst nameB ltB) may
            · go_enter Tryz.func94, Tryz.ntmps94
              go_wp2_with fail
              refine (nameI_any _ _ hz).mono ?_
              rintro e w1 ⟨rfl, hb1⟩
              rw [h0]
              have hbel1 : Hid (Below (w.heap.size + 1) (w.alloc (.cells #[.string nm, .int .i64 cap, .int .i64 least, .int .i64 most, .slice om nm8 km] 81)) w1) := by simpa [Hid] using hb1
              have y10 := box_at _ _ hbel1.out 0 (.string nm) rfl
              have y11 := box_at _ _ hbel1.out 1 (.int .i64 cap) rfl
              have y12 := box_at _ _ hbel1.out 2 (.int .i64 least) rfl
              have y13 := box_at _ _ hbel1.out 3 (.int .i64 most) rfl
              have y14 := box_at _ _ hbel1.out 4 (.slice om nm8 km) rfl
              clear hb1
              have B1 := below_end hbel1.out
              have S1 : ∀ b, S b → b < w1.heap.size := fun b hb => by have := hS b hb; have := B1.size; omega
              go_wp2_with fail
              refine (names_any S _ may 8 _ (HM.out _ B1) S1).mono ?_
              rintro e w2 ⟨rfl, hb2⟩
              rw [h1]
              have hbel2 : Hid (Below (w.heap.size + 1) (w.alloc (.cells #[.string nm, .int .i64 cap, .int .i64 least, .int .i64 most, .slice om nm8 km] 81)) w2) := below_of hbel1.out hb2
              have y20 := box_at _ _ hbel2.out 0 (.string nm) rfl
              have y21 := box_at _ _ hbel2.out 1 (.int .i64 cap) rfl
              have y22 := box_at _ _ hbel2.out 2 (.int .i64 least) rfl
              have y23 := box_at _ _ hbel2.out 3 (.int .i64 most) rfl
              have y24 := box_at _ _ hbel2.out 4 (.slice om nm8 km) rfl
              clear hb2
              go_wp2_with fail
              go_ret
              exact ⟨(by rw [show spI M nm cap least most may = false by unfold spI; rw [h0, hw, h1]; rfl]; rfl), below_end hbel2.out⟩
            · go_enter Tryz.func94, Tryz.ntmps94
              go_wp2_with fail
              refine (nameI_any _ _ hz).mono ?_
              rintro e w1 ⟨rfl, hb1⟩
              rw [h0]
              have hbel1 : Hid (Below (w.heap.size + 1) (w.alloc (.cells #[.string nm, .int .i64 cap, .int .i64 least, .int .i64 most, .slice om nm8 km] 81)) w1) := by simpa [Hid] using hb1
              have y10 := box_at _ _ hbel1.out 0 (.string nm) rfl
              have y11 := box_at _ _ hbel1.out 1 (.int .i64 cap) rfl
              have y12 := box_at _ _ hbel1.out 2 (.int .i64 least) rfl
              have y13 := box_at _ _ hbel1.out 3 (.int .i64 most) rfl
              have y14 := box_at _ _ hbel1.out 4 (.slice om nm8 km) rfl
              clear hb1
              have B1 := below_end hbel1.out
              have S1 : ∀ b, S b → b < w1.heap.size := fun b hb => by have := hS b hb; have := B1.size; omega
              go_wp2_with fail
              refine (names_any S _ may 8 _ (HM.out _ B1) S1).mono ?_
              rintro e w2 ⟨rfl, hb2⟩
              rw [h1]
              have hbel2 : Hid (Below (w.heap.size + 1) (w.alloc (.cells #[.string nm, .int .i64 cap, .int .i64 least, .int .i64 most, .slice om nm8 km] 81)) w2) := below_of hbel1.out hb2
              have y20 := box_at _ _ hbel2.out 0 (.string nm) rfl
              have y21 := box_at _ _ hbel2.out 1 (.int .i64 cap) rfl
              have y22 := box_at _ _ hbel2.out 2 (.int .i64 least) rfl
              have y23 := box_at _ _ hbel2.out 3 (.int .i64 most) rfl
              have y24 := box_at _ _ hbel2.out 4 (.slice om nm8 km) rfl
              clear hb2
              have B2 := below_end hbel2.out
              have K2 := HK.out.below B2 (Nat.le_refl _)
              have x20 := K2.c0
              go_wp2_with fail
              refine (pairS_any S _ may m M _ (HM.out _ B2) K2.mp).mono ?_
              rintro e w3 ⟨rfl, rfl⟩
              go_wp2_with fail
              go_ret
              exact ⟨(by rw [show spI M nm cap least most may = (!pairB (fun x y => decide (0 < M x y)) may) by unfold spI; rw [h0, hw, h1]; rfl]; rfl), below_end hbel2.out⟩

set_option maxRecDepth 100000 in
set_option maxHeartbeats 4000000 in
theorem partOkI_any (S : Nat → Prop) (a : DClaimWant) (o2 o3 o4 o5 : Option Addr) (n2 n3 n4 n5 k2 k3 k4 k5 : Nat) (st : Value) (nb : Nat) (v0 v1 v2 v3 : Value) (seen : Int) (sp : List DClaimSpot) (va : List ByteArray) (w : World) (hK : CapC S w nb v0 v1 v2 v3 seen sp va) (h2 : AtL S w a.2.2.1 (.slice o2 n2 k2)) (h3 : AtL S w a.2.2.2.1 (.slice o3 n3 k3)) (h4 : AtL S w a.2.2.2.2.1 (.slice o4 n4 k4)) (h5 : AtL S w a.2.2.2.2.2 (.slice o5 n5 k5)) (m2 : a.2.2.1.length = n2) (m3 : a.2.2.2.1.length = n3) (m4 : a.2.2.2.2.1.length = n4) (m5 : a.2.2.2.2.2.length = n5) :
    Calls Tryz.prog 100 #[.agg #[.int .i64 a.1, .int .i64 a.2.1, .slice o2 n2 k2, .slice o3 n3 k3, .slice o4 n4 k4, .slice o5 n5 k5, st], .pointer (some ⟨nb, 0, none⟩)] w fun e w' => e = .returned (.bool (paI sp va seen a)) ∧ Below w.heap.size w w' := by
  have hS := hK.sub
  have b2 : n2 ≤ maxLen := m2 ▸ atl_len h2
  have b3 : n3 ≤ maxLen := m3 ▸ atl_len h3
  have b4 : n4 ≤ maxLen := m4 ▸ atl_len h4
  have b5 : n5 ≤ maxLen := m5 ▸ atl_len h5
  have H2 : Hid (∀ w', Below w.heap.size w w' → AtL S w' a.2.2.1 (.slice o2 n2 k2)) := fun w' h => h2.same (Same.of_below h hS)
  have H3 : Hid (∀ w', Below w.heap.size w w' → AtL S w' a.2.2.2.1 (.slice o3 n3 k3)) := fun w' h => h3.same (Same.of_below h hS)
  have H4 : Hid (∀ w', Below w.heap.size w w' → AtL S w' a.2.2.2.2.1 (.slice o4 n4 k4)) := fun w' h => h4.same (Same.of_below h hS)
  have H5 : Hid (∀ w', Below w.heap.size w w' → AtL S w' a.2.2.2.2.2 (.slice o5 n5 k5)) := fun w' h => h5.same (Same.of_below h hS)
  have qx0 := fun o => cell_past hK.c0 hK.lt o
  have qx1 := fun o => cell_past hK.c1 hK.lt o
  have qx2 := fun o => cell_past hK.c2 hK.lt o
  have qx3 := fun o => cell_past hK.c3 hK.lt o
  have qx4 := fun o => cell_past hK.c4 hK.lt o
  have HK : Hid (CapC S w nb v0 v1 v2 v3 seen sp va) := hK
  have B0 : Hid (Below w.heap.size w (w.alloc (.cells #[.int .i64 a.1, .int .i64 a.2.1, .slice o2 n2 k2, .slice o3 n3 k3, .slice o4 n4 k4, .slice o5 n5 k5, st] 50))) := (Below.refl _ _).alloc (Nat.le_refl _) _
  have S0 : ∀ b, S b → b < (w.alloc (.cells #[.int .i64 a.1, .int .i64 a.2.1, .slice o2 n2 k2, .slice o3 n3 k3, .slice o4 n4 k4, .slice o5 n5 k5, st] 50)).heap.size := fun b hb => by have := hS b hb; simp; omega
  clear hK h2 h3 h4 h5
  cases d0 : decide (a.1 ≤ seen)
  · go_enter Tryz.func100, Tryz.ntmps100
    go_wp2_with fail
    go_ret
    exact ⟨(by rw [show paI sp va seen a = false by unfold paI; rw [d0]; rfl]; rfl), B0.out⟩
  · cases c0 : wantI a
    · go_enter Tryz.func100, Tryz.ntmps100
      go_wp2_with fail
      refine (wantI_any S a o2 o3 o4 o5 n2 n3 n4 n5 k2 k3 k4 k5 _ (H2.out _ B0.out) (H3.out _ B0.out) (H4.out _ B0.out) (H5.out _ B0.out) S0 m2 m3 m4 m5 b2 b3 b4 b5).mono ?_
      rintro e w1 ⟨rfl, hb1⟩
      rw [c0]
      have hbel1 : Hid (Below (w.heap.size + 1) (w.alloc (.cells #[.int .i64 a.1, .int .i64 a.2.1, .slice o2 n2 k2, .slice o3 n3 k3, .slice o4 n4 k4, .slice o5 n5 k5, st] 50)) w1) := by simpa [Hid] using hb1
      have y10 := box_at _ _ hbel1.out 0 (.int .i64 a.1) rfl
      have y11 := box_at _ _ hbel1.out 1 (.int .i64 a.2.1) rfl
      have y12 := box_at _ _ hbel1.out 2 (.slice o2 n2 k2) rfl
      have y13 := box_at _ _ hbel1.out 3 (.slice o3 n3 k3) rfl
      have y14 := box_at _ _ hbel1.out 4 (.slice o4 n4 k4) rfl
      have y15 := box_at _ _ hbel1.out 5 (.slice o5 n5 k5) rfl
      have y16 := box_at _ _ hbel1.out 6 (st) rfl
      clear hb1
      go_wp2_with fail
      go_ret
      exact ⟨(by rw [show paI sp va seen a = false by unfold paI; rw [d0, c0]; rfl]; rfl), below_end hbel1.out⟩
    · go_enter Tryz.func100, Tryz.ntmps100
      go_wp2_with fail
      refine (wantI_any S a o2 o3 o4 o5 n2 n3 n4 n5 k2 k3 k4 k5 _ (H2.out _ B0.out) (H3.out _ B0.out) (H4.out _ B0.out) (H5.out _ B0.out) S0 m2 m3 m4 m5 b2 b3 b4 b5).mono ?_
      rintro e w1 ⟨rfl, hb1⟩
      rw [c0]
      have hbel1 : Hid (Below (w.heap.size + 1) (w.alloc (.cells #[.int .i64 a.1, .int .i64 a.2.1, .slice o2 n2 k2, .slice o3 n3 k3, .slice o4 n4 k4, .slice o5 n5 k5, st] 50)) w1) := by simpa [Hid] using hb1
      have y10 := box_at _ _ hbel1.out 0 (.int .i64 a.1) rfl
      have y11 := box_at _ _ hbel1.out 1 (.int .i64 a.2.1) rfl
      have y12 := box_at _ _ hbel1.out 2 (.slice o2 n2 k2) rfl
      have y13 := box_at _ _ hbel1.out 3 (.slice o3 n3 k3) rfl
      have y14 := box_at _ _ hbel1.out 4 (.slice o4 n4 k4) rfl
      have y15 := box_at _ _ hbel1.out 5 (.slice o5 n5 k5) rfl
      have y16 := box_at _ _ hbel1.out 6 (st) rfl
      clear hb1
      have B1 := below_end hbel1.out
      have K1 := HK.out.below B1 (Nat.le_refl _)
      have x0 := K1.c0
      have x1 := K1.c1
      have x2 := K1.c2
      have x3 := K1.c3
      have x4 := K1.c4
      go_wp2_with fail
      refine (knowsI_any S _ _ _ _ _ _ _ _ _ _ _ sp va _ _ _ _ K1.sp K1.va (H3.out _ B1) (H4.out _ B1) (H5.out _ B1) K1.sub).mono ?_
      rintro e w2 ⟨rfl, hb2⟩
      go_wp2_with fail
      go_ret
      exact ⟨(by rw [show paI sp va seen a = knowB sp va a.2.2.2.1 a.2.2.2.2.1 a.2.2.2.2.2 by unfold paI; rw [d0, c0]; simp]; rfl), B1.trans (hb2.mono B1.size)⟩

set_option maxRecDepth 100000 in
set_option maxHeartbeats 4000000 in
theorem listClaimFoe_any (S : Nat → Prop) (v : Value) (l : List DClaimFoe) (lim : Nat) (w : World) (h : AtL S w l v) (hS : ∀ b, S b → b < w.heap.size) :
    Calls Tryz.prog 87 #[v, .int .i64 lim, .func (.func 88) #[] #[], .func (.func 89) #[] #[]] w fun e w' => e = .returned (.bool (okB lim (tst (fun f : DClaimFoe => nameB f.1 && nameB f.2 && ltB f.1 f.2) (fun p f : DClaimFoe => befB p f)) l)) ∧ Below w.heap.size w w' := by
  have H : Hid (AtL S w l v) := h
  obtain ⟨oa, cap, hv, hn, hc⟩ := h
  rw [hv] at H
  subst hv
  obtain ⟨n, en⟩ : ∃ n, l.length = n := ⟨_, rfl⟩
  rw [en] at hn H
  rw [en]
  unfold maxLen at hn
  have HC : Hid _ := hc
  clear hc
  by_cases hl : n ≤ lim
  · have dl : decide (lim < n) = false := by simp; omega
    go_enter Tryz.func87, Tryz.ntmps87
    go_wp2
    go_loopw [17] (fun i wr => ∃ k : Nat, k ≤ n ∧ i = .int .i64 k ∧ Hid (∀ j (hj : j < l.length), j < k → (fun f : DClaimFoe => nameB f.1 && nameB f.2 && ltB f.1 f.2) l[j] = true) ∧ Hid (Below w.heap.size w wr)) (fun i _ => n - (intOf i).toNat)
    case atStart => exact ⟨0, Nat.zero_le _, rfl, fun _ _ h => by omega, Below.refl _ _⟩
    case round =>
      obtain ⟨k, hk, rfl, hall, hbel⟩ := hrel
      have hs := hbel.out.size
      have hSr : ∀ b, S b → b < wr.heap.size := fun b hb => by have := hS b hb; omega
      by_cases hlt : k < n
      · obtain ⟨b, off, rfl, hbS, ce, hcelle, hate⟩ := HC.out k (by omega)
        have hbb := hS b hbS
        have hbw := hbel.out
        rw [width_DClaimFoe] at hcelle
        have e0 : wr.cell? ⟨b, off + k * 2, none⟩ = some (ce 0) := (hbw.cell (p := ⟨b, off + k * 2, none⟩) (by show b < _; omega)).trans (by simpa using hcelle 0 (by omega))
        have e1 : wr.cell? ⟨b, off + k * 2 + 1, none⟩ = some (ce 1) := (hbw.cell (p := ⟨b, off + k * 2 + 1, none⟩) (by show b < _; omega)).trans (by simpa using hcelle 1 (by omega))
        clear hcelle
        have hate := Lay.same hate (Same.of_below hbw hS)
        rw [at_DClaimFoe] at hate
        obtain ⟨ef, eef⟩ : ∃ f, l[k]'(by omega) = f := ⟨_, rfl⟩
        rw [eef] at hate
        obtain ⟨⟨te0, ze0⟩, ⟨te1, ze1⟩⟩ := hate
        rw [te0] at e0
        rw [te1] at e1
        clear te0 te1
        clear hbw
        have hB1 : Hid (Below w.heap.size w (wr.alloc (.cells #[.string ef.1, .string ef.2] 83))) := hbel.out.alloc hs _
        have hP : (fun f : DClaimFoe => nameB f.1 && nameB f.2 && ltB f.1 f.2) (l[k]'(by omega)) = (nameB ef.1 && nameB ef.2 && ltB ef.1 ef.2) := by rw [eef]
        cases hy : (nameB ef.1 && nameB ef.2 && ltB ef.1 ef.2)
        · rw [hy] at hP
          go_wp2_with fail
          refine Calls.mono (foeOkC_any _ _ _ ze0 ze1) ?_
          rintro e w1 ⟨rfl, hb1⟩
          rw [hy]
          go_wp2_with fail
          rw [tst_no (k := k) (by omega) hP]
          go_ret
          exact ⟨rfl, hB1.out.trans (hb1.mono hB1.out.size)⟩
        · rw [hy] at hP
          go_wp2_with fail
          refine Calls.mono (foeOkC_any _ _ _ ze0 ze1) ?_
          rintro e w1 ⟨rfl, hb1⟩
          rw [hy]
          go_wp2_with fail
          go_roundw
          case rel => exact ⟨k + 1, by omega, by go_num, fun j hj hjk => by
            by_cases e : j = k
            · subst e; exact hP
            · exact hall.out j hj (by omega), hB1.out.trans (hb1.mono hB1.out.size)⟩
          case measure => simp [intOf]; omega
      · go_wp2_with (go_at_call 115; refine (ascClaimFoe_any S _ l _ (H.out.same (Same.of_below hbel.out hS)) hSr).mono ?_; rintro e w1 ⟨rfl, hb1⟩)
        rw [tst_asc (by omega) (fun j hj => hall.out j hj (by omega))]
        go_ret
        exact ⟨rfl, hbel.out.trans (hb1.mono hs)⟩
  · have dl : decide (lim < n) = true := by simp; omega
    rw [ok_long (by omega)]
    go_enter Tryz.func87, Tryz.ntmps87
    go_wp2
    go_ret
    exact ⟨rfl, Below.refl _ _⟩


set_option maxRecDepth 100000 in
set_option maxHeartbeats 4000000 in
theorem listClaimSpot_any (S : Nat → Prop) (nb m : Nat) (M : ByteArray → ByteArray → Int) (v : Value) (l : List DClaimSpot) (lim : Nat) (w : World) (h : AtL S w l v) (hS : ∀ b, S b → b < w.heap.size) (hK : CapM w nb m M) :
    Calls Tryz.prog 92 #[v, .int .i64 lim, .func (.func 93) #[] #[], .func (.func 94) #[] #[.pointer (some ⟨nb, 0, none⟩)]] w fun e w' => e = .returned (.bool (okB lim (tst (fun f : DClaimSpot => spI M f.1 f.2.1 f.2.2.1 f.2.2.2.1 f.2.2.2.2) (fun p f : DClaimSpot => ltB p.1 f.1)) l)) ∧ Below w.heap.size w w' := by
  have H : Hid (AtL S w l v) := h
  obtain ⟨oa, cap, hv, hn, hc⟩ := h
  rw [hv] at H
  subst hv
  obtain ⟨n, en⟩ : ∃ n, l.length = n := ⟨_, rfl⟩
  rw [en] at hn H
  rw [en]
  unfold maxLen at hn
  have HC : Hid _ := hc
  clear hc
  have HK : Hid (CapM w nb m M) := hK
  clear hK
  by_cases hl : n ≤ lim
  · have dl : decide (lim < n) = false := by simp; omega
    go_enter Tryz.func92, Tryz.ntmps92
    go_wp2
    go_loopw [17] (fun i wr => ∃ k : Nat, k ≤ n ∧ i = .int .i64 k ∧ Hid (∀ j (hj : j < l.length), j < k → (fun f : DClaimSpot => spI M f.1 f.2.1 f.2.2.1 f.2.2.2.1 f.2.2.2.2) l[j] = true) ∧ Hid (Below w.heap.size w wr)) (fun i _ => n - (intOf i).toNat)
    case atStart => exact ⟨0, Nat.zero_le _, rfl, fun _ _ h => by omega, Below.refl _ _⟩
    case round =>
      obtain ⟨k, hk, rfl, hall, hbel⟩ := hrel
      have hs := hbel.out.size
      have hSr : ∀ b, S b → b < wr.heap.size := fun b hb => by have := hS b hb; omega
      by_cases hlt : k < n
      · obtain ⟨b, off, rfl, hbS, ce, hcelle, hate⟩ := HC.out k (by omega)
        have hbb := hS b hbS
        have hbw := hbel.out
        rw [width_DClaimSpot] at hcelle
        have e0 : wr.cell? ⟨b, off + k * 5, none⟩ = some (ce 0) := (hbw.cell (p := ⟨b, off + k * 5, none⟩) (by show b < _; omega)).trans (by simpa using hcelle 0 (by omega))
        have e1 : wr.cell? ⟨b, off + k * 5 + 1, none⟩ = some (ce 1) := (hbw.cell (p := ⟨b, off + k * 5 + 1, none⟩) (by show b < _; omega)).trans (by simpa using hcelle 1 (by omega))
        have e2 : wr.cell? ⟨b, off + k * 5 + 2, none⟩ = some (ce 2) := (hbw.cell (p := ⟨b, off + k * 5 + 2, none⟩) (by show b < _; omega)).trans (by simpa using hcelle 2 (by omega))
        have e3 : wr.cell? ⟨b, off + k * 5 + 3, none⟩ = some (ce 3) := (hbw.cell (p := ⟨b, off + k * 5 + 3, none⟩) (by show b < _; omega)).trans (by simpa using hcelle 3 (by omega))
        have e4 : wr.cell? ⟨b, off + k * 5 + 4, none⟩ = some (ce 4) := (hbw.cell (p := ⟨b, off + k * 5 + 4, none⟩) (by show b < _; omega)).trans (by simpa using hcelle 4 (by omega))
        clear hcelle
        have hate := Lay.same hate (Same.of_below hbw hS)
        rw [at_DClaimSpot] at hate
        obtain ⟨ef, eef⟩ : ∃ f, l[k]'(by omega) = f := ⟨_, rfl⟩
        rw [eef] at hate
        obtain ⟨⟨te0, ze0⟩, ⟨te1, zle1, zhe1⟩, ⟨te2, zle2, zhe2⟩, ⟨te3, zle3, zhe3⟩, le4⟩ := hate
        obtain ⟨soe4, sce4, te4, _⟩ := id le4
        rw [te4] at le4
        have Ke4 : Hid _ := le4
        clear le4
        rw [te0] at e0
        rw [te1] at e1
        rw [te2] at e2
        rw [te3] at e3
        rw [te4] at e4
        clear te0 te1 te2 te3 te4
        clear hbw
        have hB1 : Hid (Below w.heap.size w (wr.alloc (.cells #[.string ef.1, .int .i64 ef.2.1, .int .i64 ef.2.2.1, .int .i64 ef.2.2.2.1, .slice soe4 ef.2.2.2.2.length sce4] 81))) := hbel.out.alloc hs _
        have KA : Hid (CapM (wr.alloc (.cells #[.string ef.1, .int .i64 ef.2.1, .int .i64 ef.2.2.1, .int .i64 ef.2.2.2.1, .slice soe4 ef.2.2.2.2.length sce4] 81)) nb m M) := HK.out.below hB1.out (Nat.le_refl _)
        have hP : (fun f : DClaimSpot => spI M f.1 f.2.1 f.2.2.1 f.2.2.2.1 f.2.2.2.2) (l[k]'(by omega)) = (spI M ef.1 ef.2.1 ef.2.2.1 ef.2.2.2.1 ef.2.2.2.2) := by rw [eef]
        cases hy : (spI M ef.1 ef.2.1 ef.2.2.1 ef.2.2.2.1 ef.2.2.2.2)
        · rw [hy] at hP
          go_wp2_with fail
          refine Calls.mono (spotOkI_any S _ _ _ _ _ _ _ _ nb m M _ KA.out ze0 (AtL.same Ke4.out (Same.of_below ((Below.refl _ _).alloc (Nat.le_refl _) _) hSr)) (fun b hb => by have := hSr b hb; simp; omega)) ?_
          rintro e w1 ⟨rfl, hb1⟩
          rw [hy]
          go_wp2_with fail
          rw [tst_no (k := k) (by omega) hP]
          go_ret
          exact ⟨rfl, hB1.out.trans (hb1.mono hB1.out.size)⟩
        · rw [hy] at hP
          go_wp2_with fail
          refine Calls.mono (spotOkI_any S _ _ _ _ _ _ _ _ nb m M _ KA.out ze0 (AtL.same Ke4.out (Same.of_below ((Below.refl _ _).alloc (Nat.le_refl _) _) hSr)) (fun b hb => by have := hSr b hb; simp; omega)) ?_
          rintro e w1 ⟨rfl, hb1⟩
          rw [hy]
          go_wp2_with fail
          go_roundw
          case rel => exact ⟨k + 1, by omega, by go_num, fun j hj hjk => by
            by_cases e : j = k
            · subst e; exact hP
            · exact hall.out j hj (by omega), hB1.out.trans (hb1.mono hB1.out.size)⟩
          case measure => simp [intOf]; omega
      · go_wp2_with (go_at_call 120; refine (ascClaimSpot_any S _ l _ (H.out.same (Same.of_below hbel.out hS)) hSr).mono ?_; rintro e w1 ⟨rfl, hb1⟩)
        rw [tst_asc (by omega) (fun j hj => hall.out j hj (by omega))]
        go_ret
        exact ⟨rfl, hbel.out.trans (hb1.mono hs)⟩
  · have dl : decide (lim < n) = true := by simp; omega
    rw [ok_long (by omega)]
    go_enter Tryz.func92, Tryz.ntmps92
    go_wp2
    go_ret
    exact ⟨rfl, Below.refl _ _⟩


set_option maxRecDepth 100000 in
set_option maxHeartbeats 4000000 in
theorem listClaimPart_any (S : Nat → Prop) (nb : Nat) (v0 v1 v2 v3 : Value) (seen : Int) (sp : List DClaimSpot) (va : List ByteArray) (v : Value) (l : List DClaimPart) (lim : Nat) (w : World) (h : AtL S w l v) (hS : ∀ b, S b → b < w.heap.size) (hK : CapC S w nb v0 v1 v2 v3 seen sp va) :
    Calls Tryz.prog 98 #[v, .int .i64 lim, .func (.func 99) #[] #[], .func (.func 100) #[] #[.pointer (some ⟨nb, 0, none⟩)]] w fun e w' => e = .returned (.bool (okB lim (tst (fun f : DClaimPart => paI sp va seen (f.1, f.2.1, f.2.2.1, f.2.2.2.1, f.2.2.2.2.1, f.2.2.2.2.2.1)) (fun p f : DClaimPart => decide (p.1 < f.1))) l)) ∧ Below w.heap.size w w' := by
  have H : Hid (AtL S w l v) := h
  obtain ⟨oa, cap, hv, hn, hc⟩ := h
  rw [hv] at H
  subst hv
  obtain ⟨n, en⟩ : ∃ n, l.length = n := ⟨_, rfl⟩
  rw [en] at hn H
  rw [en]
  unfold maxLen at hn
  have HC : Hid _ := hc
  clear hc
  have HK : Hid (CapC S w nb v0 v1 v2 v3 seen sp va) := hK
  clear hK
  by_cases hl : n ≤ lim
  · have dl : decide (lim < n) = false := by simp; omega
    go_enter Tryz.func98, Tryz.ntmps98
    go_wp2
    go_loopw [17] (fun i wr => ∃ k : Nat, k ≤ n ∧ i = .int .i64 k ∧ Hid (∀ j (hj : j < l.length), j < k → (fun f : DClaimPart => paI sp va seen (f.1, f.2.1, f.2.2.1, f.2.2.2.1, f.2.2.2.2.1, f.2.2.2.2.2.1)) l[j] = true) ∧ Hid (Below w.heap.size w wr)) (fun i _ => n - (intOf i).toNat)
    case atStart => exact ⟨0, Nat.zero_le _, rfl, fun _ _ h => by omega, Below.refl _ _⟩
    case round =>
      obtain ⟨k, hk, rfl, hall, hbel⟩ := hrel
      have hs := hbel.out.size
      have hSr : ∀ b, S b → b < wr.heap.size := fun b hb => by have := hS b hb; omega
      by_cases hlt : k < n
      · obtain ⟨b, off, rfl, hbS, ce, hcelle, hate⟩ := HC.out k (by omega)
        have hbb := hS b hbS
        have hbw := hbel.out
        rw [width_DClaimPart] at hcelle
        have e0 : wr.cell? ⟨b, off + k * 7, none⟩ = some (ce 0) := (hbw.cell (p := ⟨b, off + k * 7, none⟩) (by show b < _; omega)).trans (by simpa using hcelle 0 (by omega))
        have e1 : wr.cell? ⟨b, off + k * 7 + 1, none⟩ = some (ce 1) := (hbw.cell (p := ⟨b, off + k * 7 + 1, none⟩) (by show b < _; omega)).trans (by simpa using hcelle 1 (by omega))
        have e2 : wr.cell? ⟨b, off + k * 7 + 2, none⟩ = some (ce 2) := (hbw.cell (p := ⟨b, off + k * 7 + 2, none⟩) (by show b < _; omega)).trans (by simpa using hcelle 2 (by omega))
        have e3 : wr.cell? ⟨b, off + k * 7 + 3, none⟩ = some (ce 3) := (hbw.cell (p := ⟨b, off + k * 7 + 3, none⟩) (by show b < _; omega)).trans (by simpa using hcelle 3 (by omega))
        have e4 : wr.cell? ⟨b, off + k * 7 + 4, none⟩ = some (ce 4) := (hbw.cell (p := ⟨b, off + k * 7 + 4, none⟩) (by show b < _; omega)).trans (by simpa using hcelle 4 (by omega))
        have e5 : wr.cell? ⟨b, off + k * 7 + 5, none⟩ = some (ce 5) := (hbw.cell (p := ⟨b, off + k * 7 + 5, none⟩) (by show b < _; omega)).trans (by simpa using hcelle 5 (by omega))
        have e6 : wr.cell? ⟨b, off + k * 7 + 6, none⟩ = some (ce 6) := (hbw.cell (p := ⟨b, off + k * 7 + 6, none⟩) (by show b < _; omega)).trans (by simpa using hcelle 6 (by omega))
        clear hcelle
        have hate := Lay.same hate (Same.of_below hbw hS)
        rw [at_DClaimPart] at hate
        obtain ⟨ef, eef⟩ : ∃ f, l[k]'(by omega) = f := ⟨_, rfl⟩
        rw [eef] at hate
        obtain ⟨⟨te0, zle0, zhe0⟩, ⟨te1, zle1, zhe1⟩, le2, le3, le4, le5, te6⟩ := hate
        obtain ⟨soe2, sce2, te2, _⟩ := id le2
        rw [te2] at le2
        have Ke2 : Hid _ := le2
        clear le2
        obtain ⟨soe3, sce3, te3, _⟩ := id le3
        rw [te3] at le3
        have Ke3 : Hid _ := le3
        clear le3
        obtain ⟨soe4, sce4, te4, _⟩ := id le4
        rw [te4] at le4
        have Ke4 : Hid _ := le4
        clear le4
        obtain ⟨soe5, sce5, te5, _⟩ := id le5
        rw [te5] at le5
        have Ke5 : Hid _ := le5
        clear le5
        rw [te0] at e0
        rw [te1] at e1
        rw [te2] at e2
        rw [te3] at e3
        rw [te4] at e4
        rw [te5] at e5
        rw [te6] at e6
        clear te0 te1 te2 te3 te4 te5 te6
        clear hbw
        have hB1 : Hid (Below w.heap.size w (wr.alloc (.cells #[.int .i64 ef.1, .int .i64 ef.2.1, .slice soe2 ef.2.2.1.length sce2, .slice soe3 ef.2.2.2.1.length sce3, .slice soe4 ef.2.2.2.2.1.length sce4, .slice soe5 ef.2.2.2.2.2.1.length sce5, .bool ef.2.2.2.2.2.2] 50))) := hbel.out.alloc hs _
        have KA : Hid (CapC S (wr.alloc (.cells #[.int .i64 ef.1, .int .i64 ef.2.1, .slice soe2 ef.2.2.1.length sce2, .slice soe3 ef.2.2.2.1.length sce3, .slice soe4 ef.2.2.2.2.1.length sce4, .slice soe5 ef.2.2.2.2.2.1.length sce5, .bool ef.2.2.2.2.2.2] 50)) nb v0 v1 v2 v3 seen sp va) := HK.out.below hB1.out (Nat.le_refl _)
        have hP : (fun f : DClaimPart => paI sp va seen (f.1, f.2.1, f.2.2.1, f.2.2.2.1, f.2.2.2.2.1, f.2.2.2.2.2.1)) (l[k]'(by omega)) = (paI sp va seen (ef.1, ef.2.1, ef.2.2.1, ef.2.2.2.1, ef.2.2.2.2.1, ef.2.2.2.2.2.1)) := by rw [eef]
        cases hy : (paI sp va seen (ef.1, ef.2.1, ef.2.2.1, ef.2.2.2.1, ef.2.2.2.2.1, ef.2.2.2.2.2.1))
        · rw [hy] at hP
          go_wp2_with fail
          refine Calls.mono (partOkI_any S (ef.1, ef.2.1, ef.2.2.1, ef.2.2.2.1, ef.2.2.2.2.1, ef.2.2.2.2.2.1) _ _ _ _ _ _ _ _ _ _ _ _ _ nb v0 v1 v2 v3 seen sp va _ KA.out (AtL.same Ke2.out (Same.of_below ((Below.refl _ _).alloc (Nat.le_refl _) _) hSr)) (AtL.same Ke3.out (Same.of_below ((Below.refl _ _).alloc (Nat.le_refl _) _) hSr)) (AtL.same Ke4.out (Same.of_below ((Below.refl _ _).alloc (Nat.le_refl _) _) hSr)) (AtL.same Ke5.out (Same.of_below ((Below.refl _ _).alloc (Nat.le_refl _) _) hSr)) rfl rfl rfl rfl) ?_
          rintro e w1 ⟨rfl, hb1⟩
          rw [hy]
          go_wp2_with fail
          rw [tst_no (k := k) (by omega) hP]
          go_ret
          exact ⟨rfl, hB1.out.trans (hb1.mono hB1.out.size)⟩
        · rw [hy] at hP
          go_wp2_with fail
          refine Calls.mono (partOkI_any S (ef.1, ef.2.1, ef.2.2.1, ef.2.2.2.1, ef.2.2.2.2.1, ef.2.2.2.2.2.1) _ _ _ _ _ _ _ _ _ _ _ _ _ nb v0 v1 v2 v3 seen sp va _ KA.out (AtL.same Ke2.out (Same.of_below ((Below.refl _ _).alloc (Nat.le_refl _) _) hSr)) (AtL.same Ke3.out (Same.of_below ((Below.refl _ _).alloc (Nat.le_refl _) _) hSr)) (AtL.same Ke4.out (Same.of_below ((Below.refl _ _).alloc (Nat.le_refl _) _) hSr)) (AtL.same Ke5.out (Same.of_below ((Below.refl _ _).alloc (Nat.le_refl _) _) hSr)) rfl rfl rfl rfl) ?_
          rintro e w1 ⟨rfl, hb1⟩
          rw [hy]
          go_wp2_with fail
          go_roundw
          case rel => exact ⟨k + 1, by omega, by go_num, fun j hj hjk => by
            by_cases e : j = k
            · subst e; exact hP
            · exact hall.out j hj (by omega), hB1.out.trans (hb1.mono hB1.out.size)⟩
          case measure => simp [intOf]; omega
      · go_wp2_with (go_at_call 122; refine (ascClaimPart_any S _ l _ (H.out.same (Same.of_below hbel.out hS)) hSr).mono ?_; rintro e w1 ⟨rfl, hb1⟩)
        rw [tst_asc (by omega) (fun j hj => hall.out j hj (by omega))]
        go_ret
        exact ⟨rfl, hbel.out.trans (hb1.mono hs)⟩
  · have dl : decide (lim < n) = true := by simp; omega
    rw [ok_long (by omega)]
    go_enter Tryz.func98, Tryz.ntmps98
    go_wp2
    go_ret
    exact ⟨rfl, Below.refl _ _⟩


end Go.Proofs.YticojnepejboaacGreat
