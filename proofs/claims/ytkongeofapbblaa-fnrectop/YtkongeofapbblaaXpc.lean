/-
  To which ends the program tells that a recipe can come: it answers as the model.
-/
import Derived.Test.YtkongeofapbblaaXbe
namespace Go.Proofs.Ytkongeofapbblaa
open Go.RowKit

set_option maxRecDepth 100000 in
set_option maxHeartbeats 4000000 in
theorem mayI_any (S : Nat → Prop) (r : List DRecPhase) (v : Value) (x : ByteArray) (q : Int) (w : World) (h : AtL S w r v) (hS : ∀ b, S b → b < w.heap.size) (ht : totL r ≤ 1048576) :
    Calls Try.prog 10 #[v, .string x, .int .i64 q] w fun e w' => e = .returned (.bool (recB r && inB q 1 3 && canF 12 r x q)) ∧ Below w.heap.size w w' := by
  obtain ⟨oa, cap, ev, _⟩ := id h
  obtain ⟨n, en⟩ : ∃ n, r.length = n := ⟨_, rfl⟩
  rw [en] at ev
  subst ev
  have HL : Hid (r.length = n) := en
  have H : Hid (∀ u, Below w.heap.size w u → AtL S u r (.slice oa n cap)) := fun u hu => h.same (Same.of_below hu hS)
  have HS : Hid (∀ u, Below w.heap.size w u → ∀ b, S b → b < u.heap.size) := fun u hu b hb => Nat.lt_of_lt_of_le (hS b hb) hu.size
  have B0 : Hid (Below w.heap.size w w) := Below.refl _ _
  clear h hS en
  cases hr : recB r
  · rw [Bool.false_and, Bool.false_and]
    go_enter Try.func10, Try.ntmps10
    go_wp2_with fail
    refine (okI_any S r _ _ (H.out _ B0.out) (HS.out _ B0.out) ht).mono ?_; rintro e w1 ⟨rfl, hb1⟩
    have B1 : Hid (Below w.heap.size w w1) := hb1
    clear hb1
    rw [hr]
    go_wp2_with fail
    go_ret
    exact ⟨rfl, B1.out⟩
  · have HR : Hid (RecP r) := rec_iff.1 hr
    rw [Bool.true_and]
    by_cases hlo : q < 1
    · have hin : inB q 1 3 = false := by simp [inB]; omega
      rw [hin, Bool.false_and]
      clear hin
      go_enter Try.func10, Try.ntmps10
      go_wp2_with fail
      refine (okI_any S r _ _ (H.out _ B0.out) (HS.out _ B0.out) ht).mono ?_; rintro e w1 ⟨rfl, hb1⟩
      have B1 : Hid (Below w.heap.size w w1) := hb1
      clear hb1
      rw [hr]
      go_wp2_with fail
      go_ret
      exact ⟨rfl, B1.out⟩
    · by_cases hhi : 3 < q
      · have hin : inB q 1 3 = false := by simp [inB]; omega
        rw [hin, Bool.false_and]
        clear hin
        go_enter Try.func10, Try.ntmps10
        go_wp2_with fail
        refine (okI_any S r _ _ (H.out _ B0.out) (HS.out _ B0.out) ht).mono ?_; rintro e w1 ⟨rfl, hb1⟩
        have B1 : Hid (Below w.heap.size w w1) := hb1
        clear hb1
        rw [hr]
        go_wp2_with fail
        go_ret
        exact ⟨rfl, B1.out⟩
      · have hin : inB q 1 3 = true := by simp [inB]; omega
        rw [hin, Bool.true_and]
        clear hin
        rcases (show q = 1 ∨ q = 2 ∨ q = 3 by omega) with rfl | rfl | rfl
        · go_enter Try.func10, Try.ntmps10
          go_wp2_with fail
          refine (okI_any S r _ _ (H.out _ B0.out) (HS.out _ B0.out) ht).mono ?_; rintro e w1 ⟨rfl, hb1⟩
          have B1 : Hid (Below w.heap.size w w1) := hb1
          clear hb1
          rw [hr]
          go_wp2_with fail
          refine (tabE_any S r oa n cap _ HR.out (H.out _ B1.out) HL.out (HS.out _ B1.out)).mono ?_; rintro e w2 ⟨g, rfl, ⟨hg, hc⟩, hb2⟩
          have B2 : Hid (Below w.heap.size w w2) := B1.out.trans (hb2.mono B1.out.size)
          have HC : Hid _ := hc
          clear hb2 hc
          go_wp2_with fail
          refine (ofE_any S r oa n cap x g (fun j => canF 12 r x (j : Int)) _ (H.out _ B2.out) HL.out (HS.out _ B2.out) hg (fun k hk j hj => ?told) (fun e j => can_none e 12 (j : Int))).mono ?_
          case told =>
            rcases at_cases r x with e | ⟨k', hk', e, _⟩
            · omega
            · obtain rfl : k = k' := by omega
              have h1 := HC.out k (by have := HL.out; omega) j hj
              rw [phN_at hk', ← can_at HR.out hk' e 11] at h1
              exact h1
          rintro e w3 ⟨he, hb3⟩
          have he' : e = .returned (.agg #[.bool (canF 12 r x 0), .bool (canF 12 r x 1), .bool (canF 12 r x 2), .bool (canF 12 r x 3)]) := he
          clear he
          subst he'
          have B3 : Hid (Below w.heap.size w w3) := B2.out.trans (hb3.mono B2.out.size)
          clear hb3
          have ix : ∀ W, (Instr.index 59 (.agg #[.bool (canF 12 r x 0), .bool (canF 12 r x 1), .bool (canF 12 r x 2), .bool (canF 12 r x 3)]) (.int .i64 1)).run Try.prog W = .ok (.bool (canF 12 r x 1)) W := fun W => by kernel_rfl
          go_wp2_with fail
          go_ret
          exact ⟨rfl, B3.out⟩
        · go_enter Try.func10, Try.ntmps10
          go_wp2_with fail
          refine (okI_any S r _ _ (H.out _ B0.out) (HS.out _ B0.out) ht).mono ?_; rintro e w1 ⟨rfl, hb1⟩
          have B1 : Hid (Below w.heap.size w w1) := hb1
          clear hb1
          rw [hr]
          go_wp2_with fail
          refine (tabE_any S r oa n cap _ HR.out (H.out _ B1.out) HL.out (HS.out _ B1.out)).mono ?_; rintro e w2 ⟨g, rfl, ⟨hg, hc⟩, hb2⟩
          have B2 : Hid (Below w.heap.size w w2) := B1.out.trans (hb2.mono B1.out.size)
          have HC : Hid _ := hc
          clear hb2 hc
          go_wp2_with fail
          refine (ofE_any S r oa n cap x g (fun j => canF 12 r x (j : Int)) _ (H.out _ B2.out) HL.out (HS.out _ B2.out) hg (fun k hk j hj => ?told) (fun e j => can_none e 12 (j : Int))).mono ?_
          case told =>
            rcases at_cases r x with e | ⟨k', hk', e, _⟩
            · omega
            · obtain rfl : k = k' := by omega
              have h1 := HC.out k (by have := HL.out; omega) j hj
              rw [phN_at hk', ← can_at HR.out hk' e 11] at h1
              exact h1
          rintro e w3 ⟨he, hb3⟩
          have he' : e = .returned (.agg #[.bool (canF 12 r x 0), .bool (canF 12 r x 1), .bool (canF 12 r x 2), .bool (canF 12 r x 3)]) := he
          clear he
          subst he'
          have B3 : Hid (Below w.heap.size w w3) := B2.out.trans (hb3.mono B2.out.size)
          clear hb3
          have ix : ∀ W, (Instr.index 59 (.agg #[.bool (canF 12 r x 0), .bool (canF 12 r x 1), .bool (canF 12 r x 2), .bool (canF 12 r x 3)]) (.int .i64 2)).run Try.prog W = .ok (.bool (canF 12 r x 2)) W := fun W => by kernel_rfl
          go_wp2_with fail
          go_ret
          exact ⟨rfl, B3.out⟩
        · go_enter Try.func10, Try.ntmps10
          go_wp2_with fail
          refine (okI_any S r _ _ (H.out _ B0.out) (HS.out _ B0.out) ht).mono ?_; rintro e w1 ⟨rfl, hb1⟩
          have B1 : Hid (Below w.heap.size w w1) := hb1
          clear hb1
          rw [hr]
          go_wp2_with fail
          refine (tabE_any S r oa n cap _ HR.out (H.out _ B1.out) HL.out (HS.out _ B1.out)).mono ?_; rintro e w2 ⟨g, rfl, ⟨hg, hc⟩, hb2⟩
          have B2 : Hid (Below w.heap.size w w2) := B1.out.trans (hb2.mono B1.out.size)
          have HC : Hid _ := hc
          clear hb2 hc
          go_wp2_with fail
          refine (ofE_any S r oa n cap x g (fun j => canF 12 r x (j : Int)) _ (H.out _ B2.out) HL.out (HS.out _ B2.out) hg (fun k hk j hj => ?told) (fun e j => can_none e 12 (j : Int))).mono ?_
          case told =>
            rcases at_cases r x with e | ⟨k', hk', e, _⟩
            · omega
            · obtain rfl : k = k' := by omega
              have h1 := HC.out k (by have := HL.out; omega) j hj
              rw [phN_at hk', ← can_at HR.out hk' e 11] at h1
              exact h1
          rintro e w3 ⟨he, hb3⟩
          have he' : e = .returned (.agg #[.bool (canF 12 r x 0), .bool (canF 12 r x 1), .bool (canF 12 r x 2), .bool (canF 12 r x 3)]) := he
          clear he
          subst he'
          have B3 : Hid (Below w.heap.size w w3) := B2.out.trans (hb3.mono B2.out.size)
          clear hb3
          have ix : ∀ W, (Instr.index 59 (.agg #[.bool (canF 12 r x 0), .bool (canF 12 r x 1), .bool (canF 12 r x 2), .bool (canF 12 r x 3)]) (.int .i64 3)).run Try.prog W = .ok (.bool (canF 12 r x 3)) W := fun W => by kernel_rfl
          go_wp2_with fail
          go_ret
          exact ⟨rfl, B3.out⟩

end Go.Proofs.Ytkongeofapbblaa
