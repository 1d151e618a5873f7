/-
  Several texts in one.
-/
import Derived.Test.YtkbocdkgkhgioacM1
/-
  Contracts of the laws' own measure of data.
-/
namespace Go.Proofs.Ytkbocdkgkhgioac
open Go.RowKit

set_option maxRecDepth 100000 in
set_option maxHeartbeats 4000000 in
theorem szRecPhase_any (S : Nat → Prop) (a : DRecPhase) (c : Nat → Value) (x : Int) (w : World) (h : Lay.At S w a c) (_hS : ∀ b, S b → b < w.heap.size) (h0 : 0 ≤ x) (h1 : x ≤ 1048576) :
    Calls Try.prog 25 #[.agg #[c 0, c 1, c 2, c 3, c 4, c 5, c 6, c 7], .int .i64 x] w fun e w' => ∃ y : Int, e = .returned (.int .i64 y) ∧ (y < 0 ∨ y + (Lay.tot a : Int) = x) ∧ Below w.heap.size w w' := by
  rw [tot_DRecPhase]
  rw [at_DRecPhase] at h
  obtain ⟨⟨e0, z0⟩, ⟨e1, z1, y1⟩, ⟨e2, z2⟩, ⟨e3, z3⟩, ⟨e4, z4, y4⟩, ⟨e5, z5, y5⟩, ⟨e6, z6⟩, ⟨e7, z7⟩⟩ := h
  rw [e0, e1, e2, e3, e4, e5, e6, e7]
  clear e0 e1 e2 e3 e4 e5 e6 e7
  unfold maxLen at z0
  unfold maxLen at z2
  unfold maxLen at z3
  unfold maxLen at z6
  unfold maxLen at z7
  have b0 : Hid (Below w.heap.size w (w.alloc (.cells #[.string a.1, .int .i64 a.2.1, .string a.2.2.1, .string a.2.2.2.1, .int .i64 a.2.2.2.2.1, .int .i64 a.2.2.2.2.2.1, .string a.2.2.2.2.2.2.1, .string a.2.2.2.2.2.2.2] 54))) := (Below.refl _ _).alloc (Nat.le_refl _) _
  go_enter Try.func25, Try.ntmps25
  by_cases n0 : x < (a.1.size : Int)
  · go_wp2_with fail
    go_ret
    exact ⟨_, rfl, Or.inl (by omega), b0.out⟩
  · have _u := trivial
    by_cases n2 : (x - (a.1.size : Int)) < (a.2.2.1.size : Int)
    · go_wp2_with fail
      go_ret
      exact ⟨_, rfl, Or.inl (by omega), b0.out⟩
    · have _u := trivial
      by_cases n3 : ((x - (a.1.size : Int)) - (a.2.2.1.size : Int)) < (a.2.2.2.1.size : Int)
      · go_wp2_with fail
        go_ret
        exact ⟨_, rfl, Or.inl (by omega), b0.out⟩
      · have _u := trivial
        by_cases n6 : (((x - (a.1.size : Int)) - (a.2.2.1.size : Int)) - (a.2.2.2.1.size : Int)) < (a.2.2.2.2.2.2.1.size : Int)
        · go_wp2_with fail
          go_ret
          exact ⟨_, rfl, Or.inl (by omega), b0.out⟩
        · have _u := trivial
          by_cases n7 : ((((x - (a.1.size : Int)) - (a.2.2.1.size : Int)) - (a.2.2.2.1.size : Int)) - (a.2.2.2.2.2.2.1.size : Int)) < (a.2.2.2.2.2.2.2.size : Int)
          · go_wp2_with fail
            go_ret
            exact ⟨_, rfl, Or.inl (by omega), b0.out⟩
          · have _u := trivial
            go_wp2_with fail
            go_ret
            exact ⟨_, rfl, Or.inr (by omega), b0.out⟩

end Go.Proofs.Ytkbocdkgkhgioac

/-
  Contracts of the laws' own measure of data.
-/
namespace Go.Proofs.Ytkbocdkgkhgioac
open Go.RowKit

set_option maxRecDepth 100000 in
set_option maxHeartbeats 4000000 in
theorem szRecPhaseS_any (S : Nat → Prop) (l : List DRecPhase) (v : Value) (x : Int) (w : World) (h : AtL S w l v) (hS : ∀ b, S b → b < w.heap.size) (h0 : 0 ≤ x) (h1 : x ≤ 1048576) :
    Calls Try.prog 9 #[v, .int .i64 x] w fun e w' => ∃ y : Int, e = .returned (.int .i64 y) ∧ (y < 0 ∨ y + (totL l : Int) = x) ∧ Below w.heap.size w w' := by
  obtain ⟨oa, cap, rfl, hn, hc⟩ := h
  have ht : totL l = l.length + sumTo l l.length := rfl
  obtain ⟨n, en⟩ : ∃ n, l.length = n := ⟨_, rfl⟩
  rw [en] at ht hn
  rw [en]
  unfold maxLen at hn
  have HC : Hid _ := hc
  clear hc
  have HT : Hid _ := ht
  clear ht
  by_cases hx : (n : Int) ≤ x
  · go_enter Try.func9, Try.ntmps9
    go_wp2
    go_loopw [1, 5] (fun q i wr => ∃ (k : Nat) (y : Int), k ≤ n ∧ i = .int .i64 k ∧ q = .int .i64 y ∧ 0 ≤ y ∧ y ≤ x ∧ Hid (y + ((n + sumTo l k : Nat) : Int) = x) ∧ Hid (Below w.heap.size w wr)) (fun _ i _ => n - (intOf i).toNat)
    case atStart => exact ⟨0, _, Nat.zero_le _, rfl, rfl, by omega, by omega, by rw [sumTo_zero]; show _ = _; omega, Below.refl _ _⟩
    case round =>
      obtain ⟨k, y, hk, rfl, rfl, hy0, hy1, hsum, hbel⟩ := hrel
      have hs := hbel.out.size
      by_cases hlt : k < n
      · obtain ⟨b, off, rfl, hbS, cc, hcell, hat⟩ := HC.out k (by omega)
        have hb := hS b hbS
        have hsu := sumTo_succ l k (by omega)
        rw [width_DRecPhase] at hcell
        have e0 : wr.cell? ⟨b, off + k * 8, none⟩ = some (cc 0) := (hbel.out.cell (p := ⟨b, off + k * 8, none⟩) (by show b < _; omega)).trans (by simpa using hcell 0 (by omega))
        have e1 : wr.cell? ⟨b, off + k * 8 + 1, none⟩ = some (cc 1) := (hbel.out.cell (p := ⟨b, off + k * 8 + 1, none⟩) (by show b < _; omega)).trans (by simpa using hcell 1 (by omega))
        have e2 : wr.cell? ⟨b, off + k * 8 + 2, none⟩ = some (cc 2) := (hbel.out.cell (p := ⟨b, off + k * 8 + 2, none⟩) (by show b < _; omega)).trans (by simpa using hcell 2 (by omega))
        have e3 : wr.cell? ⟨b, off + k * 8 + 3, none⟩ = some (cc 3) := (hbel.out.cell (p := ⟨b, off + k * 8 + 3, none⟩) (by show b < _; omega)).trans (by simpa using hcell 3 (by omega))
        have e4 : wr.cell? ⟨b, off + k * 8 + 4, none⟩ = some (cc 4) := (hbel.out.cell (p := ⟨b, off + k * 8 + 4, none⟩) (by show b < _; omega)).trans (by simpa using hcell 4 (by omega))
        have e5 : wr.cell? ⟨b, off + k * 8 + 5, none⟩ = some (cc 5) := (hbel.out.cell (p := ⟨b, off + k * 8 + 5, none⟩) (by show b < _; omega)).trans (by simpa using hcell 5 (by omega))
        have e6 : wr.cell? ⟨b, off + k * 8 + 6, none⟩ = some (cc 6) := (hbel.out.cell (p := ⟨b, off + k * 8 + 6, none⟩) (by show b < _; omega)).trans (by simpa using hcell 6 (by omega))
        have e7 : wr.cell? ⟨b, off + k * 8 + 7, none⟩ = some (cc 7) := (hbel.out.cell (p := ⟨b, off + k * 8 + 7, none⟩) (by show b < _; omega)).trans (by simpa using hcell 7 (by omega))
        clear hcell
        have HSU : Hid _ := hsu
        clear hsu
        have HAT : Hid _ := hat
        clear hat
        go_wp2_with fail
        refine (szRecPhase_any S _ cc _ _ (Lay.same HAT.out (Same.of_below hbel.out hS)) (fun b hb => by have := hS b hb; omega) hy0 (by omega)).mono ?_
        rintro e u ⟨z, rfl, hz1, hbu⟩
        by_cases hneg : z < 0
        · go_wp2_with fail
          go_ret
          exact ⟨_, rfl, Or.inl (by omega), hbel.out.trans (hbu.mono hs)⟩
        · go_wp2_with fail
          go_roundw
          case rel => exact ⟨k + 1, z, by omega, by go_num, rfl, by omega, by omega, by rw [HSU.out]; have := hsum.out; show _ = _; omega, hbel.out.trans (hbu.mono hs)⟩
          case measure => simp [intOf]; omega
      · have hkn : k = n := by omega
        subst hkn
        go_wp2
        go_ret
        exact ⟨y, rfl, Or.inr (by have := hsum.out; rw [HT.out]; omega), hbel.out⟩
  · go_enter Try.func9, Try.ntmps9
    go_wp2
    go_ret
    exact ⟨-1, rfl, Or.inl (by omega), Below.refl _ _⟩

end Go.Proofs.Ytkbocdkgkhgioac
