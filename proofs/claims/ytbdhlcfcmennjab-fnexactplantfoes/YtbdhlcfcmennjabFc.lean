/-
  Whether two stuffs are foes, as the program tells it: by a map from pairs to how often they stand in the list.
-/
import Derived.Test.YtbdhlcfcmennjabFa
namespace Go.Proofs.Ytbdhlcfcmennjab
open Go.RowKit

/-- How often a pair was counted over the first k foes. -/
def cntF (f : Nat → ByteArray × ByteArray) : Nat → ByteArray → ByteArray → Int
  | 0 => fun _ _ => 0
  | k + 1 => putN (putN (cntF f k) (f k).1 (f k).2 (cntF f k (f k).1 (f k).2 + 1)) (f k).2 (f k).1 (putN (cntF f k) (f k).1 (f k).2 (cntF f k (f k).1 (f k).2 + 1) (f k).2 (f k).1 + 1)

theorem cnt_bound (f : Nat → ByteArray × ByteArray) : ∀ (k : Nat) (x y : ByteArray), 0 ≤ cntF f k x y ∧ cntF f k x y ≤ 2 * k
  | 0, _, _ => by simp [cntF]
  | k + 1, x, y => by
    have h := cnt_bound f k
    have h1 := h (f k).1 (f k).2
    have h2 := h (f k).2 (f k).1
    have h3 := h x y
    simp only [cntF, putN]
    split <;> split <;> omega

set_option maxRecDepth 100000 in
set_option maxHeartbeats 4000000 in
theorem foePairs_any (B : Nat) (v0 v1 v2 v3 : Value) (n : Nat) (f : Nat → ByteArray × ByteArray) (w : World) (h : Lst B w v1 n 2 (cF f)) (hB : B ≤ w.heap.size) (hs : ∀ i, i < n → (f i).1.size ≤ maxLen ∧ (f i).2.size ≤ maxLen) (hm : n ≤ 1048576) :
    Calls Try.prog 41 #[.agg #[v0, v1, v2, v3]] w fun e w' => ∃ b, e = .returned (.map (some b)) ∧ Mp w' b (cntF f n) ∧ Below w.heap.size w w' := by
  obtain ⟨oa, cap, rfl, hn, hc⟩ := h
  unfold maxLen at hn
  have HC : Hid _ := hc
  have HS : Hid _ := hs
  clear hc hs
  have hmm := @run_makeMap Try.prog
  go_enter Try.func41, Try.ntmps41
  go_wp2
  go_loopw [10] (fun i wr => ∃ k : Nat, k ≤ n ∧ i = .int .i64 k ∧ Hid (Mp wr (w.heap.size + 1) (cntF f k)) ∧ Hid (Below (w.heap.size + 1) (w.alloc (.cells #[v0, .slice oa n cap, v2, v3] 34)) wr)) (fun i _ => n - (intOf i).toNat)
  case atStart =>
    refine ⟨0, Nat.zero_le _, rfl, ?_, (Below.refl _ _).alloc (by simp) _⟩
    have hmade := Mp.made (w.alloc (.cells #[v0, .slice oa n cap, v2, v3] 34))
    have hsz : (w.alloc (.cells #[v0, .slice oa n cap, v2, v3] 34)).heap.size = w.heap.size + 1 := by simp
    rw [hsz] at hmade
    exact hmade
  case round =>
    obtain ⟨k, hk, rfl, hmp, hbl⟩ := hrel
    by_cases hlt : k < n
    · obtain ⟨bb, off, rfl, hbB, hcell⟩ := HC.out k hlt
      have c0 := (hbl.out.cell (p := ⟨bb, off + k * 2 + 0, none⟩) (by show bb < w.heap.size + 1; omega)).trans (cell_past (hcell 0 (by omega)) (by omega) _)
      have c1 := (hbl.out.cell (p := ⟨bb, off + k * 2 + 1, none⟩) (by show bb < w.heap.size + 1; omega)).trans (cell_past (hcell 1 (by omega)) (by omega) _)
      rw [Nat.add_zero] at c0
      simp only [cF, if_true] at c0
      simp only [cF, Nat.one_ne_zero, if_false] at c1
      clear hcell
      obtain ⟨hx, hy⟩ := HS.out k hlt
      have mA : Mp (wr.alloc (.cells #[.string (f k).1, .string (f k).2] 62)).drew (w.heap.size + 1) (cntF f k) := hmp.out.of_block (Below.heap_alloc wr _ _ hmp.out.lt)
      obtain ⟨st, w1, w3, he, m1, _, hst, m3, g3⟩ := mA.entry hx hy (cntF f k (f k).1 (f k).2 + 1)
      have l0 := mA.look hx hy
      have l1 := m1.look hx hy
      have hcb := cnt_bound f k (f k).1 (f k).2
      have M3 : Hid (Mp w3 (w.heap.size + 1) (putN (cntF f k) (f k).1 (f k).2 (cntF f k (f k).1 (f k).2 + 1))) := m3
      have hlt1 : w.heap.size + 1 < wr.heap.size := hmp.out.lt
      have hne : some wr.heap.size ≠ some (w.heap.size + 1) := fun e => by have := Option.some.inj e; omega
      have d0 : w3.cell? ⟨wr.heap.size, 0, none⟩ = some (.string (f k).1) := g3.cell (new_cell wr #[.string (f k).1, .string (f k).2] 62 0 _ rfl) hne
      have d1 : w3.cell? ⟨wr.heap.size, 1, none⟩ = some (.string (f k).2) := g3.cell (new_cell wr #[.string (f k).1, .string (f k).2] 62 1 _ rfl) hne
      have B3 : Hid (Below (w.heap.size + 1) (w.alloc (.cells #[v0, .slice (some ⟨bb, off, none⟩) n cap, v2, v3] 34)) w3) :=
        ((hbl.out.alloc (by omega) _).drew).grown g3 (by show _ ≤ (wr.alloc _).heap.size; simp; omega) (fun j hj => by cases hj; exact Nat.le_refl _)
      clear m3 g3 m1 mA
      have mB : Mp w3.drew (w.heap.size + 1) _ := M3.out
      obtain ⟨st', w5, w6, he', m5, _, hst', m6, g6⟩ := mB.entry hy hx (putN (cntF f k) (f k).1 (f k).2 (cntF f k (f k).1 (f k).2 + 1) (f k).2 (f k).1 + 1)
      have l2 := mB.look hy hx
      have l3 := m5.look hy hx
      have M6 : Hid (Mp w6 (w.heap.size + 1) (cntF f (k + 1))) := m6
      have B6 : Hid (Below (w.heap.size + 1) (w.alloc (.cells #[v0, .slice (some ⟨bb, off, none⟩) n cap, v2, v3] 34)) w6) :=
        (B3.out.drew).grown g6 (by show _ ≤ w3.heap.size; have := M3.out.lt; omega) (fun j hj => by cases hj; exact Nat.le_refl _)
      have hcb' : 0 ≤ putN (cntF f k) (f k).1 (f k).2 (cntF f k (f k).1 (f k).2 + 1) (f k).2 (f k).1 ∧ putN (cntF f k) (f k).1 (f k).2 (cntF f k (f k).1 (f k).2 + 1) (f k).2 (f k).1 ≤ 2 * k + 1 := by
        have := cnt_bound f k (f k).2 (f k).1
        unfold putN
        split <;> omega
      clear M3 m6 g6 m5 mB B3
      generalize hcd : putN (cntF f k) (f k).1 (f k).2 (cntF f k (f k).1 (f k).2 + 1) (f k).2 (f k).1 = d at *
      generalize hcc : cntF f k (f k).1 (f k).2 = c at *
      clear hcc hcd
      go_wp2
      go_region
      go_wp2
      go_region
      go_wp2
      go_round
      case rel => exact ⟨k + 1, by omega, by go_num, M6, B6⟩
      case measure => simp [intOf]; omega
    · go_wp2
      go_ret
      have hkn : k = n := by omega
      subst hkn
      exact ⟨_, rfl, hmp.out, below_end hbl.out⟩

end Go.Proofs.Ytbdhlcfcmennjab
