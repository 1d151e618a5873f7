/-
  Contracts of the law's own copying, comparing, marking and looking up of lists of numbers.
-/
import Derived.Test.YtkmgogfgdpldbabSv
import Derived.Test.YtkmgogfgdpldbabSl
namespace Go.Proofs.Ytkmgogfgdpldbab
open Go.RowKit

theorem oi_atB {w : World} {B : Nat} {v : Value} {l : List Int} (h : OI w B v l) (hm : l.length ≤ 1048576) (hz : ∀ x ∈ l, -9223372036854775808 ≤ x ∧ x ≤ 9223372036854775807) : AtL (fun b => B ≤ b ∧ b < w.heap.size) w l v := by
  by_cases h0 : 0 < l.length
  · obtain ⟨g, cap, rfl, hb, hg⟩ := oi_slice h h0
    refine ⟨_, _, rfl, by unfold maxLen; omega, fun i hi => ⟨g, 0, rfl, ⟨hb, hg⟩, cs [.int .i64 l[i]], fun j hj => ?_, ⟨rfl, hz _ (List.getElem_mem hi)⟩⟩⟩
    rw [width_int] at hj ⊢
    have ej : j = 0 := by omega
    subst ej
    have := (oi_cell h i hi).1
    rw [show 0 + i * 1 + 0 = i by omega, this]
    simp [hi]
    rfl
  · have hl : l = [] := List.eq_nil_of_length_eq_zero (by omega)
    subst hl
    rcases h.2 with ⟨rfl, _⟩ | ⟨g, cap, cur, rfl, _⟩
    · exact ⟨none, 0, rfl, Nat.zero_le _, fun i hi => by simp at hi⟩
    · exact ⟨_, cap, rfl, Nat.zero_le _, fun i hi => by simp at hi⟩
theorem at_bounds {S : Nat → Prop} {w : World} {A : List Int} {v : Value} (h : AtL S w A v) : ∀ x ∈ A, -9223372036854775808 ≤ x ∧ x ≤ 9223372036854775807 := fun x hx => by
  obtain ⟨_, _, _, _, hc⟩ := h
  obtain ⟨i, hi, rfl⟩ := List.getElem_of_mem hx
  obtain ⟨_, _, _, _, _, _, hat⟩ := hc i hi
  rw [at_int] at hat
  exact hat.2

set_option maxRecDepth 100000 in
set_option maxHeartbeats 4000000 in
theorem toInt_any (S : Nat → Prop) (v : Value) (A : List Int) (w : World) (h : AtL S w A v) (hS : ∀ b, S b → b < w.heap.size) (hm : A.length ≤ 1048576) :
    Calls Try.prog 9 #[v] w fun e w' => ∃ r, e = .returned r ∧ OI w' w.heap.size r A ∧ Below w.heap.size w w' := by
  obtain ⟨oa, cap, rfl, hn, hc⟩ := h
  obtain ⟨n, en⟩ : ∃ n, A.length = n := ⟨_, rfl⟩
  rw [en] at hn hm
  rw [en]
  unfold maxLen at hn
  have HC : Hid _ := hc
  clear hc
  have hmk := fun W => make_ints W n hm
  go_enter Try.func9, Try.ntmps9
  go_wp2
  go_loopw [4] (fun i wr => ∃ k : Nat, k ≤ n ∧ i = .int .i64 k ∧ Hid (wr.heap[w.heap.size]? = some (.cells (ints (shK A k)) 3 (0, 0))) ∧ Hid (Below w.heap.size w wr)) (fun i _ => n - (intOf i).toNat)
  case atStart => exact ⟨0, Nat.zero_le _, rfl, by show _ = _; rw [shK_zero, en]; exact heap_alloc_new w _, (Below.refl _ _).alloc (Nat.le_refl _) _⟩
  case round =>
    obtain ⟨k, hk, rfl, hSh, hBl⟩ := hrel
    by_cases hlt : k < n
    · obtain ⟨b, off, rfl, hbS, cc, hcell, hat⟩ := HC.out k (by omega)
      have hbb := hS b hbS
      rw [width_int] at hcell
      have hcell := hcell 0 (by omega)
      rw [Nat.mul_one, Nat.add_zero] at hcell
      rw [at_int] at hat
      rw [hat.1] at hcell
      have c0 := (hBl.out.cell (p := ⟨b, off + k, none⟩) (by show b < _; omega)).trans hcell
      have hsl := shK_len A k (by omega)
      rw [en] at hsl
      have e0 := (cell_row hSh.out k _ (ints_at (shK A k) k (by omega))).1
      have e0f := (cell_row hSh.out k _ (ints_at (shK A k) k (by omega))).2
      have hg : A.getD k 0 = A[k]'(by omega) := by simp [show k < A.length by omega]
      have hY : Hid ((wr.setCell ⟨w.heap.size, k, none⟩ (.int .i64 (A[k]'(by omega)))).heap[w.heap.size]? = some (.cells (ints (shK A (k + 1))) 3 (0, 0))) := by
        show _ = _
        rw [set_row hSh.out k _, ints_set, ← hg, shK_succ A k (by omega)]
      have hBY : Hid (Below w.heap.size w (wr.setCell ⟨w.heap.size, k, none⟩ (.int .i64 (A[k]'(by omega))))) := Below.setCell (p := ⟨w.heap.size, k, none⟩) hBl.out (Nat.le_refl _) _
      clear hat hcell hg
      go_wp2
      go_roundw
      case rel => exact ⟨k + 1, by omega, by go_num, hY, hBY⟩
      case measure => simp [intOf]; omega
    · have hkn : k = n := by omega
      subst hkn
      go_wp2
      go_ret
      have h1 := hSh.out
      rw [show shK A k = A by rw [← en]; exact shK_all _] at h1
      have := own_ints (b := w.heap.size) h1 (Nat.le_refl _) (by omega)
      rw [en] at this
      refine ⟨_, rfl, ?_, hBl.out⟩
      show World.ownsRow _ _ _ _ _ _ _
      rw [en]; exact this

open Go.Sort in
set_option maxRecDepth 100000 in
set_option maxHeartbeats 4000000 in
theorem eqInt_any (S S' : Nat → Prop) (va vb : Value) (l : List Int) (w : World) (ha : AtL S w l va) (hb : AtL S' w l vb) (hS : ∀ b, S b → b < w.heap.size) (hS' : ∀ b, S' b → b < w.heap.size) :
    Calls Try.prog 10 #[va, vb] w fun e w' => e = .returned (.bool true) ∧ Below w.heap.size w w' := by
  obtain ⟨oa, ca, rfl, hn, hca⟩ := ha
  obtain ⟨ob, cb, rfl, _, hcb⟩ := hb
  obtain ⟨n, en⟩ : ∃ n, l.length = n := ⟨_, rfl⟩
  rw [en] at hn
  rw [en]
  unfold maxLen at hn
  have HA : Hid _ := hca
  have HB : Hid _ := hcb
  clear hca hcb
  go_enter Try.func10, Try.ntmps10
  go_wp2
  go_loopw [5] (fun i wr => ∃ k : Nat, k ≤ n ∧ i = .int .i64 k ∧ Hid (Below w.heap.size w wr)) (fun i _ => n - (intOf i).toNat)
  case atStart => exact ⟨0, Nat.zero_le _, rfl, Below.refl _ _⟩
  case round =>
    obtain ⟨k, hk, rfl, hbel⟩ := hrel
    have hs := hbel.out.size
    by_cases hlt : k < n
    · obtain ⟨b, off, rfl, hbS, cc, hcell, hat⟩ := HA.out k (by omega)
      obtain ⟨b2, off2, rfl, hbS2, cc2, hcell2, hat2⟩ := HB.out k (by omega)
      have hbb := hS b hbS
      have hbb2 := hS' b2 hbS2
      rw [width_int] at hcell hcell2
      have hcell := hcell 0 (by omega)
      have hcell2 := hcell2 0 (by omega)
      rw [Nat.mul_one, Nat.add_zero] at hcell hcell2
      rw [at_int] at hat hat2
      rw [hat.1] at hcell
      rw [hat2.1] at hcell2
      obtain ⟨x, ex⟩ : ∃ x, l[k]'(by omega) = x := ⟨_, rfl⟩
      rw [ex] at hcell hcell2
      clear hat hat2
      have e0 := fun d os => cell_regrown ((hbel.out.cell (p := ⟨b, off + k, none⟩) (by show b < _; omega)).trans hcell) d os
      have a0 := fun d os => cell_regrown ((hbel.out.cell (p := ⟨b2, off2 + k, none⟩) (by show b2 < _; omega)).trans hcell2) d os
      clear hcell hcell2
      have hxx : (x == x) = true := by simp
      go_wp2
      refine wp_region_quiet_below (by kernel_rfl) (by kernel_rfl) ?_
      repeat (first | go_big_quiet_step (fail) | quiet_step (fail))
      refine wpQuiet_nil ?_
      intro _ hw'
      obtain ⟨⟨dq, osq⟩, hw''⟩ := hw'
      subst hw''
      go_wp2
      go_roundw
      case rel => exact ⟨k + 1, by omega, by go_num, hbel.out.trans ((below_regrown _ dq osq).mono hs)⟩
      case measure => simp [intOf]; omega
    · go_wp2
      go_ret
      exact ⟨rfl, hbel.out⟩

/-- Numbers from k on, n of them; a list marked so far. -/
def marks (k : Int) (n : Nat) : List Int := (List.range n).map fun i : Nat => k + i
theorem marks_len (k : Int) (n : Nat) : (marks k n).length = n := by simp [marks]
def mkK (l : List Int) (k : Int) (j : Nat) : List Int := marks k j ++ l.drop j
theorem mkK_len (l : List Int) (k : Int) (j : Nat) (h : j ≤ l.length) : (mkK l k j).length = l.length := by simp [mkK, marks]; omega
theorem mkK_succ (l : List Int) (k : Int) (j : Nat) (h : j < l.length) : (mkK l k j).set j (k + j) = mkK l k (j + 1) := by
  unfold mkK
  rw [List.set_append_right _ _ (by rw [marks_len]; omega), marks_len, Nat.sub_self, List.drop_eq_getElem_cons h, List.set_cons_zero]
  simp [marks, List.range_succ]
theorem mkK_all (l : List Int) (k : Int) : mkK l k l.length = marks k l.length := by simp [mkK]

set_option maxRecDepth 100000 in
set_option maxHeartbeats 4000000 in
theorem markInt_any (B : Nat) (v : Value) (l : List Int) (k : Int) (w : World) (h : OI w B v l) (hm : l.length ≤ 1048576) (hk : 0 ≤ k ∧ k ≤ 1048576) :
    Calls Try.prog 11 #[v, .int .i64 k] w fun e w' => e = .returned (.int .i64 (k + l.length)) ∧ OI w' B v (marks k l.length) ∧ Below B w w' ∧ w'.heap.size = w.heap.size ∧ ∀ b, some b ≠ v.ownBlock → w'.heap[b]? = w.heap[b]? := by
  by_cases h0 : 0 < l.length
  · obtain ⟨g, cap, ev, hb, hg⟩ := oi_slice h h0
    subst ev
    have HO : Hid (OI w B (.slice (some ⟨g, 0, none⟩) l.length cap) (mkK l k 0)) := by
      show OI _ _ _ _
      have : mkK l k 0 = l := by simp [mkK, marks]
      rw [this]; exact h
    obtain ⟨n, en⟩ : ∃ n, l.length = n := ⟨_, rfl⟩
    rw [en] at HO h0 hm
    rw [en]
    have EN : Hid (l.length = n) := en
    clear h en
    go_enter Try.func11, Try.ntmps11
    go_wp2
    go_loopw [1, 5] (fun s i wr => ∃ j : Nat, j ≤ n ∧ i = .int .i64 j ∧ s = .int .i64 (k + j) ∧ Hid (OI wr B (.slice (some ⟨g, 0, none⟩) n cap) (mkK l k j)) ∧ Hid (Below B w wr) ∧ wr.heap.size = w.heap.size ∧ Hid (∀ b, b ≠ g → wr.heap[b]? = w.heap[b]?)) (fun _ i _ => n - (intOf i).toNat)
    case atStart => exact ⟨0, Nat.zero_le _, rfl, by simp, HO, Below.refl _ _, rfl, fun _ _ => rfl⟩
    case round =>
      obtain ⟨j, hj, rfl, rfl, hO, hBl, hsz, hot⟩ := hrel
      by_cases hlt : j < n
      · have hl := mkK_len l k j (by rw [EN.out]; omega)
        have e0 := (oi_cell hO.out j (by rw [hl, EN.out]; exact hlt)).1
        have e0f := (oi_cell hO.out j (by rw [hl, EN.out]; exact hlt)).2
        have hO2 : Hid (OI (wr.setCell ⟨g, j, none⟩ (.int .i64 (k + j))) B (.slice (some ⟨g, 0, none⟩) n cap) (mkK l k (j + 1))) := by
          show OI _ _ _ _
          rw [← mkK_succ l k j (by rw [EN.out]; exact hlt)]
          exact oi_set hO.out j (k + j)
        have hB2 : Hid (Below B w (wr.setCell ⟨g, j, none⟩ (.int .i64 (k + j)))) := Below.setCell (p := ⟨g, j, none⟩) hBl.out hb _
        have hs2 : (wr.setCell ⟨g, j, none⟩ (.int .i64 (k + j))).heap.size = w.heap.size := by simp [hsz]
        have ho2 : Hid (∀ b, b ≠ g → (wr.setCell ⟨g, j, none⟩ (.int .i64 (k + j))).heap[b]? = w.heap[b]?) := fun b hne => by
          rw [Below.heap_setCell _ _ _ _ hne]; exact hot.out b hne
        go_wp2
        go_roundw
        case rel => exact ⟨j + 1, by omega, by go_num, by congr 1; omega, hO2, hB2, hs2, ho2⟩
        case measure => simp [intOf]; omega
      · have hjn : j = n := by omega
        subst hjn
        have hO2 := hO.out
        rw [show mkK l k j = marks k j by rw [← EN.out]; exact mkK_all l k] at hO2
        go_wp2
        go_ret
        exact ⟨rfl, hO2, hBl.out, hsz, fun b hne => hot.out b (fun e => hne (by rw [e]; rfl))⟩
  · have hl : l = [] := List.eq_nil_of_length_eq_zero (by omega)
    subst hl
    have hsl : ∃ o c, v = .slice o 0 c := by
      rcases h.2 with ⟨e, _⟩ | ⟨g, cap, cur, e, _⟩
      · exact ⟨_, _, e⟩
      · exact ⟨_, _, e⟩
    obtain ⟨o, c, rfl⟩ := hsl
    have H : Hid (OI w B (.slice o 0 c) (marks k 0)) := h
    clear h h0 hm
    go_enter Try.func11, Try.ntmps11
    go_wp2
    go_loop [1, 5] (fun s i => i = .int .i64 0 ∧ s = .int .i64 k) (fun _ _ => 0)
    case atStart => exact ⟨rfl, rfl⟩
    case round =>
      obtain ⟨rfl, rfl⟩ := hrel
      go_wp2
      go_ret
      exact ⟨by simp, H.out, Below.refl _ _, rfl, fun _ _ => rfl⟩

set_option maxRecDepth 100000 in
set_option maxHeartbeats 4000000 in
theorem heldInt_any (S : Nat → Prop) (v : Value) (k : Int) (n : Nat) (w : World) (h : AtL S w (marks k n) v) (hm : n ≤ 1048576) (hk : 0 ≤ k ∧ k ≤ 1048576) :
    Calls Try.prog 12 #[v, .int .i64 k] w fun e w' => e = .returned (.int .i64 (k + n)) ∧ w' = w := by
  obtain ⟨oa, cap, rfl, hn, hc⟩ := h
  have hln := marks_len k n
  rw [hln]
  have HC : Hid _ := hc
  clear hc hn
  go_enter Try.func12, Try.ntmps12
  go_wp2
  go_loop [1, 5] (fun s i => ∃ j : Nat, j ≤ n ∧ i = .int .i64 j ∧ s = .int .i64 (k + j)) (fun _ i => n - (intOf i).toNat)
  case atStart => exact ⟨0, Nat.zero_le _, rfl, by simp⟩
  case round =>
    obtain ⟨j, hj, rfl, rfl⟩ := hrel
    by_cases hlt : j < n
    · obtain ⟨b, off, rfl, _, cc, hcell, hat⟩ := HC.out j (by omega)
      rw [width_int] at hcell
      have hcell := hcell 0 (by omega)
      rw [Nat.mul_one, Nat.add_zero] at hcell
      rw [at_int] at hat
      rw [hat.1] at hcell
      have hmj : (marks k n)[j]'(by omega) = k + j := by simp [marks]
      rw [hmj] at hcell
      clear hat hmj
      have hxx : (k + (j : Int) == k + (j : Int)) = true := by simp
      go_wp2
      go_round
      case rel => exact ⟨j + 1, by omega, by go_num, by congr 1; omega⟩
      case measure => simp [intOf]; omega
    · have hjn : j = n := by omega
      subst hjn
      go_wp2
      go_ret
      exact ⟨rfl, rfl⟩

end Go.Proofs.Ytkmgogfgdpldbab
