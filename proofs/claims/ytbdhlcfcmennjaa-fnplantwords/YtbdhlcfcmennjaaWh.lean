/-
  The law itself, walked: whatever the line, the call returns true, and nothing that was there before has turned.
-/
import Derived.Test.YtbdhlcfcmennjaaWb
import Derived.Test.YtbdhlcfcmennjaaWg
namespace Go.Proofs.Ytbdhlcfcmennjaa
open Go.RowKit

/-- A list of n texts in memory, its blocks below B: text i is f i. -/
def Reads (B : Nat) (w : World) (v : Value) (n : Nat) (f : Nat → ByteArray) : Prop :=
  ∃ oa cap, v = .slice oa n cap ∧ ∀ i, i < n → ∃ g, oa = some ⟨g, 0, none⟩ ∧ g < B ∧ w.cell? ⟨g, i, none⟩ = some (.string (f i))

theorem Reads.kept {B B' : Nat} {w w' : World} {v : Value} {n : Nat} {f : Nat → ByteArray} (h : Reads B w v n f) (hb : Below B' w w') (hB : B ≤ B') : Reads B w' v n f := by
  obtain ⟨oa, cap, hv, hc⟩ := h
  refine ⟨oa, cap, hv, fun i hi => ?_⟩
  obtain ⟨g, h1, h2, h3⟩ := hc i hi
  exact ⟨g, h1, h2, (hb.cell (p := ⟨g, i, none⟩) (by show g < B'; omega)).trans h3⟩

theorem Reads.mono {B B' : Nat} {w : World} {v : Value} {n : Nat} {f : Nat → ByteArray} (h : Reads B w v n f) (hB : B ≤ B') : Reads B' w v n f := by
  obtain ⟨oa, cap, hv, hc⟩ := h
  refine ⟨oa, cap, hv, fun i hi => ?_⟩
  obtain ⟨g, h1, h2, h3⟩ := hc i hi
  exact ⟨g, h1, by omega, h3⟩

/-- Text i of a list of texts. -/
def nth (ws : List (List UInt8)) (i : Nat) : ByteArray := ⟨(ws.getD i []).toArray⟩

theorem reads_own {B : Nat} {w : World} {v : Value} {ws : List (List UInt8)} (h : w.ownsRow B 9 1 v ws.length (strs ws)) : Reads w.heap.size w v ws.length (nth ws) := by
  rcases h.2 with ⟨rfl, hn⟩ | ⟨g, cap, cur, rfl, hb, hg, hc, hm, hs, ht⟩
  · rw [hn]; exact ⟨none, 0, rfl, fun i hi => by omega⟩
  · refine ⟨_, _, rfl, fun i hi => ⟨g, rfl, (Array.getElem?_eq_some_iff.1 hg).1, ?_⟩⟩
    have e1 : cur.toList[i]? = (strs ws)[i]? := by
      rw [← ht, Nat.mul_one, List.getElem?_take_of_lt hi]
    have e2 : cur[i]? = some (.string (nth ws i)) := by
      rw [← Array.getElem?_toList, e1]
      simp [strs, nth, hi]
    exact (cell_row hg i _ e2).1

theorem eq_reads (B B' : Nat) (va vb : Value) (n : Nat) (f : Nat → ByteArray) (w : World) (hn : n ≤ 1000000) (ha : Reads B w va n f) (hb : Reads B' w vb n f) :
    Calls Try.prog 17 #[va, vb] w fun e w' => e = .returned (.bool true) ∧ Below w.heap.size w w' := by
  obtain ⟨oa, ca, rfl, hca⟩ := ha
  obtain ⟨ob, cb, rfl, hcb⟩ := hb
  refine (eq_any oa ob n ca cb f w (by unfold maxLen; omega) (fun i hi => ?_) (fun i hi => ?_)).mono ?_
  · obtain ⟨g, h1, h2, h3⟩ := hca i hi; exact ⟨g, h1, h3⟩
  · obtain ⟨g, h1, h2, h3⟩ := hcb i hi; exact ⟨g, h1, h3⟩
  · rintro e w' ⟨rfl, q, rfl⟩
    exact ⟨rfl, Below.drewN (Below.refl _ _) q⟩

set_option maxRecDepth 100000 in
set_option maxHeartbeats 400000 in
theorem markS_nil (oa : Option Addr) (cap : Nat) (w : World) :
    Calls Try.prog 18 #[.slice oa 0 cap, .int .i64 1] w fun e w' => e = .returned (.int .i64 1) ∧ w' = w := by
  go_enter Try.func18, Try.ntmps18
  go_wp2
  go_loop [1, 5] (fun q i => q = .int .i64 1 ∧ i = .int .i64 0) (fun _ _ => 0)
  case atStart => exact ⟨rfl, rfl⟩
  case round =>
    obtain ⟨rfl, rfl⟩ := hrel
    go_wp2
    go_ret
    exact ⟨rfl, rfl⟩

set_option maxRecDepth 100000 in
set_option maxHeartbeats 400000 in
theorem heldS_nil (oa : Option Addr) (cap : Nat) (w : World) :
    Calls Try.prog 19 #[.slice oa 0 cap, .int .i64 1] w fun e w' => e = .returned (.int .i64 1) ∧ w' = w := by
  go_enter Try.func19, Try.ntmps19
  go_wp2
  go_loop [1, 5] (fun q i => q = .int .i64 1 ∧ i = .int .i64 0) (fun _ _ => 0)
  case atStart => exact ⟨rfl, rfl⟩
  case round =>
    obtain ⟨rfl, rfl⟩ := hrel
    go_wp2
    go_ret
    exact ⟨rfl, rfl⟩

/-- The marks' texts. -/
def mtn (i : Nat) : ByteArray := mt (1 + i)

theorem mark_own (B : Nat) (v : Value) (n : Nat) (xs : List Value) (w : World) (hn : n ≤ 1000000) (h : w.ownsRow B 9 1 v n xs) :
    Calls Try.prog 18 #[v, .int .i64 1] w fun e w' => e = .returned (.int .i64 (1 + n)) ∧ Below B w w' ∧ Reads w'.heap.size w' v n mtn := by
  rcases h.2 with ⟨rfl, rfl⟩ | ⟨g, cap, cur, rfl, hb, hg, hc, hm, hs, ht⟩
  · refine (markS_nil none 0 w).mono ?_
    rintro e w' ⟨rfl, rfl⟩
    exact ⟨rfl, Below.refl _ _, none, 0, rfl, fun i hi => by omega⟩
  · refine (markS_any B g cap n cur w hg hb hc (by omega) hn).mono ?_
    rintro e w' ⟨rfl, hbel, cur', hg', _, hall⟩
    exact ⟨rfl, hbel, _, _, rfl, fun i hi => ⟨g, rfl, (Array.getElem?_eq_some_iff.1 hg').1, (cell_row hg' i _ (hall i hi)).1⟩⟩

theorem held_reads (B : Nat) (v : Value) (n : Nat) (w : World) (hn : n ≤ 1000000) (h : Reads B w v n mtn) :
    Calls Try.prog 19 #[v, .int .i64 1] w fun e w' => e = .returned (.int .i64 (1 + n)) ∧ Below w.heap.size w w' := by
  obtain ⟨oa, cap, rfl, hc⟩ := h
  by_cases h0 : n = 0
  · subst h0
    refine (heldS_nil oa cap w).mono ?_
    rintro e w' ⟨rfl, rfl⟩
    exact ⟨rfl, Below.refl _ _⟩
  · obtain ⟨g, rfl, _, _⟩ := hc 0 (by omega)
    refine (heldS_any g cap n w hn (fun i hi => ?_)).mono ?_
    · obtain ⟨g', e, _, h3⟩ := hc i hi
      cases e
      exact h3
    · rintro e w' ⟨rfl, hb⟩
      exact ⟨rfl, hb⟩

theorem words_le (l : List UInt8) : (Pl.words l).1.length ≤ 16 := by
  unfold Pl.words Pl.fin
  split
  · simp
  · split
    · assumption
    · simp

theorem own_below {B : Nat} {w w' : World} {v : Value} {n : Nat} {xs : List Value} (h : w.ownsRow B 9 1 v n xs) (hb : Below w.heap.size w w') : w'.ownsRow B 9 1 v n xs := by
  refine ⟨h.1, ?_⟩
  rcases h.2 with hn | ⟨g, cap, cur, hv, hbg, hg, rest⟩
  · exact Or.inl hn
  · exact Or.inr ⟨g, cap, cur, hv, hbg, (hb.block g (Array.getElem?_eq_some_iff.1 hg).1).trans hg, rest⟩

set_option maxRecDepth 100000 in
set_option maxHeartbeats 1000000 in
theorem law_any (s : ByteArray) (w : World) (hs : s.size ≤ maxLen) :
    Calls Try.prog 5 #[.string s] w fun e w' => e = .returned (.bool true) ∧ Below w.heap.size w w' := by
  unfold maxLen at hs
  by_cases hbig : s.size ≤ 1048576
  · have hsp := spec_any s
    have him := impl_any s
    have hle := words_le s.data.toList
    generalize Pl.words s.data.toList = ans at hsp him hle
    obtain ⟨ws, b⟩ := ans
    have HS : Hid _ := hsp
    have HI : Hid _ := him
    clear hsp him
    simp only at hle
    cases b
    all_goals
      go_enter Try.func5, Try.ntmps5
      go_wp2_with fail
      refine (HS.out _ hbig).mono ?_; rintro e w1 ⟨v0, rfl, hown0, hb1⟩
      have H0 : Hid (Reads w1.heap.size w1 v0 ws.length (nth ws)) := reads_own hown0
      clear hown0
      go_wp2_with fail
      refine (HI.out _ hbig).mono ?_; rintro e w2 ⟨v1, rfl, hown1, hb2⟩
      have H1 : Hid (w2.ownsRow w1.heap.size 9 1 v1 ws.length (strs ws)) := hown1
      clear hown1
      have s2 := hb2.size
      go_wp2_with fail
      refine (eq_reads _ _ v1 v0 ws.length (nth ws) _ (by omega) (reads_own H1.out) (H0.out.kept hb2 (Nat.le_refl _))).mono ?_; rintro e w3 ⟨rfl, hb3⟩
      have s3 := hb3.size
      go_wp2_with fail
      refine (mark_own _ v1 ws.length (strs ws) _ (by omega) (own_below H1.out hb3)).mono ?_; rintro e w4 ⟨rfl, hb4, hr4⟩
      have H4 : Hid (Reads w4.heap.size w4 v1 ws.length mtn) := hr4
      clear hr4
      have s4 := hb4.size
      go_wp2_with fail
      refine (held_reads _ v1 ws.length _ (by omega) H4.out).mono ?_; rintro e w5 ⟨rfl, hb5⟩
      have s5 := hb5.size
      go_wp2_with fail
      refine (HI.out _ hbig).mono ?_; rintro e w6 ⟨v2, rfl, hown2, hb6⟩
      have H2 : Hid (Reads w6.heap.size w6 v2 ws.length (nth ws)) := reads_own hown2
      clear hown2
      have s6 := hb6.size
      go_wp2_with fail
      refine (eq_reads _ _ v2 v0 ws.length (nth ws) _ (by omega) H2.out (((((H0.out.kept hb2 (Nat.le_refl _)).kept hb3 s2).kept hb4 (Nat.le_refl _)).kept hb5 (by omega)).kept hb6 (by omega))).mono ?_; rintro e w7 ⟨rfl, hb7⟩
      go_wp2_with fail
      refine (held_reads _ v1 ws.length _ (by omega) (((H4.out.kept hb5 (Nat.le_refl _)).kept hb6 s5).kept hb7 (by omega))).mono ?_; rintro e w8 ⟨rfl, hb8⟩
      go_wp2_with fail
      go_ret
      have s1 := hb1.size
      have s7 := hb7.size
      exact ⟨rfl, ((((((hb1.trans (hb2.mono s1)).trans (hb3.mono (by omega))).trans (hb4.mono s1)).trans (hb5.mono (by omega))).trans (hb6.mono (by omega))).trans (hb7.mono (by omega))).trans (hb8.mono (by omega))⟩
  · go_enter Try.func5, Try.ntmps5
    go_wp2
    go_ret
    exact ⟨rfl, Below.refl _ _⟩

end Go.Proofs.Ytbdhlcfcmennjaa
