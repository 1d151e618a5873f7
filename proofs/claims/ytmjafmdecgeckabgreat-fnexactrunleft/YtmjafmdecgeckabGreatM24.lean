/-
  Several texts in one.
-/
import Derived.Test.YtmjafmdecgeckabGreatM23
import Derived.Test.YtmjafmdecgeckabGreatM1
import Derived.Deep.Cut
import Derived.Test.YtmjafmdecgeckabGreatM20
import Derived.Test.YtmjafmdecgeckabGreatM8
import Derived.Test.YtmjafmdecgeckabGreatM18
/-
  Within how many ticks all of a house come to an end: plain.
-/
namespace Go.Proofs.YtmjafmdecgeckabGreat
open Go.RowKit Go.Sort

/-- Within how many ticks a batch comes to its end. -/
def lefI (b : DRunBatch) : Int := bndF 12 b.2.1 b.2.2.2.1 - (if 0 < b.2.2.2.2.1 then b.2.2.2.2.1 else 0)
/-- .. and some batches. -/
def lefS : List DRunBatch → Int
  | [] => 0
  | b :: l => lefI b + lefS l
theorem lef_one (l : List DRunBatch) (b : DRunBatch) : lefS (l ++ [b]) = lefS l + lefI b := by
  induction l with
  | nil => simp [lefS]
  | cons a l ih => simp only [List.cons_append, lefS, ih]; omega
theorem lef_take {l : List DRunBatch} {k : Nat} (h : k < l.length) : lefS (l.take (k + 1)) = lefS (l.take k) + lefI l[k] := by
  rw [List.take_add_one, List.getElem?_eq_getElem h]
  exact lef_one _ _
theorem run_left {b : DRunBatch} (h : runB b = true) : recB b.2.1 = true ∧ (-1 ≤ b.2.2.2.2.1 ∧ b.2.2.2.2.1 ≤ 999) ∧ (0 ≤ bndF 12 b.2.1 b.2.2.2.1 ∧ bndF 12 b.2.1 b.2.2.2.1 ≤ 12000) := by
  have hr := run_rec h
  unfold runB at h
  unfold inB wiX at h
  simp only [Bool.and_eq_true, decide_eq_true_eq] at h
  have h1 := bnd_le hr.1 12 b.2.2.2.1
  refine ⟨h.1.1.1.1.2, ⟨h.2.1, ?_⟩, by omega, by omega⟩
  rcases at_cases b.2.1 b.2.2.2.1 with e | ⟨k, hk, e, _⟩
  · have := h.1.2; omega
  · have h2 := (ph_name (step_of hr.1 hk).1).2.2.1.2
    rw [← ph_at hk e] at h2
    have := h.2.2
    omega
theorem lefI_bd {b : DRunBatch} (h : runB b = true) : -1000 ≤ lefI b ∧ lefI b ≤ 12000 := by
  obtain ⟨_, h1, h2⟩ := run_left h
  unfold lefI
  split <;> omega
theorem lefS_bd {l : List DRunBatch} (h : ∀ i (hi : i < l.length), runB l[i] = true) : ∀ k, k ≤ l.length → -1000 * (k : Int) ≤ lefS (l.take k) ∧ lefS (l.take k) ≤ 12000 * (k : Int)
  | 0, _ => by simp [lefS]
  | k + 1, hk => by
    have h1 := lefS_bd h k (by omega)
    have h2 := lefI_bd (h k (by omega))
    rw [lef_take (show k < l.length by omega)]
    omega
/-- Within how many ticks all of a house come to an end. -/
noncomputable def lefH (now last : Int) (T : List ByteArray) (Bs : List DShareBatch) (Ba : List DRunBatch) (Do : List DRunDone) : Int := if houB now last T Bs Ba Do = true then lefS Ba else 0
theorem lefH_no {now last : Int} {T : List ByteArray} {Bs : List DShareBatch} {Ba : List DRunBatch} {Do : List DRunDone} (h : houB now last T Bs Ba Do = false) : lefH now last T Bs Ba Do = 0 := by unfold lefH; rw [h]; rfl
theorem lefH_yes {now last : Int} {T : List ByteArray} {Bs : List DShareBatch} {Ba : List DRunBatch} {Do : List DRunDone} (h : houB now last T Bs Ba Do = true) : lefH now last T Bs Ba Do = lefS Ba := by unfold lefH; rw [h]; rfl
theorem hou_run {now last : Int} {T : List ByteArray} {Bs : List DShareBatch} {Ba : List DRunBatch} {Do : List DRunDone} (h : houB now last T Bs Ba Do = true) : ∀ i (hi : i < Ba.length), runB Ba[i] = true := fun i hi => ((hou_iff.1 h).row i hi).run
theorem hou_five {now last : Int} {T : List ByteArray} {Bs : List DShareBatch} {Ba : List DRunBatch} {Do : List DRunDone} (h : houB now last T Bs Ba Do = true) : Ba.length ≤ 5 := by
  have P := hou_iff.1 h
  have h1 := (sha_iff.1 P.shares).len
  have h2 : bokB (T, Bs) = true := by
    have hs := P.safe
    unfold ordS at hs
    cases c : bokB (T, Bs) with
    | true => rfl
    | false => rw [c] at hs; cases hs
  have h3 : Bs.length ≤ 5 := (bok_iff.1 h2).len
  omega

end Go.Proofs.YtmjafmdecgeckabGreat

/-
  The model's RunLeft.
-/
namespace Go.Proofs.YtmjafmdecgeckabGreat
open Go.RowKit Go.Sort

theorem wrap_l (n : Int) (h0 : -1000000000000000000 ≤ n) (h1 : n ≤ 2000000000000000000) : IntKind.i64.wrap n = n := by
  unfold IntKind.wrap
  simp only [IntKind.signed, IntKind.bits]
  simp
  omega

set_option maxRecDepth 100000 in
set_option maxHeartbeats 8000000 in
theorem leftX_any (S : Nat → Prop) (now last : Int) (o2 o3 o4 o5 : Option Addr) (n2 k2 n3 k3 n4 k4 n5 k5 : Nat) (T : List ByteArray) (Bs : List DShareBatch) (Ba : List DRunBatch) (Do : List DRunDone) (w : World) (hT : AtL S w T (.slice o2 n2 k2)) (hB : AtL S w Bs (.slice o3 n3 k3)) (h : AtL S w Ba (.slice o4 n4 k4)) (hD : AtL S w Do (.slice o5 n5 k5)) (hS : ∀ b, S b → b < w.heap.size) :
    Calls Tryz.prog 5 #[.agg #[.int .i64 now, .int .i64 last, .slice o2 n2 k2, .slice o3 n3 k3, .slice o4 n4 k4, .slice o5 n5 k5]] w fun e w' => e = .returned (.int .i64 (lefH now last T Bs Ba Do)) ∧ Below w.heap.size w w' := by
  have en4 : Ba.length = n4 := by obtain ⟨_, _, e, _⟩ := h; cases e; rfl
  have hmx : n4 ≤ 9223372036854775807 := by obtain ⟨_, _, e, hf, _⟩ := id h; cases e; have := hf.1; unfold maxLen at this; omega
  have EN : Hid (Ba.length ≤ n4 ∧ n4 ≤ Ba.length) := ⟨by omega, by omega⟩
  have H2 : Hid (∀ u, Below w.heap.size w u → AtL S u T (.slice o2 n2 k2)) := fun u hu => hT.same (Same.of_below hu hS)
  have H3 : Hid (∀ u, Below w.heap.size w u → AtL S u Bs (.slice o3 n3 k3)) := fun u hu => hB.same (Same.of_below hu hS)
  have H4 : Hid (∀ u, Below w.heap.size w u → AtL S u Ba (.slice o4 n4 k4)) := fun u hu => h.same (Same.of_below hu hS)
  have H5 : Hid (∀ u, Below w.heap.size w u → AtL S u Do (.slice o5 n5 k5)) := fun u hu => hD.same (Same.of_below hu hS)
  have HS : Hid (∀ u, Below w.heap.size w u → ∀ b, S b → b < u.heap.size) := fun u hu b hb => Nat.lt_of_lt_of_le (hS b hb) hu.size
  obtain ⟨W, hW⟩ : ∃ W, W = w.alloc (.cells #[.int .i64 now, .int .i64 last, .slice o2 n2 k2, .slice o3 n3 k3, .slice o4 n4 k4, .slice o5 n5 k5] 38) := ⟨_, rfl⟩
  have EW : Hid (W = w.alloc (.cells #[.int .i64 now, .int .i64 last, .slice o2 n2 k2, .slice o3 n3 k3, .slice o4 n4 k4, .slice o5 n5 k5] 38)) := hW
  have BW : Hid (Below w.heap.size w W) := by rw [hW]; exact (Below.refl _ _).alloc (Nat.le_refl _) _
  have RW : Hid (W.heap[w.heap.size]? = some (.cells #[.int .i64 now, .int .i64 last, .slice o2 n2 k2, .slice o3 n3 k3, .slice o4 n4 k4, .slice o5 n5 k5] 38 (0, 0))) := by rw [hW]; exact heap_alloc_new w _
  have sW : w.heap.size + 1 ≤ W.heap.size := by rw [hW]; simp
  clear hW
  have BOX : Hid (∀ u, Below W.heap.size W u → u.heap[w.heap.size]? = some (.cells #[.int .i64 now, .int .i64 last, .slice o2 n2 k2, .slice o3 n3 k3, .slice o4 n4 k4, .slice o5 n5 k5] 38 (0, 0)) ∧ Below w.heap.size w u) := fun u hu => ⟨(hu.block _ (by omega)).trans RW.out, BW.out.trans (hu.mono (by omega))⟩
  clear h hT hB hD hS en4
  have h0 := fun u (hu : Below W.heap.size W u) => cell_row (BOX.out u hu).1
  have Y : Hid (∀ u, Below W.heap.size W u → u.cell? ⟨w.heap.size, 0, none⟩ = some (.int .i64 now) ∧ u.cell? ⟨w.heap.size, 1, none⟩ = some (.int .i64 last) ∧ u.cell? ⟨w.heap.size, 2, none⟩ = some (.slice o2 n2 k2) ∧ u.cell? ⟨w.heap.size, 3, none⟩ = some (.slice o3 n3 k3) ∧ u.cell? ⟨w.heap.size, 4, none⟩ = some (.slice o4 n4 k4) ∧ u.cell? ⟨w.heap.size, 5, none⟩ = some (.slice o5 n5 k5)) := fun u hu =>
    ⟨(h0 u hu 0 _ rfl).1, (h0 u hu 1 _ rfl).1, (h0 u hu 2 _ rfl).1, (h0 u hu 3 _ rfl).1, (h0 u hu 4 _ rfl).1, (h0 u hu 5 _ rfl).1⟩
  clear h0
  have CO : Hid (∀ u, Below w.heap.size w u → ∀ R, houB now last T Bs Ba Do = R → Calls Tryz.prog 12 #[.agg #[.int .i64 now, .int .i64 last, .slice o2 n2 k2, .slice o3 n3 k3, .slice o4 n4 k4, .slice o5 n5 k5]] u fun e w' => e = .returned (.bool R) ∧ Below u.heap.size u w') := fun u hu R hR => by
    subst hR
    exact houX_any S now last o2 o3 o4 o5 n2 k2 n3 k3 n4 k4 n5 k5 T Bs Ba Do u (H2.out u hu) (H3.out u hu) (H4.out u hu) (H5.out u hu) (HS.out u hu)
  cases c : houB now last T Bs Ba Do
  · have er : Hid (lefH now last T Bs Ba Do = 0) := lefH_no c
    have C0 := CO.out W BW.out _ c
    obtain ⟨y0, y1, y2, y3, y4, y5⟩ := Y.out W (Below.refl _ _)
    clear c
    rw [er.out]
    by_cases hn : 0 < n4
    case neg =>
      go_enter Tryz.func5, Tryz.ntmps5
      go_upto_region 1 with fail
      rw [← EW.out]
      go_wp2_with fail
      go_loopw [3, 4] (fun v i wr => v = .int .i64 0 ∧ i = .int .i64 0 ∧ Hid (wr = W)) (fun _ _ _ => 0)
      case atStart => exact ⟨rfl, rfl, rfl⟩
      case round =>
        obtain ⟨rfl, rfl, e⟩ := hrel
        obtain rfl := e.out
        go_wp2_with fail
        go_ret
        exact ⟨rfl, BW.out⟩
    go_enter Tryz.func5, Tryz.ntmps5
    go_upto_region 1 with fail
    rw [← EW.out]
    go_wp2_with fail
    go_loopw [3, 4] (fun v i wr => v = .int .i64 0 ∧ i = .int .i64 0 ∧ Hid (wr = W)) (fun _ _ _ => 0)
    case atStart => exact ⟨rfl, rfl, rfl⟩
    case round =>
      obtain ⟨rfl, rfl, e⟩ := hrel
      obtain rfl := e.out
      go_wp2_with fail
      refine C0.mono ?_; rintro e w2 ⟨rfl, hb2⟩
      have B2 : Hid (Below w.heap.size w w2) := BW.out.trans (hb2.mono BW.out.size)
      clear hb2 C0 y0 y1 y2 y3 y4 y5
      go_wp2_with fail
      go_ret
      exact ⟨rfl, B2.out⟩
  have er : Hid (lefH now last T Bs Ba Do = lefS Ba) := lefH_yes c
  have HR : Hid (∀ i (hi : i < Ba.length), runB Ba[i] = true) := hou_run c
  have hm4 : n4 ≤ 5 := by have := EN.out; have := hou_five c; omega
  have CK : Hid (∀ u, Below w.heap.size w u → Calls Tryz.prog 12 #[.agg #[.int .i64 now, .int .i64 last, .slice o2 n2 k2, .slice o3 n3 k3, .slice o4 n4 k4, .slice o5 n5 k5]] u fun e w' => e = .returned (.bool true) ∧ Below u.heap.size u w') := fun u hu => CO.out u hu true c
  clear c CO
  rw [er.out]
  obtain ⟨y0, y1, y2, y3, y4, y5⟩ := Y.out W (Below.refl _ _)
  go_enter Tryz.func5, Tryz.ntmps5
  go_upto_region 1 with fail
  rw [← EW.out]
  go_wp2_with fail
  clear y0 y1 y2 y3 y4 y5
  go_loopw [3, 4] (fun v i wr => ∃ (k : Nat) (s : Int), k ≤ n4 ∧ v = .int .i64 s ∧ i = .int .i64 k ∧ Hid (s = lefS (Ba.take k)) ∧ Hid (Below W.heap.size W wr)) (fun _ i _ => n4 - (intOf i).toNat)
  case atStart => exact ⟨0, 0, Nat.zero_le _, rfl, rfl, by simp [Hid, lefS], Below.refl _ _⟩
  case round =>
    obtain ⟨k, s, hk, rfl, rfl, hsum, hbel⟩ := hrel
    have hs := hbel.out.size
    have BWR : Hid (Below w.heap.size w wr) := (BOX.out wr hbel.out).2
    obtain ⟨y0, y1, y2, y3, y4, y5⟩ := Y.out wr hbel.out
    by_cases hlt : k < n4
    case neg =>
      have ev : Hid (lefS Ba = s) := by show _ = _; rw [hsum.out, List.take_of_length_le (by have := EN.out; omega)]
      go_wp2_with fail
      go_ret
      rw [ev.out]
      exact ⟨rfl, BWR.out⟩
    have hks : k < Ba.length := by have := EN.out; omega
    go_wp2_with fail
    refine (CK.out wr BWR.out).mono ?_; rintro e w2 ⟨rfl, hb2⟩
    have B2 : Hid (Below W.heap.size W w2) := hbel.out.trans (hb2.mono hs)
    have BW2 : Hid (Below w.heap.size w w2) := (BOX.out w2 B2.out).2
    clear hb2 y0 y1 y2 y3 y4 y5
    obtain ⟨y0, y1, y2, y3, y4, y5⟩ := Y.out w2 B2.out
    obtain ⟨b, off, p1, p2, m1, j1, m2, j2, rfl, hbS, e0, e1, e2, e3, e4, e5, z0, hr, hsl⟩ := rb_at (H4.out w2 BW2.out) k hks
    have hbw := HS.out w2 BW2.out b hbS
    obtain ⟨f, ef⟩ : ∃ f, Ba[k] = f := ⟨_, rfl⟩
    have bd0 := lefS_bd HR.out k (by omega)
    rw [← hsum.out] at bd0
    have rl := run_left (HR.out k hks)
    have rr := run_rec (HR.out k hks)
    have tk := lef_take hks
    rw [← hsum.out] at tk
    rw [ef] at e0 e3 e4 e5 hr hsl rl rr tk
    obtain ⟨nm, r, sl, at_, si, st⟩ := f
    simp only at e0 e3 e4 e5 hr hsl rl rr tk
    obtain ⟨D, hD⟩ : ∃ D, bndF 12 r at_ = D := ⟨_, rfl⟩
    unfold lefI at tk
    simp only at tk
    rw [hD] at rl tk
    have TK : Hid (lefS (Ba.take (k + 1)) = s + (D - if 0 < si then si else 0)) := tk
    obtain ⟨_, ⟨l1, l2⟩, l3, l4⟩ := rl
    obtain ⟨bd1, bd2⟩ := bd0
    have bd1' : -200000000000000000 ≤ s := by omega
    have bd2' : s ≤ 1800000000000000000 := by omega
    have RR : Hid (RecP r) := rr.1
    have HRr : Hid (AtL S w2 r (.slice p1 m1 j1)) := hr
    have CB : Hid (∀ u, Below w2.heap.size w2 u → Calls Tryz.prog 13 #[.slice p1 m1 j1, .string at_] u fun e w' => e = .returned (.int .i64 D) ∧ w' = u) := fun u hu => by
      subst hD
      exact bndX_any S r RR.out 12 _ at_ u (Nat.le_refl _) (HRr.out.same (Same.of_below hu (HS.out w2 BW2.out))) (fun k _ => by have := RR.out.1; omega)
    clear tk hr hsl rr z0 hbS ef hD bd1 bd2 RR HRr
    go_upto_region 6 with fail
    obtain ⟨X, hX⟩ : ∃ X, X = w2.alloc (.cells #[.string nm, .slice p1 m1 j1, .slice p2 m2 j2, .string at_, .int .i64 si, .int .i64 st] 49) := ⟨_, rfl⟩
    have CX : Hid (Below w2.heap.size w2 X) := by rw [hX]; exact (Below.refl _ _).alloc (Nat.le_refl _) _
    have BXX : Hid (Below W.heap.size W X) := B2.out.trans (CX.out.mono B2.out.size)
    have RX : Hid (X.heap[w2.heap.size]? = some (.cells #[.string nm, .slice p1 m1 j1, .slice p2 m2 j2, .string at_, .int .i64 si, .int .i64 st] 49 (0, 0))) := by rw [hX]; exact heap_alloc_new w2 _
    rw [← hX]
    clear hX e0 e1 e2 e3 e4 e5 y0 y1 y2 y3 y4 y5
    have b1 := (cell_row RX.out 1 _ rfl).1
    have b3 := (cell_row RX.out 3 _ rfl).1
    have b4 := (cell_row RX.out 4 _ rfl).1
    have C6 := CB.out X CX.out
    clear CB
    have wp1 : IntKind.i64.wrap (s + D) = s + D := wrap_l _ (by omega) (by omega)
    have wp2 : IntKind.i64.wrap (s + D - si) = s + D - si := wrap_l _ (by omega) (by omega)
    by_cases hsi : 0 < si
    · have TK2 : Hid (s + D - si = lefS (Ba.take (k + 1))) := by have := TK.out; rw [if_pos hsi] at this; show _ = _; omega
      go_wp2_with fail
      refine C6.mono ?_; rintro e w3 ⟨rfl, rfl⟩
      go_wp2_with fail
      go_roundw
      case rel => exact ⟨k + 1, s + D - si, by omega, rfl, by go_num, TK2.out, BXX.out⟩
      case measure => simp [intOf]; omega
    · have TK2 : Hid (s + D = lefS (Ba.take (k + 1))) := by have := TK.out; rw [if_neg hsi] at this; show _ = _; omega
      go_wp2_with fail
      refine C6.mono ?_; rintro e w3 ⟨rfl, rfl⟩
      go_wp2_with fail
      go_roundw
      case rel => exact ⟨k + 1, s + D, by omega, rfl, by go_num, TK2.out, BXX.out⟩
      case measure => simp [intOf]; omega

end Go.Proofs.YtmjafmdecgeckabGreat

/-
  Numbers compared, by the library.
-/
namespace Go.Proofs.YtmjafmdecgeckabGreat
open Go.RowKit Go.Sort

/-- How two numbers are compared. -/
def cmpI (a b : Int) : Int := if a < b then -1 else if b < a then 1 else 0
theorem cmpI_ge (a b : Int) : decide (0 ≤ cmpI a b) = !decide (a < b) := by
  unfold cmpI
  by_cases h : a < b
  · rw [if_pos h]; simp [h]
  · rw [if_neg h]; split <;> simp [h]
theorem isNaN_any (a : Int) (w : World) : Calls Tryz.prog 142 #[.int .i64 a] w fun e w' => e = .returned (.bool false) ∧ w' = w := by
  have h0 : (a == a) = true := by simp
  go_enter Tryz.func142, Tryz.ntmps142
  go_wp2
  go_ret
  exact ⟨by simp, rfl⟩

set_option maxRecDepth 100000 in
set_option maxHeartbeats 4000000 in
theorem cmpN_any (a b : Int) (w : World) : Calls Tryz.prog 108 #[.int .i64 a, .int .i64 b] w fun e w' => e = .returned (.int .i64 (cmpI a b)) ∧ w' = w := by
  by_cases h1 : a < b
  · have d1 : decide (a < b) = true := by simpa using h1
    rw [show cmpI a b = -1 from if_pos h1]
    go_enter Tryz.func108, Tryz.ntmps108
    go_wp2_with (go_at_call 142; refine (isNaN_any _ _).mono ?_; rintro e w1 ⟨rfl, rfl⟩)
    go_ret
    exact ⟨rfl, rfl⟩
  · have d1 : decide (a < b) = false := by simpa using h1
    by_cases h2 : b < a
    · have d2 : decide (b < a) = true := by simpa using h2
      rw [show cmpI a b = 1 from by unfold cmpI; rw [if_neg h1, if_pos h2]]
      go_enter Tryz.func108, Tryz.ntmps108
      go_wp2_with (go_at_call 142; refine (isNaN_any _ _).mono ?_; rintro e w1 ⟨rfl, rfl⟩)
      go_ret
      exact ⟨rfl, rfl⟩
    · have d2 : decide (b < a) = false := by simpa using h2
      rw [show cmpI a b = 0 from by unfold cmpI; rw [if_neg h1, if_neg h2]]
      go_enter Tryz.func108, Tryz.ntmps108
      go_wp2_with (go_at_call 142; refine (isNaN_any _ _).mono ?_; rintro e w1 ⟨rfl, rfl⟩)
      go_ret
      exact ⟨rfl, rfl⟩

end Go.Proofs.YtmjafmdecgeckabGreat

/-
  Is a batch ok? By the program.
-/
namespace Go.Proofs.YtmjafmdecgeckabGreat
open Go.RowKit Go.Sort

theorem pace_in {si v : Int} (h : ¬ si = -1) : (decide (0 ≤ si) && decide (si < v)) = inB si (-1) (v - 1) := by
  have e : inB si (-1) (v - 1) = (decide (-1 ≤ si) && decide (si ≤ v - 1)) := by simp [inB]
  rw [e]
  by_cases h1 : 0 ≤ si
  · rw [decide_eq_true h1, decide_eq_true (by omega : -1 ≤ si)]
    simp only [Bool.true_and]
    congr 1
    exact propext ⟨fun _ => by omega, fun _ => by omega⟩
  · rw [decide_eq_false h1, decide_eq_false (by omega : ¬ -1 ≤ si)]
    rfl
theorem pace_q (nm at_ : ByteArray) (si st : Int) (o1 o2 : Option Addr) (n1 k1 n2 k2 : Nat) (wr : World) (d : Nat) (os : Array Obj) : Calls Tryz.prog 46 #[.agg #[.string nm, .slice o1 n1 k1, .slice o2 n2 k2, .string at_, .int .i64 si, .int .i64 st]] (grow (redrawn wr d) os) fun e w'' => e = .returned (paV si) ∧ ∃ p : Regrown, w'' = grow (redrawn wr p.d) p.os :=
  Calls.regrown_of (pace_any nm at_ si st o1 o2 n1 k1 n2 k2 _)
theorem fitsW_q (wi : Int) (wr : World) (d : Nat) (os : Array Obj) : Calls Tryz.prog 228 #[.agg #[], .int .i64 wi] (grow (redrawn wr d) os) fun e w'' => e = .returned (.bool true) ∧ ∃ p : Regrown, w'' = grow (redrawn wr p.d) p.os :=
  Calls.regrown_of (fitsW_any wi _)
theorem fitsG_q (si wi : Int) (I : Bool) (hI : (decide (0 ≤ si) && decide (si < wi)) = I) (wr : World) (d : Nat) (os : Array Obj) : Calls Tryz.prog 227 #[.agg #[.int .i64 si], .int .i64 wi] (grow (redrawn wr d) os) fun e w'' => e = .returned (.bool I) ∧ ∃ p : Regrown, w'' = grow (redrawn wr p.d) p.os :=
  Calls.regrown_of ((fitsG_any si wi _).mono fun _ _ ⟨he, hw⟩ => ⟨by subst hI; exact he, hw⟩)

set_option maxRecDepth 100000 in
set_option maxHeartbeats 8000000 in
theorem runI_any (S : Nat → Prop) (nm : ByteArray) (r : List DRecPhase) (sl : List DRunSlot) (at_ : ByteArray) (si st : Int) (o1 o2 : Option Addr) (n1 k1 n2 k2 : Nat) (w : World) (hn : nm.size ≤ maxLen) (hr : AtL S w r (.slice o1 n1 k1)) (h : AtL S w sl (.slice o2 n2 k2)) (hS : ∀ b, S b → b < w.heap.size) (tr : totL r ≤ 1048576) (ts : totL sl ≤ 1048576) :
    Calls Tryz.prog 75 #[.agg #[.string nm, .slice o1 n1 k1, .slice o2 n2 k2, .string at_, .int .i64 si, .int .i64 st]] w fun e w' => e = .returned (.bool (runB (nm, r, sl, at_, si, st))) ∧ Below w.heap.size w w' := by
  have hm : ∀ W, (Go.method 385 83 (.agg #[.int .i64 si]) "loop.example/malthouse/impl.fits").run Tryz.prog W = .ok (227, .agg #[.int .i64 si]) W := fun W => by kernel_rfl
  have hna : ∀ W, (Go.nilAhead 385 83 (.agg #[.int .i64 si]) "loop.example/malthouse/impl.fits").run Tryz.prog W = .ok (some false) W := fun W => by kernel_rfl
  have hna2 : ∀ W, (Go.nilAhead 385 130 (.agg #[]) "loop.example/malthouse/impl.fits").run Tryz.prog W = .ok (some false) W := fun W => by kernel_rfl
  have hm2 : ∀ W, (Go.method 385 130 (.agg #[]) "loop.example/malthouse/impl.fits").run Tryz.prog W = .ok (228, .agg #[]) W := fun W => by kernel_rfl
  have HN : Hid (nm.size ≤ maxLen) := hn
  have TR : Hid (totL r ≤ 1048576) := tr
  have TS : Hid (totL sl ≤ 1048576) := ts
  obtain ⟨W, hW⟩ : ∃ W, W = w.alloc (.cells #[.string nm, .slice o1 n1 k1, .slice o2 n2 k2, .string at_, .int .i64 si, .int .i64 st] 49) := ⟨_, rfl⟩
  have EW : Hid (W = w.alloc (.cells #[.string nm, .slice o1 n1 k1, .slice o2 n2 k2, .string at_, .int .i64 si, .int .i64 st] 49)) := hW
  have BW : Hid (Below w.heap.size w W) := by rw [hW]; exact (Below.refl _ _).alloc (Nat.le_refl _) _
  have RW : Hid (W.heap[w.heap.size]? = some (.cells #[.string nm, .slice o1 n1 k1, .slice o2 n2 k2, .string at_, .int .i64 si, .int .i64 st] 49 (0, 0))) := by rw [hW]; exact heap_alloc_new w _
  have sW : w.heap.size + 1 ≤ W.heap.size := by rw [hW]; simp
  clear hW
  have BOX : Hid (∀ u, Below W.heap.size W u → u.heap[w.heap.size]? = some (.cells #[.string nm, .slice o1 n1 k1, .slice o2 n2 k2, .string at_, .int .i64 si, .int .i64 st] 49 (0, 0)) ∧ Below w.heap.size w u) := fun u hu => ⟨(hu.block _ (by omega)).trans RW.out, BW.out.trans (hu.mono (by omega))⟩
  have HR : Hid (∀ u, Below w.heap.size w u → AtL S u r (.slice o1 n1 k1)) := fun u hu => hr.same (Same.of_below hu hS)
  have HA : Hid (∀ u, Below w.heap.size w u → AtL S u sl (.slice o2 n2 k2)) := fun u hu => h.same (Same.of_below hu hS)
  have HS : Hid (∀ u, Below w.heap.size w u → ∀ b, S b → b < u.heap.size) := fun u hu b hb => Nat.lt_of_lt_of_le (hS b hb) hu.size
  have h0 := fun u (hu : Below W.heap.size W u) => cell_row (BOX.out u hu).1
  have Y : Hid (∀ u, Below W.heap.size W u → u.cell? ⟨w.heap.size, 0, none⟩ = some (.string nm) ∧ u.cell? ⟨w.heap.size, 1, none⟩ = some (.slice o1 n1 k1) ∧ u.cell? ⟨w.heap.size, 2, none⟩ = some (.slice o2 n2 k2) ∧ u.cell? ⟨w.heap.size, 3, none⟩ = some (.string at_) ∧ u.cell? ⟨w.heap.size, 4, none⟩ = some (.int .i64 si) ∧ u.cell? ⟨w.heap.size, 5, none⟩ = some (.int .i64 st)) := fun u hu =>
    ⟨(h0 u hu 0 _ rfl).1, (h0 u hu 1 _ rfl).1, (h0 u hu 2 _ rfl).1, (h0 u hu 3 _ rfl).1, (h0 u hu 4 _ rfl).1, (h0 u hu 5 _ rfl).1⟩
  clear h0
  have PH : Hid (∀ k : Nat, atI r at_ = (k : Int) → k < n1 ∧ ∃ b off, o1 = some ⟨b, off, none⟩ ∧ b < w.heap.size ∧ w.cell? ⟨b, off + k * 8 + 5, none⟩ = some (.int .i64 (wiX r at_)) ∧ -9223372036854775808 ≤ wiX r at_ ∧ wiX r at_ ≤ 9223372036854775807) := fun k hk => by
    rcases at_cases r at_ with e | ⟨k', hk', e, _⟩
    · omega
    obtain rfl : k' = k := by omega
    obtain ⟨oa, cap, ev, _, hc⟩ := id hr
    obtain ⟨b, off, eo, hbS, cc, hcell, hat⟩ := hc k' hk'
    rw [width_DRecPhase] at hcell
    rw [at_DRecPhase] at hat
    have ew : wiX r at_ = r[k'].2.2.2.2.2.1 := by unfold wiX; rw [ph_at hk' e]
    cases ev
    refine ⟨hk', b, off, eo, hS b hbS, (hcell 5 (by omega)).trans (by rw [hat.2.2.2.2.2.1.1, ew]), ?_⟩
    rw [ew]
    exact hat.2.2.2.2.2.1.2
  have POS : Hid (recB r = true → 0 ≤ atI r at_ → 1 ≤ wiX r at_) := fun hrb h0 => by
    rcases at_cases r at_ with e | ⟨k', hk', e, _⟩
    · omega
    · have := (ph_name (step_of (rec_iff.1 hrb) hk').1).2.2.1
      have ew : wiX r at_ = r[k'].2.2.2.2.2.1 := by unfold wiX; rw [ph_at hk' e]
      rw [ew]
      omega
  clear h hr hS hn tr ts
  obtain ⟨R, hR⟩ : ∃ R, R = runB (nm, r, sl, at_, si, st) := ⟨_, rfl⟩
  have ER : Hid (R = (nameB nm && recB r && slB r sl && decide (1 ≤ st) && decide (0 ≤ atI r at_) && inB si (-1) (wiX r at_ - 1))) := hR
  rw [← hR]
  clear hR
  obtain ⟨y0, y1, y2, y3, y4, y5⟩ := Y.out W (Below.refl _ _)
  go_enter Tryz.func75, Tryz.ntmps75
  go_upto_region 1 with fail
  rw [← EW.out]
  go_wp2_with fail
  refine (nameI_any nm _ HN.out).mono ?_; rintro e w1 ⟨rfl, hb1⟩
  have B1 : Hid (Below W.heap.size W w1) := hb1
  have BW1 : Hid (Below w.heap.size w w1) := (BOX.out w1 hb1).2
  clear y0 y1 y2 y3 y4 y5 hb1
  obtain ⟨y0, y1, y2, y3, y4, y5⟩ := Y.out w1 B1.out
  cases c0 : nameB nm
  · have er : R = false := by rw [ER.out, c0]; simp
    clear y1 y2 y3 y4 y5
    go_wp2_with fail
    go_ret
    rw [er]
    exact ⟨rfl, BW1.out⟩
  by_cases c3 : st < 1
  · have er : R = false := by rw [ER.out, decide_eq_false (by omega : ¬ 1 ≤ st)]; simp
    go_wp2_with fail
    go_ret
    rw [er]
    exact ⟨rfl, BW1.out⟩
  have c3' : decide (1 ≤ st) = true := decide_eq_true (by omega)
  go_wp2_with fail
  refine (okI_any S r _ w1 (HR.out _ BW1.out) (HS.out _ BW1.out) TR.out).mono ?_; rintro e w2 ⟨rfl, hb2⟩
  have B2 : Hid (Below W.heap.size W w2) := B1.out.trans (hb2.mono B1.out.size)
  clear y0 y1 y2 y3 y4 y5 hb2
  obtain ⟨y0, y1, y2, y3, y4, y5⟩ := Y.out w2 B2.out
  have BW2 : Hid (Below w.heap.size w w2) := (BOX.out w2 B2.out).2
  cases c1 : recB r
  · have er : R = false := by rw [ER.out, c1]; simp
    clear y0 y1 y2 y3 y4 y5
    go_wp2_with fail
    go_ret
    rw [er]
    exact ⟨rfl, BW2.out⟩
  go_wp2_with fail
  refine (slotsOkP_any S nm at_ r sl si st o1 o2 n1 k1 n2 k2 w2 (HR.out _ BW2.out) (HA.out _ BW2.out) (HS.out _ BW2.out) TR.out TS.out (rec_iff.1 c1)).mono ?_; rintro e w3 ⟨rfl, hb3⟩
  have B3 : Hid (Below W.heap.size W w3) := B2.out.trans (hb3.mono B2.out.size)
  clear y0 y1 y2 y3 y4 y5 hb3
  obtain ⟨y0, y1, y2, y3, y4, y5⟩ := Y.out w3 B3.out
  have BW3 : Hid (Below w.heap.size w w3) := (BOX.out w3 B3.out).2
  cases c2 : slB r sl
  · have er : R = false := by rw [ER.out, c2]; simp
    clear y0 y1 y2 y3 y4 y5
    go_wp2_with fail
    go_ret
    rw [er]
    exact ⟨rfl, BW3.out⟩
  go_wp2_with fail
  refine (phAt_any S r _ at_ w3 (HR.out _ BW3.out) (HS.out _ BW3.out)).mono ?_; rintro e w4 ⟨rfl, hb4⟩
  have B4 : Hid (Below W.heap.size W w4) := B3.out.trans (hb4.mono B3.out.size)
  clear y0 y1 y2 y3 y4 y5 hb4
  obtain ⟨y0, y1, y2, y3, y4, y5⟩ := Y.out w4 B4.out
  have BW4 : Hid (Below w.heap.size w w4) := (BOX.out w4 B4.out).2
  have P := POS.out c1
  obtain ⟨ex, hex⟩ : ∃ k : Int, k = atI r at_ := ⟨_, rfl⟩
  by_cases c4 : atI r at_ < 0
  · have er : R = false := by rw [ER.out, decide_eq_false (by omega : ¬ 0 ≤ atI r at_)]; simp
    have d4 : decide (0 ≤ ex) = false := decide_eq_false (by omega)
    rw [← hex]
    clear P hex y0 y1 y2 y3 y5
    go_wp2_with fail
    refine wp_region_quiet_below (by kernel_rfl) (by kernel_rfl) ?_
    repeat (first | go_big_quiet_step (fail) | quiet_step (fail))
    refine wpQuiet_nil ?_
    intro _ hw'
    obtain ⟨⟨dq, osq⟩, hw''⟩ := hw'
    subst hw''
    go_wp2_with fail
    go_ret
    rw [er]
    exact ⟨rfl, BW4.out.trans ((below_regrown w4 dq osq).mono BW4.out.size)⟩
  obtain ⟨k, hk⟩ : ∃ k : Nat, atI r at_ = (k : Int) := ⟨(atI r at_).toNat, by omega⟩
  obtain ⟨hkn, b, off, rfl, hb, ce, hl, hh⟩ := PH.out k hk
  have hpos := P (by omega)
  obtain ⟨v, hv⟩ : ∃ v, v = wiX r at_ := ⟨_, rfl⟩
  rw [← hv] at ce hl hh hpos
  have x5 := (BW4.out.cell (p := ⟨b, off + k * 8 + 5, none⟩) hb).trans ce
  obtain ⟨I, hI⟩ : ∃ I, inB si (-1) (v - 1) = I := ⟨_, rfl⟩
  have er : R = I := by rw [ER.out, c0, c1, c2, c3', decide_eq_true (by omega : 0 ≤ atI r at_), ← hv, hI]; simp
  have q0 := fun d os => cell_regrown y0 d os
  have q1 := fun d os => cell_regrown y1 d os
  have q2 := fun d os => cell_regrown y2 d os
  have q3 := fun d os => cell_regrown y3 d os
  have q4 := fun d os => cell_regrown y4 d os
  have q5 := fun d os => cell_regrown y5 d os
  have qx := fun d os => cell_regrown x5 d os
  rw [hk]
  clear P hex hv x5 ce y0 y1 y2 y3 y4 y5 hk c4
  by_cases c5 : si = -1
  · subst c5
    have hIt : I = true := by rw [← hI]; simp [inB]; omega
    have hp : ∀ d os, Calls Tryz.prog 46 #[.agg #[.string nm, .slice (some ⟨b, off, none⟩) n1 k1, .slice o2 n2 k2, .string at_, .int .i64 (-1), .int .i64 st]] (grow (redrawn w4 d) os) fun e w'' => e = .returned (.iface 130 (.agg #[])) ∧ ∃ p : Regrown, w'' = grow (redrawn w4 p.d) p.os := fun d os => pace_q nm at_ (-1) st _ o2 n1 k1 n2 k2 w4 d os
    go_wp2_with fail
    refine wp_region_quiet_below (by kernel_rfl) (by kernel_rfl) ?_
    repeat (first | go_big_quiet_step (first | (with_reducible exact hp _ _) | (with_reducible exact fitsW_q _ _ _ _)) | quiet_step (first | (with_reducible exact hp _ _) | (with_reducible exact fitsW_q _ _ _ _)))
    refine wpQuiet_nil ?_
    intro _ hw'
    obtain ⟨⟨dq, osq⟩, hw''⟩ := hw'
    subst hw''
    go_wp2_with fail
    go_ret
    rw [er, hIt]
    exact ⟨rfl, BW4.out.trans ((below_regrown w4 dq osq).mono BW4.out.size)⟩
  · have hI2 : (decide (0 ≤ si) && decide (si < v)) = I := by rw [pace_in c5, hI]
    have hp : ∀ d os, Calls Tryz.prog 46 #[.agg #[.string nm, .slice (some ⟨b, off, none⟩) n1 k1, .slice o2 n2 k2, .string at_, .int .i64 si, .int .i64 st]] (grow (redrawn w4 d) os) fun e w'' => e = .returned (.iface 83 (.agg #[.int .i64 si])) ∧ ∃ p : Regrown, w'' = grow (redrawn w4 p.d) p.os := fun d os => by
      rw [← pa_g c5]; exact pace_q nm at_ si st _ o2 n1 k1 n2 k2 w4 d os
    go_wp2_with fail
    refine wp_region_quiet_below (by kernel_rfl) (by kernel_rfl) ?_
    repeat (first | go_big_quiet_step (first | (with_reducible exact hp _ _) | (with_reducible exact fitsG_q _ _ _ hI2 _ _ _)) | quiet_step (first | (with_reducible exact hp _ _) | (with_reducible exact fitsG_q _ _ _ hI2 _ _ _)))
    refine wpQuiet_nil ?_
    intro _ hw'
    obtain ⟨⟨dq, osq⟩, hw''⟩ := hw'
    subst hw''
    go_wp2_with fail
    go_ret
    rw [er]
    exact ⟨rfl, BW4.out.trans ((below_regrown w4 dq osq).mono BW4.out.size)⟩

theorem run_dist {r : List DRecPhase} {sl : List DRunSlot} {nm at_ : ByteArray} {si st : Int} (h : runB (nm, r, sl, at_, si, st) = true) : (sl.map (·.1)).Nodup :=
  ((sl_two (slt_asc r 12 _)).1 (run_rec h).2).1.dist (slt_asc r 12 _)

end Go.Proofs.YtmjafmdecgeckabGreat
