/-
  Several texts in one.
-/
import Derived.Test.YtffmfomonmhkcaaGreatM31
import Derived.Test.YtffmfomonmhkcaaGreatM9
import Derived.Test.YtffmfomonmhkcaaGreatM27
import Derived.Test.YtffmfomonmhkcaaGreatBjm
import Derived.Test.YtffmfomonmhkcaaGreatYd
import Derived.Test.YtffmfomonmhkcaaGreatRva
import Derived.Test.YtffmfomonmhkcaaGreatRz
/-
  Contracts of the program's and of the model's stations of a plant: both answer with all that it tells of stations, each once, ascending, in memory of their own.
-/
namespace Go.Proofs.YtffmfomonmhkcaaGreat
open Go.RowKit

theorem stn_size {D : PD} (hV : D.V) {y : ByteArray} (h : y ∈ stnP D D.np ++ stnV D D.nv) : y.size ≤ 8 := by
  rcases List.mem_append.1 h with h | h
  · obtain ⟨i, hi, rfl⟩ := List.mem_map.1 h
    exact name_size (hV.2.1.2 i (List.mem_range.1 hi)).2.2.2
  · obtain ⟨i, hi, rfl⟩ := List.mem_map.1 h
    exact name_size (hV.2.2.2 i (List.mem_range.1 hi)).2.2.2.2.2
/-- The answer: the stations, or nothing. -/
def stL (b : Bool) (D : PD) : List ByteArray := bif b then stnL D else []

set_option maxRecDepth 100000 in
set_option maxHeartbeats 4000000 in
theorem stations_any (B : Nat) (v0 v1 v2 v3 : Value) (D : PD) (w : World) (h : PAt B w v0 v1 v2 v3 D) (hB : B ≤ w.heap.size) (hV : D.V) :
    Calls Tryz.prog 62 #[.agg #[v0, v1, v2, v3]] w fun e w' => ∃ v, e = .returned v ∧ w'.ownsRow w.heap.size 9 1 v (stnL D).length ((stnL D).map .string) ∧ Below w.heap.size w w' := by
  obtain ⟨i0, hi, hz0, hz1, hz2⟩ := info_parts info9b
  have HV : Hid D.V := hV
  have hnp : D.np ≤ 14 := hV.2.1.1
  have hnv : D.nv ≤ 18 := hV.2.2.1
  clear hV
  have H : Hid (∀ w', Below w.heap.size w w' → PAt B w' v0 v1 v2 v3 D) := fun w' hb => h.kept hb hB
  clear h
  obtain ⟨W, hW⟩ : ∃ W, W = w.alloc (.cells #[v0, v1, v2, v3] 36) := ⟨_, rfl⟩
  have sW : W.heap.size = w.heap.size + 1 := by rw [hW]; simp
  have kW : Hid (Below (w.heap.size + 1) W W) := Below.refl _ _
  have EW : Hid (W = w.alloc (.cells #[v0, v1, v2, v3] 36)) := hW
  have bx : Hid (∀ w', Below (w.heap.size + 1) W w' → (w'.cell? ⟨w.heap.size, 2, none⟩ = some v2 ∧ w'.cell? ⟨w.heap.size, 3, none⟩ = some v3) ∧ Below w.heap.size w w') := fun w' hb => by
    rw [hW] at hb
    exact ⟨⟨box_in hb 2 _ rfl, box_in hb 3 _ rfl⟩, below_end hb⟩
  clear hW
  go_enter Tryz.func62, Tryz.ntmps62
  go_upto_region 2 with fail
  rw [← EW.out]
  obtain ⟨⟨a2, a3⟩, hbw⟩ := bx.out W kW.out
  obtain ⟨op, cp, rfl, _, hcV⟩ := (H.out W hbw).p
  clear hcV
  go_wp2_with fail
  clear a2 a3 hbw
  go_loopw [3, 11] (fun v i wr => ∃ q : Nat, q ≤ D.np ∧ i = .int .i64 q ∧ Hid (wr.ownsRow (w.heap.size + 1) 9 1 v (stnP D q).length ((stnP D q).map .string)) ∧ Hid (Below (w.heap.size + 1) W wr)) (fun _ i _ => D.np - (intOf i).toNat)
  case atStart => exact ⟨0, Nat.zero_le _, rfl, by simpa [Hid, stnP] using World.ownsRow_nil W (w.heap.size + 1) 9 1, kW⟩
  case round =>
    obtain ⟨q, hq, rfl, hown, hbel⟩ := hrel
    obtain ⟨⟨a2, a3⟩, hbw⟩ := bx.out wr hbel.out
    have hsr : w.heap.size + 1 ≤ wr.heap.size := by have := hbel.out.size; omega
    have hlen := stnP_len D q
    by_cases hlt : q < D.np
    · obtain ⟨oa', cap', hv, _, hcv⟩ := (H.out wr hbw).p
      cases hv
      obtain ⟨b, off, rfl, hbB, hcell⟩ := hcv q hlt
      have e0 : wr.cell? ⟨b, off + q * 3, none⟩ = some (.string (D.fp q).1) := hcell 0 (by omega)
      have e1 : wr.cell? ⟨b, off + q * 3 + 1, none⟩ = some (.int .i64 (D.fp q).2.1) := hcell 1 (by omega)
      have e2 : wr.cell? ⟨b, off + q * 3 + 2, none⟩ = some (.string (D.fp q).2.2) := hcell 2 (by omega)
      clear hcv hcell
      go_wp2_with (first
        | (at_builtin; refine wpList_append_own _ rfl _ _ 22 rfl (w.heap.size + 1) 9 i0 (.string ByteArray.empty) 1 16 under24b hi hz0 hz1 hz2 rfl (by decide) _ _ _ rfl ((hown.out.alloc _).alloc _) ⟨wr.heap.size + 1, 0, none⟩ 1 1 [.string (D.fp q).2.2] rfl rfl (by have := cell_one_new (wr.alloc (.cells #[.string (D.fp q).1, .int .i64 (D.fp q).2.1, .string (D.fp q).2.2] 90)) (.string (D.fp q).2.2) 9; simpa using this) (fun x hx => by simp at hx; subst hx; rfl) (by unfold maxLen; omega) (by omega) (by simp; omega) ?_; intro v' w3 hown' hgrow3 hnil3))
      go_roundw
      case rel =>
        have RR : ∃ q' : Nat, q' ≤ D.np ∧ Value.int .i64 ((q : Int) + 1) = .int .i64 (q' : Int) ∧ Hid (w3.ownsRow (w.heap.size + 1) 9 1 v' (stnP D q').length ((stnP D q').map .string)) ∧ Hid (Below (w.heap.size + 1) W w3) :=
          ⟨q + 1, by omega, by go_num, by show World.ownsRow _ _ _ _ _ _ _; rw [stnP_succ]; exact own_push hown', (((hbel.out.alloc hsr _).alloc (by simp; omega) _).grown hgrow3 (by simp; omega) (fun p hp => (hown.out.lt p hp).1))⟩
        first
          | exact RR
          | ((repeat apply Exists.intro); exact ⟨RR, rfl⟩)
      case measure => simp [intOf]; omega
    · obtain rfl : q = D.np := by omega
      obtain ⟨ov, cv, rfl, _, hcV⟩ := (H.out wr hbw).v
      clear hcV
      go_wp2_with fail
      clear a2 a3 hbw
      have O0 := hown
      have K0 := hbel
      clear hown hbel hsr
      go_loopw [3, 24] (fun v i wr => ∃ q : Nat, q ≤ D.nv ∧ i = .int .i64 q ∧ Hid (wr.ownsRow (w.heap.size + 1) 9 1 v (stnP D D.np ++ stnV D q).length ((stnP D D.np ++ stnV D q).map .string)) ∧ Hid (Below (w.heap.size + 1) W wr)) (fun _ i _ => D.nv - (intOf i).toNat)
      case atStart => exact ⟨0, Nat.zero_le _, rfl, by simpa [Hid, stnV] using O0.out, K0⟩
      case round =>
        obtain ⟨q, hq, rfl, hown, hbel⟩ := hrel
        obtain ⟨⟨a2, a3⟩, hbw⟩ := bx.out wr hbel.out
        have hsr : w.heap.size + 1 ≤ wr.heap.size := by have := hbel.out.size; omega
        have hlen2 : (stnP D D.np ++ stnV D q).length ≤ 32 := by rw [List.length_append, stnP_len, stnV_len]; omega
        by_cases hlt : q < D.nv
        · obtain ⟨oa', cap', hv, _, hcv⟩ := (H.out wr hbw).v
          cases hv
          obtain ⟨b, off, rfl, hbB, hcell⟩ := hcv q hlt
          have e0 : wr.cell? ⟨b, off + q * 4, none⟩ = some (.string (D.fv q).1) := hcell 0 (by omega)
          have e1 : wr.cell? ⟨b, off + q * 4 + 1, none⟩ = some (.string (D.fv q).2.1) := hcell 1 (by omega)
          have e2 : wr.cell? ⟨b, off + q * 4 + 2, none⟩ = some (.string (D.fv q).2.2.1) := hcell 2 (by omega)
          have e3 : wr.cell? ⟨b, off + q * 4 + 3, none⟩ = some (.string (D.fv q).2.2.2) := hcell 3 (by omega)
          clear hcv hcell
          go_wp2_with (first
            | (at_builtin; refine wpList_append_own _ rfl _ _ 22 rfl (w.heap.size + 1) 9 i0 (.string ByteArray.empty) 1 16 under24b hi hz0 hz1 hz2 rfl (by decide) _ _ _ rfl ((hown.out.alloc _).alloc _) ⟨wr.heap.size + 1, 0, none⟩ 1 1 [.string (D.fv q).2.2.2] rfl rfl (by have := cell_one_new (wr.alloc (.cells #[.string (D.fv q).1, .string (D.fv q).2.1, .string (D.fv q).2.2.1, .string (D.fv q).2.2.2] 85)) (.string (D.fv q).2.2.2) 9; simpa using this) (fun x hx => by simp at hx; subst hx; rfl) (by unfold maxLen; omega) (by omega) (by simp; omega) ?_; intro v' w3 hown' hgrow3 hnil3))
          go_roundw
          case rel =>
            have RR : ∃ q' : Nat, q' ≤ D.nv ∧ Value.int .i64 ((q : Int) + 1) = .int .i64 (q' : Int) ∧ Hid (w3.ownsRow (w.heap.size + 1) 9 1 v' (stnP D D.np ++ stnV D q').length ((stnP D D.np ++ stnV D q').map .string)) ∧ Hid (Below (w.heap.size + 1) W w3) :=
              ⟨q + 1, by omega, by go_num, by show World.ownsRow _ _ _ _ _ _ _; rw [stnV_succ, ← List.append_assoc]; exact own_push hown', (((hbel.out.alloc hsr _).alloc (by simp; omega) _).grown hgrow3 (by simp; omega) (fun p hp => (hown.out.lt p hp).1))⟩
            first
              | exact RR
              | ((repeat apply Exists.intro); exact ⟨RR, rfl⟩)
          case measure => simp [intOf]; omega
        · obtain rfl : q = D.nv := by omega
          have HM : Hid (∀ y, y ∈ stnL D → y.size ≤ 8) := fun y hy => stn_size HV.out (((insA_both _).2 y).1 hy)
          have HS : Hid (cmpL (sortL (stnP D D.np ++ stnV D D.nv)) = stnL D) := cmp_ins _
          have hl2 := stnL_len D
          generalize stnP D D.np ++ stnV D D.nv = LL at hown HS hlen2
          clear a2 a3 hbw
          go_wp2_with fail
          refine (sortN_any (w.heap.size + 1) _ LL wr hown.out (by omega) hsr).mono ?_; rintro e w1 ⟨rfl, o1, hb1⟩
          have O1 : Hid (w1.ownsRow (w.heap.size + 1) 9 1 u3 (sortL LL).length ((sortL LL).map .string)) := o1
          have k1 : Hid (Below (w.heap.size + 1) W w1) := hbel.out.trans hb1
          have s1 := hb1.size
          have hsl := sort_len LL
          clear o1 hb1 hown hbel
          go_wp2_with fail
          refine (compact_any (w.heap.size + 1) _ (sortL LL) w1 O1.out (by omega) (by omega)).mono ?_; rintro e w2 ⟨v2', rfl, o2, hb2⟩
          rw [HS.out] at o2
          have L2 := own_lst o2 (by omega)
          have k2 : Hid (Below (w.heap.size + 1) W w2) := k1.out.trans hb2
          have s2 := hb2.size
          have HZ : Hid (∀ i, i < (stnL D).length → (nthB (stnL D) i).size ≤ 1048576) := fun i hi => by
            have := HM.out _ (List.mem_of_getElem? (nth_at hi)); omega
          clear o2 hb2
          go_wp2_with fail
          refine (freshI_any w2.heap.size _ (stnL D) w2 L2 (Nat.le_refl _) (by omega) HZ.out).mono ?_; rintro e w3 ⟨v3', rfl, o3, hb3⟩
          have O3 : Hid (w3.ownsRow w2.heap.size 9 1 v3' (stnL D).length ((stnL D).map .string)) := o3
          have k3 : Hid (Below (w.heap.size + 1) W w3) := k2.out.trans (hb3.mono (by omega))
          clear o3 hb3 L2
          go_wp2_with fail
          go_ret
          exact ⟨_, rfl, own_leR O3.out (by omega), (bx.out _ k3.out).2⟩

end Go.Proofs.YtffmfomonmhkcaaGreat

/-
  What is asked of stations, as data.
-/
namespace Go.Proofs.YtffmfomonmhkcaaGreat
open Go.RowKit

theorem enc_S (l : List ByteArray) : enc 1 eS l = l.map .string := by
  induction l with
  | nil => rfl
  | cons x l ih => rw [enc_cons, ih]; rfl
theorem But.grownS {S : Nat → Prop} {w1 u u3 : World} {r : Option Nat} (h : But S w1 u) (hg : u.grownBy u3 r) (hr : ∀ q, r = some q → S q ∨ w1.heap.size ≤ q) : But S w1 u3 :=
  ⟨hg.os.trans h.os, hg.tape.trans h.tape, hg.output.trans h.output, Nat.le_trans h.size hg.size, fun b hb hn => (hg.block b (Nat.lt_of_lt_of_le hb h.size) (fun e => by
    rcases hr b e.symm with hs | hs
    · exact hn hs
    · omega)).trans (h.block b hb hn)⟩
theorem infA : (Tryz.prog.info? 66).map (fun i => (i.zero, i.size, i.bytes)) = some (some (.agg #[.string ByteArray.empty, .int .i64 0, .int .i64 0, .slice none 0 0, .slice none 0 0, .slice none 0 0, .slice none 0 0]), 7, 128) := by kernel_rfl
theorem elA : ElT Tryz.prog 30 66 7 128 := by
  obtain ⟨i, h1, h2, h3, h4⟩ := info_parts infA
  exact ⟨by kernel_rfl, ⟨i, _, h1, h2, h3, h4, rfl⟩, by decide⟩
/-- How much a want asks for. -/
def askN (a : DClaimWant) : Nat := a.2.2.2.1.length + a.2.2.2.2.1.length + a.2.2.2.2.2.length
/-- What is asked of each of a list of stations that has any of a want. -/
def askL (D : PD) (a : DClaimWant) (l : List ByteArray) : List DCtlAsk := (l.filter fun st => decide (0 < askN (ofD D st a))).map fun st => (st, ofD D st a)
theorem askL_yes {D : PD} {a : DClaimWant} {l : List ByteArray} {y : ByteArray} (h : 0 < askN (ofD D y a)) : askL D a (l ++ [y]) = askL D a l ++ [(y, ofD D y a)] := by simp [askL, List.filter_append, h]
theorem askL_no {D : PD} {a : DClaimWant} {l : List ByteArray} {y : ByteArray} (h : ¬ 0 < askN (ofD D y a)) : askL D a (l ++ [y]) = askL D a l := by simp [askL, List.filter_append, h]
theorem askL_len (D : PD) (a : DClaimWant) (l : List ByteArray) : (askL D a l).length ≤ l.length := by
  unfold askL
  rw [List.length_map]
  exact List.length_filter_le _ _
theorem stL_size {D : PD} (hV : D.V) {y : ByteArray} (h : y ∈ stL true D) : y.size ≤ maxLen := by
  have := stn_size hV (((insA_both _).2 y).1 h)
  unfold maxLen; omega
/-- A want and the name of a station are an ask. -/
theorem ask_on {S : Nat → Prop} {w : World} {y : ByteArray} {b : DClaimWant} {g : Nat → Value} {x0 x1 x2 x3 x4 x5 : Value} (hy : y.size ≤ maxLen) (h : Own.On S w b g) (e0 : g 0 = x0) (e1 : g 1 = x1) (e2 : g 2 = x2) (e3 : g 3 = x3) (e4 : g 4 = x4) (e5 : g 5 = x5) :
    Own.On S w ((y, b) : DCtlAsk) (cs [.string y, x0, x1, x2, x3, x4, x5]) :=
  ⟨fun _ => False, S, fun _ h => h.elim, fun _ h => h, ⟨rfl, hy⟩, Own.on_ext h (fun j hj => by
    have hj : j < 6 := hj
    rcases (show j = 0 ∨ j = 1 ∨ j = 2 ∨ j = 3 ∨ j = 4 ∨ j = 5 by omega) with rfl | rfl | rfl | rfl | rfl | rfl
    · exact e0.symm
    · exact e1.symm
    · exact e2.symm
    · exact e3.symm
    · exact e4.symm
    · exact e5.symm)⟩

end Go.Proofs.YtffmfomonmhkcaaGreat

/-
  A contract of the model's l31PlacesOk: whether places are a plant's.
-/
namespace Go.Proofs.YtffmfomonmhkcaaGreat
open Go.RowKit

/-- A list of places of a plant, ascending. -/
def itsP (D : PD) (l : List ByteArray) : Prop := 1 ≤ l.length ∧ l.length ≤ 8 ∧ ∀ i, i < l.length → 0 ≤ placeI D.np D.fp (nthB l i) ∧ (0 < i → ltB (nthB l (i - 1)) (nthB l i) = true)
theorem place_neg {n : Nat} {f : Nat → ByteArray × Int × ByteArray} {x : ByteArray} (h : ¬ 0 ≤ placeI n f x) : placeI n f x = -1 := by
  unfold placeI at h ⊢
  cases e : (List.range n).find? (fun i => eqB (f i).1 x) with
  | none => rfl
  | some k => rw [e] at h; exact absurd (Int.natCast_nonneg k) h
theorem nthB_at {l : List ByteArray} {i : Nat} (h : i < l.length) : nthB l i = l[i] := by
  unfold nthB
  rw [List.getD_eq_getElem?_getD, List.getElem?_eq_getElem h]; rfl

set_option maxRecDepth 100000 in
set_option maxHeartbeats 8000000 in
theorem itsS_any (B : Nat) (S : Nat → Prop) (v0 v1 v2 v3 : Value) (D : PD) (l : List ByteArray) (v : Value) (w : World) (h : PAt B w v0 v1 v2 v3 D) (hB : B ≤ w.heap.size) (hl : AtL S w l v) (hS : ∀ b, S b → b < w.heap.size) :
    Calls Tryz.prog 21 #[.agg #[v0, v1, v2, v3], v] w fun e w' => ∃ b, e = .returned (.bool b) ∧ (b = true ↔ itsP D l) ∧ Below w.heap.size w w' := by
  obtain ⟨o1, c1, rfl, hn1, hc1⟩ := hl
  clear hn1
  obtain ⟨n, en⟩ : ∃ n, l.length = n := ⟨_, rfl⟩
  rw [en]
  have EN : Hid (l.length = n) := en
  clear en
  have HC : Hid (∀ i, i < n → ∃ b off, o1 = some ⟨b, off, none⟩ ∧ b < w.heap.size ∧ w.cell? ⟨b, off + i, none⟩ = some (.string (nthB l i))) := fun i hi => by
    have hi' : i < l.length := by rw [EN.out]; exact hi
    obtain ⟨b, off, eo, hb, cc, hx, hat⟩ := hc1 i hi'
    refine ⟨b, off, eo, hS b hb, ?_⟩
    have h0 := hx 0 (by rw [width_str]; omega)
    rw [width_str, Nat.mul_one, Nat.add_zero] at h0
    rw [at_str] at hat
    rw [h0, hat.1, nthB_at hi']
  clear hc1
  have H : Hid (∀ w', Below w.heap.size w w' → PAt B w' v0 v1 v2 v3 D) := fun w' hb => h.kept hb hB
  clear h
  have hbl : Hid (Below w.heap.size w (w.alloc (.cells #[v0, v1, v2, v3] 36))) := (Below.refl _ _).alloc (Nat.le_refl _) _
  by_cases h0 : n = 0
  · subst h0
    go_enter Tryz.func21, Tryz.ntmps21
    go_wp2
    go_ret
    exact ⟨false, rfl, ⟨(fun h => by cases h), fun h => absurd h.1 (by rw [EN.out]; omega)⟩, hbl.out⟩
  have d1 : ((n : Int) == 0) = false := by simp; omega
  have d2 : decide ((n : Int) = 0) = false := by simp; omega
  by_cases h8 : 8 < n
  · have d3 : decide ((8 : Int) < (n : Int)) = true := by simp; omega
    go_enter Tryz.func21, Tryz.ntmps21
    go_wp2
    go_ret
    exact ⟨false, rfl, ⟨(fun h => by cases h), fun h => absurd h.2.1 (by rw [EN.out]; omega)⟩, hbl.out⟩
  have d3 : decide ((8 : Int) < (n : Int)) = false := by simp; omega
  go_enter Tryz.func21, Tryz.ntmps21
  go_wp2
  go_loopw [5] (fun i wr => ∃ q : Nat, q ≤ n ∧ i = .int .i64 q ∧ Hid (∀ j, j < q → 0 ≤ placeI D.np D.fp (nthB l j) ∧ (0 < j → ltB (nthB l (j - 1)) (nthB l j) = true)) ∧ Hid (Below (w.heap.size + 1) (w.alloc (.cells #[v0, v1, v2, v3] 36)) wr)) (fun i _ => n - (intOf i).toNat)
  case atStart => exact ⟨0, Nat.zero_le _, rfl, fun _ h => by omega, Below.refl _ _⟩
  case round =>
    obtain ⟨q, hq, rfl, hall, hbel⟩ := hrel
    have hsz : w.heap.size + 1 ≤ wr.heap.size := by have := hbel.out.size; simpa using this
    have bwr : Hid (Below w.heap.size w wr) := hbl.out.trans (hbel.out.mono (by omega))
    have b0 := box_in hbel.out 0 (v0) rfl
    have b1 := box_in hbel.out 1 (v1) rfl
    have b2 := box_in hbel.out 2 (v2) rfl
    have b3 := box_in hbel.out 3 (v3) rfl
    by_cases hlq : q < n
    · obtain ⟨b, off, eo, hbB, hx⟩ := HC.out q hlq
      subst eo
      have e0 : wr.cell? ⟨b, off + q, none⟩ = some (.string (nthB l q)) := (bwr.out.cell (p := ⟨b, off + q, none⟩) hbB).trans hx
      clear hx
      have q_e0 := fun d os => cell_regrown e0 d os
      have q_b0 := fun d os => cell_regrown b0 d os
      have q_b1 := fun d os => cell_regrown b1 d os
      have q_b2 := fun d os => cell_regrown b2 d os
      have q_b3 := fun d os => cell_regrown b3 d os
      by_cases hq0 : q = 0
      · have gt0 : decide (0 < q) = false := by simp; omega
        have HK : Hid (q = 0) := hq0
        clear hq0
        by_cases hin : 0 ≤ placeI D.np D.fp (nthB l (q))
        · obtain ⟨kp, hkp, hkI, _, _⟩ := place_ix hin
          have dk : decide ((kp : Int) < 0) = false := by simp
          have HQ : Hid (∀ d os, Calls Tryz.prog 49 #[.agg #[v0, v1, v2, v3], .string (nthB l (q))] (Sort.grow (redrawn wr d) os) fun e w'' => e = .returned (.int .i64 (kp)) ∧ ∃ p : Regrown, w'' = Sort.grow (redrawn wr p.d) p.os) := fun d os => by have := place_q B v0 v1 v2 v3 D.np D.fp (nthB l (q)) wr (H.out wr bwr.out).p (Nat.le_trans hB bwr.out.size) d os; rw [hkI] at this; exact this
          go_wp2
          refine wp_region_quiet_below (by kernel_rfl) (by kernel_rfl) ?_
          repeat (first | go_big_quiet_step (with_reducible exact HQ.out _ _) | quiet_step (with_reducible exact HQ.out _ _))
          refine wpQuiet_nil ?_
          intro _ hw'
          obtain ⟨⟨dq, osq⟩, hw''⟩ := hw'
          subst hw''
          go_wp2
          go_roundw
          case rel => exact ⟨q + 1, by omega, by go_num, fun j hj => by
            by_cases e : j = q
            · subst e; exact ⟨hin, fun h => by have := HK.out; omega⟩
            · exact hall.out j (by omega), hbel.out.trans ((below_regrown _ dq osq).mono hsz)⟩
          case measure => simp [intOf]; omega
        · have hkI := place_neg hin
          have HQ : Hid (∀ d os, Calls Tryz.prog 49 #[.agg #[v0, v1, v2, v3], .string (nthB l (q))] (Sort.grow (redrawn wr d) os) fun e w'' => e = .returned (.int .i64 (-1)) ∧ ∃ p : Regrown, w'' = Sort.grow (redrawn wr p.d) p.os) := fun d os => by have := place_q B v0 v1 v2 v3 D.np D.fp (nthB l (q)) wr (H.out wr bwr.out).p (Nat.le_trans hB bwr.out.size) d os; rw [hkI] at this; exact this
          go_wp2
          refine wp_region_quiet_below (by kernel_rfl) (by kernel_rfl) ?_
          repeat (first | go_big_quiet_step (with_reducible exact HQ.out _ _) | quiet_step (with_reducible exact HQ.out _ _))
          refine wpQuiet_nil ?_
          intro _ hw'
          obtain ⟨⟨dq, osq⟩, hw''⟩ := hw'
          subst hw''
          go_wp2
          go_ret
          exact ⟨false, rfl, ⟨(fun h => by cases h), fun h => absurd (h.2.2 q (by rw [EN.out]; omega)) (by intro h; have := h.1; omega)⟩, below_end (hbel.out.trans ((below_regrown _ dq osq).mono hsz))⟩
      · obtain ⟨m, rfl⟩ : ∃ m, q = m + 1 := ⟨q - 1, by omega⟩
        obtain ⟨b', off', e', hbB', hxm⟩ := HC.out m (by omega)
        cases e'
        have m0 : wr.cell? ⟨b, off + m, none⟩ = some (.string (nthB l m)) := (bwr.out.cell (p := ⟨b, off + m, none⟩) hbB).trans hxm
        clear hxm
        have q_m0 := fun d os => cell_regrown m0 d os
        have gt0 : decide ((0 : Int) < ((m : Int) + 1)) = true := by rw [decide_eq_true_eq]; omega
        by_cases hin : 0 ≤ placeI D.np D.fp (nthB l (m + 1))
        · obtain ⟨kp, hkp, hkI, _, _⟩ := place_ix hin
          have dk : decide ((kp : Int) < 0) = false := by simp
          have HQ : Hid (∀ d os, Calls Tryz.prog 49 #[.agg #[v0, v1, v2, v3], .string (nthB l (m + 1))] (Sort.grow (redrawn wr d) os) fun e w'' => e = .returned (.int .i64 (kp)) ∧ ∃ p : Regrown, w'' = Sort.grow (redrawn wr p.d) p.os) := fun d os => by have := place_q B v0 v1 v2 v3 D.np D.fp (nthB l (m + 1)) wr (H.out wr bwr.out).p (Nat.le_trans hB bwr.out.size) d os; rw [hkI] at this; exact this
          cases hlt : Op.bytesLess (nthB l m).toList (nthB l (m + 1)).toList
          · go_wp2
            refine wp_region_quiet_below (by kernel_rfl) (by kernel_rfl) ?_
            repeat (first | go_big_quiet_step (with_reducible exact HQ.out _ _) | quiet_step (with_reducible exact HQ.out _ _))
            refine wpQuiet_nil ?_
            intro _ hw'
            obtain ⟨⟨dq, osq⟩, hw''⟩ := hw'
            subst hw''
            go_wp2
            go_ret
            exact ⟨false, rfl, ⟨(fun h => by cases h), fun h => absurd (h.2.2 (m + 1) (by rw [EN.out]; omega)) (by intro h; have := h.2 (by omega); rw [Nat.add_sub_cancel, ltB, hlt] at this; cases this)⟩, below_end (hbel.out.trans ((below_regrown _ dq osq).mono hsz))⟩
          · go_wp2
            refine wp_region_quiet_below (by kernel_rfl) (by kernel_rfl) ?_
            repeat (first | go_big_quiet_step (with_reducible exact HQ.out _ _) | quiet_step (with_reducible exact HQ.out _ _))
            refine wpQuiet_nil ?_
            intro _ hw'
            obtain ⟨⟨dq, osq⟩, hw''⟩ := hw'
            subst hw''
            go_wp2
            go_roundw
            case rel => exact ⟨(m + 1) + 1, by omega, by go_num, fun j hj => by
              by_cases e : j = (m + 1)
              · subst e; exact ⟨hin, fun _ => by rw [Nat.add_sub_cancel, ltB, hlt]⟩
              · exact hall.out j (by omega), hbel.out.trans ((below_regrown _ dq osq).mono hsz)⟩
            case measure => simp [intOf]; omega
        · have hkI := place_neg hin
          have HQ : Hid (∀ d os, Calls Tryz.prog 49 #[.agg #[v0, v1, v2, v3], .string (nthB l (m + 1))] (Sort.grow (redrawn wr d) os) fun e w'' => e = .returned (.int .i64 (-1)) ∧ ∃ p : Regrown, w'' = Sort.grow (redrawn wr p.d) p.os) := fun d os => by have := place_q B v0 v1 v2 v3 D.np D.fp (nthB l (m + 1)) wr (H.out wr bwr.out).p (Nat.le_trans hB bwr.out.size) d os; rw [hkI] at this; exact this
          go_wp2
          refine wp_region_quiet_below (by kernel_rfl) (by kernel_rfl) ?_
          repeat (first | go_big_quiet_step (with_reducible exact HQ.out _ _) | quiet_step (with_reducible exact HQ.out _ _))
          refine wpQuiet_nil ?_
          intro _ hw'
          obtain ⟨⟨dq, osq⟩, hw''⟩ := hw'
          subst hw''
          go_wp2
          go_ret
          exact ⟨false, rfl, ⟨(fun h => by cases h), fun h => absurd (h.2.2 (m + 1) (by rw [EN.out]; omega)) (by intro h; have := h.1; omega)⟩, below_end (hbel.out.trans ((below_regrown _ dq osq).mono hsz))⟩
    · go_wp2
      go_ret
      exact ⟨true, rfl, ⟨fun _ => ⟨by rw [EN.out]; omega, by rw [EN.out]; omega, fun i hi => hall.out i (by rw [EN.out] at hi; omega)⟩, fun _ => rfl⟩, below_end hbel.out⟩

end Go.Proofs.YtffmfomonmhkcaaGreat

/-
  The whole want of what is done at places, as data.
-/
namespace Go.Proofs.YtffmfomonmhkcaaGreat
open Go.RowKit

theorem foldl_insR_len : ∀ (L acc : List ByteArray), (L.foldl insR acc).length ≤ acc.length + L.length
  | [], _ => by simp
  | x :: L, acc => by
    have h1 := foldl_insR_len L (insR acc x)
    have h2 := insR_len acc x
    rw [List.foldl_cons, List.length_cons]
    omega
theorem flat_len {f : ByteArray → List ByteArray} {c : Nat} : ∀ (l : List ByteArray), (∀ x ∈ l, (f x).length ≤ c) → (l.flatMap f).length ≤ l.length * c
  | [], _ => by simp
  | x :: l, h => by
    have h1 := flat_len l (fun y hy => h y (List.mem_cons_of_mem _ hy))
    have h2 := h x List.mem_cons_self
    rw [List.flatMap_cons, List.length_append, List.length_cons, Nat.add_mul]
    omega
/-- The names of the valves beside each of a list of places. -/
def besL (D : PD) (l : List ByteArray) : List ByteArray := l.flatMap fun x => besN D.fv x D.nv
theorem bes_len (D : PD) (x : ByteArray) : (besN D.fv x D.nv).length ≤ D.nv := by
  have := List.length_filter_le (fun i => endB (D.fv i) x) (List.range D.nv)
  simp only [besN, List.length_map]
  simpa using this
theorem besL_len (D : PD) (l : List ByteArray) : (besL D l).length ≤ l.length * D.nv := flat_len l (fun x _ => bes_len D x)
theorem besL_snoc (D : PD) (l : List ByteArray) (x : ByteArray) : besL D (l ++ [x]) = besL D l ++ besN D.fv x D.nv := by simp [besL]
/-- The uses, the whole want. -/
def useL (l : List ByteArray) : List DClaimUse := l.map fun x => (x, 3, 0)
theorem useL_snoc (l : List ByteArray) (x : ByteArray) : useL (l ++ [x]) = useL l ++ [(x, 3, 0)] := by simp [useL]
def atD (D : PD) (num kind : Int) (l : List ByteArray) : DClaimWant := (num, kind, [], useL l, [], insA (besL D l))
theorem at_in {D : PD} {num kind : Int} {l : List ByteArray} (h : itsP D l) : WIn D (atD D num kind l) where
  u := fun x hx => by
    obtain ⟨y, hy, rfl⟩ := List.mem_map.1 hx
    obtain ⟨i, hi, rfl⟩ := List.getElem_of_mem hy
    have := (h.2.2 i hi).1
    rw [nthB_at hi] at this
    exact this
  o := fun x hx => nomatch hx
  s := fun x hx => by
    have hx1 : x ∈ besL D l := ((insA_both _).2 x).1 hx
    obtain ⟨y, _, hy⟩ := List.mem_flatMap.1 hx1
    obtain ⟨i, hi, rfl⟩ := List.mem_map.1 hy
    have hi1 := List.mem_range.1 (List.mem_filter.1 hi).1
    unfold valI
    cases e : (List.range D.nv).find? (fun j => eqB (D.fv j).1 (D.fv i).1) with
    | none => exact absurd (List.find?_eq_none.1 e i (List.mem_range.2 hi1)) (by simp [eqB])
    | some k => exact Int.natCast_nonneg k
theorem sum_le {α : Type} [Lay α] {l : List α} {c : Nat} (h : ∀ x ∈ l, Lay.tot x ≤ c) : ∀ k, k ≤ l.length → sumTo l k ≤ k * c := by
  intro k
  induction k with
  | zero => intro _; simp [sumTo]
  | succ k ih =>
    intro hk
    have h1 := ih (by omega)
    have h2 := h (l[k]'(by omega)) (List.getElem_mem _)
    rw [sumTo_succ l k (by omega), Nat.add_mul]
    omega
theorem tot_le {α : Type} [Lay α] {l : List α} {c : Nat} (h : ∀ x ∈ l, Lay.tot x ≤ c) : totL l ≤ l.length + l.length * c := by
  have := sum_le h l.length (Nat.le_refl _)
  unfold totL; omega
theorem its_size {D : PD} (hV : D.V) {l : List ByteArray} (h : itsP D l) {x : ByteArray} (hx : x ∈ l) : x.size ≤ 8 := by
  obtain ⟨i, hi, rfl⟩ := List.getElem_of_mem hx
  have h1 := (h.2.2 i hi).1
  rw [nthB_at hi] at h1
  obtain ⟨k, hk, _, _, he⟩ := place_ix h1
  have := name_size (hV.2.1.2 k hk).1
  rw [← eqB_size he]
  exact this
theorem sh_size {D : PD} (hV : D.V) {l : List ByteArray} {x : ByteArray} (hx : x ∈ insA (besL D l)) : x.size ≤ 8 := by
  have hx1 : x ∈ besL D l := ((insA_both _).2 x).1 hx
  obtain ⟨y, _, hy⟩ := List.mem_flatMap.1 hx1
  obtain ⟨i, hi, rfl⟩ := List.mem_map.1 hy
  exact name_size (hV.2.2.2 i (List.mem_range.1 (List.mem_filter.1 hi).1)).1
theorem at_tot {D : PD} (hV : D.V) {num kind : Int} {l : List ByteArray} (h : itsP D l) : Lay.tot (atD D num kind l) ≤ 1048576 := by
  have hv : D.nv ≤ 18 := hV.2.2.1
  have h8 : l.length ≤ 8 := h.2.1
  have hl1 : (useL l).length = l.length := by simp [useL]
  have hl2 : (insA (besL D l)).length ≤ 144 := by
    have a1 := insA_len (besL D l)
    have a2 := besL_len D l
    have a3 : l.length * D.nv ≤ 8 * 18 := Nat.mul_le_mul h8 hv
    omega
  have t1 : totL (useL l) ≤ (useL l).length + (useL l).length * 8 := tot_le (fun x hx => by
    obtain ⟨y, hy, rfl⟩ := List.mem_map.1 hx
    have := its_size hV h hy
    rw [tot_DClaimUse]
    show y.size + (0 + 0) ≤ 8
    omega)
  have t2 : totL (insA (besL D l)) ≤ (insA (besL D l)).length + (insA (besL D l)).length * 8 := tot_le (fun x hx => sh_size hV hx)
  have t3 : totL ([] : List ByteArray) = 0 := rfl
  rw [tot_DClaimWant]
  show 0 + (0 + (totL ([] : List ByteArray) + (totL (useL l) + (totL ([] : List ByteArray) + totL (insA (besL D l)))))) ≤ _
  rw [t3]
  omega

end Go.Proofs.YtffmfomonmhkcaaGreat
