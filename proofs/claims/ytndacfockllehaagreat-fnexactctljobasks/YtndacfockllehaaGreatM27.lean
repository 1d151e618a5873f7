/-
  Several texts in one.
-/
import Derived.Test.YtndacfockllehaaGreatM24
import Derived.Test.YtndacfockllehaaGreatM2
import Derived.Test.YtndacfockllehaaGreatRva
import Derived.Test.YtndacfockllehaaGreatBp
import Derived.Test.YtndacfockllehaaGreatZb
import Derived.Test.YtndacfockllehaaGreatM12
import Derived.Deep.Cut
import Derived.Test.YtndacfockllehaaGreatKa
import Derived.Test.YtndacfockllehaaGreatShelf
import Derived.Sort.OwnSorted
/-
  A contract of the model's l31PlacesOk: whether places are a plant's.
-/
namespace Go.Proofs.YtndacfockllehaaGreat
open Go.RowKit

/-- A list of places of a plant, ascending. -/
def itsP (D : PD) (l : List ByteArray) : Prop := 1 ≤ l.length ∧ l.length ≤ 8 ∧ ∀ i, i < l.length → 0 ≤ placeI D.np D.fp (nthB l i) ∧ (0 < i → ltB (nthB l (i - 1)) (nthB l i) = true)
theorem place_neg {n : Nat} {f : Nat → ByteArray × Int × ByteArray} {x : ByteArray} (h : ¬ 0 ≤ placeI n f x) : placeI n f x = -1 := by
  unfold placeI at h ⊢
  cases e : (List.range n).find? (fun i => eqB (f i).1 x) with
  | none => rfl
  | some k => rw [e] at h; exact absurd (Int.natCast_nonneg k) h
theorem nthB_at {l : List ByteArray} {i : Nat} (h : i < l.length) : nthB l i = l[i] := by
  unfold nthB
  rw [List.getD_eq_getElem?_getD, List.getElem?_eq_getElem h]; rfl

set_option maxRecDepth 100000 in
set_option maxHeartbeats 8000000 in
theorem itsS_any (B : Nat) (S : Nat → Prop) (v0 v1 v2 v3 : Value) (D : PD) (l : List ByteArray) (v : Value) (w : World) (h : PAt B w v0 v1 v2 v3 D) (hB : B ≤ w.heap.size) (hl : AtL S w l v) (hS : ∀ b, S b → b < w.heap.size) :
    Calls Tryz.prog 55 #[.agg #[v0, v1, v2, v3], v] w fun e w' => ∃ b, e = .returned (.bool b) ∧ (b = true ↔ itsP D l) ∧ Below w.heap.size w w' := by
  obtain ⟨o1, c1, rfl, hn1, hc1⟩ := hl
  clear hn1
  obtain ⟨n, en⟩ : ∃ n, l.length = n := ⟨_, rfl⟩
  rw [en]
  have EN : Hid (l.length = n) := en
  clear en
  have HC : Hid (∀ i, i < n → ∃ b off, o1 = some ⟨b, off, none⟩ ∧ b < w.heap.size ∧ w.cell? ⟨b, off + i, none⟩ = some (.string (nthB l i))) := fun i hi => by
    have hi' : i < l.length := by rw [EN.out]; exact hi
    obtain ⟨b, off, eo, hb, cc, hx, hat⟩ := hc1 i hi'
    refine ⟨b, off, eo, hS b hb, ?_⟩
    have h0 := hx 0 (by rw [width_str]; omega)
    rw [width_str, Nat.mul_one, Nat.add_zero] at h0
    rw [at_str] at hat
    rw [h0, hat.1, nthB_at hi']
  clear hc1
  have H : Hid (∀ w', Below w.heap.size w w' → PAt B w' v0 v1 v2 v3 D) := fun w' hb => h.kept hb hB
  clear h
  have hbl : Hid (Below w.heap.size w (w.alloc (.cells #[v0, v1, v2, v3] 40))) := (Below.refl _ _).alloc (Nat.le_refl _) _
  by_cases h0 : n = 0
  · subst h0
    go_enter Tryz.func55, Tryz.ntmps55
    go_wp2
    go_ret
    exact ⟨false, rfl, ⟨(fun h => by cases h), fun h => absurd h.1 (by rw [EN.out]; omega)⟩, hbl.out⟩
  have d1 : ((n : Int) == 0) = false := by simp; omega
  have d2 : decide ((n : Int) = 0) = false := by simp; omega
  by_cases h8 : 8 < n
  · have d3 : decide ((8 : Int) < (n : Int)) = true := by simp; omega
    go_enter Tryz.func55, Tryz.ntmps55
    go_wp2
    go_ret
    exact ⟨false, rfl, ⟨(fun h => by cases h), fun h => absurd h.2.1 (by rw [EN.out]; omega)⟩, hbl.out⟩
  have d3 : decide ((8 : Int) < (n : Int)) = false := by simp; omega
  go_enter Tryz.func55, Tryz.ntmps55
  go_wp2
  go_loopw [5] (fun i wr => ∃ q : Nat, q ≤ n ∧ i = .int .i64 q ∧ Hid (∀ j, j < q → 0 ≤ placeI D.np D.fp (nthB l j) ∧ (0 < j → ltB (nthB l (j - 1)) (nthB l j) = true)) ∧ Hid (Below (w.heap.size + 1) (w.alloc (.cells #[v0, v1, v2, v3] 40)) wr)) (fun i _ => n - (intOf i).toNat)
  case atStart => exact ⟨0, Nat.zero_le _, rfl, fun _ h => by omega, Below.refl _ _⟩
  case round =>
    obtain ⟨q, hq, rfl, hall, hbel⟩ := hrel
    have hsz : w.heap.size + 1 ≤ wr.heap.size := by have := hbel.out.size; simpa using this
    have bwr : Hid (Below w.heap.size w wr) := hbl.out.trans (hbel.out.mono (by omega))
    have b0 := box_in hbel.out 0 (v0) rfl
    have b1 := box_in hbel.out 1 (v1) rfl
    have b2 := box_in hbel.out 2 (v2) rfl
    have b3 := box_in hbel.out 3 (v3) rfl
    by_cases hlq : q < n
    · obtain ⟨b, off, eo, hbB, hx⟩ := HC.out q hlq
      subst eo
      have e0 : wr.cell? ⟨b, off + q, none⟩ = some (.string (nthB l q)) := (bwr.out.cell (p := ⟨b, off + q, none⟩) hbB).trans hx
      clear hx
      have q_e0 := fun d os => cell_regrown e0 d os
      have q_b0 := fun d os => cell_regrown b0 d os
      have q_b1 := fun d os => cell_regrown b1 d os
      have q_b2 := fun d os => cell_regrown b2 d os
      have q_b3 := fun d os => cell_regrown b3 d os
      by_cases hq0 : q = 0
      · have gt0 : decide (0 < q) = false := by simp; omega
        have HK : Hid (q = 0) := hq0
        clear hq0
        by_cases hin : 0 ≤ placeI D.np D.fp (nthB l (q))
        · obtain ⟨kp, hkp, hkI, _, _⟩ := place_ix hin
          have dk : decide ((kp : Int) < 0) = false := by simp
          have HQ : Hid (∀ d os, Calls Tryz.prog 78 #[.agg #[v0, v1, v2, v3], .string (nthB l (q))] (Sort.grow (redrawn wr d) os) fun e w'' => e = .returned (.int .i64 (kp)) ∧ ∃ p : Regrown, w'' = Sort.grow (redrawn wr p.d) p.os) := fun d os => by have := place_q B v0 v1 v2 v3 D.np D.fp (nthB l (q)) wr (H.out wr bwr.out).p (Nat.le_trans hB bwr.out.size) d os; rw [hkI] at this; exact this
          go_wp2
          refine wp_region_quiet_below (by kernel_rfl) (by kernel_rfl) ?_
          repeat (first | go_big_quiet_step (with_reducible exact HQ.out _ _) | quiet_step (with_reducible exact HQ.out _ _))
          refine wpQuiet_nil ?_
          intro _ hw'
          obtain ⟨⟨dq, osq⟩, hw''⟩ := hw'
          subst hw''
          go_wp2
          go_roundw
          case rel => exact ⟨q + 1, by omega, by go_num, fun j hj => by
            by_cases e : j = q
            · subst e; exact ⟨hin, fun h => by have := HK.out; omega⟩
            · exact hall.out j (by omega), hbel.out.trans ((below_regrown _ dq osq).mono hsz)⟩
          case measure => simp [intOf]; omega
        · have hkI := place_neg hin
          have HQ : Hid (∀ d os, Calls Tryz.prog 78 #[.agg #[v0, v1, v2, v3], .string (nthB l (q))] (Sort.grow (redrawn wr d) os) fun e w'' => e = .returned (.int .i64 (-1)) ∧ ∃ p : Regrown, w'' = Sort.grow (redrawn wr p.d) p.os) := fun d os => by have := place_q B v0 v1 v2 v3 D.np D.fp (nthB l (q)) wr (H.out wr bwr.out).p (Nat.le_trans hB bwr.out.size) d os; rw [hkI] at this; exact this
          go_wp2
          refine wp_region_quiet_below (by kernel_rfl) (by kernel_rfl) ?_
          repeat (first | go_big_quiet_step (with_reducible exact HQ.out _ _) | quiet_step (with_reducible exact HQ.out _ _))
          refine wpQuiet_nil ?_
          intro _ hw'
          obtain ⟨⟨dq, osq⟩, hw''⟩ := hw'
          subst hw''
          go_wp2
          go_ret
          exact ⟨false, rfl, ⟨(fun h => by cases h), fun h => absurd (h.2.2 q (by rw [EN.out]; omega)) (by intro h; have := h.1; omega)⟩, below_end (hbel.out.trans ((below_regrown _ dq osq).mono hsz))⟩
      · obtain ⟨m, rfl⟩ : ∃ m, q = m + 1 := ⟨q - 1, by omega⟩
        obtain ⟨b', off', e', hbB', hxm⟩ := HC.out m (by omega)
        cases e'
        have m0 : wr.cell? ⟨b, off + m, none⟩ = some (.string (nthB l m)) := (bwr.out.cell (p := ⟨b, off + m, none⟩) hbB).trans hxm
        clear hxm
        have q_m0 := fun d os => cell_regrown m0 d os
        have gt0 : decide ((0 : Int) < ((m : Int) + 1)) = true := by rw [decide_eq_true_eq]; omega
        by_cases hin : 0 ≤ placeI D.np D.fp (nthB l (m + 1))
        · obtain ⟨kp, hkp, hkI, _, _⟩ := place_ix hin
          have dk : decide ((kp : Int) < 0) = false := by simp
          have HQ : Hid (∀ d os, Calls Tryz.prog 78 #[.agg #[v0, v1, v2, v3], .string (nthB l (m + 1))] (Sort.grow (redrawn wr d) os) fun e w'' => e = .returned (.int .i64 (kp)) ∧ ∃ p : Regrown, w'' = Sort.grow (redrawn wr p.d) p.os) := fun d os => by have := place_q B v0 v1 v2 v3 D.np D.fp (nthB l (m + 1)) wr (H.out wr bwr.out).p (Nat.le_trans hB bwr.out.size) d os; rw [hkI] at this; exact this
          cases hlt : Op.bytesLess (nthB l m).toList (nthB l (m + 1)).toList
          · go_wp2
            refine wp_region_quiet_below (by kernel_rfl) (by kernel_rfl) ?_
            repeat (first | go_big_quiet_step (with_reducible exact HQ.out _ _) | quiet_step (with_reducible exact HQ.out _ _))
            refine wpQuiet_nil ?_
            intro _ hw'
            obtain ⟨⟨dq, osq⟩, hw''⟩ := hw'
            subst hw''
            go_wp2
            go_ret
            exact ⟨false, rfl, ⟨(fun h => by cases h), fun h => absurd (h.2.2 (m + 1) (by rw [EN.out]; omega)) (by intro h; have := h.2 (by omega); rw [Nat.add_sub_cancel, ltB, hlt] at this; cases this)⟩, below_end (hbel.out.trans ((below_regrown _ dq osq).mono hsz))⟩
          · go_wp2
            refine wp_region_quiet_below (by kernel_rfl) (by kernel_rfl) ?_
            repeat (first | go_big_quiet_step (with_reducible exact HQ.out _ _) | quiet_step (with_reducible exact HQ.out _ _))
            refine wpQuiet_nil ?_
            intro _ hw'
            obtain ⟨⟨dq, osq⟩, hw''⟩ := hw'
            subst hw''
            go_wp2
            go_roundw
            case rel => exact ⟨(m + 1) + 1, by omega, by go_num, fun j hj => by
              by_cases e : j = (m + 1)
              · subst e; exact ⟨hin, fun _ => by rw [Nat.add_sub_cancel, ltB, hlt]⟩
              · exact hall.out j (by omega), hbel.out.trans ((below_regrown _ dq osq).mono hsz)⟩
            case measure => simp [intOf]; omega
        · have hkI := place_neg hin
          have HQ : Hid (∀ d os, Calls Tryz.prog 78 #[.agg #[v0, v1, v2, v3], .string (nthB l (m + 1))] (Sort.grow (redrawn wr d) os) fun e w'' => e = .returned (.int .i64 (-1)) ∧ ∃ p : Regrown, w'' = Sort.grow (redrawn wr p.d) p.os) := fun d os => by have := place_q B v0 v1 v2 v3 D.np D.fp (nthB l (m + 1)) wr (H.out wr bwr.out).p (Nat.le_trans hB bwr.out.size) d os; rw [hkI] at this; exact this
          go_wp2
          refine wp_region_quiet_below (by kernel_rfl) (by kernel_rfl) ?_
          repeat (first | go_big_quiet_step (with_reducible exact HQ.out _ _) | quiet_step (with_reducible exact HQ.out _ _))
          refine wpQuiet_nil ?_
          intro _ hw'
          obtain ⟨⟨dq, osq⟩, hw''⟩ := hw'
          subst hw''
          go_wp2
          go_ret
          exact ⟨false, rfl, ⟨(fun h => by cases h), fun h => absurd (h.2.2 (m + 1) (by rw [EN.out]; omega)) (by intro h; have := h.1; omega)⟩, below_end (hbel.out.trans ((below_regrown _ dq osq).mono hsz))⟩
    · go_wp2
      go_ret
      exact ⟨true, rfl, ⟨fun _ => ⟨by rw [EN.out]; omega, by rw [EN.out]; omega, fun i hi => hall.out i (by rw [EN.out] at hi; omega)⟩, fun _ => rfl⟩, below_end hbel.out⟩

end Go.Proofs.YtndacfockllehaaGreat

/-
  Contracts of the program's taking of places and valves out of a whole want.
-/
namespace Go.Proofs.YtndacfockllehaaGreat
open Go.RowKit

attribute [local go_sem] Oper.semAt_some
def bfW (x0 x1 x2 a b c : Value) : Array Value := #[x0, x1, x2, a, b, c]
def bfA (x0 x1 x2 y0 y1 y2 y3 y4 y5 a b c : Value) : Array Value := #[x0, x1, x2, a, b, c, y0, y1, y2, y3, y4, y5]
theorem bfW_ok (x0 x1 x2 : Value) : BF (bfW x0 x1 x2) := ⟨fun _ _ _ => rfl, fun _ _ _ => rfl, fun _ _ _ => rfl, fun _ _ _ _ => rfl, fun _ _ _ _ => rfl, fun _ _ _ _ => rfl⟩
theorem bfA_ok (x0 x1 x2 y0 y1 y2 y3 y4 y5 : Value) : BF (bfA x0 x1 x2 y0 y1 y2 y3 y4 y5) := ⟨fun _ _ _ => rfl, fun _ _ _ => rfl, fun _ _ _ => rfl, fun _ _ _ _ => rfl, fun _ _ _ _ => rfl, fun _ _ _ _ => rfl⟩
theorem lst_at {S : Nat → Prop} {w : World} {l : List ByteArray} {v : Value} {B : Nat} (h : AtL S w l v) (hS : ∀ b, S b → b < B) : Lst B w v l.length 1 (cS (nthB l)) := by
  obtain ⟨oa, cap, rfl, hn, hc⟩ := h
  refine ⟨oa, cap, rfl, hn.1, fun i hi => ?_⟩
  obtain ⟨b, off, e1, e2, c, h3, h4⟩ := hc i hi
  refine ⟨b, off, e1, hS b e2, fun j hj => ?_⟩
  obtain rfl : j = 0 := by omega
  have e0 := h3 0 (by decide)
  rw [h4.1] at e0
  rw [width_str] at e0
  rw [e0]
  show some (Value.string l[i]) = some (Value.string (nthB l i))
  rw [nthB_at hi]
def hasL (l : List ByteArray) (x : ByteArray) : Bool := l.any fun f => eqB f x
theorem has_nth (l : List ByteArray) (x : ByteArray) : hasB l.length (nthB l) x = hasL l x := by
  unfold hasB hasL
  rw [Bool.eq_iff_iff, List.any_eq_true, List.any_eq_true]
  constructor
  · rintro ⟨i, hi, h⟩
    have hi := List.mem_range.1 hi
    rw [nthB_at hi] at h
    exact ⟨_, List.getElem_mem hi, h⟩
  · rintro ⟨y, hy, h⟩
    obtain ⟨i, hi, rfl⟩ := List.getElem_of_mem hy
    exact ⟨i, List.mem_range.2 hi, by rw [nthB_at hi]; exact h⟩
/-- The uses of a place; a valve, if it is among some. -/
def takU (x : ByteArray) (us : List DClaimUse) : List DClaimUse := us.filter fun p => eqB p.1 x
def takV (x : ByteArray) (l : List ByteArray) : List ByteArray := bif hasL l x then [x] else []
theorem takU_yes {x : ByteArray} {us : List DClaimUse} {p : DClaimUse} (h : eqB p.1 x = true) : takU x (us ++ [p]) = takU x us ++ [p] := by simp [takU, List.filter_append, h]
theorem takU_no {x : ByteArray} {us : List DClaimUse} {p : DClaimUse} (h : eqB p.1 x = false) : takU x (us ++ [p]) = takU x us := by simp [takU, List.filter_append, h]
theorem takU_len (x : ByteArray) (us : List DClaimUse) : (takU x us).length ≤ us.length := List.length_filter_le _ _

set_option maxRecDepth 100000 in
set_option maxHeartbeats 8000000 in
theorem takePlace_any (S : Nat → Prop) (x0 x1 x2 y0 y1 y2 y4 y5 : Value) (us : List DClaimUse) (o3 : Option Addr) (c3 : Nat) {gx n0 : Nat} {u : List DClaimUse} {o s : List ByteArray} {vu vo vs : Value} (name : ByteArray) (w : World) (h : Bx (bfA x0 x1 x2 y0 y1 y2 (.slice o3 us.length c3) y4 y5) 130 gx n0 u o s vu vo vs w) (hu : AtL S w us (.slice o3 us.length c3)) (hS : ∀ b, S b → b < gx) (hn0 : n0 ≤ w.heap.size) (hl : u.length + us.length ≤ 1048576) (hz : ∀ p ∈ us, p.1.size ≤ 1048576) :
    Calls Tryz.prog 90 #[.pointer (some ⟨gx, 0, none⟩), .string name] w fun e w' => e = .returned (.tuple #[]) ∧ ∃ v', Bx (bfA x0 x1 x2 y0 y1 y2 (.slice o3 us.length c3) y4 y5) 130 gx n0 (u ++ takU name us) o s v' vo vs w' ∧ Stp gx 130 w w' := by
  have hbf : Hid (BF (bfA x0 x1 x2 y0 y1 y2 (.slice o3 us.length c3) y4 y5)) := bfA_ok _ _ _ _ _ _ _ _ _
  have HU : Hid (∀ w', Below gx w w' → AtL S w' us (.slice o3 us.length c3)) := fun w' hb => hu.same (Same.of_below hb hS)
  have HZ : Hid (∀ p ∈ us, p.1.size ≤ 1048576) := hz
  clear hu hz
  obtain ⟨n, en⟩ : ∃ n, us.length = n := ⟨_, rfl⟩
  rw [en] at HU hl h hbf
  rw [en]
  have EN : Hid (us.length = n) := en
  clear en
  have H : Hid (Bx (bfA x0 x1 x2 y0 y1 y2 (.slice o3 n c3) y4 y5) 130 gx n0 u o s vu vo vs w) := h
  have hgx := h.gxlt
  clear h
  have y9 := (cell_row H.out.box 9 (.slice o3 n c3) rfl).1
  go_enter Tryz.func90, Tryz.ntmps90
  go_wp2_with fail
  clear y9
  go_loopw [12] (fun i wr => ∃ (k : Nat) (vk : Value), k ≤ n ∧ i = .int .i64 k ∧ Hid (Bx (bfA x0 x1 x2 y0 y1 y2 (.slice o3 n c3) y4 y5) 130 gx n0 (u ++ takU name (us.take k)) o s vk vo vs wr) ∧ Hid (Stp gx 130 w wr)) (fun i _ => n - (intOf i).toNat)
  case atStart => exact ⟨0, vu, Nat.zero_le _, rfl, by simpa [takU, Hid] using H.out, Stp.refl _ _ _⟩
  case round =>
    obtain ⟨k, vk, hk, rfl, hX, hT⟩ := hrel
    have bwr : Hid (Below gx w wr) := hT.out.low hbf.out H.out (Nat.le_refl _)
    have hsz := hT.out.but.size
    by_cases hlt : k < n
    · obtain ⟨oa, cp, ev, _, hc⟩ := HU.out wr bwr.out
      obtain ⟨b, off, eo, hbS, cc, hcell, hat⟩ := hc k (by rw [EN.out]; exact hlt)
      have eo1 : o3 = some ⟨b, off, none⟩ := by injection ev with h1 _ _; exact h1.trans eo
      subst eo1
      clear ev eo hc
      rw [width_DClaimUse] at hcell
      have e0 : wr.cell? ⟨b, off + k * 3, none⟩ = some (cc 0) := hcell 0 (by omega)
      have e1 : wr.cell? ⟨b, off + k * 3 + 1, none⟩ = some (cc 1) := hcell 1 (by omega)
      have e2 : wr.cell? ⟨b, off + k * 3 + 2, none⟩ = some (cc 2) := hcell 2 (by omega)
      clear hcell
      rw [at_DClaimUse] at hat
      have htk : Hid (us.take (k + 1) = us.take k ++ [us[k]'(by rw [EN.out]; exact hlt)]) := by
        show _ = _
        rw [List.take_add_one, List.getElem?_eq_getElem (by rw [EN.out]; exact hlt)]; rfl
      have hzp := HZ.out _ (List.getElem_mem (show k < us.length by rw [EN.out]; exact hlt))
      obtain ⟨p, ep⟩ : ∃ p, us[k]'(by rw [EN.out]; exact hlt) = p := ⟨_, rfl⟩
      rw [ep] at hat htk hzp
      clear ep
      obtain ⟨⟨t0, _⟩, ⟨t1, _⟩, ⟨t2, _⟩⟩ := hat
      rw [t0] at e0
      rw [t1] at e1
      rw [t2] at e2
      clear t0 t1 t2
      have hul : (u ++ takU name (us.take k)).length ≤ 1048576 := by have a1 := takU_len name (us.take k); rw [List.length_take] at a1; rw [List.length_append]; omega
      obtain ⟨U, hU⟩ : ∃ V, V = wr.alloc (.cells #[.string p.1, .int .i64 p.2.1, .int .i64 p.2.2] 95) := ⟨_, rfl⟩
      have EU : Hid (U = wr.alloc (.cells #[.string p.1, .int .i64 p.2.1, .int .i64 p.2.2] 95)) := hU
      have BU : Hid (Below wr.heap.size wr U) := by rw [hU]; exact (Below.refl _ _).alloc (Nat.le_refl _) _
      have XP : U.heap[wr.heap.size]? = some (.cells #[.string p.1, .int .i64 p.2.1, .int .i64 p.2.2] 95 (0, 0)) := by rw [hU]; exact heap_alloc_new wr _
      have sU : U.heap.size = wr.heap.size + 1 := by rw [hU]; simp
      clear hU
      have hXU : Hid (Bx (bfA x0 x1 x2 y0 y1 y2 (.slice (some ⟨b, off, none⟩) n c3) y4 y5) 130 gx n0 (u ++ takU name (us.take k)) o s vk vo vs U) := hX.out.below hbf.out BU.out
      have hTU : Hid (Stp gx 130 w U) := hT.out.trans (Stp.of_below BU.out (by omega))
      obtain ⟨z0, _⟩ := cell_row XP 0 (.string p.1) rfl
      obtain ⟨z1, _⟩ := cell_row XP 1 (.int .i64 p.2.1) rfl
      obtain ⟨z2, _⟩ := cell_row XP 2 (.int .i64 p.2.2) rfl
      cases hE : eqB p.1 name
      · have hE2 : (p.1.toList == name.toList) = false := hE
        go_upto_region 3 with fail
        rw [← EU.out]
        go_wp2_with fail
        go_roundw
        case rel => exact ⟨k + 1, vk, by omega, by go_num, by show Bx _ _ _ _ _ _ _ _ _ _ _; rw [htk.out, takU_no hE]; exact hXU.out, hTU⟩
        case measure => simp [intOf]; omega
      · have hE2 : (p.1.toList == name.toList) = true := hE
        have q0 := fun d os => cell_regrown z0 d os
        have q1 := fun d os => cell_regrown z1 d os
        have q2 := fun d os => cell_regrown z2 d os
        go_upto_region 4 with (first | rw [← EU.out])
        refine wp_region_two 9 [] 9 [0, 1, 2, 3, 4, 5, 6, 7, 8] (by kernel_rfl) (by kernel_rfl) ?_
        simp only [List.filterMap_cons, List.filterMap_nil, List.getElem?_cons_succ, List.getElem?_cons_zero, movD]
        repeat (first | go_big_quiet_step (fail) | quiet_step (fail))
        refine wpQuiet_nil ?_
        refine rest_of [9] (by kernel_rfl) (by decide) ?_
        refine ⟨by kernel_rfl, ?_⟩
        simp only [List.drop_succ_cons, List.drop_zero]
        clear e0 e1 e2 z0 z1 z2 q0 q1 q2
        have hXD : Hid (Bx (bfA x0 x1 x2 y0 y1 y2 (.slice (some ⟨b, off, none⟩) n c3) y4 y5) 130 gx n0 (u ++ takU name (us.take k)) o s vk vo vs U.drew) := hXU.out.below hbf.out (Below.refl _ _).drew
        have hTD : Hid (Stp gx 130 w U.drew) := hTU.out.trans (Stp.of_below (Below.refl _ _).drew (by omega))
        have sD : Hid (n0 ≤ U.drew.heap.size) := Nat.le_trans (by omega) (Below.size (Below.drew (Below.refl U.heap.size U)))
        go_wp2_with (first
          | (go_at_call 95; refine (use_any hbf.out p.1 p.2.1 p.2.2 U.drew hXD.out sD.out hul hzp).mono ?_; rintro e w9 ⟨rfl, v9, hX9, hT9⟩))
        go_roundw
        case rel => exact ⟨k + 1, v9, by omega, by go_num, by show Bx _ _ _ _ _ _ _ _ _ _ _; rw [htk.out, takU_yes hE, ← List.append_assoc]; exact hX9, hTD.out.trans hT9⟩
        case measure => simp [intOf]; omega
    · have hkn : k = n := by omega
      have ETL : us.take k = us := List.take_of_length_le (by rw [EN.out, hkn]; exact Nat.le_refl _)
      rw [ETL] at hX
      go_wp2_with fail
      go_end0
      exact ⟨rfl, _, hX.out, hT.out⟩

set_option maxRecDepth 100000 in
set_option maxHeartbeats 8000000 in
theorem takeValve_any (S : Nat → Prop) (x0 x1 x2 y0 y1 y2 y3 : Value) (os ss : List ByteArray) (o4 o5 : Option Addr) (c4 c5 : Nat) {gx n0 : Nat} {u : List DClaimUse} {o s : List ByteArray} {vu vo vs : Value} (name : ByteArray) (w : World) (h : Bx (bfA x0 x1 x2 y0 y1 y2 y3 (.slice o4 os.length c4) (.slice o5 ss.length c5)) 130 gx n0 u o s vu vo vs w) (h4 : AtL S w os (.slice o4 os.length c4)) (h5 : AtL S w ss (.slice o5 ss.length c5)) (hS : ∀ b, S b → b < gx) (hn0 : n0 ≤ w.heap.size) (hlo : o.length ≤ 1048576) (hls : s.length ≤ 1048576) (hx : name.size ≤ 1048576) :
    Calls Tryz.prog 92 #[.pointer (some ⟨gx, 0, none⟩), .string name] w fun e w' => e = .returned (.tuple #[]) ∧ ∃ v' v'', Bx (bfA x0 x1 x2 y0 y1 y2 y3 (.slice o4 os.length c4) (.slice o5 ss.length c5)) 130 gx n0 u (o ++ takV name os) (s ++ takV name ss) vu v' v'' w' ∧ Stp gx 130 w w' := by
  have hbf : Hid (BF (bfA x0 x1 x2 y0 y1 y2 y3 (.slice o4 os.length c4) (.slice o5 ss.length c5))) := bfA_ok _ _ _ _ _ _ _ _ _
  have H : Hid (Bx (bfA x0 x1 x2 y0 y1 y2 y3 (.slice o4 os.length c4) (.slice o5 ss.length c5)) 130 gx n0 u o s vu vo vs w) := h
  have hgx := h.gxlt
  have H4 : Hid (Calls Tryz.prog 83 #[.slice o4 os.length c4, .string name] w fun e w' => e = .returned (.bool (hasL os name)) ∧ w' = w) := by
    have := hasI_any gx _ _ (nthB os) name w (lst_at h4 hS)
    rw [has_nth] at this
    exact this
  have H5 : Hid (∀ w', Below gx w w' → Calls Tryz.prog 83 #[.slice o5 ss.length c5, .string name] w' fun e w'' => e = .returned (.bool (hasL ss name)) ∧ w'' = w') := fun w' hb => by
    have := hasI_any gx _ _ (nthB ss) name w' (lst_at (h5.same (Same.of_below hb hS)) hS)
    rw [has_nth] at this
    exact this
  clear h h4 h5
  have y10 := (cell_row H.out.box 10 (.slice o4 os.length c4) rfl).1
  have y11 := (cell_row H.out.box 11 (.slice o5 ss.length c5) rfl).1
  go_enter Tryz.func92, Tryz.ntmps92
  cases b4 : hasL os name
  · rw [b4] at H4
    have T0 : Hid (Stp gx 130 w w) := Stp.refl _ _ _
    go_upto_region 2 with (first
      | (go_at_call 83; refine (H4.out).mono ?_; rintro e w' ⟨rfl, hw⟩; have hw := hw.symm; subst hw))
    clear y10 y11
    have c11 := (cell_row H.out.box 11 (.slice o5 ss.length c5) rfl).1
    have HC5 : Hid (Calls Tryz.prog 83 #[.slice o5 ss.length c5, .string name] w fun e w'' => e = .returned (.bool (hasL ss name)) ∧ w'' = w) := H5.out w (T0.out.low hbf.out H.out (Nat.le_refl _))
    cases b5 : hasL ss name
    · rw [b5] at HC5
      go_wp2_with (first
        | (go_at_call 83; refine (HC5.out).mono ?_; rintro e w' ⟨rfl, hw⟩; have hw := hw.symm; subst hw))
      go_end0
      have e4 : takV name os = [] := by simp [takV, b4]
      have e5 : takV name ss = [] := by simp [takV, b5]
      rw [e4, e5]
      simp only [List.append_nil]
      exact ⟨(by first | rfl | trivial), _, _, H.out, T0.out⟩
    · rw [b5] at HC5
      go_wp2_with (first
        | (go_at_call 83; refine (HC5.out).mono ?_; rintro e w' ⟨rfl, hw⟩; have hw := hw.symm; subst hw)
        | (go_at_call 98; refine (shut_any hbf.out name w H.out (Nat.le_trans hn0 T0.out.but.size) hls hx).mono ?_; rintro e w9 ⟨rfl, v9, hX9, hT9⟩))
      go_end0
      have e4 : takV name os = [] := by simp [takV, b4]
      have e5 : takV name ss = [name] := by simp [takV, b5]
      rw [e4, e5]
      simp only [List.append_nil]
      exact ⟨(by first | rfl | trivial), _, _, hX9, T0.out.trans hT9⟩
  · rw [b4] at H4
    have T0 : Hid (Stp gx 130 w w) := Stp.refl _ _ _
    go_upto_region 2 with (first
      | (go_at_call 83; refine (H4.out).mono ?_; rintro e w' ⟨rfl, hw⟩; have hw := hw.symm; subst hw)
      | (go_at_call 96; refine (open_any hbf.out name w H.out hn0 hlo hx).mono ?_; rintro e w8 ⟨rfl, v8, hX8, hT8⟩))
    clear y10 y11
    have X8 : Hid (Bx (bfA x0 x1 x2 y0 y1 y2 y3 (.slice o4 os.length c4) (.slice o5 ss.length c5)) 130 gx n0 u (o ++ [name]) s vu v8 vs w8) := hX8
    have T8 : Hid (Stp gx 130 w w8) := hT8
    clear hX8 hT8
    have c11 := (cell_row X8.out.box 11 (.slice o5 ss.length c5) rfl).1
    have HC5 : Hid (Calls Tryz.prog 83 #[.slice o5 ss.length c5, .string name] w8 fun e w'' => e = .returned (.bool (hasL ss name)) ∧ w'' = w8) := H5.out w8 (T8.out.low hbf.out H.out (Nat.le_refl _))
    cases b5 : hasL ss name
    · rw [b5] at HC5
      go_wp2_with (first
        | (go_at_call 83; refine (HC5.out).mono ?_; rintro e w' ⟨rfl, hw⟩; have hw := hw.symm; subst hw))
      go_end0
      have e4 : takV name os = [name] := by simp [takV, b4]
      have e5 : takV name ss = [] := by simp [takV, b5]
      rw [e4, e5]
      simp only [List.append_nil]
      exact ⟨(by first | rfl | trivial), _, _, X8.out, T8.out⟩
    · rw [b5] at HC5
      go_wp2_with (first
        | (go_at_call 83; refine (HC5.out).mono ?_; rintro e w' ⟨rfl, hw⟩; have hw := hw.symm; subst hw)
        | (go_at_call 98; refine (shut_any hbf.out name w8 X8.out (Nat.le_trans hn0 T8.out.but.size) hls hx).mono ?_; rintro e w9 ⟨rfl, v9, hX9, hT9⟩))
      go_end0
      have e4 : takV name os = [name] := by simp [takV, b4]
      have e5 : takV name ss = [name] := by simp [takV, b5]
      rw [e4, e5]
      exact ⟨(by first | rfl | trivial), _, _, hX9, T8.out.trans hT9⟩

end Go.Proofs.YtndacfockllehaaGreat

/-
  Lists of names that ascend: what an insertion gives, and why such a list is known by what it holds. No program is named here.
-/
namespace Go.Proofs.YtndacfockllehaaGreat
open Go.RowKit

/-- Names that ascend, as a list. -/
def AscL (l : List ByteArray) : Prop := l.Pairwise fun a b => ltB a b = true
theorem AscL.nodup {l : List ByteArray} (h : AscL l) : l.Nodup := by
  refine h.imp fun {a b} hab e => ?_
  rw [e, ltB_irrefl] at hab; cases hab
theorem ltB_tri {a b : ByteArray} (h1 : ltB a b = false) (h2 : eqB a b = false) : ltB b a = true := by
  rw [ltB_iff]
  have n1 : ¬ a.toList < b.toList := fun h => by rw [(ltB_iff _ _).2 h] at h1; cases h1
  have n2 : a.toList ≠ b.toList := fun h => by
    have : eqB a b = true := by unfold eqB; rw [h]; simp
    rw [this] at h2; cases h2
  rcases List.le_iff_lt_or_eq.1 (List.not_lt.1 n1) with h | h
  · exact h
  · exact absurd h.symm n2
theorem ins_mem : ∀ (l : List ByteArray) (x y : ByteArray), y ∈ insR l x ↔ y ∈ l ∨ y = x
  | [], x, y => by simp [insR]
  | z :: l, x, y => by
    have ih := ins_mem l x y
    unfold insR
    cases h1 : ltB z x
    · cases h2 : eqB z x
      · simp only [cond_false, List.mem_cons]
        constructor
        · rintro (h | h | h)
          · exact .inr h
          · exact .inl (.inl h)
          · exact .inl (.inr h)
        · rintro ((h | h) | h)
          · exact .inr (.inl h)
          · exact .inr (.inr h)
          · exact .inl h
      · simp only [cond_false, cond_true, List.mem_cons]
        have := (eqB_iff _ _).1 h2
        constructor
        · exact .inl
        · rintro (h | h)
          · exact h
          · exact .inl (by rw [h, this])
    · simp only [cond_true, List.mem_cons, ih, or_assoc]
theorem ins_asc : ∀ (l : List ByteArray) (x : ByteArray), AscL l → AscL (insR l x)
  | [], x, _ => List.pairwise_singleton _ _
  | z :: l, x, h => by
    obtain ⟨hz, hl⟩ := List.pairwise_cons.1 h
    have ih := ins_asc l x hl
    unfold insR
    cases h1 : ltB z x
    · cases h2 : eqB z x
      · simp only [cond_false]
        have hxz := ltB_tri h1 h2
        refine List.pairwise_cons.2 ⟨fun y hy => ?_, h⟩
        rcases List.mem_cons.1 hy with rfl | hy
        · exact hxz
        · exact ltB_trans hxz (hz y hy)
      · exact h
    · simp only [cond_true]
      refine List.pairwise_cons.2 ⟨fun y hy => ?_, ih⟩
      rcases (ins_mem _ _ _).1 hy with hy | rfl
      · exact hz y hy
      · exact h1
theorem asc_unique : ∀ (l m : List ByteArray), AscL l → AscL m → (∀ y, y ∈ l ↔ y ∈ m) → l = m
  | [], [], _, _, _ => rfl
  | [], b :: m, _, _, h => absurd ((h b).2 List.mem_cons_self) (by simp)
  | a :: l, [], _, _, h => absurd ((h a).1 List.mem_cons_self) (by simp)
  | a :: l, b :: m, hl, hm, h => by
    obtain ⟨ha, hl'⟩ := List.pairwise_cons.1 hl
    obtain ⟨hb, hm'⟩ := List.pairwise_cons.1 hm
    have e : a = b := by
      rcases List.mem_cons.1 ((h a).1 List.mem_cons_self) with e | h1
      · exact e
      · rcases List.mem_cons.1 ((h b).2 List.mem_cons_self) with e | h2
        · exact e.symm
        · have := ltB_asymm (hb a h1)
          rw [ha b h2] at this; cases this
    subst e
    have na : a ∉ l := (List.nodup_cons.1 (AscL.nodup hl)).1
    have nb : a ∉ m := (List.nodup_cons.1 (AscL.nodup hm)).1
    rw [asc_unique l m hl' hm' (fun y => ?_)]
    have := h y
    simp only [List.mem_cons] at this
    constructor
    · intro hy
      rcases this.1 (.inr hy) with e | h'
      · rw [e] at hy; exact absurd hy na
      · exact h'
    · intro hy
      rcases this.2 (.inr hy) with e | h'
      · rw [e] at hy; exact absurd hy nb
      · exact h'

end Go.Proofs.YtndacfockllehaaGreat

/-
  A contract of the library's sort of texts, on a list of the call's own.
-/
namespace Go.Proofs.YtndacfockllehaaGreat
open Go.RowKit

def toL (b : ByteArray) : List UInt8 := b.data.toList
def ofL (l : List UInt8) : ByteArray := ⟨l.toArray⟩
theorem of_to (b : ByteArray) : ofL (toL b) = b := rfl
theorem to_of (l : List UInt8) : toL (ofL l) = l := by simp [toL, ofL]
/-- Texts, sorted. -/
def sortL (L : List ByteArray) : List ByteArray := ((L.map toL).mergeSort fun x y => decide (x ≤ y)).map ofL
theorem sort_len (L : List ByteArray) : (sortL L).length = L.length := by simp [sortL]
theorem sort_mem (L : List ByteArray) (y : ByteArray) : y ∈ sortL L ↔ y ∈ L := by
  unfold sortL
  rw [List.mem_map]
  constructor
  · rintro ⟨l, hl, rfl⟩
    obtain ⟨b, hb, rfl⟩ := List.mem_map.1 ((List.mergeSort_perm _ _).mem_iff.1 hl)
    rw [of_to]; exact hb
  · intro hy
    exact ⟨toL y, (List.mergeSort_perm _ _).mem_iff.2 (List.mem_map.2 ⟨y, hy, rfl⟩), of_to y⟩
theorem sort_asc {L : List ByteArray} (h : L.Nodup) : AscL (sortL L) := by
  have h1 : ((L.map toL).mergeSort fun x y => decide (x ≤ y)).Pairwise fun a b => decide (a ≤ b) = true :=
    List.pairwise_mergeSort (fun a b c h1 h2 => by simp at *; exact List.le_trans h1 h2) (fun a b => by simp; exact List.le_total a b) _
  have h2 : ((L.map toL).mergeSort fun x y => decide (x ≤ y)).Nodup := (List.mergeSort_perm _ _).nodup_iff.2 (by
    refine List.pairwise_map.2 (h.imp fun {a b} hab e => hab ?_)
    rw [← of_to a, ← of_to b, e])
  unfold AscL sortL
  refine List.pairwise_map.2 ((h1.and h2).imp fun {a b} hab => ?_)
  rw [ltB_iff, ByteArray.toList_eq, ByteArray.toList_eq]
  show toL (ofL a) < toL (ofL b)
  rw [to_of, to_of]
  rcases List.le_iff_lt_or_eq.1 (of_decide_eq_true hab.1) with h | h
  · exact h
  · exact absurd h hab.2

theorem sort_any (base : Nat) (v : Value) (L : List ByteArray) (w : World) (h : w.ownsRow base 9 1 v L.length (L.map .string)) (hne : 0 < L.length) (hl : L.length ≤ 1048576) (hbase : base ≤ w.heap.size) :
    Calls Tryz.prog 125 #[v] w fun e w' => e = .returned (.tuple #[]) ∧ w'.ownsRow base 9 1 v (sortL L).length ((sortL L).map .string) ∧ Below base w w' := by
  rcases h.2 with ⟨_, e⟩ | ⟨g, cap, cur, rfl, hb, hg, hc, hm', hs, ht⟩
  · omega
  · have hss : (L.map toL).length = L.length := by simp
    have henc : L.map Value.string = (L.map toL).map encStr := by
      rw [List.map_map]
      apply List.map_congr_left
      intro b _
      rfl
    have hH : Sort.Holds encStr w g 0 (L.map toL).toArray := holds_of_block hg (by rw [hss, ← henc, ← ht, Nat.mul_one])
    have C := Tryz.slices_Sort_string g 0 cap (L.map toL) w hH (Array.getElem?_eq_some_iff.1 hg).1 (by rw [hss]; omega)
    rw [hss] at C
    refine C.mono ?_
    rintro e w' ⟨rfl, n, os, rfl⟩
    refine ⟨rfl, ?_, ?_⟩
    · have := ownsRow_sorted (w := w) (base := base) (g := g) (cap := cap) (n := n) (e := 9) (os := os) (cur := cur) (ss := L.map toL) (ts := (L.map toL).mergeSort fun x y => decide (x ≤ y)) (by simp) hb hg (by rw [hss]; exact hc) hm' hs
      rw [hss] at this
      have e1 : ((L.map toL).mergeSort fun x y => decide (x ≤ y)).map encStr = (sortL L).map Value.string := by
        unfold sortL
        rw [List.map_map]
        rfl
      rw [e1] at this
      rw [sort_len]; exact this
    · exact (Below.refl base w).grown (grownBy_sorted _) hbase (fun q hq => by cases hq; exact hb)

end Go.Proofs.YtndacfockllehaaGreat
