/-
  Several texts in one.
-/
import Derived.Test.YtgjcppdeljoimaaM34
import Derived.Test.YtgjcppdeljoimaaM6
import Derived.Deep.Cut
import Derived.Test.YtgjcppdeljoimaaM32
import Derived.Test.YtgjcppdeljoimaaRz
import Derived.Test.YtgjcppdeljoimaaRva
import Derived.Test.YtgjcppdeljoimaaVb
namespace Go.Proofs.Ytgjcppdeljoimaa
open Go.RowKit
theorem dr_below {B : Nat} {a w : World} (h : Below B a w) (q : Nat) : Below B a (w.drewN q) := ⟨h.os, h.tape, h.output, h.size, h.block⟩
theorem list_eq {la lb : List ByteArray} (hl : la.length = lb.length) (h : ∀ j, j < la.length → nthB la j = nthB lb j) : la = lb :=
  List.ext_getElem hl fun i h1 h2 => by rw [← nth_get h1, ← nth_get h2]; exact h i h1
set_option maxRecDepth 100000 in
set_option maxHeartbeats 16000000 in
theorem txs_any (Ba Bb : Nat) (va vb : Value) (la lb : List ByteArray) (w : World) (ha : Lst Ba w va la.length 1 (cS (nthB la))) (hb : Lst Bb w vb lb.length 1 (cS (nthB lb))) :
    Calls Try.prog 7 #[va, vb] w fun e w' => e = .returned (.bool (decide (la = lb))) ∧ Below w.heap.size w w' := by
  obtain ⟨oa, ca, rfl, hna, hca⟩ := ha
  obtain ⟨ob, cb, rfl, hnb, hcb⟩ := hb
  unfold maxLen at hna hnb
  by_cases hl : la.length = lb.length
  · rw [← hl] at hcb hnb ⊢
    generalize en : la.length = n at hna hca hcb ⊢
    have HA : Hid _ := hca
    have HB : Hid _ := hcb
    clear hca hcb
    go_enter Try.func7, Try.ntmps7
    go_wp2
    go_loopw [5] (fun i wr => ∃ k q : Nat, k ≤ n ∧ i = .int .i64 k ∧ wr = w.drewN q ∧ Hid (∀ j, j < k → nthB la j = nthB lb j)) (fun i _ => n - (intOf i).toNat)
    case atStart => exact ⟨0, 0, Nat.zero_le _, rfl, rfl, fun j hj => by omega⟩
    case round =>
      obtain ⟨k, q, hk, rfl, rfl, hall⟩ := hrel
      by_cases hlt : k < n
      · obtain ⟨ga, oa', rfl, _, hca⟩ := HA.out k hlt
        obtain ⟨gb, ob', rfl, _, hcb⟩ := HB.out k hlt
        have za := hca 0 (by omega)
        have zb := hcb 0 (by omega)
        simp only [Nat.mul_one, Nat.add_zero, cS] at za zb
        clear hca hcb
        cases hE : ((nthB la k).toList == (nthB lb k).toList)
        · go_wp2
          go_region
          go_wp2
          go_ret
          refine ⟨?_, dr_below (Below.refl _ _) _⟩
          have : ¬ la = lb := fun e => by rw [e] at hE; simp at hE
          rw [decide_eq_false this]
          rfl
        · go_wp2
          go_region
          go_wp2
          go_roundw
          case rel => exact ⟨k + 1, q + 1, by omega, by go_num, rfl, fun j hj => by
            by_cases e : j = k
            · subst e; exact (eqB_iff _ _).1 hE
            · exact hall.out j (by omega)⟩
          case measure => simp [intOf]; omega
      · go_wp2
        go_ret
        refine ⟨?_, dr_below (Below.refl _ _) _⟩
        have : la = lb := list_eq hl fun j hj => hall.out j (by omega)
        rw [decide_eq_true this]
        rfl
  · have hd : ¬ ((la.length : Int) = (lb.length : Int)) := by omega
    have hne : ¬ la = lb := fun e => hl (by rw [e])
    go_enter Try.func7, Try.ntmps7
    go_wp2
    go_ret
    rw [decide_eq_false hne]
    exact ⟨rfl, Below.refl _ _⟩
set_option maxRecDepth 100000 in
set_option maxHeartbeats 16000000 in
theorem hasW_any (B : Nat) (v : Value) (n : Nat) (f : Nat → ByteArray) (x : ByteArray) (w : World) (h : Lst B w v n 1 (cS f)) :
    Calls Try.prog 22 #[v, .string x] w fun e w' => e = .returned (.bool (hasB n f x)) ∧ Below w.heap.size w w' := by
  obtain ⟨oa, cap, rfl, hn, hc⟩ := h
  unfold maxLen at hn
  have HC : Hid _ := hc
  clear hc
  go_enter Try.func22, Try.ntmps22
  go_wp2
  go_loop [5] (fun i => ∃ k : Nat, k ≤ n ∧ i = .int .i64 k ∧ Hid (∀ j, j < k → eqB (f j) x = false)) (fun i => n - (intOf i).toNat)
  case atStart => exact ⟨0, Nat.zero_le _, rfl, fun _ h => by omega⟩
  case round =>
    obtain ⟨k, hk, rfl, hno⟩ := hrel
    by_cases hlt : k < n
    · obtain ⟨b, off, rfl, _, hcell⟩ := HC.out k hlt
      have hcell := hcell 0 (by omega)
      simp only [Nat.mul_one, Nat.add_zero, cS] at hcell
      go_wp2
      · have hy : ((f k).toList == x.toList) = true := by assumption
        rw [has_yes hlt hy]
        go_ret
        exact ⟨rfl, Below.refl _ _⟩
      · have hy : ((f k).toList == x.toList) = false := by assumption
        go_round
        case rel => exact ⟨k + 1, by omega, by go_num, fun j hj => by
          by_cases e : j = k
          · subst e; exact hy
          · exact hno.out j (by omega)⟩
        case measure => simp [intOf]; omega
    · go_wp2
      go_ret
      have hkn : k = n := by omega
      subst hkn
      rw [has_no hno.out]
      exact ⟨rfl, Below.refl _ _⟩
theorem cap_yes {n : Nat} {f : Nat → ByteArray × Int × ByteArray} {x : ByteArray} {k : Nat} (hk : k < n) (h : eqB (f k).1 x = true) (hno : ∀ j, j < k → eqB (f j).1 x = false) : capI n f x = (f k).2.1 := by
  unfold capI
  rw [place_yes hk h hno, if_neg (by omega), Int.toNat_natCast]
theorem cap_no {n : Nat} {f : Nat → ByteArray × Int × ByteArray} {x : ByteArray} (hno : ∀ j, j < n → eqB (f j).1 x = false) : capI n f x = -1 := by
  unfold capI
  rw [place_no hno]; rfl
set_option maxRecDepth 100000 in
set_option maxHeartbeats 16000000 in
theorem capW_any (B : Nat) (v0 v1 v2 v3 : Value) (n : Nat) (f : Nat → ByteArray × Int × ByteArray) (x : ByteArray) (w : World) (h : Lst B w v2 n 3 (cP f)) (hB : B ≤ w.heap.size) :
    Calls Try.prog 21 #[.agg #[v0, v1, v2, v3], .string x] w fun e w' => e = .returned (.int .i64 (capI n f x)) ∧ Below w.heap.size w w' := by
  obtain ⟨oa, cap, rfl, hn, hc⟩ := h
  unfold maxLen at hn
  have HC : Hid _ := hc
  clear hc
  go_enter Try.func21, Try.ntmps21
  go_wp2
  go_loop [5] (fun i => ∃ k : Nat, k ≤ n ∧ i = .int .i64 k ∧ Hid (∀ j, j < k → eqB (f j).1 x = false)) (fun i => n - (intOf i).toNat)
  case atStart => exact ⟨0, Nat.zero_le _, rfl, fun _ h => by omega⟩
  case round =>
    obtain ⟨k, hk, rfl, hno⟩ := hrel
    by_cases hlt : k < n
    · obtain ⟨b, off, rfl, hbB, hcell⟩ := HC.out k hlt
      have h0 := cell_past (hcell 0 (by omega)) (by omega) (.cells #[v0, v1, .slice (some ⟨b, off, none⟩) n cap, v3] 28)
      have h1 := cell_past (hcell 1 (by omega)) (by omega) (.cells #[v0, v1, .slice (some ⟨b, off, none⟩) n cap, v3] 28)
      rw [Nat.add_zero] at h0
      simp only [cP, if_true, if_neg (show ¬ (1 = 0) by decide)] at h0 h1
      clear hcell
      go_wp2
      · have hy : ((f k).1.toList == x.toList) = true := by assumption
        rw [cap_yes hlt hy hno.out]
        go_ret
        exact ⟨rfl, (Below.refl _ _).alloc (Nat.le_refl _) _⟩
      · have hy : ((f k).1.toList == x.toList) = false := by assumption
        go_round
        case rel => exact ⟨k + 1, by omega, by go_num, fun j hj => by
          by_cases e : j = k
          · subst e; exact hy
          · exact hno.out j (by omega)⟩
        case measure => simp [intOf]; omega
    · go_wp2
      go_ret
      have hkn : k = n := by omega
      subst hkn
      rw [cap_no hno.out]
      exact ⟨rfl, (Below.refl _ _).alloc (Nat.le_refl _) _⟩
end Go.Proofs.Ytgjcppdeljoimaa

namespace Go.Proofs.Ytgjcppdeljoimaa
open Go.RowKit Go.Sort
open Go.Sort in
theorem capW_q (B : Nat) (v0 v1 v2 v3 : Value) (n : Nat) (f : Nat → ByteArray × Int × ByteArray) (x : ByteArray) (wr : World) (h : Lst B wr v2 n 3 (cP f)) (hB : B ≤ wr.heap.size) (r : Int) (hr : capI n f x = r) (d : Nat) (os : Array Obj) : Calls Try.prog 21 #[.agg #[v0, v1, v2, v3], .string x] (grow (redrawn wr d) os) fun e w'' => e = .returned (.int .i64 r) ∧ ∃ p : Regrown, w'' = grow (redrawn wr p.d) p.os :=
  Calls.regrown_of (by subst hr; exact capW_any B v0 v1 v2 v3 n f x _ (h.kept (below_regrown wr d os) hB) (Nat.le_trans hB (below_regrown wr d os).size))
open Go.Sort in
theorem hasW_q (B : Nat) (v : Value) (n : Nat) (f : Nat → ByteArray) (x : ByteArray) (wr : World) (h : Lst B wr v n 1 (cS f)) (hB : B ≤ wr.heap.size) (b : Bool) (hb : hasB n f x = b) (d : Nat) (os : Array Obj) : Calls Try.prog 22 #[v, .string x] (grow (redrawn wr d) os) fun e w'' => e = .returned (.bool b) ∧ ∃ p : Regrown, w'' = grow (redrawn wr p.d) p.os :=
  Calls.regrown_of (by subst hb; exact hasW_any B v n f x _ (h.kept (below_regrown wr d os) hB))
structure RtP (D : PD) (k : Nat) (P Q : Nat → ByteArray) : Prop where
  pos : 1 ≤ k
  c0 : 1 ≤ capI D.np D.fp (P 0)
  ck : 1 ≤ capI D.np D.fp (P k)
  cm : ∀ i, 0 < i → i < k → capI D.np D.fp (P i) = 0
  has : ∀ i, i ≤ k → hasB i P (P i) = false
  lnk : ∀ i, i < k → Lnk D (P i) (Q i) (P (i + 1))
theorem Rte.rtp {D : PD} (hV : D.V) {fr to : ByteArray} {r : RT} (h : Rte D fr to r) (hf : vesB D.np D.fp fr = true) (ht : vesB D.np D.fp to = true) : RtP D r.2.length (nthB r.1) (nthB r.2) := by
  have hl := h.len
  refine ⟨h.pos, by rw [h.fst]; exact (vesB_iff (V_places hV)).1 hf, by rw [h.lst]; exact (vesB_iff (V_places hV)).1 ht, fun i h0 h1 => (joiB_iff (V_places hV)).1 (h.mid i h0 h1), fun i hi => ?_, h.lnk⟩
  exact has_no fun j hj => by
    cases e : eqB (nthB r.1 j) (nthB r.1 i)
    · rfl
    · have := nth_inj h.nod (i := j) (j := i) (by omega) (by omega) ((eqB_iff _ _).1 e)
      omega
set_option maxRecDepth 100000 in
set_option maxHeartbeats 16000000 in
theorem wpRoute_any (B : Nat) (v0 v1 v2 v3 : Value) (D : PD) (op ov : Option Addr) (k cm ck : Nat) (P Q : Nat → ByteArray) (w : World) (h : PAt B w v0 v1 v2 v3 D) (hP : Lst B w (.slice op (k + 1) cm) (k + 1) 1 (cS P)) (hQ : Lst B w (.slice ov k ck) k 1 (cS Q)) (hB : B ≤ w.heap.size) (hcm : k + 1 ≤ cm) (hz : D.Sz) (hV : D.V) (hR : RtP D k P Q) :
    Calls Try.prog 8 #[.agg #[v0, v1, v2, v3], .agg #[.slice op (k + 1) cm, .slice ov k ck]] w fun e w' => e = .returned (.bool true) ∧ Below w.heap.size w w' := by
  have H : Hid (∀ w', Below w.heap.size w w' → PAt B w' v0 v1 v2 v3 D ∧ Lst B w' (.slice op (k + 1) cm) (k + 1) 1 (cS P) ∧ Lst B w' (.slice ov k ck) k 1 (cS Q)) := fun w' hb => ⟨h.kept hb hB, hP.kept hb hB, hQ.kept hb hB⟩
  have hm : k + 1 ≤ 9223372036854775807 := by obtain ⟨_, _, hv, hn, _⟩ := hP; cases hv; unfold maxLen at hn; omega
  have hnv : D.nv ≤ 18 := hV.2.2.1
  have hnp : D.np ≤ 14 := hV.2.1.1
  have HR : Hid (RtP D k P Q) := hR
  have hpos := hR.pos
  clear h hP hQ hR
  obtain ⟨W, hW⟩ : ∃ W, W = (w.alloc (.cells #[v0, v1, v2, v3] 28)).alloc (.cells #[.slice op (k + 1) cm, .slice ov k ck] 34) := ⟨_, rfl⟩
  have kW : Hid (Below (w.heap.size + 1 + 1) W W) := Below.refl _ _
  have sW : W.heap.size = w.heap.size + 1 + 1 := by rw [hW]; simp
  have eW : Hid (W = (w.alloc (.cells #[v0, v1, v2, v3] 28)).alloc (.cells #[.slice op (k + 1) cm, .slice ov k ck] 34)) := hW
  have bx : Hid (∀ wr, Below (w.heap.size + 1 + 1) W wr → ((wr.cell? ⟨w.heap.size, 0, none⟩ = some v0 ∧ wr.cell? ⟨w.heap.size, 1, none⟩ = some v1 ∧ wr.cell? ⟨w.heap.size, 2, none⟩ = some v2 ∧ wr.cell? ⟨w.heap.size, 3, none⟩ = some v3) ∧ wr.cell? ⟨w.heap.size + 1, 0, none⟩ = some (.slice op (k + 1) cm) ∧ wr.cell? ⟨w.heap.size + 1, 1, none⟩ = some (.slice ov k ck)) ∧ Below w.heap.size w wr) := fun wr hb => by
    rw [hW] at hb
    obtain ⟨h1, h2⟩ := two_box hb
    exact ⟨⟨⟨h1 0 _ rfl, h1 1 _ rfl, h1 2 _ rfl, h1 3 _ rfl⟩, h2 0 _ rfl, h2 1 _ rfl⟩, two_end hb⟩
  clear hW
  obtain ⟨⟨⟨x0, x1, x2, x3⟩, y0, y1⟩, hbw⟩ := bx.out W kW.out
  have CV : Hid (Calls Try.prog 18 #[.agg #[v0, v1, v2, v3]] W fun e w' => e = .returned (.bool true) ∧ Below W.heap.size W w') := (validS_any B v0 v1 v2 v3 D W (H.out W hbw).1 (Nat.le_trans hB hbw.size) hz).mono fun e w' ⟨b, he, hb, hw⟩ => ⟨by rw [he, hb.2 hV], hw⟩
  go_enter Try.func8, Try.ntmps8
  go_upto_region 1 with fail
  rw [← eW.out]
  have d0 : decide ((k : Int) + 1 < 2) = false := by simp; omega
  have d0' : ¬ ((k : Int) + 1 < 2) := by omega
  go_wp2_with fail
  refine CV.out.mono ?_
  rintro e W1 ⟨rfl, hb1⟩
  have k1 : Hid (Below (w.heap.size + 1 + 1) W W1) := kW.out.trans (hb1.mono (by omega))
  clear x0 x1 x2 x3 y0 y1 hbw CV hb1
  obtain ⟨⟨⟨x0, x1, x2, x3⟩, y0, y1⟩, hbw⟩ := bx.out W1 k1.out
  go_wp2_with fail
  clear x0 x1 x2 x3 y0 y1 hbw
  go_loopw [6] (fun i wr => ∃ q : Nat, q ≤ k + 1 ∧ i = .int .i64 q ∧ Hid (Below (w.heap.size + 1 + 1) W wr)) (fun i _ => k + 1 - (intOf i).toNat)
  case atStart => exact ⟨0, Nat.zero_le _, rfl, k1⟩
  case round =>
    obtain ⟨q, hq, rfl, hbel⟩ := hrel
    obtain ⟨⟨⟨x0, x1, x2, x3⟩, y0, y1⟩, hbw⟩ := bx.out wr hbel.out
    replace x0 := fun d os => cell_regrown x0 d os
    replace x1 := fun d os => cell_regrown x1 d os
    replace x2 := fun d os => cell_regrown x2 d os
    replace x3 := fun d os => cell_regrown x3 d os
    replace y0 := fun d os => cell_regrown y0 d os
    replace y1 := fun d os => cell_regrown y1 d os
    obtain ⟨LP, LR, LQ⟩ := H.out wr hbw
    have HLP : Hid (Lst B wr v2 D.np 3 (cP D.fp)) := LP.p
    have hBW : B ≤ wr.heap.size := Nat.le_trans hB hbw.size
    clear LP LQ
    by_cases hlq : q < k + 1
    case neg =>
      have hge : ¬ ((q : Int) < (k : Int) + 1) := by omega
      have hged : decide ((q : Int) < (k : Int) + 1) = false := by simp; omega
      clear x0 x1 x2 x3 y0 y1 HLP hBW LR hbw
      go_wp2_with fail
      go_loopw [8] (fun i wr => ∃ q : Nat, q ≤ k ∧ i = .int .i64 q ∧ Hid (Below (w.heap.size + 1 + 1) W wr)) (fun i _ => k - (intOf i).toNat)
      case atStart => exact ⟨0, Nat.zero_le _, rfl, hbel⟩
      case round =>
        obtain ⟨i, hi, rfl, hbel⟩ := hrel
        by_cases hlt : i < k
        case neg =>
          have hge : ¬ ((i : Int) < (k : Int)) := by omega
          have hged : decide ((i : Int) < (k : Int)) = false := by simp; omega
          go_wp2_with fail
          go_ret
          exact ⟨rfl, (bx.out _ hbel.out).2⟩
        have hlti : ((i : Int) < (k : Int)) := by omega
        have hltd : decide ((i : Int) < (k : Int)) = true := by simp; omega
        obtain ⟨t0, ht0, ht⟩ := HR.out.lnk i hlt
        have HT : Hid ((D.fv t0).1 = Q i ∧ ((D.fv t0).2.1 = P i ∧ (D.fv t0).2.2.1 = P (i + 1) ∨ (D.fv t0).2.2.1 = P i ∧ (D.fv t0).2.1 = P (i + 1))) := ht
        clear ht
        go_upto_region 14 with fail
        go_wp2_with fail
        go_loopw [9, 10] (fun fd kk wr => ∃ (t : Nat) (b : Bool), t ≤ D.nv ∧ fd = .bool b ∧ kk = .int .i64 t ∧ Hid (t0 < t → b = true) ∧ Hid (Below (w.heap.size + 1 + 1) W wr)) (fun _ kk _ => D.nv - (intOf kk).toNat)
        case atStart => exact ⟨0, false, Nat.zero_le _, rfl, rfl, fun h => by omega, hbel⟩
        case round =>
          obtain ⟨t, b, htn, rfl, rfl, hfd, hbel2⟩ := hrel
          obtain ⟨⟨⟨x0, x1, x2, x3⟩, y0, y1⟩, hbw⟩ := bx.out wr hbel2.out
          obtain ⟨LP, LR, LQ⟩ := H.out wr hbw
          obtain ⟨o3, c3, hv3⟩ := slice_lst LP.v
          by_cases hlv : t < D.nv
          case neg =>
            have hge : ¬ ((t : Int) < (D.nv : Int)) := by omega
            have hged : decide ((t : Int) < (D.nv : Int)) = false := by simp; omega
            have hb : b = true := hfd.out (by omega)
            subst hb
            rw [hv3] at x3
            clear LP LR LQ
            go_wp2_with fail
            go_roundw
            case rel => exact ⟨i + 1, by omega, by go_num, hbel2⟩
            case measure => simp [intOf]; omega
          have hlvi : ((t : Int) < (D.nv : Int)) := by omega
          have hlvd : decide ((t : Int) < (D.nv : Int)) = true := by simp; omega
          obtain ⟨g3, of3, e3, hb3, hc3⟩ := (show ∃ b off, o3 = some ⟨b, off, none⟩ ∧ b < B ∧ ∀ j, j < 4 → wr.cell? ⟨b, off + t * 4 + j, none⟩ = some (cV D.fv t j) from by
            obtain ⟨o', c', hv', _, hcv⟩ := LP.v
            rw [hv3] at hv'
            cases hv'
            exact hcv t hlv)
          subst e3
          have s0 : wr.cell? ⟨g3, of3 + t * 4, none⟩ = some (.string (D.fv t).1) := by simpa [cV] using hc3 0 (by omega)
          have s1 : wr.cell? ⟨g3, of3 + t * 4 + 1, none⟩ = some (.string (D.fv t).2.1) := by simpa [cV] using hc3 1 (by omega)
          have s2 : wr.cell? ⟨g3, of3 + t * 4 + 2, none⟩ = some (.string (D.fv t).2.2.1) := by simpa [cV] using hc3 2 (by omega)
          have s3 : wr.cell? ⟨g3, of3 + t * 4 + 3, none⟩ = some (.string (D.fv t).2.2.2) := by simpa [cV] using hc3 3 (by omega)
          clear hc3 LP LR LQ
          rw [hv3] at x3
          go_upto_region 18 with fail
          obtain ⟨U, hU⟩ : ∃ U, U = wr.alloc (.cells #[.string (D.fv t).1, .string (D.fv t).2.1, .string (D.fv t).2.2.1, .string (D.fv t).2.2.2] 53) := ⟨_, rfl⟩
          rw [← hU]
          have kU : Hid (Below (w.heap.size + 1 + 1) W U) := by rw [hU]; exact hbel2.out.alloc (by have := hbel2.out.size; omega) _
          have bU : U.heap[wr.heap.size]? = some (.cells #[.string (D.fv t).1, .string (D.fv t).2.1, .string (D.fv t).2.2.1, .string (D.fv t).2.2.2] 53 (0, 0)) := by rw [hU]; exact heap_alloc_new _ _
          have u0 := (cell_row bU 0 _ rfl).1
          have u1 := (cell_row bU 1 _ rfl).1
          have u2 := (cell_row bU 2 _ rfl).1
          clear bU hU x0 x1 x2 x3 y0 y1 s0 s1 s2 s3 hbw
          obtain ⟨⟨_, y0, y1⟩, hbw⟩ := bx.out U kU.out
          obtain ⟨_, LR, LQ⟩ := H.out U hbw
          obtain ⟨op', cm', hv, _, hcP⟩ := LR
          cases hv
          obtain ⟨b5, o5, rfl, _, hp0⟩ := hcP i (by omega)
          obtain ⟨_, _, e', _, hp1⟩ := hcP (i + 1) (by omega)
          cases e'
          obtain ⟨ov', ck', hv, _, hcQ⟩ := LQ
          cases hv
          obtain ⟨b6, o6, rfl, _, hq0⟩ := hcQ i (by omega)
          have z0 := hp0 0 (by omega)
          have z1 := hp1 0 (by omega)
          have z2 := hq0 0 (by omega)
          simp only [Nat.mul_one, Nat.add_zero, cS] at z0 z1 z2
          clear hp0 hp1 hq0 hcP hcQ
          replace u0 := fun d os => cell_regrown u0 d os
          replace u1 := fun d os => cell_regrown u1 d os
          replace u2 := fun d os => cell_regrown u2 d os
          replace y0 := fun d os => cell_regrown y0 d os
          replace y1 := fun d os => cell_regrown y1 d os
          replace z0 := fun d os => cell_regrown z0 d os
          replace z1 := fun d os => cell_regrown z1 d os
          replace z2 := fun d os => cell_regrown z2 d os
          have hi1 : (i : Int) < (k : Int) + 1 := by omega
          have hi2 : (i : Int) + 1 < (k : Int) + 1 := by omega
          have hw : IntKind.i64.wrap ((i : Int) + 1) = (i : Int) + 1 := by simp [IntKind.wrap, IntKind.bits, IntKind.signed]; omega
          cases b
          · cases h1 : ((D.fv t).1.toList == (Q i).toList)
            · refine wp_region_quiet_below (by kernel_rfl) (by kernel_rfl) ?_
              repeat (first | go_big_quiet_step (fail) | quiet_step (fail))
              refine wpQuiet_nil ?_
              intro _ hw'
              obtain ⟨⟨dq, osq⟩, hw''⟩ := hw'
              subst hw''
              have kq5 : Hid (Below (w.heap.size + 1 + 1) W (grow (redrawn U dq) osq)) := kU.out.trans ((below_regrown _ dq osq).mono (by have := kU.out.size; omega))
              generalize grow (redrawn U dq) osq = wr5 at kq5 ⊢
              go_wp2_with fail
              go_roundw
              case rel => exact ⟨t + 1, false, by omega, rfl, by go_num, (fun h => by
                exfalso
                by_cases e : t0 < t
                · exact absurd (hfd.out e) (by decide)
                · have et : t0 = t := by omega
                  have hl := HT.out
                  rw [et] at hl
                  rcases hl with ⟨n1, ⟨n2, n3⟩ | ⟨n4, n5⟩⟩
                  · first | (rw [n1] at h1; simp at h1; done) | (rw [n2] at h2; simp at h2; done) | (rw [n3] at h3; simp at h3; done)
                  · first | (rw [n1] at h1; simp at h1; done) | (rw [n4] at h4; simp at h4; done) | (rw [n5] at h5; simp at h5; done)), kq5⟩
              case measure => simp [intOf]; omega
            · cases h2 : ((D.fv t).2.1.toList == (P i).toList)
              · cases h4 : ((D.fv t).2.2.1.toList == (P i).toList)
                · refine wp_region_quiet_below (by kernel_rfl) (by kernel_rfl) ?_
                  repeat (first | go_big_quiet_step (fail) | quiet_step (fail))
                  refine wpQuiet_nil ?_
                  intro _ hw'
                  obtain ⟨⟨dq, osq⟩, hw''⟩ := hw'
                  subst hw''
                  have kq5 : Hid (Below (w.heap.size + 1 + 1) W (grow (redrawn U dq) osq)) := kU.out.trans ((below_regrown _ dq osq).mono (by have := kU.out.size; omega))
                  generalize grow (redrawn U dq) osq = wr5 at kq5 ⊢
                  go_wp2_with fail
                  go_roundw
                  case rel => exact ⟨t + 1, false, by omega, rfl, by go_num, (fun h => by
                    exfalso
                    by_cases e : t0 < t
                    · exact absurd (hfd.out e) (by decide)
                    · have et : t0 = t := by omega
                      have hl := HT.out
                      rw [et] at hl
                      rcases hl with ⟨n1, ⟨n2, n3⟩ | ⟨n4, n5⟩⟩
                      · first | (rw [n1] at h1; simp at h1; done) | (rw [n2] at h2; simp at h2; done) | (rw [n3] at h3; simp at h3; done)
                      · first | (rw [n1] at h1; simp at h1; done) | (rw [n4] at h4; simp at h4; done) | (rw [n5] at h5; simp at h5; done)), kq5⟩
                  case measure => simp [intOf]; omega
                · cases h5 : ((D.fv t).2.1.toList == (P (i + 1)).toList)
                  · refine wp_region_quiet_below (by kernel_rfl) (by kernel_rfl) ?_
                    repeat (first | go_big_quiet_step (fail) | quiet_step (fail))
                    refine wpQuiet_nil ?_
                    intro _ hw'
                    obtain ⟨⟨dq, osq⟩, hw''⟩ := hw'
                    subst hw''
                    have kq5 : Hid (Below (w.heap.size + 1 + 1) W (grow (redrawn U dq) osq)) := kU.out.trans ((below_regrown _ dq osq).mono (by have := kU.out.size; omega))
                    generalize grow (redrawn U dq) osq = wr5 at kq5 ⊢
                    go_wp2_with fail
                    go_roundw
                    case rel => exact ⟨t + 1, false, by omega, rfl, by go_num, (fun h => by
                      exfalso
                      by_cases e : t0 < t
                      · exact absurd (hfd.out e) (by decide)
                      · have et : t0 = t := by omega
                        have hl := HT.out
                        rw [et] at hl
                        rcases hl with ⟨n1, ⟨n2, n3⟩ | ⟨n4, n5⟩⟩
                        · first | (rw [n1] at h1; simp at h1; done) | (rw [n2] at h2; simp at h2; done) | (rw [n3] at h3; simp at h3; done)
                        · first | (rw [n1] at h1; simp at h1; done) | (rw [n4] at h4; simp at h4; done) | (rw [n5] at h5; simp at h5; done)), kq5⟩
                    case measure => simp [intOf]; omega
                  · refine wp_region_quiet_below (by kernel_rfl) (by kernel_rfl) ?_
                    repeat (first | go_big_quiet_step (fail) | quiet_step (fail))
                    refine wpQuiet_nil ?_
                    intro _ hw'
                    obtain ⟨⟨dq, osq⟩, hw''⟩ := hw'
                    subst hw''
                    have kq5 : Hid (Below (w.heap.size + 1 + 1) W (grow (redrawn U dq) osq)) := kU.out.trans ((below_regrown _ dq osq).mono (by have := kU.out.size; omega))
                    generalize grow (redrawn U dq) osq = wr5 at kq5 ⊢
                    go_wp2_with fail
                    go_roundw
                    case rel => exact ⟨t + 1, true, by omega, rfl, by go_num, (fun _ => rfl), kq5⟩
                    case measure => simp [intOf]; omega
              · cases h3 : ((D.fv t).2.2.1.toList == (P (i + 1)).toList)
                · cases h4 : ((D.fv t).2.2.1.toList == (P i).toList)
                  · refine wp_region_quiet_below (by kernel_rfl) (by kernel_rfl) ?_
                    repeat (first | go_big_quiet_step (fail) | quiet_step (fail))
                    refine wpQuiet_nil ?_
                    intro _ hw'
                    obtain ⟨⟨dq, osq⟩, hw''⟩ := hw'
                    subst hw''
                    have kq5 : Hid (Below (w.heap.size + 1 + 1) W (grow (redrawn U dq) osq)) := kU.out.trans ((below_regrown _ dq osq).mono (by have := kU.out.size; omega))
                    generalize grow (redrawn U dq) osq = wr5 at kq5 ⊢
                    go_wp2_with fail
                    go_roundw
                    case rel => exact ⟨t + 1, false, by omega, rfl, by go_num, (fun h => by
                      exfalso
                      by_cases e : t0 < t
                      · exact absurd (hfd.out e) (by decide)
                      · have et : t0 = t := by omega
                        have hl := HT.out
                        rw [et] at hl
                        rcases hl with ⟨n1, ⟨n2, n3⟩ | ⟨n4, n5⟩⟩
                        · first | (rw [n1] at h1; simp at h1; done) | (rw [n2] at h2; simp at h2; done) | (rw [n3] at h3; simp at h3; done)
                        · first | (rw [n1] at h1; simp at h1; done) | (rw [n4] at h4; simp at h4; done) | (rw [n5] at h5; simp at h5; done)), kq5⟩
                    case measure => simp [intOf]; omega
                  · cases h5 : ((D.fv t).2.1.toList == (P (i + 1)).toList)
                    · refine wp_region_quiet_below (by kernel_rfl) (by kernel_rfl) ?_
                      repeat (first | go_big_quiet_step (fail) | quiet_step (fail))
                      refine wpQuiet_nil ?_
                      intro _ hw'
                      obtain ⟨⟨dq, osq⟩, hw''⟩ := hw'
                      subst hw''
                      have kq5 : Hid (Below (w.heap.size + 1 + 1) W (grow (redrawn U dq) osq)) := kU.out.trans ((below_regrown _ dq osq).mono (by have := kU.out.size; omega))
                      generalize grow (redrawn U dq) osq = wr5 at kq5 ⊢
                      go_wp2_with fail
                      go_roundw
                      case rel => exact ⟨t + 1, false, by omega, rfl, by go_num, (fun h => by
                        exfalso
                        by_cases e : t0 < t
                        · exact absurd (hfd.out e) (by decide)
                        · have et : t0 = t := by omega
                          have hl := HT.out
                          rw [et] at hl
                          rcases hl with ⟨n1, ⟨n2, n3⟩ | ⟨n4, n5⟩⟩
                          · first | (rw [n1] at h1; simp at h1; done) | (rw [n2] at h2; simp at h2; done) | (rw [n3] at h3; simp at h3; done)
                          · first | (rw [n1] at h1; simp at h1; done) | (rw [n4] at h4; simp at h4; done) | (rw [n5] at h5; simp at h5; done)), kq5⟩
                      case measure => simp [intOf]; omega
                    · refine wp_region_quiet_below (by kernel_rfl) (by kernel_rfl) ?_
                      repeat (first | go_big_quiet_step (fail) | quiet_step (fail))
                      refine wpQuiet_nil ?_
                      intro _ hw'
                      obtain ⟨⟨dq, osq⟩, hw''⟩ := hw'
                      subst hw''
                      have kq5 : Hid (Below (w.heap.size + 1 + 1) W (grow (redrawn U dq) osq)) := kU.out.trans ((below_regrown _ dq osq).mono (by have := kU.out.size; omega))
                      generalize grow (redrawn U dq) osq = wr5 at kq5 ⊢
                      go_wp2_with fail
                      go_roundw
                      case rel => exact ⟨t + 1, true, by omega, rfl, by go_num, (fun _ => rfl), kq5⟩
                      case measure => simp [intOf]; omega
                · refine wp_region_quiet_below (by kernel_rfl) (by kernel_rfl) ?_
                  repeat (first | go_big_quiet_step (fail) | quiet_step (fail))
                  refine wpQuiet_nil ?_
                  intro _ hw'
                  obtain ⟨⟨dq, osq⟩, hw''⟩ := hw'
                  subst hw''
                  have kq5 : Hid (Below (w.heap.size + 1 + 1) W (grow (redrawn U dq) osq)) := kU.out.trans ((below_regrown _ dq osq).mono (by have := kU.out.size; omega))
                  generalize grow (redrawn U dq) osq = wr5 at kq5 ⊢
                  go_wp2_with fail
                  go_roundw
                  case rel => exact ⟨t + 1, true, by omega, rfl, by go_num, (fun _ => rfl), kq5⟩
                  case measure => simp [intOf]; omega
          · refine wp_region_quiet_below (by kernel_rfl) (by kernel_rfl) ?_
            repeat (first | go_big_quiet_step (fail) | quiet_step (fail))
            refine wpQuiet_nil ?_
            intro _ hw'
            obtain ⟨⟨dq, osq⟩, hw''⟩ := hw'
            subst hw''
            have kq5 : Hid (Below (w.heap.size + 1 + 1) W (grow (redrawn U dq) osq)) := kU.out.trans ((below_regrown _ dq osq).mono (by have := kU.out.size; omega))
            generalize grow (redrawn U dq) osq = wr5 at kq5 ⊢
            go_wp2_with fail
            go_roundw
            case rel => exact ⟨t + 1, true, by omega, rfl, by go_num, (fun _ => rfl), kq5⟩
            case measure => simp [intOf]; omega
    have hlqi : ((q : Int) < (k : Int) + 1) := by omega
    have hlqd : decide ((q : Int) < (k : Int) + 1) = true := by simp; omega
    obtain ⟨op', cm', hv, _, hcP⟩ := LR
    cases hv
    obtain ⟨b, off, rfl, hbB, hc0⟩ := hcP q hlq
    have zq := hc0 0 (by omega)
    simp only [Nat.mul_one, Nat.add_zero, cS] at zq
    replace zq := fun d os => cell_regrown zq d os
    have HLS : Hid (Lst B wr (.slice (some ⟨b, off, none⟩) q cm) q 1 (cS P)) := Lst.first (H.out wr hbw).2.1 (by omega)
    clear hc0 hcP
    have hh := HR.out.has q (by omega)
    by_cases e0 : q = 0
    · obtain ⟨c, hcq⟩ : ∃ c, capI D.np D.fp (P q) = c := ⟨_, rfl⟩
      have hc1 : 1 ≤ c := by have := HR.out.c0; rw [e0] at hcq; omega
      have hcn : decide (c < 0) = false := by simp; omega
      have hcn' : ¬ c < 0 := by omega
      have hcp : decide (0 < c) = true := by simp; omega
      have hcp' : 0 < c := by omega
      have hqb : ((q : Int) == 0) = true := by simp [e0]
      have EK : Hid (q = 0) := e0
      clear e0
      go_upto_region 7 with fail
      refine wp_region_quiet_below (by kernel_rfl) (by kernel_rfl) ?_
      repeat (first | go_big_quiet_step (with_reducible exact capW_q B _ _ _ _ D.np D.fp _ _ HLP.out hBW _ hcq _ _) | quiet_step (with_reducible exact capW_q B _ _ _ _ D.np D.fp _ _ HLP.out hBW _ hcq _ _))
      refine wpQuiet_nil ?_
      intro _ hw'
      obtain ⟨⟨dq, osq⟩, hw''⟩ := hw'
      subst hw''
      have kq2 : Hid (Below (w.heap.size + 1 + 1) W (grow (redrawn wr dq) osq)) := hbel.out.trans ((below_regrown _ dq osq).mono (by have := hbel.out.size; omega))
      generalize grow (redrawn wr dq) osq = wr2 at kq2 ⊢
      clear x0 x1 x2 x3 y0 y1 zq HLP hBW HLS hbw
      obtain ⟨⟨⟨x0, x1, x2, x3⟩, y0, y1⟩, hbw⟩ := bx.out wr2 kq2.out
      replace x0 := fun d os => cell_regrown x0 d os
      replace x1 := fun d os => cell_regrown x1 d os
      replace x2 := fun d os => cell_regrown x2 d os
      replace x3 := fun d os => cell_regrown x3 d os
      replace y0 := fun d os => cell_regrown y0 d os
      replace y1 := fun d os => cell_regrown y1 d os
      have hBW : B ≤ wr2.heap.size := Nat.le_trans hB hbw.size
      obtain ⟨_, LR, _⟩ := H.out wr2 hbw
      obtain ⟨_, _, e', _, hcP⟩ := LR
      cases e'
      obtain ⟨_, _, e', hbB, hc0⟩ := hcP q (by omega)
      cases e'
      have zq := hc0 0 (by omega)
      simp only [Nat.mul_one, Nat.add_zero, cS] at zq
      replace zq := fun d os => cell_regrown zq d os
      have HLS : Hid (Lst B wr2 (.slice (some ⟨b, off, none⟩) q cm) q 1 (cS P)) := Lst.first (H.out wr2 hbw).2.1 (by omega)
      clear hc0 hcP
      go_upto_region 8 with fail
      refine wp_region_quiet_below (by kernel_rfl) (by kernel_rfl) ?_
      repeat (first | go_big_quiet_step (with_reducible exact hasW_q B _ q P _ _ HLS.out hBW _ hh _ _) | quiet_step (with_reducible exact hasW_q B _ q P _ _ HLS.out hBW _ hh _ _))
      refine wpQuiet_nil ?_
      intro _ hw'
      obtain ⟨⟨dq, osq⟩, hw''⟩ := hw'
      subst hw''
      have kq3 : Hid (Below (w.heap.size + 1 + 1) W (grow (redrawn wr2 dq) osq)) := kq2.out.trans ((below_regrown _ dq osq).mono (by have := kq2.out.size; omega))
      generalize grow (redrawn wr2 dq) osq = wr3 at kq3 ⊢
      clear x0 x1 x2 x3 y0 y1 zq HLS hBW hbw
      go_wp2_with fail
      go_roundw
      case rel => exact ⟨q + 1, by omega, by go_num, kq3⟩
      case measure => first | (simp [intOf]; done) | (simp [intOf]; omega)
    by_cases e1 : q = k
    · subst e1
      obtain ⟨c, hcq⟩ : ∃ c, capI D.np D.fp (P q) = c := ⟨_, rfl⟩
      have hc1 : 1 ≤ c := by have := HR.out.ck; omega
      have hcn : decide (c < 0) = false := by simp; omega
      have hcn' : ¬ c < 0 := by omega
      have hcp : decide (0 < c) = true := by simp; omega
      have hcp' : 0 < c := by omega
      have hk0 : ¬ q = 0 := by omega
      have hkb : ((q : Int) == 0) = false := by simp; omega
      go_upto_region 7 with fail
      refine wp_region_quiet_below (by kernel_rfl) (by kernel_rfl) ?_
      repeat (first | go_big_quiet_step (with_reducible exact capW_q B _ _ _ _ D.np D.fp _ _ HLP.out hBW _ hcq _ _) | quiet_step (with_reducible exact capW_q B _ _ _ _ D.np D.fp _ _ HLP.out hBW _ hcq _ _))
      refine wpQuiet_nil ?_
      intro _ hw'
      obtain ⟨⟨dq, osq⟩, hw''⟩ := hw'
      subst hw''
      have kq2 : Hid (Below (w.heap.size + 1 + 1) W (grow (redrawn wr dq) osq)) := hbel.out.trans ((below_regrown _ dq osq).mono (by have := hbel.out.size; omega))
      generalize grow (redrawn wr dq) osq = wr2 at kq2 ⊢
      clear x0 x1 x2 x3 y0 y1 zq HLP hBW HLS hbw
      obtain ⟨⟨⟨x0, x1, x2, x3⟩, y0, y1⟩, hbw⟩ := bx.out wr2 kq2.out
      replace x0 := fun d os => cell_regrown x0 d os
      replace x1 := fun d os => cell_regrown x1 d os
      replace x2 := fun d os => cell_regrown x2 d os
      replace x3 := fun d os => cell_regrown x3 d os
      replace y0 := fun d os => cell_regrown y0 d os
      replace y1 := fun d os => cell_regrown y1 d os
      have hBW : B ≤ wr2.heap.size := Nat.le_trans hB hbw.size
      obtain ⟨_, LR, _⟩ := H.out wr2 hbw
      obtain ⟨_, _, e', _, hcP⟩ := LR
      cases e'
      obtain ⟨_, _, e', hbB, hc0⟩ := hcP q (by omega)
      cases e'
      have zq := hc0 0 (by omega)
      simp only [Nat.mul_one, Nat.add_zero, cS] at zq
      replace zq := fun d os => cell_regrown zq d os
      have HLS : Hid (Lst B wr2 (.slice (some ⟨b, off, none⟩) q cm) q 1 (cS P)) := Lst.first (H.out wr2 hbw).2.1 (by omega)
      clear hc0 hcP
      go_upto_region 8 with fail
      refine wp_region_quiet_below (by kernel_rfl) (by kernel_rfl) ?_
      repeat (first | go_big_quiet_step (with_reducible exact hasW_q B _ q P _ _ HLS.out hBW _ hh _ _) | quiet_step (with_reducible exact hasW_q B _ q P _ _ HLS.out hBW _ hh _ _))
      refine wpQuiet_nil ?_
      intro _ hw'
      obtain ⟨⟨dq, osq⟩, hw''⟩ := hw'
      subst hw''
      have kq3 : Hid (Below (w.heap.size + 1 + 1) W (grow (redrawn wr2 dq) osq)) := kq2.out.trans ((below_regrown _ dq osq).mono (by have := kq2.out.size; omega))
      generalize grow (redrawn wr2 dq) osq = wr3 at kq3 ⊢
      clear x0 x1 x2 x3 y0 y1 zq HLS hBW hbw
      go_wp2_with fail
      go_roundw
      case rel => exact ⟨q + 1, by omega, by go_num, kq3⟩
      case measure => first | (simp [intOf]; done) | (simp [intOf]; omega)
    have hcq := HR.out.cm q (by omega) (by omega)
    have hq0 : ¬ q = 0 := by omega
    have hqb : ((q : Int) == 0) = false := by simp; omega
    have hqk : ¬ q = k := by omega
    have hqkb : ((q : Int) == (k : Int) + 1 - 1) = false := by first | (simp; done) | (simp; omega)
    have hqkc : ((q : Int) == (k : Int)) = false := by first | (simp; done) | (simp; omega)
    go_upto_region 7 with fail
    refine wp_region_quiet_below (by kernel_rfl) (by kernel_rfl) ?_
    repeat (first | go_big_quiet_step (with_reducible exact capW_q B _ _ _ _ D.np D.fp _ _ HLP.out hBW _ hcq _ _) | quiet_step (with_reducible exact capW_q B _ _ _ _ D.np D.fp _ _ HLP.out hBW _ hcq _ _))
    refine wpQuiet_nil ?_
    intro _ hw'
    obtain ⟨⟨dq, osq⟩, hw''⟩ := hw'
    subst hw''
    have kq2 : Hid (Below (w.heap.size + 1 + 1) W (grow (redrawn wr dq) osq)) := hbel.out.trans ((below_regrown _ dq osq).mono (by have := hbel.out.size; omega))
    generalize grow (redrawn wr dq) osq = wr2 at kq2 ⊢
    clear x0 x1 x2 x3 y0 y1 zq HLP hBW HLS hbw
    obtain ⟨⟨⟨x0, x1, x2, x3⟩, y0, y1⟩, hbw⟩ := bx.out wr2 kq2.out
    replace x0 := fun d os => cell_regrown x0 d os
    replace x1 := fun d os => cell_regrown x1 d os
    replace x2 := fun d os => cell_regrown x2 d os
    replace x3 := fun d os => cell_regrown x3 d os
    replace y0 := fun d os => cell_regrown y0 d os
    replace y1 := fun d os => cell_regrown y1 d os
    have hBW : B ≤ wr2.heap.size := Nat.le_trans hB hbw.size
    obtain ⟨_, LR, _⟩ := H.out wr2 hbw
    obtain ⟨_, _, e', _, hcP⟩ := LR
    cases e'
    obtain ⟨_, _, e', hbB, hc0⟩ := hcP q (by omega)
    cases e'
    have zq := hc0 0 (by omega)
    simp only [Nat.mul_one, Nat.add_zero, cS] at zq
    replace zq := fun d os => cell_regrown zq d os
    have HLS : Hid (Lst B wr2 (.slice (some ⟨b, off, none⟩) q cm) q 1 (cS P)) := Lst.first (H.out wr2 hbw).2.1 (by omega)
    clear hc0 hcP
    go_upto_region 8 with fail
    refine wp_region_quiet_below (by kernel_rfl) (by kernel_rfl) ?_
    repeat (first | go_big_quiet_step (with_reducible exact hasW_q B _ q P _ _ HLS.out hBW _ hh _ _) | quiet_step (with_reducible exact hasW_q B _ q P _ _ HLS.out hBW _ hh _ _))
    refine wpQuiet_nil ?_
    intro _ hw'
    obtain ⟨⟨dq, osq⟩, hw''⟩ := hw'
    subst hw''
    have kq3 : Hid (Below (w.heap.size + 1 + 1) W (grow (redrawn wr2 dq) osq)) := kq2.out.trans ((below_regrown _ dq osq).mono (by have := kq2.out.size; omega))
    generalize grow (redrawn wr2 dq) osq = wr3 at kq3 ⊢
    clear x0 x1 x2 x3 y0 y1 zq HLS hBW hbw
    go_wp2_with fail
    go_roundw
    case rel => exact ⟨q + 1, by omega, by go_num, kq3⟩
    case measure => first | (simp [intOf]; done) | (simp [intOf]; omega)
end Go.Proofs.Ytgjcppdeljoimaa

namespace Go.Proofs.Ytgjcppdeljoimaa
open Go.RowKit
def RowG (B : Nat) (w : World) (u : Value) (l : List ByteArray) (g : Nat) : Prop :=
  ∃ cap cur, u = .slice (some ⟨g, 0, none⟩) l.length cap ∧ B ≤ g ∧ w.heap[g]? = some (.cells cur 9 (0, 0)) ∧ (l.length ≤ cur.size ∧ l.length ≤ cap) ∧ ∀ j, j < l.length → cur[j]? = some (.string (nthB l j))
theorem RowG.lst {B : Nat} {w : World} {u : Value} {l : List ByteArray} {g : Nat} (h : RowG B w u l g) (hm : l.length ≤ 1048576) : Lst w.heap.size w u l.length 1 (cS (nthB l)) := by
  obtain ⟨cap, cur, rfl, hb, hg, hs, hc⟩ := h
  refine ⟨_, _, rfl, by unfold maxLen; omega, fun i hi => ⟨g, 0, rfl, (Array.getElem?_eq_some_iff.1 hg).1, fun j hj => ?_⟩⟩
  have ej : j = 0 := by omega
  subst ej
  rw [Nat.zero_add, Nat.mul_one, Nat.add_zero]
  exact (cell_row hg i _ (hc i hi)).1
theorem RowG.of_own {B : Nat} {w : World} {u : Value} {l : List ByteArray} (h : w.ownsRow B 9 1 u l.length (l.map .string)) (hl : 0 < l.length) : ∃ g, RowG B w u l g ∧ g < w.heap.size := by
  rcases h.2 with ⟨rfl, hn⟩ | ⟨g, cap, cur, rfl, hb, hg, hc, hm', hs, ht⟩
  · omega
  · refine ⟨g, ⟨cap, cur, rfl, hb, hg, by omega, fun i hi => ?_⟩, (Array.getElem?_eq_some_iff.1 hg).1⟩
    have e1 : cur.toList[i]? = (l.map Value.string)[i]? := by
      rw [← ht, Nat.mul_one, List.getElem?_take_of_lt hi]
    rw [← Array.getElem?_toList, e1]
    simp [nthB, hi]
theorem RowG.same {B : Nat} {w w' : World} {u : Value} {l : List ByteArray} {g : Nat} (h : RowG B w u l g) (e : w'.heap[g]? = w.heap[g]?) : RowG B w' u l g := by
  obtain ⟨cap, cur, hu, hb, hg, hs, hc⟩ := h
  exact ⟨cap, cur, hu, hb, e.trans hg, hs, hc⟩
theorem RowG.lt {B : Nat} {w : World} {u : Value} {l : List ByteArray} {g : Nat} (h : RowG B w u l g) : g < w.heap.size := by
  obtain ⟨cap, cur, hu, hb, hg, hs, hc⟩ := h
  exact (Array.getElem?_eq_some_iff.1 hg).1
theorem RowG.le {B B' : Nat} {w : World} {u : Value} {l : List ByteArray} {g : Nat} (h : RowG B w u l g) (hB : B' ≤ B) : RowG B' w u l g := by
  obtain ⟨cap, cur, hu, hb, r⟩ := h
  exact ⟨cap, cur, hu, Nat.le_trans hB hb, r⟩
end Go.Proofs.Ytgjcppdeljoimaa
