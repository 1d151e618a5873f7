/-
  Several texts in one.
-/
import Derived.Test.YtaejlcanccfmmaaGreatDoorZpa
import Derived.Test.YtaejlcanccfmmaaGreatDoorZmb
import Derived.Test.YtaejlcanccfmmaaGreatDoorZpw
namespace Go.Proofs.YtaejlcanccfmmaaGreatDoor
open Go.RowKit
structure CapZ (S : Nat → Prop) (w : World) (nb : Nat) (v0 v1 : Value) (T : List ByteArray) : Prop where
  lt : nb < w.heap.size
  c0 : w.cell? ⟨nb, 0, none⟩ = some v0
  c1 : w.cell? ⟨nb, 1, none⟩ = some v1
  th : AtL S w T v0
  sub : ∀ b, S b → b < w.heap.size
theorem CapZ.below {S : Nat → Prop} {w w' : World} {nb B : Nat} {v0 v1 : Value} {T : List ByteArray} (h : CapZ S w nb v0 v1 T) (hb : Below B w w') (hB : w.heap.size ≤ B) : CapZ S w' nb v0 v1 T := by
  have hn := h.lt
  have hb' := hb.mono hB
  have hs' := hb'.size
  exact ⟨by omega, (hb'.cell (p := ⟨nb, 0, none⟩) hn).trans h.c0, (hb'.cell (p := ⟨nb, 1, none⟩) hn).trans h.c1, h.th.same (Same.of_below hb' h.sub), fun b hb => by have := h.sub b hb; omega⟩
noncomputable def baI (T : List ByteArray) (x : DShareBatch) : Bool := nameB x.1 && (subB T x.2.2 && subB x.2.2 x.2.1)
set_option maxRecDepth 100000 in
set_option maxHeartbeats 4000000 in
theorem cmpShareBatches_any (a b : ByteArray) (a1 b1 a2 b2 : Value) (w : World) : Calls Tryz.prog 67 #[.agg #[.string a, a1, a2], .agg #[.string b, b1, b2]] w fun e w' => e = .returned (.int .i64 (cmpB a b)) ∧ Below w.heap.size w w' := by
  go_enter Tryz.func67, Tryz.ntmps67
  go_wp2_with (go_at_call 88; refine (cmpS_any _ _ _).mono ?_; rintro e w1 ⟨rfl, rfl⟩)
  go_ret
  exact ⟨rfl, ((Below.refl _ _).alloc (Nat.le_refl _) _).alloc (by simp) _⟩
set_option maxRecDepth 100000 in
set_option maxHeartbeats 4000000 in
theorem batOk_any (S : Nat → Prop) (x : DShareBatch) (nm : ByteArray) (en : x.1 = nm) (o1 o2 : Option Addr) (n1 k1 n2 k2 : Nat) (nb : Nat) (v0 v1 : Value) (T : List ByteArray) (w : World) (hK : CapZ S w nb v0 v1 T) (hz : nm.size ≤ maxLen) (h1 : AtL S w x.2.1 (.slice o1 n1 k1)) (h2 : AtL S w x.2.2 (.slice o2 n2 k2)) :
    Calls Tryz.prog 68 #[.agg #[.string nm, .slice o1 n1 k1, .slice o2 n2 k2], .pointer (some ⟨nb, 0, none⟩)] w fun e w' => e = .returned (.bool (baI T x)) ∧ Below w.heap.size w w' := by
  have hS := hK.sub
  have H1 : Hid (∀ w', Below w.heap.size w w' → AtL S w' x.2.1 (.slice o1 n1 k1)) := fun w' h => h1.same (Same.of_below h hS)
  have H2 : Hid (∀ w', Below w.heap.size w w' → AtL S w' x.2.2 (.slice o2 n2 k2)) := fun w' h => h2.same (Same.of_below h hS)
  have HK : Hid (CapZ S w nb v0 v1 T) := hK
  have EB : Hid (baI T x = (nameB nm && (subB T x.2.2 && subB x.2.2 x.2.1))) := by show _ = _; rw [← en]; rfl
  clear hK h1 h2
  cases c0 : nameB nm
  · go_enter Tryz.func68, Tryz.ntmps68
    go_wp2_with fail
    refine (nameI_any _ _ hz).mono ?_
    rintro e w1 ⟨rfl, hb1⟩
    rw [c0]
    have hbel1 : Hid (Below (w.heap.size + 1) (w.alloc (.cells #[.string nm, .slice o1 n1 k1, .slice o2 n2 k2] 43)) w1) := by simpa [Hid] using hb1
    have y10 := box_at _ _ hbel1.out 0 (.string nm) rfl
    have y11 := box_at _ _ hbel1.out 1 (.slice o1 n1 k1) rfl
    have y12 := box_at _ _ hbel1.out 2 (.slice o2 n2 k2) rfl
    clear hb1
    go_wp2_with fail
    go_ret
    exact ⟨(by rw [EB.out, c0]; rfl), below_end hbel1.out⟩
  · cases c1 : subB T x.2.2
    · go_enter Tryz.func68, Tryz.ntmps68
      go_wp2_with fail
      refine (nameI_any _ _ hz).mono ?_
      rintro e w1 ⟨rfl, hb1⟩
      rw [c0]
      have hbel1 : Hid (Below (w.heap.size + 1) (w.alloc (.cells #[.string nm, .slice o1 n1 k1, .slice o2 n2 k2] 43)) w1) := by simpa [Hid] using hb1
      have y10 := box_at _ _ hbel1.out 0 (.string nm) rfl
      have y11 := box_at _ _ hbel1.out 1 (.slice o1 n1 k1) rfl
      have y12 := box_at _ _ hbel1.out 2 (.slice o2 n2 k2) rfl
      clear hb1
      have B1 := below_end hbel1.out
      have K1 := HK.out.below B1 (Nat.le_refl _)
      have p10 := K1.c0
      have p11 := K1.c1
      go_wp2_with fail
      refine (isOf_any S S _ _ x.2.2 T _ (H2.out _ B1) K1.th K1.sub K1.sub).mono ?_
      rintro e w2 ⟨rfl, hb2⟩
      rw [c1]
      have hbel2 : Hid (Below (w.heap.size + 1) (w.alloc (.cells #[.string nm, .slice o1 n1 k1, .slice o2 n2 k2] 43)) w2) := below_of hbel1.out hb2
      have y20 := box_at _ _ hbel2.out 0 (.string nm) rfl
      have y21 := box_at _ _ hbel2.out 1 (.slice o1 n1 k1) rfl
      have y22 := box_at _ _ hbel2.out 2 (.slice o2 n2 k2) rfl
      clear hb2
      go_wp2_with fail
      go_ret
      exact ⟨(by rw [EB.out, c0, c1]; rfl), below_end hbel2.out⟩
    · go_enter Tryz.func68, Tryz.ntmps68
      go_wp2_with fail
      refine (nameI_any _ _ hz).mono ?_
      rintro e w1 ⟨rfl, hb1⟩
      rw [c0]
      have hbel1 : Hid (Below (w.heap.size + 1) (w.alloc (.cells #[.string nm, .slice o1 n1 k1, .slice o2 n2 k2] 43)) w1) := by simpa [Hid] using hb1
      have y10 := box_at _ _ hbel1.out 0 (.string nm) rfl
      have y11 := box_at _ _ hbel1.out 1 (.slice o1 n1 k1) rfl
      have y12 := box_at _ _ hbel1.out 2 (.slice o2 n2 k2) rfl
      clear hb1
      have B1 := below_end hbel1.out
      have K1 := HK.out.below B1 (Nat.le_refl _)
      have p10 := K1.c0
      have p11 := K1.c1
      go_wp2_with fail
      refine (isOf_any S S _ _ x.2.2 T _ (H2.out _ B1) K1.th K1.sub K1.sub).mono ?_
      rintro e w2 ⟨rfl, hb2⟩
      rw [c1]
      have hbel2 : Hid (Below (w.heap.size + 1) (w.alloc (.cells #[.string nm, .slice o1 n1 k1, .slice o2 n2 k2] 43)) w2) := below_of hbel1.out hb2
      have y20 := box_at _ _ hbel2.out 0 (.string nm) rfl
      have y21 := box_at _ _ hbel2.out 1 (.slice o1 n1 k1) rfl
      have y22 := box_at _ _ hbel2.out 2 (.slice o2 n2 k2) rfl
      clear hb2
      have B2 := below_end hbel2.out
      have K2 := HK.out.below B2 (Nat.le_refl _)
      have p20 := K2.c0
      have p21 := K2.c1
      go_wp2_with fail
      refine (isOf_any S S _ _ x.2.1 x.2.2 _ (H1.out _ B2) (H2.out _ B2) K2.sub K2.sub).mono ?_
      rintro e w3 ⟨rfl, hb3⟩
      have hbel3 : Hid (Below (w.heap.size + 1) (w.alloc (.cells #[.string nm, .slice o1 n1 k1, .slice o2 n2 k2] 43)) w3) := below_of hbel2.out hb3
      have y30 := box_at _ _ hbel3.out 0 (.string nm) rfl
      have y31 := box_at _ _ hbel3.out 1 (.slice o1 n1 k1) rfl
      have y32 := box_at _ _ hbel3.out 2 (.slice o2 n2 k2) rfl
      clear hb3
      go_wp2_with fail
      go_ret
      exact ⟨(by rw [EB.out, c0, c1]; rfl), below_end hbel3.out⟩
open Go.Sort in
theorem cmpShareBatch_q (a b : ByteArray) (a1 b1 a2 b2 : Value) (wr : World) (r : Int) (hr : cmpB a b = r) (d : Nat) (os : Array Obj) : Calls Tryz.prog 67 #[.agg #[.string a, a1, a2], .agg #[.string b, b1, b2]] (grow (redrawn wr d) os) fun e w'' => e = .returned (.int .i64 r) ∧ ∃ p : Regrown, w'' = grow (redrawn wr p.d) p.os :=
  Calls.regrown_of (by subst hr; exact cmpShareBatches_any a b a1 b1 a2 b2 _)
set_option maxRecDepth 100000 in
set_option maxHeartbeats 4000000 in
theorem ascShareBatch_any (S : Nat → Prop) (v : Value) (l : List DShareBatch) (w : World) (h : AtL S w l v) (hS : ∀ b, S b → b < w.heap.size) :
    Calls Tryz.prog 89 #[v, .func (.func 67) #[] #[]] w fun e w' => e = .returned (.bool (ascB (fun p f : DShareBatch => ltB p.1 f.1) l)) ∧ Below w.heap.size w w' := by
  obtain ⟨oa, cap, rfl, hn, hc⟩ := h
  obtain ⟨n, en⟩ : ∃ n, l.length = n := ⟨_, rfl⟩
  rw [en] at hn
  rw [en]
  unfold maxLen at hn
  have HC : Hid _ := hc
  clear hc
  go_enter Tryz.func89, Tryz.ntmps89
  go_wp2
  go_loopw [5] (fun i wr => ∃ k : Nat, i = .int .i64 ((k : Int) + 1) ∧ (k + 1 ≤ n ∨ k = 0) ∧ Hid (∀ j (hj : j < l.length), j < k + 1 → asO (fun p f : DShareBatch => ltB p.1 f.1) (prevO l j) l[j] = true) ∧ Hid (Below w.heap.size w wr)) (fun i _ => n - (intOf i).toNat)
  case atStart => exact ⟨0, rfl, Or.inr rfl, fun j hj h => as_zero j hj (by omega), Below.refl _ _⟩
  case round =>
    obtain ⟨k, rfl, hk, hall, hbel⟩ := hrel
    have hs := hbel.out.size
    by_cases hlt : k + 1 < n
    · clear hk
      obtain ⟨b, off, rfl, hbS, ce, hcelle, hate⟩ := HC.out (k + 1) (by omega)
      obtain ⟨b', off', e', hbS', ca, hcella, hata⟩ := HC.out k (by omega)
      cases e'
      have hbb := hS b hbS
      have hbw := hbel.out
      rw [width_DShareBatch] at hcella
      have a0 : wr.cell? ⟨b, off + k * 3, none⟩ = some (ca 0) := (hbw.cell (p := ⟨b, off + k * 3, none⟩) (by show b < _; omega)).trans (by have hq := hcella 0 (by omega); first | exact hq | simpa using hq)
      have a1 : wr.cell? ⟨b, off + k * 3 + 1, none⟩ = some (ca 1) := (hbw.cell (p := ⟨b, off + k * 3 + 1, none⟩) (by show b < _; omega)).trans (by have hq := hcella 1 (by omega); first | exact hq | simpa using hq)
      have a2 : wr.cell? ⟨b, off + k * 3 + 2, none⟩ = some (ca 2) := (hbw.cell (p := ⟨b, off + k * 3 + 2, none⟩) (by show b < _; omega)).trans (by have hq := hcella 2 (by omega); first | exact hq | simpa using hq)
      clear hcella
      have hata := Lay.same hata (Same.of_below hbw hS)
      rw [at_DShareBatch] at hata
      obtain ⟨af, eaf⟩ : ∃ f, l[k]'(by omega) = f := ⟨_, rfl⟩
      rw [eaf] at hata
      obtain ⟨⟨ta0, za0⟩, la1, la2⟩ := hata
      obtain ⟨soa1, sca1, ta1, _⟩ := id la1
      rw [ta1] at la1
      have Ka1 : Hid _ := la1
      clear la1
      obtain ⟨soa2, sca2, ta2, _⟩ := id la2
      rw [ta2] at la2
      have Ka2 : Hid _ := la2
      clear la2
      rw [ta0] at a0
      rw [ta1] at a1
      rw [ta2] at a2
      clear ta0 ta1 ta2
      rw [width_DShareBatch] at hcelle
      have e0 : wr.cell? ⟨b, off + (k + 1) * 3, none⟩ = some (ce 0) := (hbw.cell (p := ⟨b, off + (k + 1) * 3, none⟩) (by show b < _; omega)).trans (by have hq := hcelle 0 (by omega); first | exact hq | simpa using hq)
      have e1 : wr.cell? ⟨b, off + (k + 1) * 3 + 1, none⟩ = some (ce 1) := (hbw.cell (p := ⟨b, off + (k + 1) * 3 + 1, none⟩) (by show b < _; omega)).trans (by have hq := hcelle 1 (by omega); first | exact hq | simpa using hq)
      have e2 : wr.cell? ⟨b, off + (k + 1) * 3 + 2, none⟩ = some (ce 2) := (hbw.cell (p := ⟨b, off + (k + 1) * 3 + 2, none⟩) (by show b < _; omega)).trans (by have hq := hcelle 2 (by omega); first | exact hq | simpa using hq)
      clear hcelle
      have hate := Lay.same hate (Same.of_below hbw hS)
      rw [at_DShareBatch] at hate
      obtain ⟨ef, eef⟩ : ∃ f, l[k + 1]'(by omega) = f := ⟨_, rfl⟩
      rw [eef] at hate
      obtain ⟨⟨te0, ze0⟩, le1, le2⟩ := hate
      obtain ⟨soe1, sce1, te1, _⟩ := id le1
      rw [te1] at le1
      have Ke1 : Hid _ := le1
      clear le1
      obtain ⟨soe2, sce2, te2, _⟩ := id le2
      rw [te2] at le2
      have Ke2 : Hid _ := le2
      clear le2
      rw [te0] at e0
      rw [te1] at e1
      rw [te2] at e2
      clear te0 te1 te2
      clear hbw
      have qa0 := fun d os => cell_regrown a0 d os
      have qa1 := fun d os => cell_regrown a1 d os
      have qa2 := fun d os => cell_regrown a2 d os
      have qe0 := fun d os => cell_regrown e0 d os
      have qe1 := fun d os => cell_regrown e1 d os
      have qe2 := fun d os => cell_regrown e2 d os
      have hrl : asO (fun p f : DShareBatch => ltB p.1 f.1) (prevO l (k + 1)) (l[k + 1]'(by omega)) = ltB af.1 ef.1 := by
        rw [prev_succ l k (by omega), eaf, eef]; rfl
      have hge : decide (0 ≤ cmpB af.1 ef.1) = !ltB af.1 ef.1 := cmpB_ge _ _
      cases hlb : ltB af.1 ef.1
      · rw [hlb] at hrl
        rw [hlb, Bool.not_false] at hge
        go_wp2
        refine wp_region_quiet_below (by kernel_rfl) (by kernel_rfl) ?_
        repeat (first | go_big_quiet_step (with_reducible exact cmpShareBatch_q _ _ _ _ _ _ _ _ rfl _ _) | quiet_step (with_reducible exact cmpShareBatch_q _ _ _ _ _ _ _ _ rfl _ _))
        refine wpQuiet_nil ?_
        intro _ hw'
        obtain ⟨⟨dq, osq⟩, hw''⟩ := hw'
        subst hw''
        go_wp2
        rw [show ascB (fun p f : DShareBatch => ltB p.1 f.1) l = false from ok_no (k := k + 1) (by omega) hrl]
        go_ret
        exact ⟨rfl, hbel.out.trans ((below_regrown _ dq osq).mono hs)⟩
      · rw [hlb] at hrl
        rw [hlb, Bool.not_true] at hge
        go_wp2
        refine wp_region_quiet_below (by kernel_rfl) (by kernel_rfl) ?_
        repeat (first | go_big_quiet_step (with_reducible exact cmpShareBatch_q _ _ _ _ _ _ _ _ rfl _ _) | quiet_step (with_reducible exact cmpShareBatch_q _ _ _ _ _ _ _ _ rfl _ _))
        refine wpQuiet_nil ?_
        intro _ hw'
        obtain ⟨⟨dq, osq⟩, hw''⟩ := hw'
        subst hw''
        go_wp2
        go_roundw
        case rel => exact ⟨k + 1, by go_num, Or.inl (by omega), fun j hj hjk => by
          by_cases e : j = k + 1
          · subst e; exact hrl
          · exact hall.out j hj (by omega), hbel.out.trans ((below_regrown _ dq osq).mono hs)⟩
        case measure => simp [intOf]; omega
    · go_wp2
      rw [show ascB (fun p f : DShareBatch => ltB p.1 f.1) l = true from ok_yes (Nat.le_refl _) (fun j hj => hall.out j hj (by omega))]
      go_ret
      exact ⟨rfl, hbel.out⟩
set_option maxRecDepth 100000 in
set_option maxHeartbeats 4000000 in
theorem listShareBatch_any (S : Nat → Prop) (nb : Nat) (v0 v1 : Value) (T : List ByteArray) (v : Value) (l : List DShareBatch) (lim : Nat) (w : World) (h : AtL S w l v) (hS : ∀ b, S b → b < w.heap.size) (hK : CapZ S w nb v0 v1 T) :
    Calls Tryz.prog 66 #[v, .int .i64 lim, .func (.func 67) #[] #[], .func (.func 68) #[] #[.pointer (some ⟨nb, 0, none⟩)]] w fun e w' => e = .returned (.bool (okB lim (tst (fun f : DShareBatch => baI T f) (fun p f : DShareBatch => ltB p.1 f.1)) l)) ∧ Below w.heap.size w w' := by
  have H : Hid (AtL S w l v) := h
  obtain ⟨oa, cap, hv, hn, hc⟩ := h
  rw [hv] at H
  subst hv
  obtain ⟨n, en⟩ : ∃ n, l.length = n := ⟨_, rfl⟩
  rw [en] at hn H
  rw [en]
  unfold maxLen at hn
  have HC : Hid _ := hc
  clear hc
  have HK : Hid (CapZ S w nb v0 v1 T) := hK
  clear hK
  by_cases hl : n ≤ lim
  · have dl : decide (lim < n) = false := by simp; omega
    go_enter Tryz.func66, Tryz.ntmps66
    go_wp2
    go_loopw [17] (fun i wr => ∃ k : Nat, k ≤ n ∧ i = .int .i64 k ∧ Hid (∀ j (hj : j < l.length), j < k → (fun f : DShareBatch => baI T f) l[j] = true) ∧ Hid (Below w.heap.size w wr)) (fun i _ => n - (intOf i).toNat)
    case atStart => exact ⟨0, Nat.zero_le _, rfl, fun _ _ h => by omega, Below.refl _ _⟩
    case round =>
      obtain ⟨k, hk, rfl, hall, hbel⟩ := hrel
      have hs := hbel.out.size
      have hSr : ∀ b, S b → b < wr.heap.size := fun b hb => by have := hS b hb; omega
      by_cases hlt : k < n
      · obtain ⟨b, off, rfl, hbS, ce, hcelle, hate⟩ := HC.out k (by omega)
        have hbb := hS b hbS
        have hbw := hbel.out
        rw [width_DShareBatch] at hcelle
        have e0 : wr.cell? ⟨b, off + k * 3, none⟩ = some (ce 0) := (hbw.cell (p := ⟨b, off + k * 3, none⟩) (by show b < _; omega)).trans (by have hq := hcelle 0 (by omega); first | exact hq | simpa using hq)
        have e1 : wr.cell? ⟨b, off + k * 3 + 1, none⟩ = some (ce 1) := (hbw.cell (p := ⟨b, off + k * 3 + 1, none⟩) (by show b < _; omega)).trans (by have hq := hcelle 1 (by omega); first | exact hq | simpa using hq)
        have e2 : wr.cell? ⟨b, off + k * 3 + 2, none⟩ = some (ce 2) := (hbw.cell (p := ⟨b, off + k * 3 + 2, none⟩) (by show b < _; omega)).trans (by have hq := hcelle 2 (by omega); first | exact hq | simpa using hq)
        clear hcelle
        have hate := Lay.same hate (Same.of_below hbw hS)
        rw [at_DShareBatch] at hate
        obtain ⟨ef, eef⟩ : ∃ f, l[k]'(by omega) = f := ⟨_, rfl⟩
        rw [eef] at hate
        obtain ⟨⟨te0, ze0⟩, le1, le2⟩ := hate
        obtain ⟨soe1, sce1, te1, _⟩ := id le1
        rw [te1] at le1
        have Ke1 : Hid _ := le1
        clear le1
        obtain ⟨soe2, sce2, te2, _⟩ := id le2
        rw [te2] at le2
        have Ke2 : Hid _ := le2
        clear le2
        rw [te0] at e0
        rw [te1] at e1
        rw [te2] at e2
        clear te0 te1 te2
        clear hbw
        have hB1 : Hid (Below w.heap.size w (wr.alloc (.cells #[.string ef.1, .slice soe1 ef.2.1.length sce1, .slice soe2 ef.2.2.length sce2] 43))) := hbel.out.alloc hs _
        have KA : Hid (CapZ S (wr.alloc (.cells #[.string ef.1, .slice soe1 ef.2.1.length sce1, .slice soe2 ef.2.2.length sce2] 43)) nb v0 v1 T) := HK.out.below hB1.out (Nat.le_refl _)
        have hP : (fun f : DShareBatch => baI T f) (l[k]'(by omega)) = (baI T ef) := by rw [eef]
        cases hy : (baI T ef)
        · rw [hy] at hP
          go_wp2_with fail
          refine Calls.mono (batOk_any S ef _ rfl _ _ _ _ _ _ nb v0 v1 T _ KA.out ze0 (AtL.same Ke1.out (Same.of_below ((Below.refl _ _).alloc (Nat.le_refl _) _) hSr)) (AtL.same Ke2.out (Same.of_below ((Below.refl _ _).alloc (Nat.le_refl _) _) hSr))) ?_
          rintro e w1 ⟨rfl, hb1⟩
          rw [hy]
          go_wp2_with fail
          rw [tst_no (k := k) (by omega) hP]
          go_ret
          exact ⟨rfl, hB1.out.trans (hb1.mono hB1.out.size)⟩
        · rw [hy] at hP
          go_wp2_with fail
          refine Calls.mono (batOk_any S ef _ rfl _ _ _ _ _ _ nb v0 v1 T _ KA.out ze0 (AtL.same Ke1.out (Same.of_below ((Below.refl _ _).alloc (Nat.le_refl _) _) hSr)) (AtL.same Ke2.out (Same.of_below ((Below.refl _ _).alloc (Nat.le_refl _) _) hSr))) ?_
          rintro e w1 ⟨rfl, hb1⟩
          rw [hy]
          go_wp2_with fail
          go_roundw
          case rel => exact ⟨k + 1, by omega, by go_num, fun j hj hjk => by
            by_cases e : j = k
            · subst e; exact hP
            · exact hall.out j hj (by omega), hB1.out.trans (hb1.mono hB1.out.size)⟩
          case measure => simp [intOf]; omega
      · go_wp2_with (go_at_call 89; refine (ascShareBatch_any S _ l _ (H.out.same (Same.of_below hbel.out hS)) hSr).mono ?_; rintro e w1 ⟨rfl, hb1⟩)
        rw [tst_asc (by omega) (fun j hj => hall.out j hj (by omega))]
        go_ret
        exact ⟨rfl, hbel.out.trans (hb1.mono hs)⟩
  · have dl : decide (lim < n) = true := by simp; omega
    rw [ok_long (by omega)]
    go_enter Tryz.func66, Tryz.ntmps66
    go_wp2
    go_ret
    exact ⟨rfl, Below.refl _ _⟩
set_option maxRecDepth 100000 in
set_option maxHeartbeats 4000000 in
theorem batches_any (S : Nat → Prop) (v0 v1 : Value) (T : List ByteArray) (Bs : List DShareBatch) (w : World) (h0 : AtL S w T v0) (h1 : AtL S w Bs v1) (hS : ∀ b, S b → b < w.heap.size) :
    Calls Tryz.prog 46 #[.agg #[v0, v1]] w fun e w' => e = .returned (.bool (okB 5 (tst (fun f : DShareBatch => baI T f) (fun p f : DShareBatch => ltB p.1 f.1)) Bs)) ∧ Below w.heap.size w w' := by
  have hmf : ∀ (fn : Fn) (first cap : Array Value) (w : World), (Instr.makeFunc fn first cap).run Tryz.prog w = .ok (.func fn first cap) w := fun _ _ _ _ => rfl
  have HB : Hid (Below w.heap.size w (w.alloc (.cells #[v0, v1] 26))) := (Below.refl _ _).alloc (Nat.le_refl _) _
  have HS : ∀ b, S b → b < (w.alloc (.cells #[v0, v1] 26)).heap.size := fun b hb => Nat.lt_of_lt_of_le (hS b hb) HB.out.size
  have HK : Hid (CapZ S (w.alloc (.cells #[v0, v1] 26)) w.heap.size v0 v1 T) := ⟨by simp, box_at _ _ (Below.refl _ _) 0 v0 rfl, box_at _ _ (Below.refl _ _) 1 v1 rfl, h0.same (Same.of_below HB.out hS), HS⟩
  have H1 : Hid (AtL S (w.alloc (.cells #[v0, v1] 26)) Bs v1) := h1.same (Same.of_below HB.out hS)
  clear h0 h1
  go_enter Tryz.func46, Tryz.ntmps46
  go_wp2_with fail
  refine Calls.mono (listShareBatch_any S w.heap.size v0 v1 T v1 Bs 5 _ H1.out HS HK.out) ?_
  rintro e w1 ⟨rfl, hb1⟩
  go_wp2_with fail
  go_ret
  exact ⟨rfl, HB.out.trans (hb1.mono HB.out.size)⟩
end Go.Proofs.YtaejlcanccfmmaaGreatDoor

namespace Go.Proofs.YtaejlcanccfmmaaGreatDoor
open Go.RowKit
theorem prev_map_bat {T : List ByteArray} (o : Option DShareBatch) (x : DShareBatch) : batB T o x = tst (fun f : DShareBatch => baI T f) (fun p f : DShareBatch => ltB p.1 f.1) o x := by
  unfold batB tst baI
  simp only
  cases nameB x.1 <;> cases asO (fun a b : DShareBatch => ltB a.1 b.1) o x <;> cases subB T x.2.2 <;> cases subB x.2.2 x.2.1 <;> rfl
theorem bok_parts (T : List ByteArray) (Bs : List DShareBatch) : BokP (T, Bs) ↔ okB 8 (tst nameB ltB) T = true ∧ okB 5 (tst (fun f : DShareBatch => baI T f) (fun p f : DShareBatch => ltB p.1 f.1)) Bs = true ∧ Apart Bs := by
  constructor
  · intro h
    refine ⟨h.things, ?_, fun i hi k hk => (h.row i hi).sha k hk⟩
    rw [ok_iff]
    exact ⟨h.len, fun i hi => by have := (h.row i hi).bat; rw [prev_map_bat] at this; exact this⟩
  · rintro ⟨h1, h2, h3⟩
    rw [ok_iff] at h2
    exact ⟨h1, h2.1, fun i hi => ⟨by rw [prev_map_bat]; exact h2.2 i hi, fun k hk => h3 i hi k hk⟩⟩
theorem bat_nodup {T : List ByteArray} {Bs : List DShareBatch} (h : okB 5 (tst (fun f : DShareBatch => baI T f) (fun p f : DShareBatch => ltB p.1 f.1)) Bs = true) : ∀ x ∈ Bs, x.2.1.Nodup := fun x hx => by
  rw [ok_iff] at h
  obtain ⟨i, hi, rfl⟩ := List.getElem_of_mem hx
  have := h.2 i hi
  rw [tst, Bool.and_eq_true, baI, Bool.and_eq_true, Bool.and_eq_true] at this
  exact (sub_parts this.1.2.2).1
set_option maxRecDepth 100000 in
set_option maxHeartbeats 8000000 in
theorem bookP_any (S : Nat → Prop) (T : List ByteArray) (Bs : List DShareBatch) (o0 oa : Option Addr) (n0 k0 nb kb : Nat) (w : World) (h0 : AtL S w T (.slice o0 n0 k0)) (h1 : AtL S w Bs (.slice oa nb kb)) (hS : ∀ b, S b → b < w.heap.size) :
    Calls Tryz.prog 31 #[.agg #[.slice o0 n0 k0, .slice oa nb kb]] w fun e w' => e = .returned (.bool (bokB (T, Bs))) ∧ Below w.heap.size w w' := by
  have H0 : Hid _ := h0.ups hS
  have H1 : Hid _ := h1.ups hS
  have HS : Hid _ := lt_up hS
  clear h0 h1
  obtain ⟨W, EW, BW, RW, sW⟩ := box_new w #[.slice o0 n0 k0, .slice oa nb kb] 26
  have BOX : Hid (∀ u, Below W.heap.size W u → u.heap[w.heap.size]? = some (.cells #[.slice o0 n0 k0, .slice oa nb kb] 26 (0, 0)) ∧ Below w.heap.size w u) := fun u hu => ⟨(hu.block _ (by omega)).trans RW.out, BW.out.trans (hu.mono (by omega))⟩
  have y0 := (cell_row (BOX.out W (Below.refl _ _)).1 0 (.slice o0 n0 k0) rfl).1
  have y1 := (cell_row (BOX.out W (Below.refl _ _)).1 1 (.slice oa nb kb) rfl).1
  go_enter Tryz.func31, Tryz.ntmps31
  go_upto_region 1 with fail
  rw [← EW.out]
  go_wp2_with fail
  refine (isOkN_any S _ T 8 W (H0.out W BW.out) (HS.out W BW.out)).mono ?_; rintro e u1 ⟨rfl, hb1⟩
  have B1 : Hid (Below W.heap.size W u1) := hb1
  clear hb1 y0 y1
  cases hT : okB 8 (tst (fun f : ByteArray => nameB f) (fun p f : ByteArray => ltB p f)) T
  · go_wp2_with fail
    go_ret
    rw [bok_no (fun h => by have := ((bok_parts T Bs).1 h).1; rw [show okB 8 (tst nameB ltB) T = false from hT] at this; cases this)]
    exact ⟨rfl, (BOX.out u1 B1.out).2⟩
  have y0 := (cell_row (BOX.out u1 B1.out).1 0 (.slice o0 n0 k0) rfl).1
  have y1 := (cell_row (BOX.out u1 B1.out).1 1 (.slice oa nb kb) rfl).1
  go_wp2_with fail
  refine (batches_any S _ _ T Bs u1 (H0.out u1 (BOX.out u1 B1.out).2) (H1.out u1 (BOX.out u1 B1.out).2) (HS.out u1 (BOX.out u1 B1.out).2)).mono ?_; rintro e u2 ⟨rfl, hb2⟩
  have B2 : Hid (Below W.heap.size W u2) := B1.out.trans (hb2.mono B1.out.size)
  clear hb2 y0 y1
  cases hB : okB 5 (tst (fun f : DShareBatch => baI T f) (fun p f : DShareBatch => ltB p.1 f.1)) Bs
  · go_wp2_with fail
    go_ret
    rw [bok_no (fun h => by have := ((bok_parts T Bs).1 h).2.1; rw [hB] at this; cases this)]
    exact ⟨rfl, (BOX.out u2 B2.out).2⟩
  have y0 := (cell_row (BOX.out u2 B2.out).1 0 (.slice o0 n0 k0) rfl).1
  have y1 := (cell_row (BOX.out u2 B2.out).1 1 (.slice oa nb kb) rfl).1
  go_wp2_with fail
  refine (who_any S Bs _ _ u2 (H1.out u2 (BOX.out u2 B2.out).2) (HS.out u2 (BOX.out u2 B2.out).2) (bat_nodup hB)).mono ?_; rintro e u3 ⟨hw3, hb3⟩
  have B3 : Hid (Below W.heap.size W u3) := B2.out.trans (hb3.mono B2.out.size)
  clear hb3 y0 y1
  rcases hw3 with ⟨rfl, hA⟩ | ⟨m, M, rfl, _, hM⟩
  · have EB : Hid (bokB (T, Bs) = false) := bok_no (fun h => hA ((bok_parts T Bs).1 h).2.2)
    clear hA
    go_wp2_with fail
    go_ret
    rw [EB.out]
    exact ⟨rfl, (BOX.out u3 B3.out).2⟩
  · have EB : Hid (bokB (T, Bs) = true) := bok_yes ((bok_parts T Bs).2 ⟨hT, hB, hM.apart⟩)
    clear hM
    go_wp2_with fail
    go_ret
    rw [EB.out]
    exact ⟨rfl, (BOX.out u3 B3.out).2⟩
end Go.Proofs.YtaejlcanccfmmaaGreatDoor

namespace Go.Proofs.YtaejlcanccfmmaaGreatDoor
open Go.RowKit Go.Sort
theorem bat_at {S : Nat → Prop} {w : World} {Bs : List DShareBatch} {oa : Option Addr} {nb kb : Nat} (h : AtL S w Bs (.slice oa nb kb)) (i : Nat) (hi : i < Bs.length) :
    ∃ bb off o1 n1 k1 o2 n2 k2, oa = some ⟨bb, off, none⟩ ∧ S bb ∧ w.cell? ⟨bb, off + i * 3, none⟩ = some (.string Bs[i].1) ∧ w.cell? ⟨bb, off + i * 3 + 1, none⟩ = some (.slice o1 n1 k1) ∧ w.cell? ⟨bb, off + i * 3 + 2, none⟩ = some (.slice o2 n2 k2) ∧ AtL S w Bs[i].2.1 (.slice o1 n1 k1) ∧ AtL S w Bs[i].2.2 (.slice o2 n2 k2) ∧ Bs[i].1.size ≤ maxLen := by
  obtain ⟨oa', kb', e, _, hc⟩ := h
  cases e
  obtain ⟨bb, off, e, hS, cc, hcl, hat⟩ := hc i hi
  rw [width_DShareBatch] at hcl
  obtain ⟨⟨t0, z0⟩, a1, a2⟩ := at_DShareBatch.1 hat
  obtain ⟨o1, k1, t1, _⟩ := id a1
  obtain ⟨o2, k2, t2, _⟩ := id a2
  rw [t1] at a1
  rw [t2] at a2
  exact ⟨bb, off, o1, _, k1, o2, _, k2, e, hS, (by have hq := hcl 0 (by omega); first | exact hq | simpa using hq : w.cell? ⟨bb, off + i * 3, none⟩ = some (cc 0)).trans (by rw [t0]), (hcl 1 (by omega)).trans (by rw [t1]), (hcl 2 (by omega)).trans (by rw [t2]), a1, a2, z0⟩
def btN (Bs : List DShareBatch) (i : Nat) : DShareBatch := Bs[i]?.getD default
theorem btN_at {Bs : List DShareBatch} {i : Nat} (h : i < Bs.length) : btN Bs i = Bs[i] := by simp [btN, h]
def inWay (Bs : List DShareBatch) (a : Nat) (gone : List ByteArray) (i : Nat) : Bool := !(i == a) && !(hasB gone (btN Bs i).1) && shareB (btN Bs i).2.1 (btN Bs a).2.2
def canB (Bs : List DShareBatch) (a : Nat) (gone : List ByteArray) : Bool := !((List.range Bs.length).any (inWay Bs a gone))
theorem can_yes {Bs : List DShareBatch} {a : Nat} {gone : List ByteArray} (h : ∀ i, i < Bs.length → inWay Bs a gone i = false) : canB Bs a gone = true := by
  unfold canB
  rw [Bool.not_eq_true', List.any_eq_false]
  intro i hi
  rw [h i (List.mem_range.1 hi)]; simp
theorem can_no {Bs : List DShareBatch} {a i : Nat} {gone : List ByteArray} (hi : i < Bs.length) (h : inWay Bs a gone i = true) : canB Bs a gone = false := by
  unfold canB
  rw [Bool.not_eq_false', List.any_eq_true]
  exact ⟨i, List.mem_range.2 hi, h⟩
end Go.Proofs.YtaejlcanccfmmaaGreatDoor
