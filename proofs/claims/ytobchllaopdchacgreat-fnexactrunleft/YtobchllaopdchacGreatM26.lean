/-
  Several texts in one.
-/
import Derived.Test.YtobchllaopdchacGreatM23
import Derived.Test.YtobchllaopdchacGreatM17
import Derived.Test.YtobchllaopdchacGreatM25
namespace Go.Proofs.YtobchllaopdchacGreat
open Go.RowKit
structure CapZ (S : Nat → Prop) (w : World) (nb : Nat) (v0 v1 : Value) (T : List ByteArray) : Prop where
  lt : nb < w.heap.size
  c0 : w.cell? ⟨nb, 0, none⟩ = some v0
  c1 : w.cell? ⟨nb, 1, none⟩ = some v1
  th : AtL S w T v0
  sub : ∀ b, S b → b < w.heap.size
theorem CapZ.below {S : Nat → Prop} {w w' : World} {nb B : Nat} {v0 v1 : Value} {T : List ByteArray} (h : CapZ S w nb v0 v1 T) (hb : Below B w w') (hB : w.heap.size ≤ B) : CapZ S w' nb v0 v1 T := by
  have hn := h.lt
  have hb' := hb.mono hB
  have hs' := hb'.size
  exact ⟨by omega, (hb'.cell (p := ⟨nb, 0, none⟩) hn).trans h.c0, (hb'.cell (p := ⟨nb, 1, none⟩) hn).trans h.c1, h.th.same (Same.of_below hb' h.sub), fun b hb => by have := h.sub b hb; omega⟩
noncomputable def baI (T : List ByteArray) (x : DShareBatch) : Bool := nameB x.1 && (subB T x.2.2 && subB x.2.2 x.2.1)
set_option maxRecDepth 100000 in
set_option maxHeartbeats 4000000 in
theorem cmpShareBatches_any (a b : ByteArray) (a1 b1 a2 b2 : Value) (w : World) : Calls Tryz.prog 197 #[.agg #[.string a, a1, a2], .agg #[.string b, b1, b2]] w fun e w' => e = .returned (.int .i64 (cmpB a b)) ∧ Below w.heap.size w w' := by
  go_enter Tryz.func197, Tryz.ntmps197
  go_wp2_with (go_at_call 164; refine (cmpS_any _ _ _).mono ?_; rintro e w1 ⟨rfl, rfl⟩)
  go_ret
  exact ⟨rfl, ((Below.refl _ _).alloc (Nat.le_refl _) _).alloc (by simp) _⟩
set_option maxRecDepth 100000 in
set_option maxHeartbeats 4000000 in
theorem batOk_any (S : Nat → Prop) (x : DShareBatch) (nm : ByteArray) (en : x.1 = nm) (o1 o2 : Option Addr) (n1 k1 n2 k2 : Nat) (nb : Nat) (v0 v1 : Value) (T : List ByteArray) (w : World) (hK : CapZ S w nb v0 v1 T) (hz : nm.size ≤ maxLen) (h1 : AtL S w x.2.1 (.slice o1 n1 k1)) (h2 : AtL S w x.2.2 (.slice o2 n2 k2)) :
    Calls Tryz.prog 198 #[.agg #[.string nm, .slice o1 n1 k1, .slice o2 n2 k2], .pointer (some ⟨nb, 0, none⟩)] w fun e w' => e = .returned (.bool (baI T x)) ∧ Below w.heap.size w w' := by
  have hS := hK.sub
  have H1 : Hid (∀ w', Below w.heap.size w w' → AtL S w' x.2.1 (.slice o1 n1 k1)) := fun w' h => h1.same (Same.of_below h hS)
  have H2 : Hid (∀ w', Below w.heap.size w w' → AtL S w' x.2.2 (.slice o2 n2 k2)) := fun w' h => h2.same (Same.of_below h hS)
  have HK : Hid (CapZ S w nb v0 v1 T) := hK
  have EB : Hid (baI T x = (nameB nm && (subB T x.2.2 && subB x.2.2 x.2.1))) := by show _ = _; rw [← en]; rfl
  clear hK h1 h2
  cases c0 : nameB nm
  · go_enter Tryz.func198, Tryz.ntmps198
    go_wp2_with fail
    refine (nameI_any _ _ hz).mono ?_
    rintro e w1 ⟨rfl, hb1⟩
    rw [c0]
    have hbel1 : Hid (Below (w.heap.size + 1) (w.alloc (.cells #[.string nm, .slice o1 n1 k1, .slice o2 n2 k2] 103)) w1) := by simpa [Hid] using hb1
    have y10 := box_at _ _ hbel1.out 0 (.string nm) rfl
    have y11 := box_at _ _ hbel1.out 1 (.slice o1 n1 k1) rfl
    have y12 := box_at _ _ hbel1.out 2 (.slice o2 n2 k2) rfl
    clear hb1
    go_wp2_with fail
    go_ret
    exact ⟨(by rw [EB.out, c0]; rfl), below_end hbel1.out⟩
  · cases c1 : subB T x.2.2
    · go_enter Tryz.func198, Tryz.ntmps198
      go_wp2_with fail
      refine (nameI_any _ _ hz).mono ?_
      rintro e w1 ⟨rfl, hb1⟩
      rw [c0]
      have hbel1 : Hid (Below (w.heap.size + 1) (w.alloc (.cells #[.string nm, .slice o1 n1 k1, .slice o2 n2 k2] 103)) w1) := by simpa [Hid] using hb1
      have y10 := box_at _ _ hbel1.out 0 (.string nm) rfl
      have y11 := box_at _ _ hbel1.out 1 (.slice o1 n1 k1) rfl
      have y12 := box_at _ _ hbel1.out 2 (.slice o2 n2 k2) rfl
      clear hb1
      have B1 := below_end hbel1.out
      have K1 := HK.out.below B1 (Nat.le_refl _)
      have p10 := K1.c0
      have p11 := K1.c1
      go_wp2_with fail
      refine (isOf_any S S _ _ x.2.2 T _ (H2.out _ B1) K1.th K1.sub K1.sub).mono ?_
      rintro e w2 ⟨rfl, hb2⟩
      rw [c1]
      have hbel2 : Hid (Below (w.heap.size + 1) (w.alloc (.cells #[.string nm, .slice o1 n1 k1, .slice o2 n2 k2] 103)) w2) := below_of hbel1.out hb2
      have y20 := box_at _ _ hbel2.out 0 (.string nm) rfl
      have y21 := box_at _ _ hbel2.out 1 (.slice o1 n1 k1) rfl
      have y22 := box_at _ _ hbel2.out 2 (.slice o2 n2 k2) rfl
      clear hb2
      go_wp2_with fail
      go_ret
      exact ⟨(by rw [EB.out, c0, c1]; rfl), below_end hbel2.out⟩
    · go_enter Tryz.func198, Tryz.ntmps198
      go_wp2_with fail
      refine (nameI_any _ _ hz).mono ?_
      rintro e w1 ⟨rfl, hb1⟩
      rw [c0]
      have hbel1 : Hid (Below (w.heap.size + 1) (w.alloc (.cells #[.string nm, .slice o1 n1 k1, .slice o2 n2 k2] 103)) w1) := by simpa [Hid] using hb1
      have y10 := box_at _ _ hbel1.out 0 (.string nm) rfl
      have y11 := box_at _ _ hbel1.out 1 (.slice o1 n1 k1) rfl
      have y12 := box_at _ _ hbel1.out 2 (.slice o2 n2 k2) rfl
      clear hb1
      have B1 := below_end hbel1.out
      have K1 := HK.out.below B1 (Nat.le_refl _)
      have p10 := K1.c0
      have p11 := K1.c1
      go_wp2_with fail
      refine (isOf_any S S _ _ x.2.2 T _ (H2.out _ B1) K1.th K1.sub K1.sub).mono ?_
      rintro e w2 ⟨rfl, hb2⟩
      rw [c1]
      have hbel2 : Hid (Below (w.heap.size + 1) (w.alloc (.cells #[.string nm, .slice o1 n1 k1, .slice o2 n2 k2] 103)) w2) := below_of hbel1.out hb2
      have y20 := box_at _ _ hbel2.out 0 (.string nm) rfl
      have y21 := box_at _ _ hbel2.out 1 (.slice o1 n1 k1) rfl
      have y22 := box_at _ _ hbel2.out 2 (.slice o2 n2 k2) rfl
      clear hb2
      have B2 := below_end hbel2.out
      have K2 := HK.out.below B2 (Nat.le_refl _)
      have p20 := K2.c0
      have p21 := K2.c1
      go_wp2_with fail
      refine (isOf_any S S _ _ x.2.1 x.2.2 _ (H1.out _ B2) (H2.out _ B2) K2.sub K2.sub).mono ?_
      rintro e w3 ⟨rfl, hb3⟩
      have hbel3 : Hid (Below (w.heap.size + 1) (w.alloc (.cells #[.string nm, .slice o1 n1 k1, .slice o2 n2 k2] 103)) w3) := below_of hbel2.out hb3
      have y30 := box_at _ _ hbel3.out 0 (.string nm) rfl
      have y31 := box_at _ _ hbel3.out 1 (.slice o1 n1 k1) rfl
      have y32 := box_at _ _ hbel3.out 2 (.slice o2 n2 k2) rfl
      clear hb3
      go_wp2_with fail
      go_ret
      exact ⟨(by rw [EB.out, c0, c1]; rfl), below_end hbel3.out⟩
open Go.Sort in
theorem cmpShareBatch_q (a b : ByteArray) (a1 b1 a2 b2 : Value) (wr : World) (r : Int) (hr : cmpB a b = r) (d : Nat) (os : Array Obj) : Calls Tryz.prog 197 #[.agg #[.string a, a1, a2], .agg #[.string b, b1, b2]] (grow (redrawn wr d) os) fun e w'' => e = .returned (.int .i64 r) ∧ ∃ p : Regrown, w'' = grow (redrawn wr p.d) p.os :=
  Calls.regrown_of (by subst hr; exact cmpShareBatches_any a b a1 b1 a2 b2 _)
set_option maxRecDepth 100000 in
set_option maxHeartbeats 4000000 in
theorem ascShareBatch_any (S : Nat → Prop) (v : Value) (l : List DShareBatch) (w : World) (h : AtL S w l v) (hS : ∀ b, S b → b < w.heap.size) :
    Calls Tryz.prog 206 #[v, .func (.func 197) #[] #[]] w fun e w' => e = .returned (.bool (ascB (fun p f : DShareBatch => ltB p.1 f.1) l)) ∧ Below w.heap.size w w' := by
  obtain ⟨oa, cap, rfl, hn, hc⟩ := h
  obtain ⟨n, en⟩ : ∃ n, l.length = n := ⟨_, rfl⟩
  rw [en] at hn
  rw [en]
  unfold maxLen at hn
  have HC : Hid _ := hc
  clear hc
  go_enter Tryz.func206, Tryz.ntmps206
  go_wp2
  go_loopw [5] (fun i wr => ∃ k : Nat, i = .int .i64 ((k : Int) + 1) ∧ (k + 1 ≤ n ∨ k = 0) ∧ Hid (∀ j (hj : j < l.length), j < k + 1 → asO (fun p f : DShareBatch => ltB p.1 f.1) (prevO l j) l[j] = true) ∧ Hid (Below w.heap.size w wr)) (fun i _ => n - (intOf i).toNat)
  case atStart => exact ⟨0, rfl, Or.inr rfl, fun j hj h => as_zero j hj (by omega), Below.refl _ _⟩
  case round =>
    obtain ⟨k, rfl, hk, hall, hbel⟩ := hrel
    have hs := hbel.out.size
    by_cases hlt : k + 1 < n
    · clear hk
      obtain ⟨b, off, rfl, hbS, ce, hcelle, hate⟩ := HC.out (k + 1) (by omega)
      obtain ⟨b', off', e', hbS', ca, hcella, hata⟩ := HC.out k (by omega)
      cases e'
      have hbb := hS b hbS
      have hbw := hbel.out
      rw [width_DShareBatch] at hcella
      have a0 : wr.cell? ⟨b, off + k * 3, none⟩ = some (ca 0) := (hbw.cell (p := ⟨b, off + k * 3, none⟩) (by show b < _; omega)).trans (by have hq := hcella 0 (by omega); first | exact hq | simpa using hq)
      have a1 : wr.cell? ⟨b, off + k * 3 + 1, none⟩ = some (ca 1) := (hbw.cell (p := ⟨b, off + k * 3 + 1, none⟩) (by show b < _; omega)).trans (by have hq := hcella 1 (by omega); first | exact hq | simpa using hq)
      have a2 : wr.cell? ⟨b, off + k * 3 + 2, none⟩ = some (ca 2) := (hbw.cell (p := ⟨b, off + k * 3 + 2, none⟩) (by show b < _; omega)).trans (by have hq := hcella 2 (by omega); first | exact hq | simpa using hq)
      clear hcella
      have hata := Lay.same hata (Same.of_below hbw hS)
      rw [at_DShareBatch] at hata
      obtain ⟨af, eaf⟩ : ∃ f, l[k]'(by omega) = f := ⟨_, rfl⟩
      rw [eaf] at hata
      obtain ⟨⟨ta0, za0⟩, la1, la2⟩ := hata
      obtain ⟨soa1, sca1, ta1, _⟩ := id la1
      rw [ta1] at la1
      have Ka1 : Hid _ := la1
      clear la1
      obtain ⟨soa2, sca2, ta2, _⟩ := id la2
      rw [ta2] at la2
      have Ka2 : Hid _ := la2
      clear la2
      rw [ta0] at a0
      rw [ta1] at a1
      rw [ta2] at a2
      clear ta0 ta1 ta2
      rw [width_DShareBatch] at hcelle
      have e0 : wr.cell? ⟨b, off + (k + 1) * 3, none⟩ = some (ce 0) := (hbw.cell (p := ⟨b, off + (k + 1) * 3, none⟩) (by show b < _; omega)).trans (by have hq := hcelle 0 (by omega); first | exact hq | simpa using hq)
      have e1 : wr.cell? ⟨b, off + (k + 1) * 3 + 1, none⟩ = some (ce 1) := (hbw.cell (p := ⟨b, off + (k + 1) * 3 + 1, none⟩) (by show b < _; omega)).trans (by have hq := hcelle 1 (by omega); first | exact hq | simpa using hq)
      have e2 : wr.cell? ⟨b, off + (k + 1) * 3 + 2, none⟩ = some (ce 2) := (hbw.cell (p := ⟨b, off + (k + 1) * 3 + 2, none⟩) (by show b < _; omega)).trans (by have hq := hcelle 2 (by omega); first | exact hq | simpa using hq)
      clear hcelle
      have hate := Lay.same hate (Same.of_below hbw hS)
      rw [at_DShareBatch] at hate
      obtain ⟨ef, eef⟩ : ∃ f, l[k + 1]'(by omega) = f := ⟨_, rfl⟩
      rw [eef] at hate
      obtain ⟨⟨te0, ze0⟩, le1, le2⟩ := hate
      obtain ⟨soe1, sce1, te1, _⟩ := id le1
      rw [te1] at le1
      have Ke1 : Hid _ := le1
      clear le1
      obtain ⟨soe2, sce2, te2, _⟩ := id le2
      rw [te2] at le2
      have Ke2 : Hid _ := le2
      clear le2
      rw [te0] at e0
      rw [te1] at e1
      rw [te2] at e2
      clear te0 te1 te2
      clear hbw
      have qa0 := fun d os => cell_regrown a0 d os
      have qa1 := fun d os => cell_regrown a1 d os
      have qa2 := fun d os => cell_regrown a2 d os
      have qe0 := fun d os => cell_regrown e0 d os
      have qe1 := fun d os => cell_regrown e1 d os
      have qe2 := fun d os => cell_regrown e2 d os
      have hrl : asO (fun p f : DShareBatch => ltB p.1 f.1) (prevO l (k + 1)) (l[k + 1]'(by omega)) = ltB af.1 ef.1 := by
        rw [prev_succ l k (by omega), eaf, eef]; rfl
      have hge : decide (0 ≤ cmpB af.1 ef.1) = !ltB af.1 ef.1 := cmpB_ge _ _
      cases hlb : ltB af.1 ef.1
      · rw [hlb] at hrl
        rw [hlb, Bool.not_false] at hge
        go_wp2
        refine wp_region_quiet_below (by kernel_rfl) (by kernel_rfl) ?_
        repeat (first | go_big_quiet_step (with_reducible exact cmpShareBatch_q _ _ _ _ _ _ _ _ rfl _ _) | quiet_step (with_reducible exact cmpShareBatch_q _ _ _ _ _ _ _ _ rfl _ _))
        refine wpQuiet_nil ?_
        intro _ hw'
        obtain ⟨⟨dq, osq⟩, hw''⟩ := hw'
        subst hw''
        go_wp2
        rw [show ascB (fun p f : DShareBatch => ltB p.1 f.1) l = false from ok_no (k := k + 1) (by omega) hrl]
        go_ret
        exact ⟨rfl, hbel.out.trans ((below_regrown _ dq osq).mono hs)⟩
      · rw [hlb] at hrl
        rw [hlb, Bool.not_true] at hge
        go_wp2
        refine wp_region_quiet_below (by kernel_rfl) (by kernel_rfl) ?_
        repeat (first | go_big_quiet_step (with_reducible exact cmpShareBatch_q _ _ _ _ _ _ _ _ rfl _ _) | quiet_step (with_reducible exact cmpShareBatch_q _ _ _ _ _ _ _ _ rfl _ _))
        refine wpQuiet_nil ?_
        intro _ hw'
        obtain ⟨⟨dq, osq⟩, hw''⟩ := hw'
        subst hw''
        go_wp2
        go_roundw
        case rel => exact ⟨k + 1, by go_num, Or.inl (by omega), fun j hj hjk => by
          by_cases e : j = k + 1
          · subst e; exact hrl
          · exact hall.out j hj (by omega), hbel.out.trans ((below_regrown _ dq osq).mono hs)⟩
        case measure => simp [intOf]; omega
    · go_wp2
      rw [show ascB (fun p f : DShareBatch => ltB p.1 f.1) l = true from ok_yes (Nat.le_refl _) (fun j hj => hall.out j hj (by omega))]
      go_ret
      exact ⟨rfl, hbel.out⟩
set_option maxRecDepth 100000 in
set_option maxHeartbeats 4000000 in
theorem listShareBatch_any (S : Nat → Prop) (nb : Nat) (v0 v1 : Value) (T : List ByteArray) (v : Value) (l : List DShareBatch) (lim : Nat) (w : World) (h : AtL S w l v) (hS : ∀ b, S b → b < w.heap.size) (hK : CapZ S w nb v0 v1 T) :
    Calls Tryz.prog 196 #[v, .int .i64 lim, .func (.func 197) #[] #[], .func (.func 198) #[] #[.pointer (some ⟨nb, 0, none⟩)]] w fun e w' => e = .returned (.bool (okB lim (tst (fun f : DShareBatch => baI T f) (fun p f : DShareBatch => ltB p.1 f.1)) l)) ∧ Below w.heap.size w w' := by
  have H : Hid (AtL S w l v) := h
  obtain ⟨oa, cap, hv, hn, hc⟩ := h
  rw [hv] at H
  subst hv
  obtain ⟨n, en⟩ : ∃ n, l.length = n := ⟨_, rfl⟩
  rw [en] at hn H
  rw [en]
  unfold maxLen at hn
  have HC : Hid _ := hc
  clear hc
  have HK : Hid (CapZ S w nb v0 v1 T) := hK
  clear hK
  by_cases hl : n ≤ lim
  · have dl : decide (lim < n) = false := by simp; omega
    go_enter Tryz.func196, Tryz.ntmps196
    go_wp2
    go_loopw [17] (fun i wr => ∃ k : Nat, k ≤ n ∧ i = .int .i64 k ∧ Hid (∀ j (hj : j < l.length), j < k → (fun f : DShareBatch => baI T f) l[j] = true) ∧ Hid (Below w.heap.size w wr)) (fun i _ => n - (intOf i).toNat)
    case atStart => exact ⟨0, Nat.zero_le _, rfl, fun _ _ h => by omega, Below.refl _ _⟩
    case round =>
      obtain ⟨k, hk, rfl, hall, hbel⟩ := hrel
      have hs := hbel.out.size
      have hSr : ∀ b, S b → b < wr.heap.size := fun b hb => by have := hS b hb; omega
      by_cases hlt : k < n
      · obtain ⟨b, off, rfl, hbS, ce, hcelle, hate⟩ := HC.out k (by omega)
        have hbb := hS b hbS
        have hbw := hbel.out
        rw [width_DShareBatch] at hcelle
        have e0 : wr.cell? ⟨b, off + k * 3, none⟩ = some (ce 0) := (hbw.cell (p := ⟨b, off + k * 3, none⟩) (by show b < _; omega)).trans (by have hq := hcelle 0 (by omega); first | exact hq | simpa using hq)
        have e1 : wr.cell? ⟨b, off + k * 3 + 1, none⟩ = some (ce 1) := (hbw.cell (p := ⟨b, off + k * 3 + 1, none⟩) (by show b < _; omega)).trans (by have hq := hcelle 1 (by omega); first | exact hq | simpa using hq)
        have e2 : wr.cell? ⟨b, off + k * 3 + 2, none⟩ = some (ce 2) := (hbw.cell (p := ⟨b, off + k * 3 + 2, none⟩) (by show b < _; omega)).trans (by have hq := hcelle 2 (by omega); first | exact hq | simpa using hq)
        clear hcelle
        have hate := Lay.same hate (Same.of_below hbw hS)
        rw [at_DShareBatch] at hate
        obtain ⟨ef, eef⟩ : ∃ f, l[k]'(by omega) = f := ⟨_, rfl⟩
        rw [eef] at hate
        obtain ⟨⟨te0, ze0⟩, le1, le2⟩ := hate
        obtain ⟨soe1, sce1, te1, _⟩ := id le1
        rw [te1] at le1
        have Ke1 : Hid _ := le1
        clear le1
        obtain ⟨soe2, sce2, te2, _⟩ := id le2
        rw [te2] at le2
        have Ke2 : Hid _ := le2
        clear le2
        rw [te0] at e0
        rw [te1] at e1
        rw [te2] at e2
        clear te0 te1 te2
        clear hbw
        have hB1 : Hid (Below w.heap.size w (wr.alloc (.cells #[.string ef.1, .slice soe1 ef.2.1.length sce1, .slice soe2 ef.2.2.length sce2] 103))) := hbel.out.alloc hs _
        have KA : Hid (CapZ S (wr.alloc (.cells #[.string ef.1, .slice soe1 ef.2.1.length sce1, .slice soe2 ef.2.2.length sce2] 103)) nb v0 v1 T) := HK.out.below hB1.out (Nat.le_refl _)
        have hP : (fun f : DShareBatch => baI T f) (l[k]'(by omega)) = (baI T ef) := by rw [eef]
        cases hy : (baI T ef)
        · rw [hy] at hP
          go_wp2_with fail
          refine Calls.mono (batOk_any S ef _ rfl _ _ _ _ _ _ nb v0 v1 T _ KA.out ze0 (AtL.same Ke1.out (Same.of_below ((Below.refl _ _).alloc (Nat.le_refl _) _) hSr)) (AtL.same Ke2.out (Same.of_below ((Below.refl _ _).alloc (Nat.le_refl _) _) hSr))) ?_
          rintro e w1 ⟨rfl, hb1⟩
          rw [hy]
          go_wp2_with fail
          rw [tst_no (k := k) (by omega) hP]
          go_ret
          exact ⟨rfl, hB1.out.trans (hb1.mono hB1.out.size)⟩
        · rw [hy] at hP
          go_wp2_with fail
          refine Calls.mono (batOk_any S ef _ rfl _ _ _ _ _ _ nb v0 v1 T _ KA.out ze0 (AtL.same Ke1.out (Same.of_below ((Below.refl _ _).alloc (Nat.le_refl _) _) hSr)) (AtL.same Ke2.out (Same.of_below ((Below.refl _ _).alloc (Nat.le_refl _) _) hSr))) ?_
          rintro e w1 ⟨rfl, hb1⟩
          rw [hy]
          go_wp2_with fail
          go_roundw
          case rel => exact ⟨k + 1, by omega, by go_num, fun j hj hjk => by
            by_cases e : j = k
            · subst e; exact hP
            · exact hall.out j hj (by omega), hB1.out.trans (hb1.mono hB1.out.size)⟩
          case measure => simp [intOf]; omega
      · go_wp2_with (go_at_call 206; refine (ascShareBatch_any S _ l _ (H.out.same (Same.of_below hbel.out hS)) hSr).mono ?_; rintro e w1 ⟨rfl, hb1⟩)
        rw [tst_asc (by omega) (fun j hj => hall.out j hj (by omega))]
        go_ret
        exact ⟨rfl, hbel.out.trans (hb1.mono hs)⟩
  · have dl : decide (lim < n) = true := by simp; omega
    rw [ok_long (by omega)]
    go_enter Tryz.func196, Tryz.ntmps196
    go_wp2
    go_ret
    exact ⟨rfl, Below.refl _ _⟩
set_option maxRecDepth 100000 in
set_option maxHeartbeats 4000000 in
theorem batches_any (S : Nat → Prop) (v0 v1 : Value) (T : List ByteArray) (Bs : List DShareBatch) (w : World) (h0 : AtL S w T v0) (h1 : AtL S w Bs v1) (hS : ∀ b, S b → b < w.heap.size) :
    Calls Tryz.prog 172 #[.agg #[v0, v1]] w fun e w' => e = .returned (.bool (okB 5 (tst (fun f : DShareBatch => baI T f) (fun p f : DShareBatch => ltB p.1 f.1)) Bs)) ∧ Below w.heap.size w w' := by
  have hmf : ∀ (fn : Fn) (first cap : Array Value) (w : World), (Instr.makeFunc fn first cap).run Tryz.prog w = .ok (.func fn first cap) w := fun _ _ _ _ => rfl
  have HB : Hid (Below w.heap.size w (w.alloc (.cells #[v0, v1] 34))) := (Below.refl _ _).alloc (Nat.le_refl _) _
  have HS : ∀ b, S b → b < (w.alloc (.cells #[v0, v1] 34)).heap.size := fun b hb => Nat.lt_of_lt_of_le (hS b hb) HB.out.size
  have HK : Hid (CapZ S (w.alloc (.cells #[v0, v1] 34)) w.heap.size v0 v1 T) := ⟨by simp, box_at _ _ (Below.refl _ _) 0 v0 rfl, box_at _ _ (Below.refl _ _) 1 v1 rfl, h0.same (Same.of_below HB.out hS), HS⟩
  have H1 : Hid (AtL S (w.alloc (.cells #[v0, v1] 34)) Bs v1) := h1.same (Same.of_below HB.out hS)
  clear h0 h1
  go_enter Tryz.func172, Tryz.ntmps172
  go_wp2_with fail
  refine Calls.mono (listShareBatch_any S w.heap.size v0 v1 T v1 Bs 5 _ H1.out HS HK.out) ?_
  rintro e w1 ⟨rfl, hb1⟩
  go_wp2_with fail
  go_ret
  exact ⟨rfl, HB.out.trans (hb1.mono HB.out.size)⟩
end Go.Proofs.YtobchllaopdchacGreat

namespace Go.Proofs.YtobchllaopdchacGreat
open Go.RowKit
theorem prev_map_bat {T : List ByteArray} (o : Option DShareBatch) (x : DShareBatch) : batB T o x = tst (fun f : DShareBatch => baI T f) (fun p f : DShareBatch => ltB p.1 f.1) o x := by
  unfold batB tst baI
  simp only
  cases nameB x.1 <;> cases asO (fun a b : DShareBatch => ltB a.1 b.1) o x <;> cases subB T x.2.2 <;> cases subB x.2.2 x.2.1 <;> rfl
theorem bok_parts (T : List ByteArray) (Bs : List DShareBatch) : BokP (T, Bs) ↔ okB 8 (tst nameB ltB) T = true ∧ okB 5 (tst (fun f : DShareBatch => baI T f) (fun p f : DShareBatch => ltB p.1 f.1)) Bs = true ∧ Apart Bs := by
  constructor
  · intro h
    refine ⟨h.things, ?_, fun i hi k hk => (h.row i hi).sha k hk⟩
    rw [ok_iff]
    exact ⟨h.len, fun i hi => by have := (h.row i hi).bat; rw [prev_map_bat] at this; exact this⟩
  · rintro ⟨h1, h2, h3⟩
    rw [ok_iff] at h2
    exact ⟨h1, h2.1, fun i hi => ⟨by rw [prev_map_bat]; exact h2.2 i hi, fun k hk => h3 i hi k hk⟩⟩
theorem bat_nodup {T : List ByteArray} {Bs : List DShareBatch} (h : okB 5 (tst (fun f : DShareBatch => baI T f) (fun p f : DShareBatch => ltB p.1 f.1)) Bs = true) : ∀ x ∈ Bs, x.2.1.Nodup := fun x hx => by
  rw [ok_iff] at h
  obtain ⟨i, hi, rfl⟩ := List.getElem_of_mem hx
  have := h.2 i hi
  rw [tst, Bool.and_eq_true, baI, Bool.and_eq_true, Bool.and_eq_true] at this
  exact (sub_parts this.1.2.2).1
set_option maxRecDepth 100000 in
set_option maxHeartbeats 8000000 in
theorem bookP_any (S : Nat → Prop) (T : List ByteArray) (Bs : List DShareBatch) (o0 oa : Option Addr) (n0 k0 nb kb : Nat) (w : World) (h0 : AtL S w T (.slice o0 n0 k0)) (h1 : AtL S w Bs (.slice oa nb kb)) (hS : ∀ b, S b → b < w.heap.size) :
    Calls Tryz.prog 137 #[.agg #[.slice o0 n0 k0, .slice oa nb kb]] w fun e w' => e = .returned (.bool (bokB (T, Bs))) ∧ Below w.heap.size w w' := by
  have H0 : Hid _ := h0.ups hS
  have H1 : Hid _ := h1.ups hS
  have HS : Hid _ := lt_up hS
  clear h0 h1
  obtain ⟨W, EW, BW, RW, sW⟩ := box_new w #[.slice o0 n0 k0, .slice oa nb kb] 34
  have BOX : Hid (∀ u, Below W.heap.size W u → u.heap[w.heap.size]? = some (.cells #[.slice o0 n0 k0, .slice oa nb kb] 34 (0, 0)) ∧ Below w.heap.size w u) := fun u hu => ⟨(hu.block _ (by omega)).trans RW.out, BW.out.trans (hu.mono (by omega))⟩
  have y0 := (cell_row (BOX.out W (Below.refl _ _)).1 0 (.slice o0 n0 k0) rfl).1
  have y1 := (cell_row (BOX.out W (Below.refl _ _)).1 1 (.slice oa nb kb) rfl).1
  go_enter Tryz.func137, Tryz.ntmps137
  go_upto_region 1 with fail
  rw [← EW.out]
  go_wp2_with fail
  refine (isOkN_any S _ T 8 W (H0.out W BW.out) (HS.out W BW.out)).mono ?_; rintro e u1 ⟨rfl, hb1⟩
  have B1 : Hid (Below W.heap.size W u1) := hb1
  clear hb1 y0 y1
  cases hT : okB 8 (tst (fun f : ByteArray => nameB f) (fun p f : ByteArray => ltB p f)) T
  · go_wp2_with fail
    go_ret
    rw [bok_no (fun h => by have := ((bok_parts T Bs).1 h).1; rw [show okB 8 (tst nameB ltB) T = false from hT] at this; cases this)]
    exact ⟨rfl, (BOX.out u1 B1.out).2⟩
  have y0 := (cell_row (BOX.out u1 B1.out).1 0 (.slice o0 n0 k0) rfl).1
  have y1 := (cell_row (BOX.out u1 B1.out).1 1 (.slice oa nb kb) rfl).1
  go_wp2_with fail
  refine (batches_any S _ _ T Bs u1 (H0.out u1 (BOX.out u1 B1.out).2) (H1.out u1 (BOX.out u1 B1.out).2) (HS.out u1 (BOX.out u1 B1.out).2)).mono ?_; rintro e u2 ⟨rfl, hb2⟩
  have B2 : Hid (Below W.heap.size W u2) := B1.out.trans (hb2.mono B1.out.size)
  clear hb2 y0 y1
  cases hB : okB 5 (tst (fun f : DShareBatch => baI T f) (fun p f : DShareBatch => ltB p.1 f.1)) Bs
  · go_wp2_with fail
    go_ret
    rw [bok_no (fun h => by have := ((bok_parts T Bs).1 h).2.1; rw [hB] at this; cases this)]
    exact ⟨rfl, (BOX.out u2 B2.out).2⟩
  have y0 := (cell_row (BOX.out u2 B2.out).1 0 (.slice o0 n0 k0) rfl).1
  have y1 := (cell_row (BOX.out u2 B2.out).1 1 (.slice oa nb kb) rfl).1
  go_wp2_with fail
  refine (who_any S Bs _ _ u2 (H1.out u2 (BOX.out u2 B2.out).2) (HS.out u2 (BOX.out u2 B2.out).2) (bat_nodup hB)).mono ?_; rintro e u3 ⟨hw3, hb3⟩
  have B3 : Hid (Below W.heap.size W u3) := B2.out.trans (hb3.mono B2.out.size)
  clear hb3 y0 y1
  rcases hw3 with ⟨rfl, hA⟩ | ⟨m, M, rfl, _, hM⟩
  · have EB : Hid (bokB (T, Bs) = false) := bok_no (fun h => hA ((bok_parts T Bs).1 h).2.2)
    clear hA
    go_wp2_with fail
    go_ret
    rw [EB.out]
    exact ⟨rfl, (BOX.out u3 B3.out).2⟩
  · have EB : Hid (bokB (T, Bs) = true) := bok_yes ((bok_parts T Bs).2 ⟨hT, hB, hM.apart⟩)
    clear hM
    go_wp2_with fail
    go_ret
    rw [EB.out]
    exact ⟨rfl, (BOX.out u3 B3.out).2⟩
end Go.Proofs.YtobchllaopdchacGreat

namespace Go.Proofs.YtobchllaopdchacGreat
open Go.RowKit
def msk : List ByteArray → (ByteArray → Bool) → Nat
  | [], _ => 0
  | y :: T, P => (if P y then 1 else 0) + 2 * msk T P
theorem msk_lt : ∀ (T : List ByteArray) (P : ByteArray → Bool), msk T P < 2 ^ T.length
  | [], _ => by simp [msk]
  | y :: T, P => by
    have := msk_lt T P
    rw [msk, List.length_cons, Nat.pow_succ]
    split <;> omega
theorem msk_congr : ∀ {T : List ByteArray} {P Q : ByteArray → Bool}, (∀ y ∈ T, P y = Q y) → msk T P = msk T Q
  | [], _, _, _ => rfl
  | y :: T, P, Q, h => by
    rw [msk, msk, h y (by simp), msk_congr (fun z hz => h z (by simp [hz]))]
theorem msk_or : ∀ {T : List ByteArray} {P Q : ByteArray → Bool}, (∀ y ∈ T, ¬ (P y = true ∧ Q y = true)) → msk T P + msk T Q = msk T (fun y => P y || Q y)
  | [], _, _, _ => rfl
  | y :: T, P, Q, h => by
    have ih := msk_or (T := T) (P := P) (Q := Q) (fun z hz => h z (by simp [hz]))
    have h0 := h y (by simp)
    rw [msk, msk, msk, ← ih]
    cases hp : P y <;> cases hq : Q y
    · simp; omega
    · simp; omega
    · simp; omega
    · exact absurd ⟨hp, hq⟩ h0
theorem msk_none {T : List ByteArray} {P : ByteArray → Bool} (h : ∀ y ∈ T, P y = false) : msk T P = 0 := by
  induction T with
  | nil => rfl
  | cons y T ih => rw [msk, h y (by simp), ih (fun z hz => h z (by simp [hz]))]; rfl
theorem msk_bit : ∀ {T : List ByteArray} (_ : T.Nodup) {t : Nat} (ht : t < T.length), msk T (fun y => eqB T[t] y) = 2 ^ t
  | [], _, t, ht => absurd ht (Nat.not_lt_zero _)
  | y :: T, nd, 0, _ => by
    obtain ⟨h1, _⟩ := List.nodup_cons.1 nd
    rw [msk, msk_none (fun z hz => ?_)]
    · simp [eqB_refl]
    · cases e : eqB (y :: T)[0] z
      · rfl
      · rw [eqB_iff] at e; exact absurd (show y ∈ T from (show y = z from e) ▸ hz) h1
  | y :: T, nd, t + 1, ht => by
    obtain ⟨h1, h2⟩ := List.nodup_cons.1 nd
    have ht' : t < T.length := by simpa using ht
    have ih := msk_bit h2 ht'
    have e0 : eqB (y :: T)[t + 1] y = false := by
      cases e : eqB (y :: T)[t + 1] y
      · rfl
      · rw [eqB_iff] at e; exact absurd (show y ∈ T from (show T[t] = y from e) ▸ List.getElem_mem ht') h1
    rw [msk, e0]
    have : msk T (fun y_1 => eqB (y :: T)[t + 1] y_1) = 2 ^ t := ih
    rw [this, Nat.pow_succ]
    simp; omega
theorem msk_test : ∀ (T : List ByteArray) (P : ByteArray → Bool) (i : Nat), (msk T P).testBit i = ((T[i]?).map P).getD false
  | [], P, i => by simp [msk]
  | y :: T, P, 0 => by
    rw [msk, Nat.testBit_zero]
    cases hp : P y <;> simp [hp]
  | y :: T, P, i + 1 => by
    rw [msk, Nat.testBit_succ]
    have : ((if P y = true then 1 else 0) + 2 * msk T P) / 2 = msk T P := by split <;> omega
    rw [this, msk_test T P i]
    simp
theorem msk_clear {T : List ByteArray} (hT : T.length ≤ 8) (P Q : ByteArray → Bool) : (msk T P &&& (4294967295 - msk T Q) = 0) ↔ ∀ y ∈ T, P y = true → Q y = true := by
  have hq : msk T Q < 2 ^ 32 := Nat.lt_of_lt_of_le (msk_lt T Q) (Nat.pow_le_pow_right (by omega) (by omega))
  have e : 4294967295 - msk T Q = 2 ^ 32 - (msk T Q + 1) := by omega
  rw [e]
  constructor
  · intro h y hy hP
    obtain ⟨i, hi, rfl⟩ := List.getElem_of_mem hy
    have := congrArg (fun n => n.testBit i) h
    simp only [Nat.testBit_and, Nat.testBit_two_pow_sub_succ hq, msk_test, Nat.zero_testBit, List.getElem?_eq_getElem hi, Option.map_some, Option.getD_some, hP, Bool.true_and] at this
    have hi8 : i < 32 := by omega
    simpa [hi8] using this
  · intro h
    apply Nat.eq_of_testBit_eq
    intro i
    rw [Nat.testBit_and, Nat.testBit_two_pow_sub_succ hq, msk_test, msk_test, Nat.zero_testBit]
    by_cases hi : i < T.length
    · rw [List.getElem?_eq_getElem hi]
      simp only [Option.map_some, Option.getD_some]
      cases hP : P T[i]
      · rfl
      · rw [h _ (List.getElem_mem hi) hP]; simp
    · rw [List.getElem?_eq_none (by omega)]; rfl
def hasM (T l : List ByteArray) : Nat := msk T (fun y => hasB l y)
theorem hasM_lt {T : List ByteArray} (hT : T.length ≤ 8) (l : List ByteArray) : hasM T l < 256 :=
  Nat.lt_of_lt_of_le (msk_lt T _) (show 2 ^ T.length ≤ 2 ^ 8 from Nat.pow_le_pow_right (by omega) hT)
theorem hasM_nil (T : List ByteArray) : hasM T [] = 0 := msk_none (fun _ _ => rfl)
theorem hasB_snoc (l : List ByteArray) (x y : ByteArray) : hasB (l ++ [x]) y = (hasB l y || eqB x y) := by
  simp [hasB, List.any_append]
theorem hasM_snoc {T l : List ByteArray} (nd : T.Nodup) {t : Nat} (ht : t < T.length) (hn : T[t] ∉ l) : hasM T (l ++ [T[t]]) = hasM T l + 2 ^ t := by
  rw [← msk_bit nd ht, hasM, hasM, msk_or]
  · exact msk_congr (fun y _ => hasB_snoc l _ y)
  · rintro y _ ⟨h1, h2⟩
    rw [eqB_iff] at h2
    exact hn (h2 ▸ (hasB_iff l y).1 h1)
def freP (Bs : List DShareBatch) (gone : List ByteArray) (y : ByteArray) : Bool := Bs.all fun f => hasB gone f.1 || !(hasB f.2.1 y)
theorem fre_iff {Bs : List DShareBatch} {gone : List ByteArray} {y : ByteArray} : freP Bs gone y = true ↔ ∀ i (hi : i < Bs.length), hasB gone Bs[i].1 = false → y ∉ Bs[i].2.1 := by
  unfold freP
  rw [List.all_eq_true]
  constructor
  · intro h i hi hg hy
    have := h _ (List.getElem_mem hi)
    rw [hg, (hasB_iff _ _).2 hy] at this
    cases this
  · intro h f hf
    obtain ⟨i, hi, rfl⟩ := List.getElem_of_mem hf
    cases hg : hasB gone Bs[i].1
    · have := h i hi hg
      cases e : hasB Bs[i].2.1 y
      · rfl
      · exact absurd ((hasB_iff _ _).1 e) this
    · rfl
def freM (T : List ByteArray) (Bs : List DShareBatch) (gone : List ByteArray) : Nat := msk T (freP Bs gone)
theorem freM_lt {T : List ByteArray} (hT : T.length ≤ 8) (Bs : List DShareBatch) (gone : List ByteArray) : freM T Bs gone < 256 :=
  Nat.lt_of_lt_of_le (msk_lt T _) (show 2 ^ T.length ≤ 2 ^ 8 from Nat.pow_le_pow_right (by omega) hT)
def lvL (T : List ByteArray) (Bs : List DShareBatch) (gone : List ByteArray) : List (Nat × Nat × Bool) := Bs.map fun f => (hasM T f.2.1, hasM T f.2.2, hasB gone f.1)
theorem lv_len (T : List ByteArray) (Bs : List DShareBatch) (gone : List ByteArray) : (lvL T Bs gone).length = Bs.length := by simp [lvL]
theorem lv_at (T : List ByteArray) {Bs : List DShareBatch} (gone : List ByteArray) {i : Nat} (hi : i < Bs.length) : (lvL T Bs gone)[i]'(by simp [lvL]; exact hi) = (hasM T Bs[i].2.1, hasM T Bs[i].2.2, hasB gone Bs[i].1) := by simp [lvL]
section
variable {T : List ByteArray} {Bs : List DShareBatch}
theorem bok_things (h : BokP (T, Bs)) : T.length ≤ 8 ∧ T.Nodup := by
  have h1 := h.things
  rw [ok_iff] at h1
  exact ⟨h1.1, asc_nodup fun i hi => by have := h1.2 i hi; rw [tst, Bool.and_eq_true] at this; exact this.2⟩
theorem bok_lists (h : BokP (T, Bs)) (i : Nat) (hi : i < Bs.length) : (Bs[i].2.1.Nodup ∧ ∀ x ∈ Bs[i].2.1, x ∈ T) ∧ (Bs[i].2.2.Nodup ∧ ∀ x ∈ Bs[i].2.2, x ∈ T) := by
  have := (h.row i hi).bat
  unfold batB at this
  simp only [Bool.and_eq_true] at this
  obtain ⟨n1, s1⟩ := sub_parts this.1.2
  obtain ⟨n2, s2⟩ := sub_parts this.2
  exact ⟨⟨n2, fun x hx => s1 x (s2 x hx)⟩, n1, s1⟩
theorem bok_names (h : BokP (T, Bs)) {i j : Nat} (hi : i < Bs.length) (hj : j < Bs.length) (e : Bs[i].1 = Bs[j].1) : i = j := by
  have asx : ∀ k (hk : k < Bs.length), asO (fun a b : DShareBatch => ltB a.1 b.1) (prevO Bs k) Bs[k] = true := fun k hk => by
    have := (h.row k hk).bat
    unfold batB at this
    simp only [Bool.and_eq_true] at this
    exact this.1.1.2
  have far := asc_far (R := fun a b : DShareBatch => ltB a.1 b.1) (fun h1 h2 => ltB_trans h1 h2) asx
  rcases Nat.lt_trichotomy i j with c | c | c
  · have := far j i hj c; rw [e, ltB_irrefl] at this; cases this
  · exact c
  · have := far i j hi c; rw [e, ltB_irrefl] at this; cases this
theorem bok_apart (h : BokP (T, Bs)) {i j : Nat} (hi : i < Bs.length) (hj : j < Bs.length) {y : ByteArray} (h1 : y ∈ Bs[i].2.1) (h2 : y ∈ Bs[j].2.1) : i = j := by
  rcases Nat.lt_trichotomy i j with c | c | c
  · have := (h.row j hj).sha i c; rw [(share_iff _ _).2 ⟨y, h2, h1⟩] at this; cases this
  · exact c
  · have := (h.row i hi).sha j c; rw [(share_iff _ _).2 ⟨y, h1, h2⟩] at this; cases this
theorem can_same (h : BokP (T, Bs)) {gone : List ByteArray} {a : Nat} (ha : a < Bs.length) (hg : hasB gone Bs[a].1 = false) : (hasM T Bs[a].2.2 &&& (4294967295 - (freM T Bs gone + hasM T Bs[a].2.1)) = 0) ↔ canB Bs a gone = true := by
  have hT := (bok_things h).1
  have dis : ∀ y ∈ T, ¬ (freP Bs gone y = true ∧ hasB Bs[a].2.1 y = true) := fun y _ ⟨h1, h2⟩ => fre_iff.1 h1 a ha hg ((hasB_iff _ _).1 h2)
  unfold freM hasM
  rw [msk_or dis, msk_clear hT]
  constructor
  · intro hall
    refine can_yes fun i hi => ?_
    unfold inWay
    rw [btN_at hi, btN_at ha]
    by_cases e : i = a
    · simp [e]
    · cases hgi : hasB gone Bs[i].1
      · cases es : shareB Bs[i].2.1 Bs[a].2.2
        · simp
        · obtain ⟨y, y1, y2⟩ := (share_iff _ _).1 es
          have := hall y ((bok_lists h a ha).2.2 y y2) ((hasB_iff _ _).2 y2)
          rw [Bool.or_eq_true] at this
          rcases this with hf | hf
          · exact absurd y1 (fre_iff.1 hf i hi hgi)
          · exact absurd (bok_apart h hi ha y1 ((hasB_iff _ _).1 hf)) e
      · simp
  · intro hc y _ hy
    rw [Bool.or_eq_true]
    by_cases hm : y ∈ Bs[a].2.1
    · exact .inr ((hasB_iff _ _).2 hm)
    · refine .inl (fre_iff.2 fun i hi hgi hyi => ?_)
      have hia : i ≠ a := fun e => hm (by subst e; exact hyi)
      have : inWay Bs a gone i = true := by
        unfold inWay
        rw [btN_at hi, btN_at ha, hgi, (share_iff _ _).2 ⟨y, hyi, (hasB_iff _ _).1 hy⟩]
        simp [hia]
      rw [can_no hi this] at hc
      cases hc
theorem go_free (h : BokP (T, Bs)) {gone : List ByteArray} {a : Nat} (ha : a < Bs.length) (hg : hasB gone Bs[a].1 = false) : freM T Bs gone + hasM T Bs[a].2.1 = freM T Bs (gone ++ [Bs[a].1]) := by
  have dis : ∀ y ∈ T, ¬ (freP Bs gone y = true ∧ hasB Bs[a].2.1 y = true) := fun y _ ⟨h1, h2⟩ => fre_iff.1 h1 a ha hg ((hasB_iff _ _).1 h2)
  unfold freM hasM
  rw [msk_or dis]
  refine msk_congr fun y _ => ?_
  rw [Bool.eq_iff_iff, Bool.or_eq_true, fre_iff, fre_iff, hasB_iff]
  constructor
  · rintro (h1 | h1) i hi hgi hy
    · rw [hasB_snoc, Bool.or_eq_false_iff] at hgi
      exact h1 i hi hgi.1 hy
    · have := bok_apart h hi ha hy h1
      subst this
      rw [hasB_snoc, eqB_refl, Bool.or_true] at hgi
      cases hgi
  · intro h1
    by_cases hm : y ∈ Bs[a].2.1
    · exact .inr hm
    · refine .inl fun i hi hgi hy => h1 i hi ?_ hy
      rw [hasB_snoc, hgi, Bool.false_or]
      cases e : eqB Bs[a].1 Bs[i].1
      · rfl
      · rw [eqB_iff] at e
        have := bok_names h ha hi e
        subst this
        exact absurd hy hm
theorem go_list (h : BokP (T, Bs)) {gone : List ByteArray} {a : Nat} (ha : a < Bs.length) : (lvL T Bs gone).set a (hasM T Bs[a].2.1, hasM T Bs[a].2.2, true) = lvL T Bs (gone ++ [Bs[a].1]) := by
  apply List.ext_getElem
  · simp [lvL]
  · intro i h1 h2
    have hi : i < Bs.length := by simpa [lvL] using h2
    rw [List.getElem_set]
    by_cases e : a = i
    · subst e
      rw [if_pos rfl, lv_at T _ hi, hasB_snoc, eqB_refl, Bool.or_true]
    · rw [if_neg e, lv_at T _ hi, lv_at T _ hi, hasB_snoc]
      have : eqB Bs[a].1 Bs[i].1 = false := by
        cases c : eqB Bs[a].1 Bs[i].1
        · rfl
        · rw [eqB_iff] at c; exact absurd (bok_names h ha hi c) e
      rw [this, Bool.or_false]
theorem free_next (h : BokP (T, Bs)) {k : Nat} (hk : k < Bs.length) : freM T (Bs.take (k + 1)) [] + hasM T Bs[k].2.1 = freM T (Bs.take k) [] := by
  have e0 : ∀ y, freP (Bs.take (k + 1)) [] y = (freP (Bs.take k) [] y && !(hasB Bs[k].2.1 y)) := fun y => by
    unfold freP
    rw [List.take_succ_eq_append_getElem hk, List.all_append]
    simp [hasB]
  have dis : ∀ y ∈ T, ¬ (freP (Bs.take (k + 1)) [] y = true ∧ hasB Bs[k].2.1 y = true) := fun y _ ⟨h1, h2⟩ => by
    rw [e0, h2] at h1; simp at h1
  unfold freM hasM
  rw [msk_or dis]
  refine msk_congr fun y _ => ?_
  rw [e0]
  cases hy : hasB Bs[k].2.1 y
  · simp
  · rw [Bool.or_true]
    refine (fre_iff.2 fun i hi _ hyi => ?_).symm
    rw [List.length_take] at hi
    rw [List.getElem_take] at hyi
    have := bok_apart h (by omega) hk hyi ((hasB_iff _ _).1 hy)
    omega
theorem free_none : freM T (Bs.take 0) [] = hasM T T := by
  unfold freM hasM
  refine msk_congr fun y hy => ?_
  rw [(hasB_iff _ _).2 hy]
  rfl
theorem lv_snoc (k : Nat) (hk : k < Bs.length) : lvL T (Bs.take (k + 1)) [] = lvL T (Bs.take k) [] ++ [(hasM T Bs[k].2.1, hasM T Bs[k].2.2, false)] := by
  unfold lvL
  rw [List.take_succ_eq_append_getElem hk, List.map_append]
  simp [hasB]
end
end Go.Proofs.YtobchllaopdchacGreat
