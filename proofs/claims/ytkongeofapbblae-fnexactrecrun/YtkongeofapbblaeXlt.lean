/-
  The law FnExactRecRun, walked: whatever the recipe and the sayings, the call returns true, and nothing that was there before has turned.
-/
import Derived.Test.YtkongeofapbblaeXpu
import Derived.Test.YtkongeofapbblaeXh
import Derived.Test.YtkongeofapbblaeM39
import Derived.Test.YtkongeofapbblaeM41
import Derived.Test.YtkongeofapbblaeXrm
import Derived.Test.YtkongeofapbblaeXrh
import Derived.Test.YtkongeofapbblaeXrk
import Derived.Test.YtkongeofapbblaeM47
import Derived.Test.YtkongeofapbblaeM48
namespace Go.Proofs.Ytkongeofapbblae
open Go.RowKit

theorem cntG_le {α : Type} [Own α] (K : Nat) : ∀ l : List α, (∀ x ∈ l, Own.cnt x ≤ K) → cntL l ≤ K * l.length
  | [], _ => by simp [cntL, cntTo]
  | x :: l, h => by
    have h1 := h x List.mem_cons_self
    have h2 := cntG_le K l (fun y hy => h y (List.mem_cons_of_mem _ hy))
    have e1 : cntL (x :: l) = Own.cnt x + cntL l := by simp [cntL, cntTo]
    rw [e1, List.length_cons, Nat.mul_add]
    omega
theorem runP_ok (r : List DRecPhase) (L : List DRecSay) : (∀ y ∈ (runS r L).2, y.size ≤ maxLen) ∧ (runS r L).2.length ≤ 12 := by
  by_cases hr : recB r = true
  · obtain ⟨m, hm⟩ := runG_all (rec_iff.1 hr) L
    rw [hm.run]
    refine ⟨fun y hy => ?_, by show (paG r L m).length ≤ 12; rw [paG_len]; exact hm.le⟩
    simp only [paG, List.mem_map, List.mem_range] at hy
    obtain ⟨i, hi, rfl⟩ := hy
    have := (hm.st i (by omega)).sz
    unfold maxLen; omega
  · unfold runS
    rw [if_neg hr]
    exact ⟨fun y hy => by simp at hy, by simp⟩

set_option maxRecDepth 100000 in
set_option maxHeartbeats 16000000 in
theorem lawt_any (S S2 : Nat → Prop) (r : List DRecPhase) (L : List DRecSay) (v : Value) (oL : Option Addr) (nL cL : Nat) (w : World) (h : AtL S w r v) (hL : AtL S2 w L (.slice oL nL cL)) (hS : ∀ b, S b → b < w.heap.size) (hS2 : ∀ b, S2 b → b < w.heap.size) :
    Calls Try.prog 3 #[v, .slice oL nL cL] w fun e w' => e = .returned (.bool true) ∧ Below w.heap.size w w' := by
  have H : Hid (∀ w', Below w.heap.size w w' → AtL S w' r v ∧ ∀ b, S b → b < w'.heap.size) := fun w' hb => ⟨h.same (Same.of_below hb hS), fun b hb' => Nat.lt_of_lt_of_le (hS b hb') hb.size⟩
  have HL : Hid (∀ w', Below w.heap.size w w' → AtL S2 w' L (.slice oL nL cL) ∧ ∀ b, S2 b → b < w'.heap.size) := fun w' hb => ⟨hL.same (Same.of_below hb hS2), fun b hb' => Nat.lt_of_lt_of_le (hS2 b hb') hb.size⟩
  obtain ⟨oa, cap, ev, hfit, _⟩ := id hL
  have enl : L.length = nL := by cases ev; rfl
  have hnm : nL ≤ maxLen := by rw [← enl]; exact hfit.1
  have ENL : Hid (L.length ≤ nL ∧ nL ≤ L.length) := ⟨by omega, by omega⟩
  clear h hL hS hS2 ev hfit enl
  obtain ⟨hP1, hP2⟩ := runP_ok r L
  have MM : Hid (∀ (S S2 : Nat → Prop) (v vs : Value) (w : World), AtL S w r v → AtL S2 w L vs → (∀ b, S b → b < w.heap.size) → (∀ b, S2 b → b < w.heap.size) → Calls Try.prog 6 #[v, vs] w fun e w' => ∃ q, e = .returned (.tuple #[.agg #[.string (runS r L).1.1, .int .i64 (runS r L).1.2.1, .int .i64 (runS r L).1.2.2], q]) ∧ w'.ownsRow w.heap.size 9 1 q (runS r L).2.length ((runS r L).2.map .string) ∧ Below w.heap.size w w') := fun S S2 v vs w h1 h2 h3 h4 => runX_any S S2 r L v vs w h1 h2 h3 h4
  have PP : Hid (∀ (S S2 : Nat → Prop) (v vs : Value) (w : World), AtL S w r v → AtL S2 w L vs → (∀ b, S b → b < w.heap.size) → (∀ b, S2 b → b < w.heap.size) → totL r ≤ 1048576 → L.length ≤ 1048576 → Calls Try.prog 9 #[v, vs] w fun e w' => ∃ q, e = .returned (.tuple #[.agg #[.string (runS r L).1.1, .int .i64 (runS r L).1.2.1, .int .i64 (runS r L).1.2.2], q]) ∧ OnL (fun b => w.heap.size ≤ b ∧ b < w'.heap.size) w' (runS r L).2 q ∧ Below w.heap.size w w') := fun S S2 v vs w h1 h2 h3 h4 h5 h6 => runI_any S S2 r L v vs w h1 h2 h3 h4 h5 h6
  generalize runS r L = RR at MM PP hP1 hP2
  obtain ⟨⟨xs, ns, ls⟩, P⟩ := RR
  simp only at MM PP hP1 hP2
  have HP1 : Hid (∀ y ∈ P, y.size ≤ maxLen) := hP1
  have HCP : Hid (cntL P ≤ 12) := by have := cntG_le 1 P (fun y _ => Nat.le_refl 1); show _ ≤ _; omega
  have HP2 : Hid (P.length ≤ 12) := hP2
  clear hP1 hP2
  have B : Hid (Below w.heap.size w w) := Below.refl _ _
  go_enter Try.func3, Try.ntmps3
  go_wp2_with fail
  refine (szRecPhaseS_any S r v 1048576 w (H.out _ B.out).1 (H.out _ B.out).2 (by omega) (by omega)).mono ?_; rintro e w1 ⟨y, rfl, hy, hb⟩
  have B : Hid (Below w.heap.size w w1) := B.out.trans (hb.mono B.out.size)
  have z_w1 : w.heap.size ≤ w1.heap.size := hb.size
  have HY : Hid _ := hy
  clear hy hb
  by_cases hneg : y < 0
  · go_wp2_with fail
    go_ret
    exact ⟨rfl, B.out⟩
  have HM : Hid (totL r ≤ 1048576) := by have := HY.out; show _ ≤ _; omega
  have HCR : Hid (cntL r ≤ 8388608) := by
    have h1 := cntG_le 8 r (fun y _ => by rw [cnt_DRecPhase]; omega)
    have h2 := totL_len r
    have h3 := HM.out
    show _ ≤ _; omega
  have hy1 : y ≤ 1048576 := by have := HY.out; omega
  clear HY
  go_wp2_with fail
  refine (szSays_any oL nL cL y w1 hnm (by omega) hy1).mono ?_; rintro e w2 ⟨y2, rfl, hy2, hb⟩
  have B : Hid (Below w.heap.size w w2) := B.out.trans (hb.mono B.out.size)
  have z_w2 : w1.heap.size ≤ w2.heap.size := hb.size
  have HY : Hid _ := hy2
  clear hy2 hb
  by_cases hneg2 : y2 < 0
  · go_wp2_with fail
    go_ret
    exact ⟨rfl, B.out⟩
  have HLn : Hid (L.length ≤ 1048576 ∧ totL L ≤ 1048576) := by
    have h1 := HY.out
    have h2 := ENL.out
    have h3 : totL L = L.length := by
      have : ∀ l : List DRecSay, (l.map Lay.tot).sum = 0 := fun l => by induction l with | nil => rfl | cons a l ih => rw [List.map_cons, List.sum_cons, ih, tot_DRecSay]
      unfold totL sumTo
      rw [this]; omega
    show _ ∧ _
    rw [h3]
    omega
  clear HY hy1
  have TO : Hid (∀ u, Below w.heap.size w u → Calls Try.prog 7 #[v] u fun e w' => ∃ q, e = .returned q ∧ OnL (fun b => u.heap.size ≤ b ∧ b < w'.heap.size) w' r q ∧ Below u.heap.size u w') := fun u hu => toRecPhaseS_own S r v u (H.out u hu).1 (H.out u hu).2 HM.out
  have TS : Hid (∀ u, Below w.heap.size w u → Calls Try.prog 8 #[.slice oL nL cL] u fun e w' => ∃ c, e = .returned (.slice (some ⟨u.heap.size, 0, none⟩) nL nL) ∧ (w'.heap[u.heap.size]? = some (.cells c 50 (0, 0)) ∧ c.size = nL * 2) ∧ AtL (fun b => u.heap.size ≤ b ∧ b < w'.heap.size) w' L (.slice (some ⟨u.heap.size, 0, none⟩) nL nL) ∧ Below u.heap.size u w') := fun u hu => by
    have hh := toSays_row S2 L _ u (HL.out u hu).1 (HL.out u hu).2 HLn.out.2
    have e : L.length = nL := by have := ENL.out; omega
    rw [e] at hh
    exact hh
  go_wp2_with fail
  refine (TO.out w2 B.out).mono ?_; rintro e w3 ⟨r1, rfl, a, hb⟩
  have B : Hid (Below w.heap.size w w3) := B.out.trans (hb.mono B.out.size)
  have z_w3 : w2.heap.size ≤ w3.heap.size := hb.size
  have H_r1 : Hid (OnL (fun b => w2.heap.size ≤ b ∧ b < w3.heap.size) w3 r r1) := a
  clear a hb hneg hneg2
  go_wp2_with fail
  refine (TS.out w3 B.out).mono ?_; rintro e w4 ⟨c, rfl, _, a, hb⟩
  have H_r1 : Hid (OnL (fun b => w2.heap.size ≤ b ∧ b < w3.heap.size) w4 r r1) := H_r1.out.same (fun b hq => hb.block b (by omega))
  have B : Hid (Below w.heap.size w w4) := B.out.trans (hb.mono B.out.size)
  have z_w4 : w3.heap.size ≤ w4.heap.size := hb.size
  obtain ⟨s1, hs1⟩ : ∃ s : Value, s = .slice (some ⟨w3.heap.size, 0, none⟩) nL nL := ⟨_, rfl⟩
  rw [← hs1] at a ⊢
  have H_s1 : Hid (AtL (fun b => w3.heap.size ≤ b ∧ b < w4.heap.size) w4 L s1) := a
  have HS1 : Hid _ := hs1
  clear a hb hs1
  go_wp2_with fail
  refine (MM.out _ _ r1 s1 w4 H_r1.out.at_ H_s1.out (fun b hb => by omega) (fun b hb => by omega)).mono ?_; rintro e w5 ⟨u0, rfl, o5, hb⟩
  have B : Hid (Below w.heap.size w w5) := B.out.trans (hb.mono B.out.size)
  have z_w5 : w4.heap.size ≤ w5.heap.size := hb.size
  have H_u0 : Hid (AtL (fun b => w4.heap.size ≤ b ∧ b < w5.heap.size) w5 P u0) := at_rowX o5 HP1.out (by have := HP2.out; omega)
  clear o5 hb H_r1 H_s1 MM HS1
  have hv : Below w5.heap.size w5 (w5.alloc (.cells #[.string xs, .int .i64 ns, .int .i64 ls] 27)) := (Below.refl _ _).alloc (Nat.le_refl _) _
  have hz : w5.heap.size + 1 ≤ (w5.alloc (.cells #[.string xs, .int .i64 ns, .int .i64 ls] 27)).heap.size ∧ (w5.alloc (.cells #[.string xs, .int .i64 ns, .int .i64 ls] 27)).heap.size ≤ w5.heap.size + 1 := by simp
  have H_b6 : Hid ((w5.alloc (.cells #[.string xs, .int .i64 ns, .int .i64 ls] 27)).heap[w5.heap.size]? = some (.cells #[.string xs, .int .i64 ns, .int .i64 ls] 27 (0, 0))) := heap_alloc_new w5 _
  have HV : Hid _ := hv
  have HZ_b6 : Hid _ := hz
  clear hv hz
  go_wp2_with fail
  generalize w5.alloc (.cells #[.string xs, .int .i64 ns, .int .i64 ls] 27) = v5 at HV H_b6 HZ_b6 ⊢
  have hv := HV.out
  obtain ⟨hz1_b6, hz2_b6⟩ := HZ_b6.out
  have H_u0 : Hid (AtL (fun b => w4.heap.size ≤ b ∧ b < w5.heap.size) v5 P u0) := H_u0.out.same (Same.of_below hv (fun b hq => by omega))
  have B : Hid (Below w.heap.size w v5) := B.out.trans (hv.mono B.out.size)
  have z_v5 : w5.heap.size ≤ v5.heap.size := hv.size
  clear hv HV HZ_b6
  go_wp2_with fail
  refine (TO.out v5 B.out).mono ?_; rintro e w6 ⟨x0, rfl, a, hb⟩
  have H_u0 : Hid (AtL (fun b => w4.heap.size ≤ b ∧ b < w5.heap.size) w6 P u0) := H_u0.out.same (Same.of_below hb (fun b hq => by omega))
  have H_b6 : Hid (w6.heap[w5.heap.size]? = some (.cells #[.string xs, .int .i64 ns, .int .i64 ls] 27 (0, 0))) := (hb.block _ (by omega)).trans H_b6.out
  have B : Hid (Below w.heap.size w w6) := B.out.trans (hb.mono B.out.size)
  have z_w6 : v5.heap.size ≤ w6.heap.size := hb.size
  have H_x0 : Hid (OnL (fun b => v5.heap.size ≤ b ∧ b < w6.heap.size) w6 r x0) := a
  clear a hb
  go_wp2_with fail
  refine (TS.out w6 B.out).mono ?_; rintro e w7 ⟨c1, rfl, hrow, a, hb⟩
  have H_u0 : Hid (AtL (fun b => w4.heap.size ≤ b ∧ b < w5.heap.size) w7 P u0) := H_u0.out.same (Same.of_below hb (fun b hq => by omega))
  have H_b6 : Hid (w7.heap[w5.heap.size]? = some (.cells #[.string xs, .int .i64 ns, .int .i64 ls] 27 (0, 0))) := (hb.block _ (by omega)).trans H_b6.out
  have H_x0 : Hid (OnL (fun b => v5.heap.size ≤ b ∧ b < w6.heap.size) w7 r x0) := H_x0.out.same (fun b hq => hb.block b (by omega))
  have B : Hid (Below w.heap.size w w7) := B.out.trans (hb.mono B.out.size)
  have z_w7 : w6.heap.size ≤ w7.heap.size := hb.size
  obtain ⟨x1, hx1⟩ : ∃ s : Value, s = .slice (some ⟨w6.heap.size, 0, none⟩) nL nL := ⟨_, rfl⟩
  rw [← hx1] at a ⊢
  have HX1 : Hid (x1 = .slice (some ⟨w6.heap.size, 0, none⟩) nL nL) := hx1
  have H_x1 : Hid (AtL (fun b => w6.heap.size ≤ b ∧ b < w7.heap.size) w7 L x1) := a
  have H_k1 : Hid (w7.heap[w6.heap.size]? = some (.cells c1 50 (0, 0))) := hrow.1
  have hc1 : c1.size = nL * 2 := hrow.2
  have lk1 : w6.heap.size < w7.heap.size := (Array.getElem?_eq_some_iff.1 H_k1.out).1
  clear a hb hx1 hrow
  go_wp2_with fail
  refine (PP.out _ _ x0 x1 w7 H_x0.out.at_ H_x1.out (fun b hb => by omega) (fun b hb => by omega) HM.out HLn.out.1).mono ?_; rintro e w8 ⟨g1, rfl, a, hb⟩
  have H_u0 : Hid (AtL (fun b => w4.heap.size ≤ b ∧ b < w5.heap.size) w8 P u0) := H_u0.out.same (Same.of_below hb (fun b hq => by omega))
  have H_b6 : Hid (w8.heap[w5.heap.size]? = some (.cells #[.string xs, .int .i64 ns, .int .i64 ls] 27 (0, 0))) := (hb.block _ (by omega)).trans H_b6.out
  have H_x0 : Hid (OnL (fun b => v5.heap.size ≤ b ∧ b < w6.heap.size) w8 r x0) := H_x0.out.same (fun b hq => hb.block b (by omega))
  have H_x1 : Hid (AtL (fun b => w6.heap.size ≤ b ∧ b < w7.heap.size) w8 L x1) := H_x1.out.same (Same.of_below hb (fun b hq => by omega))
  have H_k1 : Hid (w8.heap[w6.heap.size]? = some (.cells c1 50 (0, 0))) := (hb.block _ (by omega)).trans H_k1.out
  have B : Hid (Below w.heap.size w w8) := B.out.trans (hb.mono B.out.size)
  have z_w8 : w7.heap.size ≤ w8.heap.size := hb.size
  have H_g1 : Hid (OnL (fun b => w7.heap.size ≤ b ∧ b < w8.heap.size) w8 P g1) := a
  clear a hb
  have hv : Below w8.heap.size w8 (w8.alloc (.cells #[.string xs, .int .i64 ns, .int .i64 ls] 27)) := (Below.refl _ _).alloc (Nat.le_refl _) _
  have hz : w8.heap.size + 1 ≤ (w8.alloc (.cells #[.string xs, .int .i64 ns, .int .i64 ls] 27)).heap.size ∧ (w8.alloc (.cells #[.string xs, .int .i64 ns, .int .i64 ls] 27)).heap.size ≤ w8.heap.size + 1 := by simp
  have H_b10 : Hid ((w8.alloc (.cells #[.string xs, .int .i64 ns, .int .i64 ls] 27)).heap[w8.heap.size]? = some (.cells #[.string xs, .int .i64 ns, .int .i64 ls] 27 (0, 0))) := heap_alloc_new w8 _
  have HV : Hid _ := hv
  have HZ_b10 : Hid _ := hz
  have q0 := (cell_row ((hv.block _ (by omega)).trans H_b6.out) 0 (.string xs) rfl).1
  have q1 := (cell_row ((hv.block _ (by omega)).trans H_b6.out) 1 (.int .i64 ns) rfl).1
  have q2 := (cell_row ((hv.block _ (by omega)).trans H_b6.out) 2 (.int .i64 ls) rfl).1
  have p0 := (cell_row H_b10.out 0 (.string xs) rfl).1
  have p1 := (cell_row H_b10.out 1 (.int .i64 ns) rfl).1
  have p2 := (cell_row H_b10.out 2 (.int .i64 ls) rfl).1
  clear hv hz
  go_wp2_with fail
  clear p0 p1 p2 q0 q1 q2
  generalize w8.alloc (.cells #[.string xs, .int .i64 ns, .int .i64 ls] 27) = v8 at HV H_b10 HZ_b10 ⊢
  have hv := HV.out
  obtain ⟨hz1_b10, hz2_b10⟩ := HZ_b10.out
  have H_u0 : Hid (AtL (fun b => w4.heap.size ≤ b ∧ b < w5.heap.size) v8 P u0) := H_u0.out.same (Same.of_below hv (fun b hq => by omega))
  have H_b6 : Hid (v8.heap[w5.heap.size]? = some (.cells #[.string xs, .int .i64 ns, .int .i64 ls] 27 (0, 0))) := (hv.block _ (by omega)).trans H_b6.out
  have H_x0 : Hid (OnL (fun b => v5.heap.size ≤ b ∧ b < w6.heap.size) v8 r x0) := H_x0.out.same (fun b hq => hv.block b (by omega))
  have H_x1 : Hid (AtL (fun b => w6.heap.size ≤ b ∧ b < w7.heap.size) v8 L x1) := H_x1.out.same (Same.of_below hv (fun b hq => by omega))
  have H_k1 : Hid (v8.heap[w6.heap.size]? = some (.cells c1 50 (0, 0))) := (hv.block _ (by omega)).trans H_k1.out
  have H_g1 : Hid (OnL (fun b => w7.heap.size ≤ b ∧ b < w8.heap.size) v8 P g1) := H_g1.out.same (fun b hq => hv.block b (by omega))
  have B : Hid (Below w.heap.size w v8) := B.out.trans (hv.mono B.out.size)
  have z_v8 : w8.heap.size ≤ v8.heap.size := hv.size
  clear hv HV HZ_b10
  refine (eqSt_any xs ns ls v8).mono ?_; rintro e w9 ⟨rfl, hb⟩
  have H_u0 : Hid (AtL (fun b => w4.heap.size ≤ b ∧ b < w5.heap.size) w9 P u0) := H_u0.out.same (Same.of_below hb (fun b hq => by omega))
  have H_b6 : Hid (w9.heap[w5.heap.size]? = some (.cells #[.string xs, .int .i64 ns, .int .i64 ls] 27 (0, 0))) := (hb.block _ (by omega)).trans H_b6.out
  have H_x0 : Hid (OnL (fun b => v5.heap.size ≤ b ∧ b < w6.heap.size) w9 r x0) := H_x0.out.same (fun b hq => hb.block b (by omega))
  have H_x1 : Hid (AtL (fun b => w6.heap.size ≤ b ∧ b < w7.heap.size) w9 L x1) := H_x1.out.same (Same.of_below hb (fun b hq => by omega))
  have H_k1 : Hid (w9.heap[w6.heap.size]? = some (.cells c1 50 (0, 0))) := (hb.block _ (by omega)).trans H_k1.out
  have H_g1 : Hid (OnL (fun b => w7.heap.size ≤ b ∧ b < w8.heap.size) w9 P g1) := H_g1.out.same (fun b hq => hb.block b (by omega))
  have H_b10 : Hid (w9.heap[w8.heap.size]? = some (.cells #[.string xs, .int .i64 ns, .int .i64 ls] 27 (0, 0))) := (hb.block _ (by omega)).trans H_b10.out
  have B : Hid (Below w.heap.size w w9) := B.out.trans (hb.mono B.out.size)
  have z_w9 : v8.heap.size ≤ w9.heap.size := hb.size
  clear hb
  go_wp2_with fail
  refine (eqStringS_any _ _ P g1 u0 w9 H_g1.out.at_ H_u0.out (fun b hb => by omega) (fun b hb => by omega)).mono ?_; rintro e w10 ⟨rfl, hb⟩
  have H_u0 : Hid (AtL (fun b => w4.heap.size ≤ b ∧ b < w5.heap.size) w10 P u0) := H_u0.out.same (Same.of_below hb (fun b hq => by omega))
  have H_b6 : Hid (w10.heap[w5.heap.size]? = some (.cells #[.string xs, .int .i64 ns, .int .i64 ls] 27 (0, 0))) := (hb.block _ (by omega)).trans H_b6.out
  have H_x0 : Hid (OnL (fun b => v5.heap.size ≤ b ∧ b < w6.heap.size) w10 r x0) := H_x0.out.same (fun b hq => hb.block b (by omega))
  have H_x1 : Hid (AtL (fun b => w6.heap.size ≤ b ∧ b < w7.heap.size) w10 L x1) := H_x1.out.same (Same.of_below hb (fun b hq => by omega))
  have H_k1 : Hid (w10.heap[w6.heap.size]? = some (.cells c1 50 (0, 0))) := (hb.block _ (by omega)).trans H_k1.out
  have H_g1 : Hid (OnL (fun b => w7.heap.size ≤ b ∧ b < w8.heap.size) w10 P g1) := H_g1.out.same (fun b hq => hb.block b (by omega))
  have H_b10 : Hid (w10.heap[w8.heap.size]? = some (.cells #[.string xs, .int .i64 ns, .int .i64 ls] 27 (0, 0))) := (hb.block _ (by omega)).trans H_b10.out
  have B : Hid (Below w.heap.size w w10) := B.out.trans (hb.mono B.out.size)
  have z_w10 : w9.heap.size ≤ w10.heap.size := hb.size
  clear hb
  go_wp2_with fail
  refine (TO.out w10 B.out).mono ?_; rintro e w11 ⟨r3, rfl, a, hb⟩
  have H_u0 : Hid (AtL (fun b => w4.heap.size ≤ b ∧ b < w5.heap.size) w11 P u0) := H_u0.out.same (Same.of_below hb (fun b hq => by omega))
  have H_b6 : Hid (w11.heap[w5.heap.size]? = some (.cells #[.string xs, .int .i64 ns, .int .i64 ls] 27 (0, 0))) := (hb.block _ (by omega)).trans H_b6.out
  have H_x0 : Hid (OnL (fun b => v5.heap.size ≤ b ∧ b < w6.heap.size) w11 r x0) := H_x0.out.same (fun b hq => hb.block b (by omega))
  have H_x1 : Hid (AtL (fun b => w6.heap.size ≤ b ∧ b < w7.heap.size) w11 L x1) := H_x1.out.same (Same.of_below hb (fun b hq => by omega))
  have H_k1 : Hid (w11.heap[w6.heap.size]? = some (.cells c1 50 (0, 0))) := (hb.block _ (by omega)).trans H_k1.out
  have H_g1 : Hid (OnL (fun b => w7.heap.size ≤ b ∧ b < w8.heap.size) w11 P g1) := H_g1.out.same (fun b hq => hb.block b (by omega))
  have H_b10 : Hid (w11.heap[w8.heap.size]? = some (.cells #[.string xs, .int .i64 ns, .int .i64 ls] 27 (0, 0))) := (hb.block _ (by omega)).trans H_b10.out
  have B : Hid (Below w.heap.size w w11) := B.out.trans (hb.mono B.out.size)
  have z_w11 : w10.heap.size ≤ w11.heap.size := hb.size
  have H_r3 : Hid (OnL (fun b => w10.heap.size ≤ b ∧ b < w11.heap.size) w11 r r3) := a
  clear a hb
  go_wp2_with fail
  refine (eqRecPhaseS_any _ _ r x0 r3 w11 H_x0.out.at_ H_r3.out.at_ (fun b hb => by omega) (fun b hb => by omega)).mono ?_; rintro e w12 ⟨rfl, hb⟩
  have H_u0 : Hid (AtL (fun b => w4.heap.size ≤ b ∧ b < w5.heap.size) w12 P u0) := H_u0.out.same (Same.of_below hb (fun b hq => by omega))
  have H_b6 : Hid (w12.heap[w5.heap.size]? = some (.cells #[.string xs, .int .i64 ns, .int .i64 ls] 27 (0, 0))) := (hb.block _ (by omega)).trans H_b6.out
  have H_x0 : Hid (OnL (fun b => v5.heap.size ≤ b ∧ b < w6.heap.size) w12 r x0) := H_x0.out.same (fun b hq => hb.block b (by omega))
  have H_x1 : Hid (AtL (fun b => w6.heap.size ≤ b ∧ b < w7.heap.size) w12 L x1) := H_x1.out.same (Same.of_below hb (fun b hq => by omega))
  have H_k1 : Hid (w12.heap[w6.heap.size]? = some (.cells c1 50 (0, 0))) := (hb.block _ (by omega)).trans H_k1.out
  have H_g1 : Hid (OnL (fun b => w7.heap.size ≤ b ∧ b < w8.heap.size) w12 P g1) := H_g1.out.same (fun b hq => hb.block b (by omega))
  have H_b10 : Hid (w12.heap[w8.heap.size]? = some (.cells #[.string xs, .int .i64 ns, .int .i64 ls] 27 (0, 0))) := (hb.block _ (by omega)).trans H_b10.out
  have B : Hid (Below w.heap.size w w12) := B.out.trans (hb.mono B.out.size)
  have z_w12 : w11.heap.size ≤ w12.heap.size := hb.size
  clear hb H_r3
  go_wp2_with fail
  refine (TS.out w12 B.out).mono ?_; rintro e w13 ⟨c3, rfl, _, a, hb⟩
  have H_u0 : Hid (AtL (fun b => w4.heap.size ≤ b ∧ b < w5.heap.size) w13 P u0) := H_u0.out.same (Same.of_below hb (fun b hq => by omega))
  have H_b6 : Hid (w13.heap[w5.heap.size]? = some (.cells #[.string xs, .int .i64 ns, .int .i64 ls] 27 (0, 0))) := (hb.block _ (by omega)).trans H_b6.out
  have H_x0 : Hid (OnL (fun b => v5.heap.size ≤ b ∧ b < w6.heap.size) w13 r x0) := H_x0.out.same (fun b hq => hb.block b (by omega))
  have H_x1 : Hid (AtL (fun b => w6.heap.size ≤ b ∧ b < w7.heap.size) w13 L x1) := H_x1.out.same (Same.of_below hb (fun b hq => by omega))
  have H_k1 : Hid (w13.heap[w6.heap.size]? = some (.cells c1 50 (0, 0))) := (hb.block _ (by omega)).trans H_k1.out
  have H_g1 : Hid (OnL (fun b => w7.heap.size ≤ b ∧ b < w8.heap.size) w13 P g1) := H_g1.out.same (fun b hq => hb.block b (by omega))
  have H_b10 : Hid (w13.heap[w8.heap.size]? = some (.cells #[.string xs, .int .i64 ns, .int .i64 ls] 27 (0, 0))) := (hb.block _ (by omega)).trans H_b10.out
  have B : Hid (Below w.heap.size w w13) := B.out.trans (hb.mono B.out.size)
  have z_w13 : w12.heap.size ≤ w13.heap.size := hb.size
  obtain ⟨s3, hs3⟩ : ∃ s : Value, s = .slice (some ⟨w12.heap.size, 0, none⟩) nL nL := ⟨_, rfl⟩
  rw [← hs3] at a ⊢
  have H_s3 : Hid (AtL (fun b => w12.heap.size ≤ b ∧ b < w13.heap.size) w13 L s3) := a
  clear a hb hs3
  go_wp2_with fail
  refine (eqRecSayS_any _ _ L x1 s3 w13 H_x1.out H_s3.out (fun b hb => by omega) (fun b hb => by omega)).mono ?_; rintro e w14 ⟨rfl, hb⟩
  have H_u0 : Hid (AtL (fun b => w4.heap.size ≤ b ∧ b < w5.heap.size) w14 P u0) := H_u0.out.same (Same.of_below hb (fun b hq => by omega))
  have H_b6 : Hid (w14.heap[w5.heap.size]? = some (.cells #[.string xs, .int .i64 ns, .int .i64 ls] 27 (0, 0))) := (hb.block _ (by omega)).trans H_b6.out
  have H_x0 : Hid (OnL (fun b => v5.heap.size ≤ b ∧ b < w6.heap.size) w14 r x0) := H_x0.out.same (fun b hq => hb.block b (by omega))
  have H_k1 : Hid (w14.heap[w6.heap.size]? = some (.cells c1 50 (0, 0))) := (hb.block _ (by omega)).trans H_k1.out
  have H_g1 : Hid (OnL (fun b => w7.heap.size ≤ b ∧ b < w8.heap.size) w14 P g1) := H_g1.out.same (fun b hq => hb.block b (by omega))
  have H_b10 : Hid (w14.heap[w8.heap.size]? = some (.cells #[.string xs, .int .i64 ns, .int .i64 ls] 27 (0, 0))) := (hb.block _ (by omega)).trans H_b10.out
  have B : Hid (Below w.heap.size w w14) := B.out.trans (hb.mono B.out.size)
  have z_w14 : w13.heap.size ≤ w14.heap.size := hb.size
  clear hb H_s3 H_x1
  go_wp2_with fail
  refine (markRecPhaseS_any _ r x0 1 w14 H_x0.out (fun b hb => by omega) (by omega) (by have := HCR.out; omega)).mono ?_; rintro e w15 ⟨rfl, _, bu⟩
  clear H_x0
  have H_u0 : Hid (AtL (fun b => w4.heap.size ≤ b ∧ b < w5.heap.size) w15 P u0) := H_u0.out.same (fun b hb => bu.block b (by omega) (by omega))
  have H_b6 : Hid (w15.heap[w5.heap.size]? = some (.cells #[.string xs, .int .i64 ns, .int .i64 ls] 27 (0, 0))) := (bu.block _ (by omega) (by omega)).trans H_b6.out
  have H_k1 : Hid (w15.heap[w6.heap.size]? = some (.cells c1 50 (0, 0))) := (bu.block _ (by omega) (by omega)).trans H_k1.out
  have H_g1 : Hid (OnL (fun b => w7.heap.size ≤ b ∧ b < w8.heap.size) w15 P g1) := H_g1.out.same (fun b hb => bu.block b (by omega) (by omega))
  have H_b10 : Hid (w15.heap[w8.heap.size]? = some (.cells #[.string xs, .int .i64 ns, .int .i64 ls] 27 (0, 0))) := (bu.block _ (by omega) (by omega)).trans H_b10.out
  have B : Hid (Below w.heap.size w w15) := B.out.trans (bu.below (B := w.heap.size) (fun b hb => by omega) (by omega))
  have z_w15 : w14.heap.size ≤ w15.heap.size := bu.size
  clear bu
  obtain ⟨kk, hkk⟩ : ∃ kk : Int, kk = 1 + (cntL r : Int) := ⟨_, rfl⟩
  rw [← hkk]
  have hk1 : 1 ≤ kk ∧ kk ≤ 20000000 := by have := HCR.out; omega
  clear hkk
  rw [HX1.out]
  go_wp2_with fail
  refine (markSays_any w6.heap.size nL c1 kk w15 (by have := HLn.out; have := ENL.out; omega) H_k1.out hc1 hk1.1 hk1.2).mono ?_; rintro e w16 ⟨y3, rfl, hy3, bu⟩
  clear H_k1
  have H_u0 : Hid (AtL (fun b => w4.heap.size ≤ b ∧ b < w5.heap.size) w16 P u0) := H_u0.out.same (fun b hb => bu.block b (by omega) (by omega))
  have H_b6 : Hid (w16.heap[w5.heap.size]? = some (.cells #[.string xs, .int .i64 ns, .int .i64 ls] 27 (0, 0))) := (bu.block _ (by omega) (by omega)).trans H_b6.out
  have H_g1 : Hid (OnL (fun b => w7.heap.size ≤ b ∧ b < w8.heap.size) w16 P g1) := H_g1.out.same (fun b hb => bu.block b (by omega) (by omega))
  have H_b10 : Hid (w16.heap[w8.heap.size]? = some (.cells #[.string xs, .int .i64 ns, .int .i64 ls] 27 (0, 0))) := (bu.block _ (by omega) (by omega)).trans H_b10.out
  have B : Hid (Below w.heap.size w w16) := B.out.trans (bu.below (B := w.heap.size) (fun b hb => by omega) (by omega))
  have z_w16 : w15.heap.size ≤ w16.heap.size := bu.size
  clear bu hk1
  have p0 := (cell_row H_b10.out 0 (.string xs) rfl).1
  have p1 := (cell_row H_b10.out 1 (.int .i64 ns) rfl).1
  have p2 := (cell_row H_b10.out 2 (.int .i64 ls) rfl).1
  have q0 := (cell_row H_b6.out 0 (.string xs) rfl).1
  have q1 := (cell_row H_b6.out 1 (.int .i64 ns) rfl).1
  have q2 := (cell_row H_b6.out 2 (.int .i64 ls) rfl).1
  go_wp2_with fail
  refine (eqSt_any xs ns ls w16).mono ?_; rintro e w17 ⟨rfl, hb⟩
  have H_u0 : Hid (AtL (fun b => w4.heap.size ≤ b ∧ b < w5.heap.size) w17 P u0) := H_u0.out.same (Same.of_below hb (fun b hq => by omega))
  have H_b6 : Hid (w17.heap[w5.heap.size]? = some (.cells #[.string xs, .int .i64 ns, .int .i64 ls] 27 (0, 0))) := (hb.block _ (by omega)).trans H_b6.out
  have H_g1 : Hid (OnL (fun b => w7.heap.size ≤ b ∧ b < w8.heap.size) w17 P g1) := H_g1.out.same (fun b hq => hb.block b (by omega))
  have H_b10 : Hid (w17.heap[w8.heap.size]? = some (.cells #[.string xs, .int .i64 ns, .int .i64 ls] 27 (0, 0))) := (hb.block _ (by omega)).trans H_b10.out
  have B : Hid (Below w.heap.size w w17) := B.out.trans (hb.mono B.out.size)
  have z_w17 : w16.heap.size ≤ w17.heap.size := hb.size
  clear p0 p1 p2 q0 q1 q2
  clear hb
  go_wp2_with fail
  refine (eqStringS_any _ _ P g1 u0 w17 H_g1.out.at_ H_u0.out (fun b hb => by omega) (fun b hb => by omega)).mono ?_; rintro e w18 ⟨rfl, hb⟩
  have H_u0 : Hid (AtL (fun b => w4.heap.size ≤ b ∧ b < w5.heap.size) w18 P u0) := H_u0.out.same (Same.of_below hb (fun b hq => by omega))
  have H_b6 : Hid (w18.heap[w5.heap.size]? = some (.cells #[.string xs, .int .i64 ns, .int .i64 ls] 27 (0, 0))) := (hb.block _ (by omega)).trans H_b6.out
  have H_g1 : Hid (OnL (fun b => w7.heap.size ≤ b ∧ b < w8.heap.size) w18 P g1) := H_g1.out.same (fun b hq => hb.block b (by omega))
  have H_b10 : Hid (w18.heap[w8.heap.size]? = some (.cells #[.string xs, .int .i64 ns, .int .i64 ls] 27 (0, 0))) := (hb.block _ (by omega)).trans H_b10.out
  have B : Hid (Below w.heap.size w w18) := B.out.trans (hb.mono B.out.size)
  have z_w18 : w17.heap.size ≤ w18.heap.size := hb.size
  clear hb
  go_wp2_with fail
  refine (markStringS_any _ P g1 1 w18 H_g1.out (fun b hb => by omega) (by omega) (by have := HCP.out; omega)).mono ?_; rintro e w19 ⟨rfl, m11, bu⟩
  clear H_g1
  have H_u0 : Hid (AtL (fun b => w4.heap.size ≤ b ∧ b < w5.heap.size) w19 P u0) := H_u0.out.same (fun b hb => bu.block b (by omega) (by omega))
  have H_b6 : Hid (w19.heap[w5.heap.size]? = some (.cells #[.string xs, .int .i64 ns, .int .i64 ls] 27 (0, 0))) := (bu.block _ (by omega) (by omega)).trans H_b6.out
  have H_b10 : Hid (w19.heap[w8.heap.size]? = some (.cells #[.string xs, .int .i64 ns, .int .i64 ls] 27 (0, 0))) := (bu.block _ (by omega) (by omega)).trans H_b10.out
  have B : Hid (Below w.heap.size w w19) := B.out.trans (bu.below (B := w.heap.size) (fun b hb => by omega) (by omega))
  have z_w19 : w18.heap.size ≤ w19.heap.size := bu.size
  have M19 : Hid (AtL (fun b => w7.heap.size ≤ b ∧ b < w8.heap.size) w19 (mkL 1 P) g1) := m11.at_
  clear m11 bu
  have HE : Hid (∀ u, Below w19.heap.size w19 u → Calls Try.prog 17 #[g1, .int .i64 1] u fun e w' => e = .returned (.int .i64 (1 + (cntL P : Int))) ∧ Below u.heap.size u w') := fun u hu => heldStringS_any _ P g1 1 u (M19.out.same (Same.of_below hu (fun b hb => by omega))) (fun b hb => by have := hu.size; omega) (by omega) (by have := HCP.out; omega)
  have hcl : (cntL P : Int) ≤ 12 := by have := HCP.out; omega
  have B19 : Hid (Below w19.heap.size w19 w19) := Below.refl _ _
  go_wp2_with fail
  refine (HE.out w19 B19.out).mono ?_; rintro e w20 ⟨rfl, hb⟩
  have H_u0 : Hid (AtL (fun b => w4.heap.size ≤ b ∧ b < w5.heap.size) w20 P u0) := H_u0.out.same (Same.of_below hb (fun b hq => by omega))
  have H_b6 : Hid (w20.heap[w5.heap.size]? = some (.cells #[.string xs, .int .i64 ns, .int .i64 ls] 27 (0, 0))) := (hb.block _ (by omega)).trans H_b6.out
  have H_b10 : Hid (w20.heap[w8.heap.size]? = some (.cells #[.string xs, .int .i64 ns, .int .i64 ls] 27 (0, 0))) := (hb.block _ (by omega)).trans H_b10.out
  have B : Hid (Below w.heap.size w w20) := B.out.trans (hb.mono B.out.size)
  have z_w20 : w19.heap.size ≤ w20.heap.size := hb.size
  have B19 : Hid (Below w19.heap.size w19 w20) := B19.out.trans (hb.mono B19.out.size)
  clear hb
  go_wp2_with fail
  refine (TO.out w20 B.out).mono ?_; rintro e w21 ⟨r4, rfl, a, hb⟩
  have H_u0 : Hid (AtL (fun b => w4.heap.size ≤ b ∧ b < w5.heap.size) w21 P u0) := H_u0.out.same (Same.of_below hb (fun b hq => by omega))
  have H_b6 : Hid (w21.heap[w5.heap.size]? = some (.cells #[.string xs, .int .i64 ns, .int .i64 ls] 27 (0, 0))) := (hb.block _ (by omega)).trans H_b6.out
  have H_b10 : Hid (w21.heap[w8.heap.size]? = some (.cells #[.string xs, .int .i64 ns, .int .i64 ls] 27 (0, 0))) := (hb.block _ (by omega)).trans H_b10.out
  have B : Hid (Below w.heap.size w w21) := B.out.trans (hb.mono B.out.size)
  have z_w21 : w20.heap.size ≤ w21.heap.size := hb.size
  have H_r4 : Hid (OnL (fun b => w20.heap.size ≤ b ∧ b < w21.heap.size) w21 r r4) := a
  have B19 : Hid (Below w19.heap.size w19 w21) := B19.out.trans (hb.mono B19.out.size)
  clear a hb
  go_wp2_with fail
  refine (TS.out w21 B.out).mono ?_; rintro e w22 ⟨c4, rfl, _, a, hb⟩
  have H_u0 : Hid (AtL (fun b => w4.heap.size ≤ b ∧ b < w5.heap.size) w22 P u0) := H_u0.out.same (Same.of_below hb (fun b hq => by omega))
  have H_b6 : Hid (w22.heap[w5.heap.size]? = some (.cells #[.string xs, .int .i64 ns, .int .i64 ls] 27 (0, 0))) := (hb.block _ (by omega)).trans H_b6.out
  have H_b10 : Hid (w22.heap[w8.heap.size]? = some (.cells #[.string xs, .int .i64 ns, .int .i64 ls] 27 (0, 0))) := (hb.block _ (by omega)).trans H_b10.out
  have H_r4 : Hid (OnL (fun b => w20.heap.size ≤ b ∧ b < w21.heap.size) w22 r r4) := H_r4.out.same (fun b hq => hb.block b (by omega))
  have B : Hid (Below w.heap.size w w22) := B.out.trans (hb.mono B.out.size)
  have z_w22 : w21.heap.size ≤ w22.heap.size := hb.size
  obtain ⟨s4, hs4⟩ : ∃ s : Value, s = .slice (some ⟨w21.heap.size, 0, none⟩) nL nL := ⟨_, rfl⟩
  rw [← hs4] at a ⊢
  have H_s4 : Hid (AtL (fun b => w21.heap.size ≤ b ∧ b < w22.heap.size) w22 L s4) := a
  have B19 : Hid (Below w19.heap.size w19 w22) := B19.out.trans (hb.mono B19.out.size)
  clear a hb hs4
  go_wp2_with fail
  refine (PP.out _ _ r4 s4 w22 H_r4.out.at_ H_s4.out (fun b hb => by omega) (fun b hb => by omega) HM.out HLn.out.1).mono ?_; rintro e w23 ⟨h1, rfl, a, hb⟩
  have H_u0 : Hid (AtL (fun b => w4.heap.size ≤ b ∧ b < w5.heap.size) w23 P u0) := H_u0.out.same (Same.of_below hb (fun b hq => by omega))
  have H_b6 : Hid (w23.heap[w5.heap.size]? = some (.cells #[.string xs, .int .i64 ns, .int .i64 ls] 27 (0, 0))) := (hb.block _ (by omega)).trans H_b6.out
  have H_b10 : Hid (w23.heap[w8.heap.size]? = some (.cells #[.string xs, .int .i64 ns, .int .i64 ls] 27 (0, 0))) := (hb.block _ (by omega)).trans H_b10.out
  have B : Hid (Below w.heap.size w w23) := B.out.trans (hb.mono B.out.size)
  have z_w23 : w22.heap.size ≤ w23.heap.size := hb.size
  have H_h1 : Hid (OnL (fun b => w22.heap.size ≤ b ∧ b < w23.heap.size) w23 P h1) := a
  have B19 : Hid (Below w19.heap.size w19 w23) := B19.out.trans (hb.mono B19.out.size)
  clear a hb H_r4 H_s4
  have hv : Below w23.heap.size w23 (w23.alloc (.cells #[.string xs, .int .i64 ns, .int .i64 ls] 27)) := (Below.refl _ _).alloc (Nat.le_refl _) _
  have hz : w23.heap.size + 1 ≤ (w23.alloc (.cells #[.string xs, .int .i64 ns, .int .i64 ls] 27)).heap.size ∧ (w23.alloc (.cells #[.string xs, .int .i64 ns, .int .i64 ls] 27)).heap.size ≤ w23.heap.size + 1 := by simp
  have H_b15 : Hid ((w23.alloc (.cells #[.string xs, .int .i64 ns, .int .i64 ls] 27)).heap[w23.heap.size]? = some (.cells #[.string xs, .int .i64 ns, .int .i64 ls] 27 (0, 0))) := heap_alloc_new w23 _
  have HV : Hid _ := hv
  have HZ_b15 : Hid _ := hz
  have q0 := (cell_row ((hv.block _ (by omega)).trans H_b6.out) 0 (.string xs) rfl).1
  have q1 := (cell_row ((hv.block _ (by omega)).trans H_b6.out) 1 (.int .i64 ns) rfl).1
  have q2 := (cell_row ((hv.block _ (by omega)).trans H_b6.out) 2 (.int .i64 ls) rfl).1
  have p0 := (cell_row H_b15.out 0 (.string xs) rfl).1
  have p1 := (cell_row H_b15.out 1 (.int .i64 ns) rfl).1
  have p2 := (cell_row H_b15.out 2 (.int .i64 ls) rfl).1
  clear hv hz
  go_wp2_with fail
  clear p0 p1 p2 q0 q1 q2
  generalize w23.alloc (.cells #[.string xs, .int .i64 ns, .int .i64 ls] 27) = v23 at HV H_b15 HZ_b15 ⊢
  have hv := HV.out
  obtain ⟨hz1_b15, hz2_b15⟩ := HZ_b15.out
  have H_u0 : Hid (AtL (fun b => w4.heap.size ≤ b ∧ b < w5.heap.size) v23 P u0) := H_u0.out.same (Same.of_below hv (fun b hq => by omega))
  have H_b6 : Hid (v23.heap[w5.heap.size]? = some (.cells #[.string xs, .int .i64 ns, .int .i64 ls] 27 (0, 0))) := (hv.block _ (by omega)).trans H_b6.out
  have H_b10 : Hid (v23.heap[w8.heap.size]? = some (.cells #[.string xs, .int .i64 ns, .int .i64 ls] 27 (0, 0))) := (hv.block _ (by omega)).trans H_b10.out
  have H_h1 : Hid (OnL (fun b => w22.heap.size ≤ b ∧ b < w23.heap.size) v23 P h1) := H_h1.out.same (fun b hq => hv.block b (by omega))
  have B : Hid (Below w.heap.size w v23) := B.out.trans (hv.mono B.out.size)
  have z_v23 : w23.heap.size ≤ v23.heap.size := hv.size
  have hv23 : Hid (Below w23.heap.size w23 v23) := hv
  clear hv HV HZ_b15
  have B19 : Hid (Below w19.heap.size w19 v23) := B19.out.trans (hv23.out.mono B19.out.size)
  refine (eqSt_any xs ns ls v23).mono ?_; rintro e w24 ⟨rfl, hb⟩
  have H_u0 : Hid (AtL (fun b => w4.heap.size ≤ b ∧ b < w5.heap.size) w24 P u0) := H_u0.out.same (Same.of_below hb (fun b hq => by omega))
  have H_b6 : Hid (w24.heap[w5.heap.size]? = some (.cells #[.string xs, .int .i64 ns, .int .i64 ls] 27 (0, 0))) := (hb.block _ (by omega)).trans H_b6.out
  have H_b10 : Hid (w24.heap[w8.heap.size]? = some (.cells #[.string xs, .int .i64 ns, .int .i64 ls] 27 (0, 0))) := (hb.block _ (by omega)).trans H_b10.out
  have H_h1 : Hid (OnL (fun b => w22.heap.size ≤ b ∧ b < w23.heap.size) w24 P h1) := H_h1.out.same (fun b hq => hb.block b (by omega))
  have H_b15 : Hid (w24.heap[w23.heap.size]? = some (.cells #[.string xs, .int .i64 ns, .int .i64 ls] 27 (0, 0))) := (hb.block _ (by omega)).trans H_b15.out
  have B : Hid (Below w.heap.size w w24) := B.out.trans (hb.mono B.out.size)
  have z_w24 : v23.heap.size ≤ w24.heap.size := hb.size
  have B19 : Hid (Below w19.heap.size w19 w24) := B19.out.trans (hb.mono B19.out.size)
  clear hb
  go_wp2_with fail
  refine (eqStringS_any _ _ P h1 u0 w24 H_h1.out.at_ H_u0.out (fun b hb => by omega) (fun b hb => by omega)).mono ?_; rintro e w25 ⟨rfl, hb⟩
  have H_u0 : Hid (AtL (fun b => w4.heap.size ≤ b ∧ b < w5.heap.size) w25 P u0) := H_u0.out.same (Same.of_below hb (fun b hq => by omega))
  have H_b6 : Hid (w25.heap[w5.heap.size]? = some (.cells #[.string xs, .int .i64 ns, .int .i64 ls] 27 (0, 0))) := (hb.block _ (by omega)).trans H_b6.out
  have H_b10 : Hid (w25.heap[w8.heap.size]? = some (.cells #[.string xs, .int .i64 ns, .int .i64 ls] 27 (0, 0))) := (hb.block _ (by omega)).trans H_b10.out
  have H_h1 : Hid (OnL (fun b => w22.heap.size ≤ b ∧ b < w23.heap.size) w25 P h1) := H_h1.out.same (fun b hq => hb.block b (by omega))
  have H_b15 : Hid (w25.heap[w23.heap.size]? = some (.cells #[.string xs, .int .i64 ns, .int .i64 ls] 27 (0, 0))) := (hb.block _ (by omega)).trans H_b15.out
  have B : Hid (Below w.heap.size w w25) := B.out.trans (hb.mono B.out.size)
  have z_w25 : w24.heap.size ≤ w25.heap.size := hb.size
  have B19 : Hid (Below w19.heap.size w19 w25) := B19.out.trans (hb.mono B19.out.size)
  clear hb
  go_wp2_with fail
  refine (HE.out w25 B19.out).mono ?_; rintro e w26 ⟨rfl, hb⟩
  have H_u0 : Hid (AtL (fun b => w4.heap.size ≤ b ∧ b < w5.heap.size) w26 P u0) := H_u0.out.same (Same.of_below hb (fun b hq => by omega))
  have H_b6 : Hid (w26.heap[w5.heap.size]? = some (.cells #[.string xs, .int .i64 ns, .int .i64 ls] 27 (0, 0))) := (hb.block _ (by omega)).trans H_b6.out
  have H_b10 : Hid (w26.heap[w8.heap.size]? = some (.cells #[.string xs, .int .i64 ns, .int .i64 ls] 27 (0, 0))) := (hb.block _ (by omega)).trans H_b10.out
  have H_h1 : Hid (OnL (fun b => w22.heap.size ≤ b ∧ b < w23.heap.size) w26 P h1) := H_h1.out.same (fun b hq => hb.block b (by omega))
  have H_b15 : Hid (w26.heap[w23.heap.size]? = some (.cells #[.string xs, .int .i64 ns, .int .i64 ls] 27 (0, 0))) := (hb.block _ (by omega)).trans H_b15.out
  have B : Hid (Below w.heap.size w w26) := B.out.trans (hb.mono B.out.size)
  have z_w26 : w25.heap.size ≤ w26.heap.size := hb.size
  clear hb
  go_wp2_with fail
  go_ret
  exact ⟨rfl, B.out⟩

end Go.Proofs.Ytkongeofapbblae
