/-
  The model's StuffSplit: what it answers, in memory of its own.
-/
import Derived.Test.YtkmgogfgdpldbabSu
import Derived.Maps.AppendAt
namespace Go.Proofs.Ytkmgogfgdpldbab
open Go.RowKit

/-- A list of numbers of the call's own. -/
abbrev OI (w : World) (B : Nat) (v : Value) (l : List Int) : Prop := w.ownsRow B 3 1 v l.length (l.map (Value.int .i64))
theorem oi_push {w : World} {B : Nat} {v : Value} {l : List Int} {x : Int} (h : w.ownsRow B 3 1 v (l.length + 1) (l.map (Value.int .i64) ++ [.int .i64 x])) : OI w B v (l ++ [x]) := by
  show w.ownsRow _ _ _ _ _ _
  rw [List.map_append, List.length_append]; exact h
theorem oi_slice {w : World} {B : Nat} {v : Value} {l : List Int} (h : OI w B v l) (h0 : 0 < l.length) : ∃ g cap, v = .slice (some ⟨g, 0, none⟩) l.length cap ∧ B ≤ g ∧ g < w.heap.size := by
  rcases h.2 with ⟨_, hn⟩ | ⟨g, cap, cur, hv, hb, hg, _⟩
  · omega
  · exact ⟨g, cap, hv, hb, (Array.getElem?_eq_some_iff.1 hg).1⟩
theorem oi_cell {w : World} {B g n cap : Nat} {l : List Int} (h : OI w B (.slice (some ⟨g, 0, none⟩) n cap) l) (i : Nat) (hi : i < l.length) : w.cell? ⟨g, i, none⟩ = some (.int .i64 (l.getD i 0)) ∧ w.frozen? ⟨g, i, none⟩ = false := by
  rcases h.2 with ⟨e, _⟩ | ⟨g', cap', cur, hv, hb, hg, hc, hm, hs, ht⟩
  · cases e
  · cases hv
    have e1 : cur.toList[i]? = (l.map (Value.int .i64))[i]? := by rw [← ht, Nat.mul_one, List.getElem?_take_of_lt hi]
    have e2 : cur[i]? = some (.int .i64 (l.getD i 0)) := by rw [← Array.getElem?_toList, e1]; simp [hi]
    exact cell_row hg _ _ e2
theorem oi_set {w : World} {B g n cap : Nat} {l : List Int} (h : OI w B (.slice (some ⟨g, 0, none⟩) n cap) l) (i : Nat) (x : Int) : OI (w.setCell ⟨g, i, none⟩ (.int .i64 x)) B (.slice (some ⟨g, 0, none⟩) n cap) (l.set i x) := by
  rcases h.2 with ⟨e, _⟩ | ⟨g', cap', cur, hv, hb, hg, hc, hm, hs, ht⟩
  · cases e
  · cases hv
    refine ⟨by simp, Or.inr ⟨g, cap, _, by rw [List.length_set], hb, set_row hg i _, by rw [List.length_set]; exact hc, hm, by simpa using hs, ?_⟩⟩
    rw [List.length_set, Array.toList_setIfInBounds, List.take_set, ht, List.map_set]
theorem oi_at {w : World} {B : Nat} {v : Value} {l : List Int} (h : OI w B v l) (hm : l.length ≤ 1048576) (hz : ∀ x ∈ l, -1 ≤ x ∧ x ≤ 100000000) : AtL (fun b => B ≤ b ∧ b < w.heap.size) w l v := by
  by_cases h0 : 0 < l.length
  · obtain ⟨g, cap, rfl, hb, hg⟩ := oi_slice h h0
    refine ⟨_, _, rfl, by unfold maxLen; omega, fun i hi => ⟨g, 0, rfl, ⟨hb, hg⟩, cs [.int .i64 l[i]], fun j hj => ?_, ⟨rfl, by have := hz _ (List.getElem_mem hi); omega⟩⟩⟩
    rw [width_int] at hj ⊢
    have ej : j = 0 := by omega
    subst ej
    have := (oi_cell h i hi).1
    rw [show 0 + i * 1 + 0 = i by omega, this]
    simp [hi]
    rfl
  · have hl : l = [] := List.eq_nil_of_length_eq_zero (by omega)
    subst hl
    rcases h.2 with ⟨rfl, _⟩ | ⟨g, cap, cur, rfl, _⟩
    · exact ⟨none, 0, rfl, Nat.zero_le _, fun i hi => by simp at hi⟩
    · exact ⟨_, cap, rfl, Nat.zero_le _, fun i hi => by simp at hi⟩
theorem oi_keep {w w' : World} {B : Nat} {v : Value} {l : List Int} (h : OI w B v l) (hk : ∀ k, v.ownBlock = some k → w'.heap[k]? = w.heap[k]?) : OI w' B v l := by
  refine ⟨h.1, ?_⟩
  rcases h.2 with hn | ⟨g, cap, cur, hv, hbg, hg, rest⟩
  · exact Or.inl hn
  · exact Or.inr ⟨g, cap, cur, hv, hbg, (hk g (by rw [hv]; rfl)).trans hg, rest⟩
theorem oi_below {w w' : World} {B : Nat} {v : Value} {l : List Int} (h : OI w B v l) (hb : Below w.heap.size w w') : OI w' B v l :=
  oi_keep h (fun k hk => hb.block k (h.lt k hk).2)
/-- Two lists lie apart. -/
def apI (u v : Value) : Prop := ∀ k, u.ownBlock = some k → v.ownBlock ≠ some k
theorem apI.symm {u v : Value} (h : apI u v) : apI v u := fun k h1 h2 => h k h2 h1
theorem apI.moved {u u' v : Value} {w : World} {B : Nat} {l : List Int} (h : apI u v) (hu : u'.ownBlock = u.ownBlock ∨ u'.ownBlock = some w.heap.size) (hv : OI w B v l) : apI u' v := fun k h1 h2 => by
  rcases hu with e | e
  · exact h k (e ▸ h1) h2
  · rw [e] at h1
    cases h1
    have := (hv.lt _ h2).2
    omega
theorem oi_beside {w w' : World} {B : Nat} {u v : Value} {l : List Int} (h : OI w B v l) (hg : w.grownBy w' u.ownBlock) (ha : apI u v) : OI w' B v l :=
  oi_keep h (fun k hk => hg.block k (h.lt k hk).2 (fun e => ha k e.symm hk))
theorem runS_bound2 (s : List Int × List Int) (b : Int) (h : ∀ x ∈ s.2, -1 ≤ x ∧ x ≤ b) (hb : 0 ≤ b) : ∀ (k : Nat), ∀ x ∈ (runS k s).2, -1 ≤ x ∧ x ≤ b
  | 0, x, hx => h x hx
  | k + 1, x, hx => by
    simp only [runS, stepS] at hx
    rcases List.mem_or_eq_of_mem_set hx with h1 | h1
    · exact runS_bound2 s b h hb k x h1
    · omega

theorem infoN' : (Try.prog.info? 3).map (fun i => (i.zero, i.size, i.bytes)) = some (some (.int .i64 0), 1, 8) := by kernel_rfl
theorem underN' : Try.prog.underlying 23 = some (.slice 3) := by kernel_rfl

set_option maxRecDepth 100000 in
set_option maxHeartbeats 8000000 in
theorem splitS_any (S : Nat → Prop) (v : Value) (A : List Int) (N : Int) (w : World) (h : AtL S w A v) (hS : ∀ b, S b → b < w.heap.size) :
    Calls Try.prog 8 #[v, .int .i64 N] w fun e w' => ∃ r, e = .returned r ∧ w'.ownsRow w.heap.size 3 1 r (splitL A N).length ((splitL A N).map (Value.int .i64)) ∧ Below w.heap.size w w' := by
  obtain ⟨i0, hi0, hz0, hz1, hz2⟩ := info_parts infoN'
  have hnil : Hid ((w.alloc (.cells #[] 3)).ownsRow w.heap.size 3 1 (.slice (some ⟨w.heap.size, 0, none⟩) 0 0) 0 []) := World.ownsRow_made w #[] 0 (Nat.le_refl _) (Nat.zero_le _) rfl
  have H : Hid (AtL S w A v) := h
  obtain ⟨oa, cap, hv, hn, hc⟩ := h
  subst hv
  obtain ⟨n, en⟩ : ∃ n, A.length = n := ⟨_, rfl⟩
  rw [en] at hn H
  rw [en]
  unfold maxLen at hn
  have HC : Hid _ := hc
  clear hc
  by_cases hA : OkA A
  · have hsb := sum_bound A hA.2
    have h16 := hA.1
    rw [en] at hsb h16
    obtain ⟨T, eT⟩ : ∃ T, A.sum = T := ⟨_, rfl⟩
    have SUM : Hid _ := fun w' (h : AtL S w' A (.slice oa n cap)) => sumS_yes S _ A w' h hA
    rw [eT] at hsb SUM
    have dT0 : decide (T < 0) = false := decide_eq_false (by omega)
    by_cases hNT : 0 ≤ N ∧ N ≤ T
    · have hin : inB N 0 T = true := decide_eq_true hNT
      have hOk : OkN A N := ⟨hA, hNT.1, by rw [eT]; exact hNT.2⟩
      by_cases hT : T = 0
      · have dT : (T == 0) = true := by simp [hT]
        rw [split_zero hOk (by rw [eT]; exact hT)]
        have HN : Hid (N = 0) := by show N = 0; omega
        clear hT
        go_enter Try.func8, Try.ntmps8
        go_wp2_with fail
        refine Calls.mono (SUM.out _ H.out) ?_
        rintro e w1 ⟨rfl, rfl⟩
        have hO0 : Hid (OI ((w1.alloc (.cells #[] 3)).alloc (.cells #[] 3)) w1.heap.size (.slice (some ⟨w1.heap.size, 0, none⟩) 0 0) []) := (show OI (w1.alloc (.cells #[] 3)) w1.heap.size _ [] from World.ownsRow_made w1 #[] 0 (Nat.le_refl _) (Nat.zero_le _) rfl).alloc _
        have hL0 : Hid (OI ((w1.alloc (.cells #[] 3)).alloc (.cells #[] 3)) w1.heap.size (.slice (some ⟨w1.heap.size + 1, 0, none⟩) 0 0) []) := by
          have := World.ownsRow_made (e := 3) (size := 1) (base := w1.heap.size) (w1.alloc (.cells #[] 3)) #[] 0 (by simp) (Nat.zero_le _) rfl
          simp at this
          exact this
        have hAp0 : Hid (apI (.slice (some ⟨w1.heap.size, 0, none⟩) 0 0) (.slice (some ⟨w1.heap.size + 1, 0, none⟩) 0 0)) := fun k h1 h2 => by
          simp [Value.ownBlock] at h1 h2
          omega
        have hB0 : Hid (Below w1.heap.size w1 ((w1.alloc (.cells #[] 3)).alloc (.cells #[] 3))) := ((Below.refl _ _).alloc (Nat.le_refl _) _).alloc (by simp) _
        go_wp2_with (go_at_call 20; refine (inB_any _ _ _ _).mono ?_; rintro e w2 ⟨rfl, hw2⟩; rw [hw2, hin]; clear hw2 w2)
        go_loopw [6, 7, 8, 9] (fun o l s i wr => ∃ k : Nat, k ≤ n ∧ i = .int .i64 k ∧ s = .int .i64 N ∧ Hid (OI wr w1.heap.size o (List.replicate k 0)) ∧ Hid (OI wr w1.heap.size l (List.replicate k 0)) ∧ Hid (apI o l) ∧ Hid (Below w1.heap.size w1 wr)) (fun _ _ _ i _ => n - (intOf i).toNat)
        case atStart => exact ⟨0, Nat.zero_le _, rfl, rfl, hO0, hL0, hAp0, hB0⟩
        case round =>
          clear hO0 hL0 hAp0 hB0
          obtain ⟨k, hk, rfl, rfl, hO, hL, hAp, hBl⟩ := hrel
          have hsz := hBl.out.size
          by_cases hlt : k < n
          · have LEN : Hid (∀ W : World, ∀ V : Value, OI W w1.heap.size V (List.replicate k 0) → W.ownsRow w1.heap.size 3 1 V k ((List.replicate k 0).map (Value.int .i64))) := fun W V h => by
              unfold OI at h
              rw [List.length_replicate] at h
              exact h
            have PSH : Hid (∀ W : World, ∀ V : Value, W.ownsRow w1.heap.size 3 1 V (k + 1) ((List.replicate k 0).map (Value.int .i64) ++ [.int .i64 0]) → OI W w1.heap.size V (List.replicate (k + 1) 0)) := fun W V h => by
              have := oi_push (l := List.replicate k 0) (x := 0) (by rw [List.length_replicate]; exact h)
              rw [← List.replicate_succ'] at this
              exact this
            go_wp2_with (first
              | (at_builtin; refine wpList_append_own_at _ rfl _ _ 23 rfl w1.heap.size 3 i0 (.int .i64 0) 1 8 underN' hi0 hz0 hz1 hz2 rfl (by decide) _ _ _ rfl ((LEN.out _ _ hO.out).alloc _) ⟨wr.heap.size, 0, none⟩ 1 1 [.int .i64 (0)] rfl rfl (cell_one_new _ _ _) (fun x hx => by simp at hx; subst hx; rfl) (by unfold maxLen; omega) (by omega) (by first | omega | (simp; omega)) ?_; intro v3 w3 hown3 hgrow3 hnil3 hat3; have hL3 : Hid (OI w3 w1.heap.size _ (List.replicate k 0)) := oi_beside (oi_keep hL.out (fun j hj => Below.heap_alloc _ _ _ (hL.out.lt j hj).2)) hgrow3 hAp.out; have hAp3 : Hid (apI v3 _) := hAp.out.moved (w := wr.alloc (.cells #[.int .i64 0] 3)) hat3 (oi_keep hL.out (fun j hj => Below.heap_alloc _ _ _ (hL.out.lt j hj).2)); have hB3 : Hid (Below w1.heap.size w1 w3) := (hBl.out.alloc hsz _).grown hgrow3 (by simp; omega) (fun p hp => (hO.out.lt p hp).1); have hO3 : Hid (OI w3 w1.heap.size v3 (List.replicate (k + 1) 0)) := PSH.out _ _ hown3; have hs3 := hB3.out.size; clear hown3 hgrow3 hnil3 hat3)
              | (at_builtin; refine wpList_append_own_at _ rfl _ _ 23 rfl w1.heap.size 3 i0 (.int .i64 0) 1 8 underN' hi0 hz0 hz1 hz2 rfl (by decide) _ _ _ rfl ((LEN.out _ _ hL3.out).alloc _) ⟨w3.heap.size, 0, none⟩ 1 1 [.int .i64 (0)] rfl rfl (cell_one_new _ _ _) (fun x hx => by simp at hx; subst hx; rfl) (by unfold maxLen; omega) (by omega) (by first | omega | (simp; omega)) ?_; intro v4 w4 hown4 hgrow4 hnil4 hat4; have hO4 : Hid (OI w4 w1.heap.size v3 (List.replicate (k + 1) 0)) := oi_beside (oi_keep hO3.out (fun j hj => Below.heap_alloc _ _ _ (hO3.out.lt j hj).2)) hgrow4 hAp3.out.symm; have hAp4 : Hid (apI v3 v4) := (hAp3.out.symm.moved (w := w3.alloc (.cells #[.int .i64 0] 3)) hat4 (oi_keep hO3.out (fun j hj => Below.heap_alloc _ _ _ (hO3.out.lt j hj).2))).symm; have hB4 : Hid (Below w1.heap.size w1 w4) := (hB3.out.alloc hs3 _).grown hgrow4 (by simp; omega) (fun p hp => (hL3.out.lt p hp).1); have hL4 : Hid (OI w4 w1.heap.size v4 (List.replicate (k + 1) 0)) := PSH.out _ _ hown4; clear hown4 hgrow4 hnil4 hat4))
            go_roundw
            case rel =>
              have RR : ∃ q : Nat, q ≤ n ∧ Value.int .i64 ((k : Int) + 1) = .int .i64 (q : Int) ∧ Value.int .i64 N = .int .i64 N ∧ Hid (OI w4 w1.heap.size v3 (List.replicate q 0)) ∧ Hid (OI w4 w1.heap.size v4 (List.replicate q 0)) ∧ Hid (apI v3 v4) ∧ Hid (Below w1.heap.size w1 w4) := ⟨k + 1, by omega, by go_num, rfl, hO4, hL4, hAp4, hB4⟩
              first
                | exact RR
                | ((repeat apply Exists.intro); exact ⟨RR, rfl⟩)
            case measure => simp [intOf]; omega
          · have hkn : k = n := by omega
            subst hkn
            have hz : A.map (fun _ => (0 : Int)) = List.replicate k 0 := by rw [← en]; show A.map (Function.const Int (0 : Int)) = _; exact List.map_const
            have dN : decide (0 < N) = false := decide_eq_false (by have := HN.out; omega)
            go_wp2
            go_loopw [8] (fun s wr2 => s = .int .i64 N ∧ wr2 = wr) (fun _ _ => 0)
            case atStart => exact ⟨rfl, rfl⟩
            case round =>
              obtain ⟨rfl, rfl⟩ := hrel
              go_wp2
              go_ret
              rw [hz]
              exact ⟨_, rfl, hO.out, hBl.out⟩
      · have dT : (T == 0) = false := by simp [hT]
        rw [split_run hOk (by rw [eT]; exact hT)]
        have hms := miss_bound hOk (by rw [eT]; exact hT)
        rw [en] at hms
        obtain ⟨mN, emN⟩ : ∃ m : Nat, miss A N = (m : Int) := ⟨(miss A N).toNat, by omega⟩
        rw [emN, Int.toNat_natCast]
        have hmk' : mN ≤ n := by omega
        have EMN : Hid (miss A N = (mN : Int)) := emN
        clear hms emN
        have hwl : (whole A N).length = n := by simp [whole, en]
        have hol : (over A N).length = n := by simp [over, en]
        have HWB : Hid (∀ x ∈ whole A N, 0 ≤ x ∧ x ≤ 16000000) := fun y hy => by
          obtain ⟨x, hx, rfl⟩ := List.mem_map.1 hy
          rw [eT]
          exact (part_bound (N := N) (x := x) (T := T) ⟨by omega, by omega⟩ (hA.2 x hx) (by omega)).2.1
        have HOB : Hid (∀ x ∈ over A N, -1 ≤ x ∧ x ≤ 16000) := fun y hy => by
          obtain ⟨x, hx, rfl⟩ := List.mem_map.1 hy
          rw [eT]
          have := (part_bound (N := N) (x := x) (T := T) ⟨by omega, by omega⟩ (hA.2 x hx) (by omega)).2.2
          omega
        go_enter Try.func8, Try.ntmps8
        go_wp2_with fail
        refine Calls.mono (SUM.out _ H.out) ?_
        rintro e w1 ⟨rfl, rfl⟩
        have hO0 : Hid (OI ((w1.alloc (.cells #[] 3)).alloc (.cells #[] 3)) w1.heap.size (.slice (some ⟨w1.heap.size, 0, none⟩) 0 0) []) := (show OI (w1.alloc (.cells #[] 3)) w1.heap.size _ [] from World.ownsRow_made w1 #[] 0 (Nat.le_refl _) (Nat.zero_le _) rfl).alloc _
        have hL0 : Hid (OI ((w1.alloc (.cells #[] 3)).alloc (.cells #[] 3)) w1.heap.size (.slice (some ⟨w1.heap.size + 1, 0, none⟩) 0 0) []) := by
          have := World.ownsRow_made (e := 3) (size := 1) (base := w1.heap.size) (w1.alloc (.cells #[] 3)) #[] 0 (by simp) (Nat.zero_le _) rfl
          simp at this
          exact this
        have hAp0 : Hid (apI (.slice (some ⟨w1.heap.size, 0, none⟩) 0 0) (.slice (some ⟨w1.heap.size + 1, 0, none⟩) 0 0)) := fun k h1 h2 => by
          simp [Value.ownBlock] at h1 h2
          omega
        have hB0 : Hid (Below w1.heap.size w1 ((w1.alloc (.cells #[] 3)).alloc (.cells #[] 3))) := ((Below.refl _ _).alloc (Nat.le_refl _) _).alloc (by simp) _
        go_wp2_with (go_at_call 20; refine (inB_any _ _ _ _).mono ?_; rintro e w2 ⟨rfl, hw2⟩; rw [hw2, hin]; clear hw2 w2)
        go_loopw [6, 7, 8, 9] (fun o l s i wr => ∃ k : Nat, k ≤ n ∧ i = .int .i64 k ∧ s = .int .i64 (N - ((whole A N).take k).sum) ∧ Hid (OI wr w1.heap.size o ((whole A N).take k)) ∧ Hid (OI wr w1.heap.size l ((over A N).take k)) ∧ Hid (apI o l) ∧ Hid (Below w1.heap.size w1 wr)) (fun _ _ _ i _ => n - (intOf i).toNat)
        case atStart => exact ⟨0, Nat.zero_le _, rfl, by simp, hO0, hL0, hAp0, hB0⟩
        case round =>
          clear hO0 hL0 hAp0 hB0
          obtain ⟨k, hk, rfl, rfl, hO, hL, hAp, hBl⟩ := hrel
          have hsz := hBl.out.size
          by_cases hlt : k < n
          · obtain ⟨b, off, rfl, hbS, cc, hcell, hat⟩ := HC.out k (by omega)
            have hbb := hS b hbS
            rw [width_int] at hcell
            have hcell := hcell 0 (by omega)
            rw [Nat.mul_one, Nat.add_zero] at hcell
            rw [at_int] at hat
            rw [hat.1] at hcell
            have hx := hA.2 _ (List.getElem_mem (by omega : k < A.length))
            have hwk : (whole A N).getD k 0 = N * A[k] / T := by rw [← eT]; simp [whole, show k < A.length by omega]
            have hok : (over A N).getD k 0 = N * A[k] % T := by rw [← eT]; simp [over, show k < A.length by omega]
            obtain ⟨x, ex⟩ : ∃ x, A[k]'(by omega) = x := ⟨_, rfl⟩
            rw [ex] at hcell hx hwk hok
            clear hat
            obtain ⟨⟨m1, m2⟩, ⟨q1, q2⟩, ⟨r1, r2⟩⟩ := part_bound (N := N) (x := x) (T := T) ⟨by omega, by omega⟩ hx (by omega)
            have hps : 0 ≤ ((whole A N).take k).sum ∧ ((whole A N).take k).sum ≤ 256000000 := by
              have h := sum_boundB 16000000 (by omega) ((whole A N).take k) (fun y hy => HWB.out y (List.mem_of_mem_take hy))
              have hl : ((whole A N).take k).length ≤ 16 := by rw [List.length_take, hwl]; omega
              omega
            have tw : (whole A N).take (k + 1) = (whole A N).take k ++ [N * x / T] := by
              rw [List.take_add_one, List.getElem?_eq_getElem (by omega), ← hwk]; simp [show k < (whole A N).length by omega]
            have to' : (over A N).take (k + 1) = (over A N).take k ++ [N * x % T] := by
              rw [List.take_add_one, List.getElem?_eq_getElem (by omega), ← hok]; simp [show k < (over A N).length by omega]
            have hts : Hid (((whole A N).take (k + 1)).sum = ((whole A N).take k).sum + N * x / T) := by show _ = _; rw [tw, List.sum_append]; simp
            have lw : ((whole A N).take k).length = k := by rw [List.length_take, hwl]; omega
            have lo : ((over A N).take k).length = k := by rw [List.length_take, hol]; omega
            have TW : Hid _ := tw
            have TO : Hid _ := to'
            clear tw to' hwk hok
            obtain ⟨P1, eP1⟩ : ∃ P, (whole A N).take k = P := ⟨_, rfl⟩
            obtain ⟨P2, eP2⟩ : ∃ P, (over A N).take k = P := ⟨_, rfl⟩
            rw [eP1] at hO hps hts TW lw ⊢
            rw [eP2] at hL TO lo
            clear eP1 eP2
            have c0 := (hBl.out.cell (p := ⟨b, off + k, none⟩) (by show b < _; omega)).trans hcell
            generalize hpp : P1.sum = p at *
            have LW : Hid (∀ W : World, ∀ V : Value, OI W w1.heap.size V P1 → W.ownsRow w1.heap.size 3 1 V k (P1.map (Value.int .i64))) := fun W V h => by
              unfold OI at h; rw [lw] at h; exact h
            have LO : Hid (∀ W : World, ∀ V : Value, OI W w1.heap.size V P2 → W.ownsRow w1.heap.size 3 1 V k (P2.map (Value.int .i64))) := fun W V h => by
              unfold OI at h; rw [lo] at h; exact h
            have PW : Hid (∀ W : World, ∀ V : Value, W.ownsRow w1.heap.size 3 1 V (k + 1) (P1.map (Value.int .i64) ++ [.int .i64 (N * x / T)]) → OI W w1.heap.size V ((whole A N).take (k + 1))) := fun W V h => by
              rw [TW.out]; exact oi_push (by rw [lw]; exact h)
            have PO : Hid (∀ W : World, ∀ V : Value, W.ownsRow w1.heap.size 3 1 V (k + 1) (P2.map (Value.int .i64) ++ [.int .i64 (N * x % T)]) → OI W w1.heap.size V ((over A N).take (k + 1))) := fun W V h => by
              rw [TO.out]; exact oi_push (by rw [lo]; exact h)
            go_wp2_with (first
              | (at_builtin; refine wpList_append_own_at _ rfl _ _ 23 rfl w1.heap.size 3 i0 (.int .i64 0) 1 8 underN' hi0 hz0 hz1 hz2 rfl (by decide) _ _ _ rfl ((LW.out _ _ hO.out).alloc _) ⟨wr.heap.size, 0, none⟩ 1 1 [.int .i64 (N * x / T)] rfl rfl (cell_one_new _ _ _) (fun x hx => by simp at hx; subst hx; rfl) (by unfold maxLen; omega) (by omega) (by first | omega | (simp; omega)) ?_; intro v3 w3 hown3 hgrow3 hnil3 hat3; have hL3 : Hid (OI w3 w1.heap.size _ P2) := oi_beside (oi_keep hL.out (fun j hj => Below.heap_alloc _ _ _ (hL.out.lt j hj).2)) hgrow3 hAp.out; have hAp3 : Hid (apI v3 _) := hAp.out.moved (w := wr.alloc (.cells #[.int .i64 (N * x / T)] 3)) hat3 (oi_keep hL.out (fun j hj => Below.heap_alloc _ _ _ (hL.out.lt j hj).2)); have hB3 : Hid (Below w1.heap.size w1 w3) := (hBl.out.alloc hsz _).grown hgrow3 (by simp; omega) (fun p hp => (hO.out.lt p hp).1); have hO3 : Hid (OI w3 w1.heap.size v3 ((whole A N).take (k + 1))) := PW.out _ _ hown3; have hs3 := hB3.out.size; have c3 := (hB3.out.cell (p := ⟨b, off + k, none⟩) (by show b < _; omega)).trans hcell; clear hown3 hgrow3 hnil3 hat3)
              | (at_builtin; refine wpList_append_own_at _ rfl _ _ 23 rfl w1.heap.size 3 i0 (.int .i64 0) 1 8 underN' hi0 hz0 hz1 hz2 rfl (by decide) _ _ _ rfl ((LO.out _ _ hL3.out).alloc _) ⟨w3.heap.size, 0, none⟩ 1 1 [.int .i64 (N * x % T)] rfl rfl (cell_one_new _ _ _) (fun x hx => by simp at hx; subst hx; rfl) (by unfold maxLen; omega) (by omega) (by first | omega | (simp; omega)) ?_; intro v4 w4 hown4 hgrow4 hnil4 hat4; have hO4 : Hid (OI w4 w1.heap.size v3 ((whole A N).take (k + 1))) := oi_beside (oi_keep hO3.out (fun j hj => Below.heap_alloc _ _ _ (hO3.out.lt j hj).2)) hgrow4 hAp3.out.symm; have hAp4 : Hid (apI v3 v4) := (hAp3.out.symm.moved (w := w3.alloc (.cells #[.int .i64 (N * x % T)] 3)) hat4 (oi_keep hO3.out (fun j hj => Below.heap_alloc _ _ _ (hO3.out.lt j hj).2))).symm; have hB4 : Hid (Below w1.heap.size w1 w4) := (hB3.out.alloc hs3 _).grown hgrow4 (by simp; omega) (fun p hp => (hL3.out.lt p hp).1); have hL4 : Hid (OI w4 w1.heap.size v4 ((over A N).take (k + 1))) := PO.out _ _ hown4; have c4 := (hB4.out.cell (p := ⟨b, off + k, none⟩) (by show b < _; omega)).trans hcell; clear hown4 hgrow4 hnil4 hat4))
            go_roundw
            case rel =>
              have RR : ∃ q : Nat, q ≤ n ∧ Value.int .i64 ((k : Int) + 1) = .int .i64 (q : Int) ∧ Value.int .i64 (N - p - N * x / T) = .int .i64 (N - ((whole A N).take q).sum) ∧ Hid (OI w4 w1.heap.size v3 ((whole A N).take q)) ∧ Hid (OI w4 w1.heap.size v4 ((over A N).take q)) ∧ Hid (apI v3 v4) ∧ Hid (Below w1.heap.size w1 w4) := ⟨k + 1, by omega, by go_num, by rw [hts.out]; congr 1; omega, hO4, hL4, hAp4, hB4⟩
              first
                | exact RR
                | ((repeat apply Exists.intro); exact ⟨RR, rfl⟩)
            case measure => simp [intOf]; omega
          · have hkn : k = n := by omega
            subst hkn
            have hmiss : Hid (N - ((whole A N).take k).sum = (mN : Int)) := by
              show _ = _
              rw [show (whole A N).take k = whole A N by rw [← hwl]; exact List.take_length, ← EMN.out]; rfl
            rw [hmiss.out]
            rw [show (whole A N).take k = whole A N by rw [← hwl]; exact List.take_length] at hO
            rw [show (over A N).take k = over A N by rw [← hol]; exact List.take_length] at hL
            have RBD : Hid (∀ j : Nat, ∀ x ∈ (runS j (whole A N, over A N)).1, 0 ≤ x ∧ x ≤ 16000000 + j) := runS_bound _ 16000000 HWB.out (by omega)
            have RBD2 : Hid (∀ j : Nat, ∀ x ∈ (runS j (whole A N, over A N)).2, -1 ≤ x ∧ x ≤ 16000) := runS_bound2 _ 16000 HOB.out (by omega)
            have RLN : Hid (∀ j : Nat, (runS j (whole A N, over A N)).1.length = k ∧ (runS j (whole A N, over A N)).2.length = k) := fun j => by
              have := runS_len (whole A N, over A N) j
              simp only [hwl, hol] at this; exact this
            clear hmiss
            go_wp2
            go_loopw [8] (fun s wr2 => ∃ j : Nat, j ≤ mN ∧ s = .int .i64 ((mN : Int) - j) ∧ Hid (OI wr2 w1.heap.size u6 (runS j (whole A N, over A N)).1) ∧ Hid (OI wr2 w1.heap.size u7 (runS j (whole A N, over A N)).2) ∧ Hid (Below w1.heap.size w1 wr2)) (fun s _ => (intOf s).toNat)
            case atStart => exact ⟨0, Nat.zero_le _, by simp, hO, hL, hBl⟩
            case round =>
              clear hO hL hBl
              rename_i wr0
              obtain ⟨j, hj, rfl, hO, hL, hBl⟩ := hrel
              obtain ⟨rl1, rl2⟩ := RLN.out j
              by_cases hlj : j < mN
              · have dpos : decide (0 < (mN : Int) - (j : Int)) = true := decide_eq_true (by omega)
                have hm0 : 0 < (runS j (whole A N, over A N)).2.length := by omega
                have hml := mostK_lt (runS j (whole A N, over A N)).2 _ hm0
                have MOST : Hid _ := mostS_any _ u7 (runS j (whole A N, over A N)).2 wr (oi_at hL.out (by omega) (fun x hx => by have := RBD2.out j x hx; omega)) (fun b hb => hb.2) hm0 (by omega)
                have hml' : mostI (runS j (whole A N, over A N)).2 < k := by unfold mostI; omega
                obtain ⟨o, eo⟩ : ∃ o, (runS j (whole A N, over A N)).1 = o := ⟨_, rfl⟩
                obtain ⟨lf, elf⟩ : ∃ o, (runS j (whole A N, over A N)).2 = o := ⟨_, rfl⟩
                have hob := RBD.out j
                rw [eo] at hO rl1 hob
                rw [elf] at hL rl2 MOST hml'
                obtain ⟨pp, epp⟩ : ∃ p, mostI lf = p := ⟨_, rfl⟩
                rw [epp] at MOST hml'
                have hstep : Hid ((runS (j + 1) (whole A N, over A N)).1 = o.set pp (o.getD pp 0 + 1) ∧ (runS (j + 1) (whole A N, over A N)).2 = lf.set pp (-1)) := by
                  constructor <;> simp only [runS, stepS, eo, elf, epp]
                have hopp : 0 ≤ o.getD pp 0 ∧ o.getD pp 0 ≤ 16000000 + j := by
                  have := hob _ (List.getElem_mem (show pp < o.length by omega))
                  simpa [List.getD_eq_getElem?_getD, show pp < o.length by omega] using this
                obtain ⟨y, ey⟩ : ∃ y, o.getD pp 0 = y := ⟨_, rfl⟩
                rw [ey] at hopp hstep
                obtain ⟨gO, cO, e6, _, hgO⟩ := oi_slice hO.out (by omega)
                obtain ⟨gL, cL, e7, _, hgL⟩ := oi_slice hL.out (by omega)
                rw [rl1] at e6
                rw [rl2] at e7
                subst e6 e7
                have hne : gO ≠ gL := fun e => hAp.out gO rfl (by rw [e]; rfl)
                have hbO := (hO.out.lt gO rfl).1
                have hbL := (hL.out.lt gL rfl).1
                clear eo elf epp hml hm0 hob
                go_wp2_with fail
                refine Calls.mono MOST.out ?_
                rintro e w5 ⟨rfl, hb5⟩
                have hO5 := oi_below hO.out hb5
                have hL5 := oi_below hL.out hb5
                have e0 := (oi_cell hO5 pp (by omega)).1
                have e0f := (oi_cell hO5 pp (by omega)).2
                rw [ey] at e0
                have hO6 : OI (w5.setCell ⟨gO, pp, none⟩ (.int .i64 (y + 1))) w1.heap.size _ (o.set pp (y + 1)) := oi_set hO5 pp (y + 1)
                have hL6 : OI (w5.setCell ⟨gO, pp, none⟩ (.int .i64 (y + 1))) w1.heap.size _ lf := oi_keep hL5 (fun k hk => Below.heap_setCell _ _ _ _ (by cases hk; show gL ≠ gO; omega))
                have f0 := (oi_cell hL6 pp (by omega)).1
                have f0f := (oi_cell hL6 pp (by omega)).2
                have hL7 : Hid (OI ((w5.setCell ⟨gO, pp, none⟩ (.int .i64 (y + 1))).setCell ⟨gL, pp, none⟩ (.int .i64 (-1))) w1.heap.size _ (lf.set pp (-1))) := oi_set hL6 pp (-1)
                have hO7 : Hid (OI ((w5.setCell ⟨gO, pp, none⟩ (.int .i64 (y + 1))).setCell ⟨gL, pp, none⟩ (.int .i64 (-1))) w1.heap.size _ (o.set pp (y + 1))) := oi_keep hO6 (fun k hk => Below.heap_setCell _ _ _ _ (by cases hk; show gO ≠ gL; omega))
                have hB7 : Hid (Below w1.heap.size w1 ((w5.setCell ⟨gO, pp, none⟩ (.int .i64 (y + 1))).setCell ⟨gL, pp, none⟩ (.int .i64 (-1)))) := Below.setCell (p := ⟨gL, pp, none⟩) (Below.setCell (p := ⟨gO, pp, none⟩) (hBl.out.trans (hb5.mono hBl.out.size)) hbO _) hbL _
                rw [← hstep.out.1] at hO7
                rw [← hstep.out.2] at hL7
                clear hO5 hL5 hO6 hL6 hb5
                go_wp2
                go_roundw
                case rel => exact ⟨j + 1, by omega, by congr 1; omega, hO7, hL7, hB7⟩
                case measure => simp [intOf]; omega
              · have dneg : decide (0 < (mN : Int) - (j : Int)) = false := decide_eq_false (by omega)
                have hjm : j = mN := by omega
                go_wp2
                go_ret
                subst hjm
                exact ⟨_, rfl, hO.out, hBl.out⟩
    · have hin : inB N 0 T = false := decide_eq_false hNT
      rw [split_no (fun h => hNT ⟨h.2.1, by have := h.2.2; rw [eT] at this; exact this⟩)]
      go_enter Try.func8, Try.ntmps8
      go_wp2_with fail
      refine Calls.mono (SUM.out _ H.out) ?_
      rintro e w1 ⟨rfl, rfl⟩
      go_wp2_with (go_at_call 20; refine (inB_any _ _ _ _).mono ?_; rintro e w2 ⟨rfl, rfl⟩; rw [hin])
      go_ret
      exact ⟨_, rfl, hnil.out, (Below.refl _ _).alloc (Nat.le_refl _) _⟩
  · rw [split_no (fun h => hA h.1)]
    go_enter Try.func8, Try.ntmps8
    go_wp2_with fail
    refine (sumS_no S _ A _ H.out hA).mono ?_
    rintro e w1 ⟨rfl, rfl⟩
    go_wp2
    go_ret
    exact ⟨_, rfl, hnil.out, (Below.refl _ _).alloc (Nat.le_refl _) _⟩

end Go.Proofs.Ytkmgogfgdpldbab
