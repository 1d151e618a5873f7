/-
  Several texts in one.
-/
import Derived.Test.YtndacfockllehaaGreatM29
import Derived.Test.YtndacfockllehaaGreatM17
import Derived.Test.YtndacfockllehaaGreatM12
import Derived.Test.YtndacfockllehaaGreatBk
import Derived.Deep.Cut
import Derived.Test.YtndacfockllehaaGreatM20
/-
  A contract of the model's stations of a plant: all that it tells of stations, put in one by one, in memory of its own.
-/
namespace Go.Proofs.YtndacfockllehaaGreat
open Go.RowKit

set_option maxRecDepth 100000 in
set_option maxHeartbeats 4000000 in
theorem stationsS_any (B : Nat) (v0 v1 v2 v3 : Value) (D : PD) (w : World) (h : PAt B w v0 v1 v2 v3 D) (hB : B ≤ w.heap.size) (hz : D.Sz) :
    Calls Tryz.prog 76 #[.agg #[v0, v1, v2, v3]] w fun e w' => ∃ v b, e = .returned v ∧ (b = true ↔ D.V) ∧ w'.ownsRow w.heap.size 9 1 v (stL b D).length ((stL b D).map .string) ∧ Below w.heap.size w w' := by
  have H : Hid (∀ w', Below w.heap.size w w' → PAt B w' v0 v1 v2 v3 D) := fun w' hb => h.kept hb hB
  clear h
  obtain ⟨W, hW⟩ : ∃ W, W = (w.alloc (.cells #[v0, v1, v2, v3] 40)).alloc (.cells #[] 9) := ⟨_, rfl⟩
  have sW : W.heap.size = w.heap.size + 2 := by rw [hW]; simp
  have kW : Hid (Below (w.heap.size + 1) W W) := Below.refl _ _
  have EW : Hid (W = (w.alloc (.cells #[v0, v1, v2, v3] 40)).alloc (.cells #[] 9)) := hW
  have OW : Hid (W.ownsRow (w.heap.size + 1) 9 1 (.slice (some ⟨w.heap.size + 1, 0, none⟩) 0 0) 0 []) := by
    rw [hW]
    have := World.ownsRow_made (base := w.heap.size + 1) (e := 9) (size := 1) (w.alloc (.cells #[v0, v1, v2, v3] 40)) #[] 0 (by simp) (Nat.zero_le _) rfl
    simpa [Hid] using this
  have bx : Hid (∀ w', Below (w.heap.size + 1) W w' → (w'.cell? ⟨w.heap.size, 0, none⟩ = some v0 ∧ w'.cell? ⟨w.heap.size, 1, none⟩ = some v1 ∧ w'.cell? ⟨w.heap.size, 2, none⟩ = some v2 ∧ w'.cell? ⟨w.heap.size, 3, none⟩ = some v3) ∧ Below w.heap.size w w') := fun w' hb => by
    rw [hW] at hb
    have hb' : Below (w.heap.size + 1) (w.alloc (.cells #[v0, v1, v2, v3] 40)) w' := ((Below.refl _ _).alloc (by simp) _).trans hb
    exact ⟨⟨box_in hb' 0 _ rfl, box_in hb' 1 _ rfl, box_in hb' 2 _ rfl, box_in hb' 3 _ rfl⟩, below_end hb'⟩
  clear hW
  go_enter Tryz.func76, Tryz.ntmps76
  go_upto_region 2 with fail
  rw [← EW.out]
  obtain ⟨⟨a0, a1, a2, a3⟩, hbw⟩ := bx.out W kW.out
  go_wp2_with fail
  refine (validS_any B v0 v1 v2 v3 D _ (H.out _ hbw) (by have := hbw.size; omega) hz).mono ?_; rintro e w1 ⟨b, rfl, is, hb1⟩
  have IS : Hid _ := is
  have k1 : Hid (Below (w.heap.size + 1) W w1) := kW.out.trans (hb1.mono (by omega))
  have O1 : Hid (w1.ownsRow (w.heap.size + 1) 9 1 (.slice (some ⟨w.heap.size + 1, 0, none⟩) 0 0) 0 []) := own_belowR OW.out hb1
  clear is hb1 a0 a1 a2 a3 hbw
  cases b
  · go_wp2_with fail
    go_ret
    exact ⟨_, false, rfl, IS.out, own_leR O1.out (by omega), (bx.out _ k1.out).2⟩
  · have HV : Hid D.V := by have := IS.out; simpa [Hid] using this
    have hnp : D.np ≤ 14 := HV.out.2.1.1
    have hnv : D.nv ≤ 18 := HV.out.2.2.1
    go_wp2_with fail
    go_loopw [3, 4] (fun v i wr => ∃ (q g cap : Nat), q ≤ D.np ∧ i = .int .i64 q ∧ v = .slice (some ⟨g, 0, none⟩) (insA (stnP D q)).length cap ∧ Hid (wr.ownsRow (w.heap.size + 1) 9 1 (.slice (some ⟨g, 0, none⟩) (insA (stnP D q)).length cap) (insA (stnP D q)).length ((insA (stnP D q)).map .string)) ∧ Hid (Below (w.heap.size + 1) W wr)) (fun _ i _ => D.np - (intOf i).toNat)
    case atStart => exact ⟨0, _, 0, Nat.zero_le _, rfl, rfl, by simpa [Hid, stnP, insA] using O1.out, k1⟩
    case round =>
      obtain ⟨q, g, cap, hq, rfl, rfl, hown, hbel⟩ := hrel
      obtain ⟨⟨a0, a1, a2, a3⟩, hbw⟩ := bx.out wr hbel.out
      have hsr : w.heap.size + 1 ≤ wr.heap.size := by have := hbel.out.size; omega
      have hlen := insA_len (stnP D q)
      rw [stnP_len] at hlen
      by_cases hlt : q < D.np
      · obtain ⟨op, cp, hv2, _, hcv⟩ := (H.out wr hbw).p
        obtain ⟨b, off, rfl, hbB, hcell⟩ := hcv q hlt
        have e2 : wr.cell? ⟨b, off + q * 3 + 2, none⟩ = some (.string (D.fp q).2.2) := hcell 2 (by omega)
        clear hcv hcell
        have HI : Hid (insR (insA (stnP D q)) (D.fp q).2.2 = insA (stnP D (q + 1))) := by show _ = _; rw [stnP_succ, insA_snoc]
        generalize insA (stnP D q) = l at hown hlen HI
        subst hv2
        go_wp2_with fail
        refine (insS_any (w.heap.size + 1) g cap l (D.fp q).2.2 wr hown.out (by omega) hsr).mono ?_; rintro e w2 ⟨g', cap', rfl, ho, hb2⟩
        rw [HI.out] at ho ⊢
        have HO : Hid (w2.ownsRow (w.heap.size + 1) 9 1 (.slice (some ⟨g', 0, none⟩) (insA (stnP D (q + 1))).length cap') (insA (stnP D (q + 1))).length ((insA (stnP D (q + 1))).map .string)) := ho
        have k2 : Hid (Below (w.heap.size + 1) W w2) := hbel.out.trans (hb2.mono hsr)
        clear ho hb2
        go_wp2_with fail
        go_roundw
        case rel => exact ⟨q + 1, g', cap', by omega, by go_num, rfl, HO, k2⟩
        case measure => simp [intOf]; omega
      · obtain rfl : q = D.np := by omega
        obtain ⟨op, cp, hv2, _, hcV⟩ := (H.out wr hbw).p
        clear hcV
        subst hv2
        go_wp2_with fail
        have O2 := hown
        have K2 := hbel
        clear hown hbel a0 a1 a2 a3 hbw hsr
        go_loopw [3, 5] (fun v i wr => ∃ (q g cap : Nat), q ≤ D.nv ∧ i = .int .i64 q ∧ v = .slice (some ⟨g, 0, none⟩) (insA (stnP D D.np ++ stnV D q)).length cap ∧ Hid (wr.ownsRow (w.heap.size + 1) 9 1 (.slice (some ⟨g, 0, none⟩) (insA (stnP D D.np ++ stnV D q)).length cap) (insA (stnP D D.np ++ stnV D q)).length ((insA (stnP D D.np ++ stnV D q)).map .string)) ∧ Hid (Below (w.heap.size + 1) W wr)) (fun _ i _ => D.nv - (intOf i).toNat)
        case atStart => exact ⟨0, g, cap, Nat.zero_le _, rfl, by simp [stnV], by simpa [Hid, stnV] using O2.out, K2⟩
        case round =>
          obtain ⟨q, g, cap, hq, rfl, rfl, hown, hbel⟩ := hrel
          obtain ⟨⟨a0, a1, a2, a3⟩, hbw⟩ := bx.out wr hbel.out
          have hsr : w.heap.size + 1 ≤ wr.heap.size := by have := hbel.out.size; omega
          have hlen2 := insA_len (stnP D D.np ++ stnV D q)
          rw [List.length_append, stnP_len, stnV_len] at hlen2
          by_cases hlt : q < D.nv
          · obtain ⟨op', cp', hv3, _, hcv⟩ := (H.out wr hbw).v
            obtain ⟨b, off, rfl, hbB, hcell⟩ := hcv q hlt
            have e3 : wr.cell? ⟨b, off + q * 4 + 3, none⟩ = some (.string (D.fv q).2.2.2) := hcell 3 (by omega)
            clear hcv hcell
            have HI : Hid (insR (insA (stnP D D.np ++ stnV D q)) (D.fv q).2.2.2 = insA (stnP D D.np ++ stnV D (q + 1))) := by show _ = _; rw [stnV_succ, ← List.append_assoc, insA_snoc]
            generalize insA (stnP D D.np ++ stnV D q) = l at hown hlen2 HI
            subst hv3
            go_wp2_with fail
            refine (insS_any (w.heap.size + 1) g cap l (D.fv q).2.2.2 wr hown.out (by omega) hsr).mono ?_; rintro e w2 ⟨g', cap', rfl, ho, hb2⟩
            rw [HI.out] at ho ⊢
            have HO : Hid (w2.ownsRow (w.heap.size + 1) 9 1 (.slice (some ⟨g', 0, none⟩) (insA (stnP D D.np ++ stnV D (q + 1))).length cap') (insA (stnP D D.np ++ stnV D (q + 1))).length ((insA (stnP D D.np ++ stnV D (q + 1))).map .string)) := ho
            have k2 : Hid (Below (w.heap.size + 1) W w2) := hbel.out.trans (hb2.mono hsr)
            clear ho hb2
            go_wp2_with fail
            go_roundw
            case rel => exact ⟨q + 1, g', cap', by omega, by go_num, rfl, HO, k2⟩
            case measure => simp [intOf]; omega
          · obtain rfl : q = D.nv := by omega
            obtain ⟨op', cp', hv3, _, hcV⟩ := (H.out wr hbw).v
            clear hcV
            subst hv3
            go_wp2_with fail
            go_ret
            exact ⟨_, true, rfl, by simpa using IS.out, own_leR hown.out (by omega), hbw⟩

end Go.Proofs.YtndacfockllehaaGreat

/-
  A law for a call beside a box that is made meanwhile, in a region that draws its order: what the call makes and the box are two. No program is named here.
-/
namespace Go.Proofs.YtndacfockllehaaGreat
open Go.RowKit Go.Sort

section
variable {P : Program}
theorem callAlloc {C : World → Prop} {Q : Exit → Act → World → Prop} {l : List Oper} {n : Nat} {listed : Array Bool} {ic ia dc da : Nat} {oc oa : Oper} {a : Act} {w : World} {fn : FuncId} {args : Array Value} (z : Array Value) (t : TypeId) (Post : Value → World → World → Prop)
    (hc : l.toArray[ic]? = some oc ∧ oc.guard = none ∧ oc.dst = some dc ∧ ic < n) (ha : l.toArray[ia]? = some oa ∧ oa.guard = none ∧ oa.dst = some da ∧ ia < n)
    (ne : dc ≠ da ∧ ic ≠ ia)
    (r0 : Region.ready .any l.toArray listed = [ic, ia]) (r1 : Region.ready .any l.toArray (listed.setIfInBounds ia true) = [ic]) (r2 : Region.ready .any l.toArray (listed.setIfInBounds ic true) = [ia])
    (hCB : ∀ u, Below w.heap.size w u → C u) (run : ∀ u, (execOp a.eval oc).run P u = .ok (.enter fn args) u) (run' : ∀ v u, (execOp (a.put (some da) v).eval oc).run P u = .ok (.enter fn args) u)
    (con : ∀ u, Below w.heap.size w u → Calls P fn args u fun e u' => ∃ v, e = .returned v ∧ Post v u u' ∧ Below u.heap.size u u')
    (exa : ∀ (b : Act) (u : World), (execOp b.eval oa).run P u = .ok (.value (.pointer (some ⟨u.heap.size, 0, none⟩))) (u.alloc (.cells z t)))
    (K : ∀ v pB u1 u2 u, Below w.heap.size w u1 → Post v u1 u2 → Below u1.heap.size u1 u2 → Below u2.heap.size u2 u → (pB < u1.heap.size ∨ u2.heap.size ≤ pB) → u.heap[pB]? = some (.cells z t (0, 0)) → w.heap.size ≤ pB → Below w.heap.size w u → tailC P Q l n ((listed.setIfInBounds ic true).setIfInBounds ia true) ((a.put (some dc) v).put (some da) (.pointer (some ⟨pB, 0, none⟩))) u) :
    anyH P .any l.toArray C n (tailC P Q l n) 2 listed a w := by
  obtain ⟨hc1, hc2, hc3, hc4⟩ := hc
  obtain ⟨ha1, ha2, ha3, ha4⟩ := ha
  obtain ⟨n1, m1⟩ := ne
  have st : ∀ u : World, w.heap.size ≤ u.heap.size → Below w.heap.size w u → Below w.heap.size w (u.alloc (.cells z t)) := fun u hs hu => hu.alloc hs _
  refine twoH ic ia r0 ⟨hc4, ha4⟩ ?_ ?_
  · refine stepH_call hc1 (wanted_none hc2 _) (run w) ((con w (Below.refl _ _)).mono fun e u ⟨p, he, hp, hu⟩ => ⟨_, he, hCB u hu, ?_⟩)
    rw [hc3]
    refine oneH _ _ ⟨ha1, ha4⟩ r2 (wanted_none ha2 _) (exa _ u) (hCB _ (st u hu.size hu)) ?_
    rw [ha3]
    exact K p _ w u _ (Below.refl _ _) hp hu ((Below.refl _ _).alloc (Nat.le_refl _) _) (.inr (Nat.le_refl _)) (heap_alloc_new u _) hu.size (st u hu.size hu)
  · have hw0 := st w (Nat.le_refl _) (Below.refl _ _)
    refine stepH_value _ _ ha1 (wanted_none ha2 _) (exa _ w) ⟨hCB _ hw0, ?_⟩
    rw [ha3]
    refine callH ⟨hc1, hc4⟩ r1 (wanted_none hc2 _) (run' _ _) ((con _ hw0).mono fun e u ⟨p, he, hp, hu⟩ => ?_)
    have hbu : Below w.heap.size w u := hw0.trans (hu.mono (by simp))
    refine ⟨_, he, hCB u hbu, ?_⟩
    rw [hc3]
    have hk := K p w.heap.size _ u u hw0 hp hu (Below.refl _ _) (.inl (by simp)) ((hu.block _ (by simp)).trans (heap_alloc_new w _)) (Nat.le_refl _) hbu
    rw [Array.setIfInBounds_comm _ _ (Ne.symm m1)]
    rw [Act.put_comm (a := a) _ _ (fun d hd => by cases hd; simpa using n1)]
    exact hk
end

end Go.Proofs.YtndacfockllehaaGreat

/-
  A contract of the model's l31Asks: what is asked of each station that has any of a want, in memory of its own.
-/
namespace Go.Proofs.YtndacfockllehaaGreat
open Go.RowKit

set_option maxRecDepth 100000 in
set_option maxHeartbeats 8000000 in
theorem asksS_any (B : Nat) (S : Nat → Prop) (v0 v1 v2 v3 : Value) (D : PD) (a : DClaimWant) (c : Nat → Value) (w : World) (h : PAt B w v0 v1 v2 v3 D) (hB : B ≤ w.heap.size) (hz : D.Sz) (hV : D.V) (ha : Lay.At S w a c) (hS : ∀ b, S b → b < w.heap.size) (hi : WIn D a) (hm : a.2.2.1.length ≤ 1048576 ∧ a.2.2.2.1.length ≤ 1048576 ∧ a.2.2.2.2.1.length ≤ 1048576 ∧ a.2.2.2.2.2.length ≤ 1048576) (hl : (stL true D).length ≤ 1048576) :
    Calls Tryz.prog 54 #[.agg #[v0, v1, v2, v3], .agg #[c 0, c 1, c 2, c 3, c 4, c 5]] w fun e w' => ∃ v, e = .returned v ∧ OnL (fun b => w.heap.size ≤ b ∧ b < w'.heap.size) w' (askL D a (stL true D)) v ∧ Below w.heap.size w w' := by
  have HAT : Hid (∀ w', Below w.heap.size w w' → Lay.At S w' a c) := fun w' hb => Lay.same ha (Same.of_below hb hS)
  have HM : Hid (a.2.2.1.length ≤ 1048576 ∧ a.2.2.2.1.length ≤ 1048576 ∧ a.2.2.2.2.1.length ≤ 1048576 ∧ a.2.2.2.2.2.length ≤ 1048576) := hm
  obtain ⟨hm2, hm3, hm4, hm5⟩ := hm
  obtain ⟨⟨e0, z0⟩, ⟨e1, z1⟩, H2, H3, H4, H5⟩ := at_DClaimWant.1 ha
  clear ha
  obtain ⟨o2, k2, e2, hr⟩ := id H2
  clear hr
  obtain ⟨n2, m2⟩ : ∃ n, a.2.2.1.length = n := ⟨_, rfl⟩
  rw [m2] at e2
  have l2 := hm2
  rw [m2] at l2
  obtain ⟨o3, k3, e3, hr⟩ := id H3
  clear hr
  obtain ⟨n3, m3⟩ : ∃ n, a.2.2.2.1.length = n := ⟨_, rfl⟩
  rw [m3] at e3
  have l3 := hm3
  rw [m3] at l3
  obtain ⟨o4, k4, e4, hr⟩ := id H4
  clear hr
  obtain ⟨n4, m4⟩ : ∃ n, a.2.2.2.2.1.length = n := ⟨_, rfl⟩
  rw [m4] at e4
  have l4 := hm4
  rw [m4] at l4
  obtain ⟨o5, k5, e5, hr⟩ := id H5
  clear hr
  obtain ⟨n5, m5⟩ : ∃ n, a.2.2.2.2.2.length = n := ⟨_, rfl⟩
  rw [m5] at e5
  have l5 := hm5
  rw [m5] at l5
  have hn3 : n3 ≤ 1048576 := by omega
  have hn4 : n4 ≤ 1048576 := by omega
  have hn5 : n5 ≤ 1048576 := by omega
  have EC : Hid (c 0 = .int .i64 a.1 ∧ c 1 = .int .i64 a.2.1 ∧ c 2 = .slice o2 n2 k2 ∧ c 3 = .slice o3 n3 k3 ∧ c 4 = .slice o4 n4 k4 ∧ c 5 = .slice o5 n5 k5) := ⟨e0, e1, e2, e3, e4, e5⟩
  have L3 : Hid (a.2.2.2.1.length = n3) := m3
  have L4 : Hid (a.2.2.2.2.1.length = n4) := m4
  have L5 : Hid (a.2.2.2.2.2.length = n5) := m5
  rw [e0, e1, e2, e3, e4, e5]
  clear e0 e1 e2 e3 e4 e5 H2 H3 H4 H5 hm2 hm3 hm4 hm5 l2 l3 l4 l5 m2 m3 m4 m5 z0 z1
  have H : Hid (∀ w', Below w.heap.size w w' → PAt B w' v0 v1 v2 v3 D) := fun w' hb => h.kept hb hB
  clear h
  have HI : Hid (WIn D a) := hi
  have HV : Hid D.V := hV
  clear hi hV
  obtain ⟨W, hW⟩ : ∃ W, W = ((w.alloc (.cells #[v0, v1, v2, v3] 40)).alloc (.cells #[.int .i64 a.1, .int .i64 a.2.1, .slice o2 n2 k2, .slice o3 n3 k3, .slice o4 n4 k4, .slice o5 n5 k5] 68)).alloc (.cells #[] 70) := ⟨_, rfl⟩
  have HW : Hid (W = ((w.alloc (.cells #[v0, v1, v2, v3] 40)).alloc (.cells #[.int .i64 a.1, .int .i64 a.2.1, .slice o2 n2 k2, .slice o3 n3 k3, .slice o4 n4 k4, .slice o5 n5 k5] 68)).alloc (.cells #[] 70)) := hW
  have BW : Hid (Below w.heap.size w W) := by rw [hW]; exact (((Below.refl _ _).alloc (Nat.le_refl _) _).alloc (by simp) _).alloc (by simp; omega) _
  have sW : W.heap.size = w.heap.size + 1 + 1 + 1 := by rw [hW]; simp
  have X0 : Hid (W.heap[w.heap.size]? = some (.cells #[v0, v1, v2, v3] 40 (0, 0))) := by rw [hW]; exact ((Below.heap_alloc _ _ _ (by simp; omega)).trans (Below.heap_alloc _ _ _ (by simp))).trans (heap_alloc_new w _)
  have V0 : Hid (W.heap[w.heap.size + 1]? = some (.cells #[.int .i64 a.1, .int .i64 a.2.1, .slice o2 n2 k2, .slice o3 n3 k3, .slice o4 n4 k4, .slice o5 n5 k5] 68 (0, 0))) := by rw [hW]; refine (Below.heap_alloc _ _ _ (by simp)).trans ?_; have := heap_alloc_new (w.alloc (.cells #[v0, v1, v2, v3] 40)) (.cells #[.int .i64 a.1, .int .i64 a.2.1, .slice o2 n2 k2, .slice o3 n3 k3, .slice o4 n4 k4, .slice o5 n5 k5] 68); rw [World.size_alloc] at this; exact this
  have R0 : Hid (W.ownsRow (w.heap.size + 1 + 1) 70 7 (.slice (some ⟨w.heap.size + 1 + 1, 0, none⟩) 0 0) 0 []) := by rw [hW]; have := Row.made ((w.alloc (.cells #[v0, v1, v2, v3] 40)).alloc (.cells #[.int .i64 a.1, .int .i64 a.2.1, .slice o2 n2 k2, .slice o3 n3 k3, .slice o4 n4 k4, .slice o5 n5 k5] 68)) (B := w.heap.size + 1 + 1) 70 7 (fun (_ : Nat) (_ : Nat) => (.bool false : Value)) (by simp); simpa [Row, enc, Hid] using this
  clear hW
  go_enter Tryz.func54, Tryz.ntmps54
  go_upto_region 2 with fail
  rw [← HW.out]
  clear HW
  have y0 := (cell_row X0.out 0 (v0) rfl).1
  have y1 := (cell_row X0.out 1 (v1) rfl).1
  have y2 := (cell_row X0.out 2 (v2) rfl).1
  have y3 := (cell_row X0.out 3 (v3) rfl).1
  go_wp2_with fail
  refine (stationsS_any B _ _ _ _ D W (H.out W BW.out) (by have := BW.out.size; omega) hz).mono ?_
  rintro e w1 ⟨sv, b, rfl, is, hst, hb1⟩
  obtain rfl : b = true := is.2 HV.out
  clear is y0 y1 y2 y3
  obtain ⟨sl, hsl⟩ : ∃ l, l = stL true D := ⟨_, rfl⟩
  rw [← hsl] at hst hl
  have HSL : Hid (sl = stL true D) := hsl
  obtain ⟨n, en⟩ : ∃ n, sl.length = n := ⟨_, rfl⟩
  obtain ⟨os, ks, rfl⟩ := ownsRow_shape hst
  have HS : Hid (Row w1 W.heap.size 9 1 eS (.slice os n ks) sl) := by show World.ownsRow _ _ _ _ _ _ _; rw [enc_S, ← en]; exact hst
  rw [en]
  have hn : n ≤ 1048576 := by omega
  clear hst hl
  have HZ : Hid (∀ y ∈ sl, y.size ≤ maxLen) := fun y hy => stL_size HV.out (hsl ▸ hy)
  clear hsl
  have EN : Hid (sl.length = n) := en
  clear en
  have B1 : Hid (Below w.heap.size w w1) := BW.out.trans (hb1.mono BW.out.size)
  have X1 : Hid (w1.heap[w.heap.size]? = some (.cells #[v0, v1, v2, v3] 40 (0, 0))) := box_stable hb1 X0.out
  have V1 : Hid (w1.heap[w.heap.size + 1]? = some (.cells #[.int .i64 a.1, .int .i64 a.2.1, .slice o2 n2 k2, .slice o3 n3 k3, .slice o4 n4 k4, .slice o5 n5 k5] 68 (0, 0))) := box_stable hb1 V0.out
  have R1 : Hid (w1.ownsRow (w.heap.size + 1 + 1) 70 7 (.slice (some ⟨w.heap.size + 1 + 1, 0, none⟩) 0 0) 0 []) := row_stable hb1 R0.out
  have s1 : w.heap.size + 1 + 1 + 1 ≤ w1.heap.size := by have := hb1.size; omega
  clear hb1 X0 V0 R0 BW
  go_wp2_with fail
  go_loopw [5, 7] (fun v i wr => ∃ (k : Nat) (xs : List Value), k ≤ n ∧ i = .int .i64 k ∧ (∃ ov kv, v = .slice ov (askL D a (sl.take k)).length kv) ∧ Hid (Bld (w.heap.size + 1 + 1) wr 70 v (askL D a (sl.take k)) xs) ∧ Hid (∀ g, v.ownBlock = some g → g = w.heap.size + 1 + 1 ∨ w1.heap.size ≤ g) ∧ Hid (But (fun b => b = w.heap.size + 1 + 1) w1 wr)) (fun _ i _ => n - (intOf i).toNat)
  case atStart => exact ⟨0, [], Nat.zero_le _, rfl, ⟨_, _, rfl⟩, ⟨R1.out, fun _ _ => False, fun _ _ h => h.elim, fun _ _ _ h => h.elim, fun _ hi => absurd hi (Nat.not_lt_zero _)⟩, fun g hg => .inl (by cases hg; rfl), But.refl _ _⟩
  case round =>
    obtain ⟨k, xs, hk, rfl, ⟨ov, kv, rfl⟩, hB1, hP, hN⟩ := hrel
    have hNs := hN.out.size
    have bwr : Hid (Below w.heap.size w wr) := B1.out.trans (hN.out.below (B := w.heap.size) (fun b hb => by omega) (by omega))
    by_cases hlt : k < n
    · have hA : Hid (wr.heap[w.heap.size]? = some (.cells #[v0, v1, v2, v3] 40 (0, 0))) := (hN.out.block w.heap.size (by omega) (by omega)).trans X1.out
      have hVx : Hid (wr.heap[w.heap.size + 1]? = some (.cells #[.int .i64 a.1, .int .i64 a.2.1, .slice o2 n2 k2, .slice o3 n3 k3, .slice o4 n4 k4, .slice o5 n5 k5] 68 (0, 0))) := (hN.out.block (w.heap.size + 1) (by omega) (by omega)).trans V1.out
      have HSr : Row wr W.heap.size 9 1 eS (.slice os n ks) sl := ownsRow_kept HS.out (fun g hg => hN.out.block g (World.ownsRow.lt HS.out g hg).2 (by have := (World.ownsRow.lt HS.out g hg).1; omega))
      obtain ⟨sg, sc, ev, hsg, hsl, hcell⟩ := Row.cell HSr (i := k) (by rw [EN.out]; exact hlt)
      have eo : os = some ⟨sg, 0, none⟩ := by injection ev
      subst eo
      clear ev
      have es := (hcell 0 (by omega)).1
      obtain ⟨y, ey⟩ : ∃ y, sl[k]'(by rw [EN.out]; exact hlt) = y := ⟨_, rfl⟩
      have hy : Hid (y.size ≤ maxLen) := HZ.out y (ey ▸ List.getElem_mem _)
      have htk : Hid (sl.take (k + 1) = sl.take k ++ [y]) := by
        show _ = _
        rw [List.take_add_one, List.getElem?_eq_getElem (by rw [EN.out]; exact hlt), ey]; rfl
      rw [ey, Nat.mul_one, Nat.add_zero] at es
      have ES : Hid (∀ v, Below wr.heap.size wr v → v.cell? ⟨sg, k, none⟩ = some (.string y)) := fun v hv => (hv.cell (p := ⟨sg, k, none⟩) hsl).trans es
      clear hcell ey
      go_upto_region 6 with fail
      clear es
      have HDP : Hid (wr.drew.heap[w.heap.size]? = some (.cells #[v0, v1, v2, v3] 40 (0, 0))) := hA.out
      have HDX : Hid (wr.drew.heap[w.heap.size + 1]? = some (.cells #[.int .i64 a.1, .int .i64 a.2.1, .slice o2 n2 k2, .slice o3 n3 k3, .slice o4 n4 k4, .slice o5 n5 k5] 68 (0, 0))) := hVx.out
      have hdr : Hid (Below wr.heap.size wr wr.drew) := (Below.refl _ _).drew
      refine wp_region_movesC (fun v => Below wr.drew.heap.size wr.drew v) 8 [1, 2] (by kernel_rfl) (by kernel_rfl) (Below.refl _ _) ?_
      simp only [List.filterMap_cons, List.filterMap_nil, List.getElem?_cons_succ, List.getElem?_cons_zero, movD, mvOf, Act.put]
      refine takeHQ (f := 5) (i := 0) (.agg #[v0, v1, v2, v3]) ⟨rfl, rfl⟩ (by kernel_rfl) rfl (Below.refl _ _) ?r0 ?_
      case r0 => intro v hv; have k0 := (cell_row (box_stable hv HDP.out) 0 _ rfl).1; have k1 := (cell_row (box_stable hv HDP.out) 1 _ rfl).1; have k2 := (cell_row (box_stable hv HDP.out) 2 _ rfl).1; have k3 := (cell_row (box_stable hv HDP.out) 3 _ rfl).1; go_simp
      simp only [Act.put, List.setIfInBounds_toArray, List.set_cons_zero, List.set_cons_succ]
      refine takeHQ (f := 4) (i := 3) (.pointer (some ⟨sg, k, none⟩)) ⟨rfl, rfl⟩ (by kernel_rfl) rfl (Below.refl _ _) ?r3 ?_
      case r3 => intro v hv; go_simp
      simp only [Act.put, List.setIfInBounds_toArray, List.set_cons_zero, List.set_cons_succ]
      refine takeHQ (f := 3) (i := 4) (.string y) ⟨rfl, rfl⟩ (by kernel_rfl) rfl (Below.refl _ _) ?r4 ?_
      case r4 => intro v hv; have k0 := ES.out v (hdr.out.trans hv); go_simp
      simp only [Act.put, List.setIfInBounds_toArray, List.set_cons_zero, List.set_cons_succ]
      refine takeHQ (f := 2) (i := 5) (.agg #[.int .i64 a.1, .int .i64 a.2.1, .slice o2 n2 k2, .slice o3 n3 k3, .slice o4 n4 k4, .slice o5 n5 k5]) ⟨rfl, rfl⟩ (by kernel_rfl) rfl (Below.refl _ _) ?r5 ?_
      case r5 => intro v hv; have k0' := (cell_row (box_stable hv HDX.out) 0 _ rfl).1; have k1' := (cell_row (box_stable hv HDX.out) 1 _ rfl).1; have k2' := (cell_row (box_stable hv HDX.out) 2 _ rfl).1; have k3' := (cell_row (box_stable hv HDX.out) 3 _ rfl).1; have k4' := (cell_row (box_stable hv HDX.out) 4 _ rfl).1; have k5' := (cell_row (box_stable hv HDX.out) 5 _ rfl).1; go_simp
      simp only [Act.put, List.setIfInBounds_toArray, List.set_cons_zero, List.set_cons_succ]
      refine callAlloc (ic := 6) (ia := 7) (dc := 24) (da := 8) (fn := 77) (args := #[.agg #[v0, v1, v2, v3], .string y, .agg #[.int .i64 a.1, .int .i64 a.2.1, .slice o2 n2 k2, .slice o3 n3 k3, .slice o4 n4 k4, .slice o5 n5 k5]]) #[.int .i64 0, .int .i64 0, .slice none 0 0, .slice none 0 0, .slice none 0 0, .slice none 0 0] 68 (fun v u u' => ∃ g : Nat → Value, v = .agg #[g 0, g 1, g 2, g 3, g 4, g 5] ∧ Own.On (fun b => u.heap.size ≤ b ∧ b < u'.heap.size) u' (ofD D y a) g) ⟨rfl, rfl, rfl, by decide⟩ ⟨rfl, rfl, rfl, by decide⟩ ⟨by decide, by decide⟩ (by kernel_rfl) (by kernel_rfl) (by kernel_rfl) (fun u hu => hu) ?run ?run2 ?con ?exa ?K
      case run => intro u; go_simp
      case run2 => intro v u; go_simp
      case con =>
        intro u hu
        have bu : Below w.heap.size w u := bwr.out.trans ((hdr.out.trans hu).mono bwr.out.size)
        have hc := ofS_any B S v0 v1 v2 v3 D y a c u (H.out u bu) (Nat.le_trans hB bu.size) (HAT.out u bu) (fun b hb => Nat.lt_of_lt_of_le (hS b hb) bu.size) HI.out HM.out
        rw [EC.out.1, EC.out.2.1, EC.out.2.2.1, EC.out.2.2.2.1, EC.out.2.2.2.2.1, EC.out.2.2.2.2.2] at hc
        exact hc.mono (fun e u' ⟨g, he, hon, hb⟩ => ⟨_, he, ⟨g, rfl, hon⟩, hb⟩)
      case exa => intro b u; go_simp
      case K =>
        intro v pB u1 u2 u hb1 hp hb2 hb3 hne hbox hpl hbu
        obtain ⟨g, rfl, hon⟩ := hp
        have HON : Hid (Own.On _ u2 (ofD D y a) g) := hon
        obtain ⟨_, _, _, _, ⟨g0, _⟩, _, _, _, _, ⟨g1, _⟩, _, _, _, _, ⟨p2, q2, g2, _⟩, _, _, _, _, ⟨p3, q3, g3, _⟩, _, _, _, _, ⟨p4, q4, g4, _⟩, ⟨p5, q5, g5, _⟩⟩ := on_DClaimWant.1 hon
        clear hon
        have E3 : Hid ((ofD D y a).2.2.2.1.length ≤ 1048576) := Nat.le_trans (usL_len D y _) (by rw [L3.out]; exact hn3)
        have E4 : Hid ((ofD D y a).2.2.2.2.1.length ≤ 1048576) := Nat.le_trans (opL_len D y _) (by rw [L4.out]; exact hn4)
        have E5 : Hid ((ofD D y a).2.2.2.2.2.length ≤ 1048576) := Nat.le_trans (opL_len D y _) (by rw [L5.out]; exact hn5)
        have A0 : Hid (askN (ofD D y a) = (ofD D y a).2.2.2.1.length + (ofD D y a).2.2.2.2.1.length + (ofD D y a).2.2.2.2.2.length) := rfl
        obtain ⟨x2, hx2⟩ : ∃ x, (ofD D y a).2.2.1.length = x := ⟨_, rfl⟩
        rw [hx2] at g2
        obtain ⟨x3, hx3⟩ : ∃ x, (ofD D y a).2.2.2.1.length = x := ⟨_, rfl⟩
        rw [hx3] at g3 A0 E3
        obtain ⟨x4, hx4⟩ : ∃ x, (ofD D y a).2.2.2.2.1.length = x := ⟨_, rfl⟩
        rw [hx4] at g4 A0 E4
        obtain ⟨x5, hx5⟩ : ∃ x, (ofD D y a).2.2.2.2.2.length = x := ⟨_, rfl⟩
        rw [hx5] at g5 A0 E5
        have g0 : g 0 = .int .i64 a.1 := g0
        have g1 : g 1 = .int .i64 a.2.1 := g1
        rw [g0, g1, g2, g3, g4, g5]
        have GE : Hid (g 0 = .int .i64 a.1 ∧ g 1 = .int .i64 a.2.1 ∧ g 2 = .slice p2 x2 q2 ∧ g 3 = .slice p3 x3 q3 ∧ g 4 = .slice p4 x4 q4 ∧ g 5 = .slice p5 x5 q5) := ⟨g0, g1, g2, g3, g4, g5⟩
        clear g0 g1 g2 g3 g4 g5 hx2 hx3 hx4 hx5
        refine ⟨by kernel_rfl, ?_⟩
        simp only [Act.put, List.setIfInBounds_toArray, List.set_cons_zero, List.set_cons_succ, List.drop_succ_cons, List.drop_zero]
        obtain ⟨l0, f0⟩ := cell_row hbox 0 (.int .i64 0) rfl
        obtain ⟨l1, f1⟩ := cell_row hbox 1 (.int .i64 0) rfl
        obtain ⟨l2, f2⟩ := cell_row hbox 2 (.slice none 0 0) rfl
        obtain ⟨l3, f3⟩ := cell_row hbox 3 (.slice none 0 0) rfl
        obtain ⟨l4, f4⟩ := cell_row hbox 4 (.slice none 0 0) rfl
        obtain ⟨l5, f5⟩ := cell_row hbox 5 (.slice none 0 0) rfl
        obtain ⟨F0, F1, F2, F3⟩ := ret_6 hbox (.int .i64 a.1) (.int .i64 a.2.1) (.slice p2 x2 q2) (.slice p3 x3 q3) (.slice p4 x4 q4) (.slice p5 x5 q5)
        have hpb : pB < u.heap.size := (Array.getElem?_eq_some_iff.1 hbox).1
        go_upto_region 7 with fail
        clear l0 l1 l2 l3 l4 l5 f0 f1 f2 f3 f4 f5
        have hpl2 : wr.heap.size ≤ pB := hpl
        have bU : Hid (Below wr.heap.size wr ((((((u.setCell ⟨pB, 0, none⟩ (.int .i64 a.1)).setCell ⟨pB, 1, none⟩ (.int .i64 a.2.1)).setCell ⟨pB, 2, none⟩ (.slice p2 x2 q2)).setCell ⟨pB, 3, none⟩ (.slice p3 x3 q3)).setCell ⟨pB, 4, none⟩ (.slice p4 x4 q4)).setCell ⟨pB, 5, none⟩ (.slice p5 x5 q5))) := (hdr.out.trans hbu).trans (F3.mono hpl)
        have G2 : Hid (((((((u.setCell ⟨pB, 0, none⟩ (.int .i64 a.1)).setCell ⟨pB, 1, none⟩ (.int .i64 a.2.1)).setCell ⟨pB, 2, none⟩ (.slice p2 x2 q2)).setCell ⟨pB, 3, none⟩ (.slice p3 x3 q3)).setCell ⟨pB, 4, none⟩ (.slice p4 x4 q4)).setCell ⟨pB, 5, none⟩ (.slice p5 x5 q5)).heap[pB]? = some (.cells #[.int .i64 a.1, .int .i64 a.2.1, .slice p2 x2 q2, .slice p3 x3 q3, .slice p4 x4 q4, .slice p5 x5 q5] 68 (0, 0))) := F0
        have ONU : Hid (Own.On (fun b => wr.heap.size ≤ b ∧ b < ((((((u.setCell ⟨pB, 0, none⟩ (.int .i64 a.1)).setCell ⟨pB, 1, none⟩ (.int .i64 a.2.1)).setCell ⟨pB, 2, none⟩ (.slice p2 x2 q2)).setCell ⟨pB, 3, none⟩ (.slice p3 x3 q3)).setCell ⟨pB, 4, none⟩ (.slice p4 x4 q4)).setCell ⟨pB, 5, none⟩ (.slice p5 x5 q5)).heap.size) ((((((u.setCell ⟨pB, 0, none⟩ (.int .i64 a.1)).setCell ⟨pB, 1, none⟩ (.int .i64 a.2.1)).setCell ⟨pB, 2, none⟩ (.slice p2 x2 q2)).setCell ⟨pB, 3, none⟩ (.slice p3 x3 q3)).setCell ⟨pB, 4, none⟩ (.slice p4 x4 q4)).setCell ⟨pB, 5, none⟩ (.slice p5 x5 q5)) (ofD D y a) g) := Own.on_up (Own.on_same HON.out (fun b hb => (F1 b (by have := hb.1; have := hb.2; omega)).trans (hb3.block b hb.2))) (fun b hb => ⟨by have : wr.heap.size ≤ u1.heap.size := (hdr.out.trans hb1).size; have := hb.1; omega, by rw [F2]; have := hb3.size; have := hb.2; omega⟩)
        have hpu : pB < ((((((u.setCell ⟨pB, 0, none⟩ (.int .i64 a.1)).setCell ⟨pB, 1, none⟩ (.int .i64 a.2.1)).setCell ⟨pB, 2, none⟩ (.slice p2 x2 q2)).setCell ⟨pB, 3, none⟩ (.slice p3 x3 q3)).setCell ⟨pB, 4, none⟩ (.slice p4 x4 q4)).setCell ⟨pB, 5, none⟩ (.slice p5 x5 q5)).heap.size := by rw [F2]; exact hpb
        generalize ((((((u.setCell ⟨pB, 0, none⟩ (.int .i64 a.1)).setCell ⟨pB, 1, none⟩ (.int .i64 a.2.1)).setCell ⟨pB, 2, none⟩ (.slice p2 x2 q2)).setCell ⟨pB, 3, none⟩ (.slice p3 x3 q3)).setCell ⟨pB, 4, none⟩ (.slice p4 x4 q4)).setCell ⟨pB, 5, none⟩ (.slice p5 x5 q5)) = U at bU G2 ONU hpu ⊢
        clear F0 F1 F2 F3 hbox hb1 hb2 hb3 hne hbu hpl HON hpb
        have sU := bU.out.size
        have hT : Hid (w.heap.size + 1 + 1 ≤ wr.heap.size) := by show _ ≤ _; omega
        have c3 := (cell_row G2.out 3 (.slice p3 x3 q3) rfl).1
        have c4 := (cell_row G2.out 4 (.slice p4 x4 q4) rfl).1
        have c5 := (cell_row G2.out 5 (.slice p5 x5 q5) rfl).1
        have e3 : x3 ≤ 1048576 := E3.out
        have e4 : x4 ≤ 1048576 := E4.out
        have e5 : x5 ≤ 1048576 := E5.out
        by_cases hpos : 0 < x3 + x4 + x5
        · have hyes : 0 < askN (ofD D y a) := by rw [A0.out]; exact hpos
          have hll : (askL D a (sl.take k)).length ≤ k := Nat.le_trans (askL_len D a _) (by rw [List.length_take]; omega)
          have d0 := (cell_row G2.out 0 (.int .i64 a.1) rfl).1
          have d1 := (cell_row G2.out 1 (.int .i64 a.2.1) rfl).1
          have d2 := (cell_row G2.out 2 (.slice p2 x2 q2) rfl).1
          have d3 := (cell_row G2.out 3 (.slice p3 x3 q3) rfl).1
          have d4 := (cell_row G2.out 4 (.slice p4 x4 q4) rfl).1
          have d5 := (cell_row G2.out 5 (.slice p5 x5 q5) rfl).1
          have es := ES.out U bU.out
          go_upto_region 8 with fail
          clear c3 c4 c5
          have q_es := fun d os => cell_regrown es d os
          have q_d0 := fun d os => cell_regrown d0 d os
          have q_d1 := fun d os => cell_regrown d1 d os
          have q_d2 := fun d os => cell_regrown d2 d os
          have q_d3 := fun d os => cell_regrown d3 d os
          have q_d4 := fun d os => cell_regrown d4 d os
          have q_d5 := fun d os => cell_regrown d5 d os
          have hdu : Hid (Below U.heap.size U U.drew) := (Below.refl _ _).drew
          refine wp_region_mix 8 [0, 1, 2, 3, 4, 5] (by kernel_rfl) (by kernel_rfl) ?_
          simp only [List.filterMap_cons, List.filterMap_nil, List.getElem?_cons_succ, List.getElem?_cons_zero]
          repeat (first | go_big_quiet_step (fail) | quiet_step (fail))
          refine wpQuiet_nil ?_
          clear es q_es d0 q_d0 d1 q_d1 d2 q_d2 d3 q_d3 d4 q_d4 d5 q_d5
          obtain ⟨wd, hwd⟩ : ∃ V, V = U.drew := ⟨_, rfl⟩
          have BD : Hid (Below U.heap.size U wd) := by rw [hwd]; exact hdu.out
          rw [← hwd]
          clear hwd
          have sd := BD.out.size
          obtain ⟨ua, hua⟩ : ∃ V, V = wd.alloc (.cells #[.string y, .int .i64 a.1, .int .i64 a.2.1, .slice p2 x2 q2, .slice p3 x3 q3, .slice p4 x4 q4, .slice p5 x5 q5] 70) := ⟨_, rfl⟩
          have HUA : Hid (ua = wd.alloc (.cells #[.string y, .int .i64 a.1, .int .i64 a.2.1, .slice p2 x2 q2, .slice p3 x3 q3, .slice p4 x4 q4, .slice p5 x5 q5] 70)) := hua
          have sua : ua.heap.size ≤ wd.heap.size + 1 ∧ wd.heap.size + 1 ≤ ua.heap.size := by rw [hua]; simp
          have BAU : Hid (Below U.heap.size U ua) := by rw [hua]; exact BD.out.alloc sd _
          have BA : Hid (Below wr.heap.size wr ua) := bU.out.trans (BAU.out.mono sU)
          have HSRC : Hid (Src ua (.slice (some ⟨wd.heap.size, 0, none⟩) 1 1) 1 7 (#[.string y, .int .i64 a.1, .int .i64 a.2.1, .slice p2 x2 q2, .slice p3 x3 q3, .slice p4 x4 q4, .slice p5 x5 q5] : Array Value).toList) := by
            have h1 : ua.ownsRow 0 70 7 (.slice (some ⟨wd.heap.size, 0, none⟩) 1 1) 1 (#[.string y, .int .i64 a.1, .int .i64 a.2.1, .slice p2 x2 q2, .slice p3 x3 q3, .slice p4 x4 q4, .slice p5 x5 q5] : Array Value).toList := by
              rw [hua]; exact own_built (Nat.zero_le _) (by unfold maxLen; omega) rfl
            exact own_src h1
          have HOWN : Hid (ua.ownsRow (w.heap.size + 1 + 1) 70 7 (.slice ov (askL D a (sl.take k)).length kv) (askL D a (sl.take k)).length xs) := row_stable BA.out hB1.out.row
          have HONE : Hid (∀ z ∈ (#[.string y, .int .i64 a.1, .int .i64 a.2.1, .slice p2 x2 q2, .slice p3 x3 q3, .slice p4 x4 q4, .slice p5 x5 q5] : Array Value).toList, z.oneCell' = true) := by intro z hz; simp at hz; rcases hz with rfl | rfl | rfl | rfl | rfl | rfl | rfl <;> rfl
          clear hua
          refine anyC_step (f := 1) [6] (by kernel_rfl) (by simp) (one_list ⟨by decide, _, rfl, rfl, .agg #[.string y, .int .i64 a.1, .int .i64 a.2.1, .slice p2 x2 q2, .slice p3 x3 q3, .slice p4 x4 q4, .slice p5 x5 q5], wd, ?runa, regrown_of_below BD.out, ?_⟩)
          case runa => go_simp
          refine anyC_step (f := 0) [7] (by kernel_rfl) (by simp) (one_list ⟨by decide, _, rfl, rfl, .slice (some ⟨wd.heap.size, 0, none⟩) 1 1, wd.alloc (.cells #[.string y, .int .i64 a.1, .int .i64 a.2.1, .slice p2 x2 q2, .slice p3 x3 q3, .slice p4 x4 q4, .slice p5 x5 q5] 70), ?runb, regrown_of_below (by have := BAU.out; rw [HUA.out] at this; exact this), ?_⟩)
          case runb => go_simp
          refine ⟨by kernel_rfl, ?_⟩
          simp only [List.drop_succ_cons, List.drop_zero]
          rw [← HUA.out]
          go_wp2_with (first
            | (at_builtin; refine wpList_app elA rfl _ _ rfl rfl rfl HOWN.out HSRC.out HONE.out (by unfold maxLen; omega) (by omega) (by omega) ?_; intro v' u8 hown hgr hbk; obtain ⟨ov', kv', rfl⟩ := ownsRow_shape hown))
          have ONA : Own.On (fun b => wr.heap.size ≤ b ∧ b < ua.heap.size) ua ((y, ofD D y a) : DCtlAsk) (cs (#[.string y, .int .i64 a.1, .int .i64 a.2.1, .slice p2 x2 q2, .slice p3 x3 q3, .slice p4 x4 q4, .slice p5 x5 q5] : Array Value).toList) := ask_on hy.out (Own.on_up (Own.on_same ONU.out (Same.of_below BAU.out (fun b hb => hb.2))) (fun b hb => ⟨hb.1, by have := hb.2; omega⟩)) GE.out.1 GE.out.2.1 GE.out.2.2.1 GE.out.2.2.2.1 GE.out.2.2.2.2.1 GE.out.2.2.2.2.2
          have PUSH := Bld.push hB1.out hT.out BA.out ONA hgr hown (fun j hj => by have hj : j < 7 := hj; rcases (show j = 0 ∨ j = 1 ∨ j = 2 ∨ j = 3 ∨ j = 4 ∨ j = 5 ∨ j = 6 by omega) with rfl | rfl | rfl | rfl | rfl | rfl | rfl <;> rfl) hbk
          have hlen : (askL D a (sl.take (k + 1))).length = (askL D a (sl.take k)).length + 1 := by rw [htk.out, askL_yes hyes, List.length_append]; rfl
          have HP2 : Hid (∀ g, (Value.slice ov' ((askL D a (sl.take k)).length + 1) kv').ownBlock = some g → g = w.heap.size + 1 + 1 ∨ w1.heap.size ≤ g) := fun g hg => by
            rcases hbk with e | e
            · exact hP.out g (e.symm.trans hg)
            · rw [e] at hg; cases hg; exact .inr (by omega)
          have HN2 : Hid (But (fun b => b = w.heap.size + 1 + 1) w1 u8) := (hN.out.trans (But.of_below BA.out)).grownS hgr (fun q hq => hP.out q hq)
          have HB2 : Hid (Bld (w.heap.size + 1 + 1) u8 70 (.slice ov' ((askL D a (sl.take k)).length + 1) kv') (askL D a (sl.take (k + 1))) (xs ++ (#[.string y, .int .i64 a.1, .int .i64 a.2.1, .slice p2 x2 q2, .slice p3 x3 q3, .slice p4 x4 q4, .slice p5 x5 q5] : Array Value).toList)) := by show Bld _ _ _ _ _ _; rw [htk.out, askL_yes hyes]; exact PUSH
          go_roundw
          case rel => exact ⟨k + 1, _, by omega, by go_num, ⟨ov', kv', by rw [hlen]⟩, HB2.out, HP2.out, HN2.out⟩
          case measure => simp [intOf]; omega
        · have hno : ¬ 0 < askN (ofD D y a) := by rw [A0.out]; omega
          go_wp2_with fail
          go_roundw
          case rel => exact ⟨k + 1, xs, by omega, by go_num, by rw [htk.out, askL_no hno]; exact ⟨_, _, rfl⟩, by show Bld _ _ _ _ _ _; rw [htk.out, askL_no hno]; exact hB1.out.same (fun b _ hb => bU.out.block b hb) bU.out.size, hP.out, hN.out.trans (But.of_below bU.out)⟩
          case measure => simp [intOf]; omega
    · have hkn : k = n := by omega
      have hB2 : Bld (w.heap.size + 1 + 1) wr 70 (.slice ov (askL D a (sl.take k)).length kv) (askL D a sl) xs := by have := hB1.out; rw [show sl.take k = sl from List.take_of_length_le (by rw [EN.out, hkn]; exact Nat.le_refl _)] at this ⊢; exact this
      go_wp2_with fail
      go_ret
      exact ⟨_, rfl, HSL.out ▸ (Bld.on hB2).up (fun b hb => ⟨by have := hb.1; omega, hb.2⟩), bwr.out⟩

end Go.Proofs.YtndacfockllehaaGreat

/-
  A contract of the model's l4Insert: into nothing, and into what may be nothing.
-/
namespace Go.Proofs.YtndacfockllehaaGreat
open Go.RowKit

open Go.Sort in
set_option maxRecDepth 100000 in
set_option maxHeartbeats 4000000 in
theorem insN_any (x : ByteArray) (w : World) :
    Calls Tryz.prog 53 #[.slice none 0 0, .string x] w fun e w' => ∃ g' cap', e = .returned (.slice (some ⟨g', 0, none⟩) (insR [] x).length cap') ∧ w'.ownsRow w.heap.size 9 1 (.slice (some ⟨g', 0, none⟩) (insR [] x).length cap') (insR [] x).length ((insR [] x).map .string) ∧ Below w.heap.size w w' := by
  obtain ⟨l, EL⟩ : ∃ l : List ByteArray, Hid (l = []) := ⟨[], rfl⟩
  rw [← show l = [] from EL.out]
  have HN : Hid (l.length = 0) := by show l.length = 0; rw [show l = [] from EL.out]; rfl
  obtain ⟨k, EK⟩ : ∃ k : Nat, Hid (k = 0) := ⟨0, rfl⟩
  obtain ⟨n, EM⟩ : ∃ n : Nat, Hid (n = 0) := ⟨0, rfl⟩
  have HS1 : Hid (Src w (.slice none 0 0) 0 1 ((l.take 0).map .string)) := by rw [show l = [] from EL.out]; exact own_src (World.ownsRow_nil w 0 9 1)
  have HS2 : Hid (Src w (.slice none 0 0) 0 1 ((l.drop 0).map .string)) := by rw [show l = [] from EL.out]; exact own_src (World.ownsRow_nil w 0 9 1)
  go_enter Tryz.func53, Tryz.ntmps53
  go_wp2
  go_loop [5] (fun i => i = .int .i64 0) (fun _ => 0)
  case atStart => exact rfl
  case round =>
    subst hrel
    have E : Hid (insR l x = l.take k ++ [x] ++ l.drop k) := by rw [show l = [] from EL.out, show k = 0 from EK.out]; rfl
    go_wp2_with fail
    refine wp_region_mix 12 [1, 2, 3, 5, 8, 9, 10] (by kernel_rfl) (by kernel_rfl) ?_
    simp only [List.filterMap_cons, List.filterMap_nil, List.getElem?_cons_succ, List.getElem?_cons_zero]
    repeat (first | go_big_quiet_step (fail) | quiet_step (fail))
    refine wpQuiet_nil ?_
    refine ins3 (md := .any) (i0 := 0) (i1 := 4) (i2 := 6) (i3 := 7) (i4 := 11) (d0 := 33) (d1 := 37) (d2 := 39) (d3 := 40) (d4 := 44) (k1 := 36) (k2 := 43) (kx := 38) (X := .string x) (t := 22) (e := 9)
      ⟨_, _, _, _, _, ⟨rfl, rfl, rfl, by decide⟩, ⟨rfl, rfl, rfl, by decide⟩, ⟨rfl, rfl, rfl, by decide⟩, ⟨rfl, rfl, rfl, by decide⟩, ⟨rfl, rfl, rfl, by decide⟩, rfl, rfl, rfl, ?run0, ?run2, by decide, by decide, by kernel_rfl, by kernel_rfl, by kernel_rfl, by kernel_rfl, by kernel_rfl, by kernel_rfl, by kernel_rfl⟩
      elS (W := w) ⟨by simp, by simp, by simp, by simp, by simp⟩ rfl rfl rfl HS1.out HS2.out rfl ?u1 ?u2 ?ux (by omega) (by unfold maxLen; omega) ?K
    case run0 => intro bb ww; go_simp
    case run2 =>
      intro bb hx ww
      have hx' : bb.tmps[38]?.getD undef = .string x := by simpa [Act.eval] using hx
      clear hx
      go_simp
    case u1 => intro v hv; obtain ⟨_, _, rfl⟩ := List.mem_map.1 hv; rfl
    case u2 => intro v hv; obtain ⟨_, _, rfl⟩ := List.mem_map.1 hv; rfl
    case ux => intro v hv; simp [Value.cells] at hv; subst hv; rfl
    case K =>
      intro r0 r1 r2 r3 r4 w4 hown hb4
      refine ⟨by kernel_rfl, ?_⟩
      simp only [List.drop_succ_cons, List.drop_zero]
      have hnk : 0 + 1 + 0 = (insR l x).length := by rw [E.out, show l = [] from EL.out]; simp
      have hcs : (l.take 0).map Value.string ++ (Value.string x).cells.toList ++ (l.drop 0).map Value.string = (insR l x).map .string := by rw [show l = [] from EL.out]; simp [Value.cells, insR]
      rw [hnk, hcs] at hown
      have HOW : Hid (w4.ownsRow w.heap.size 9 1 r4 (insR l x).length ((insR l x).map .string)) := hown
      have HPOS : Hid (0 < (insR l x).length) := by show 0 < _; omega
      clear hown hcs hnk
      simp only [Act.put, List.setIfInBounds_toArray, List.set_cons_zero, List.set_cons_succ]
      go_wp2_with fail
      all_goals
        go_ret
        rcases HOW.out.2 with ⟨_, e⟩ | ⟨g', cap', cur, rfl, hbg, rest⟩
        · have := HPOS.out; omega
        · exact ⟨g', cap', rfl, ⟨HOW.out.1, .inr ⟨g', cap', cur, rfl, by omega, rest⟩⟩, hb4⟩


end Go.Proofs.YtndacfockllehaaGreat
