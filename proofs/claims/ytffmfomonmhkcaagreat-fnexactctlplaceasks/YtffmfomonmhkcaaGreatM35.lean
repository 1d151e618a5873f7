/-
  Several texts in one.
-/
import Derived.Test.YtffmfomonmhkcaaGreatM32
import Derived.Test.YtffmfomonmhkcaaGreatM20
import Derived.Test.YtffmfomonmhkcaaGreatHi
/-
  A contract of the model's stations of a plant: all that it tells of stations, put in one by one, in memory of its own.
-/
namespace Go.Proofs.YtffmfomonmhkcaaGreat
open Go.RowKit

set_option maxRecDepth 100000 in
set_option maxHeartbeats 4000000 in
theorem stationsS_any (B : Nat) (v0 v1 v2 v3 : Value) (D : PD) (w : World) (h : PAt B w v0 v1 v2 v3 D) (hB : B ≤ w.heap.size) (hz : D.Sz) :
    Calls Tryz.prog 50 #[.agg #[v0, v1, v2, v3]] w fun e w' => ∃ v b, e = .returned v ∧ (b = true ↔ D.V) ∧ w'.ownsRow w.heap.size 9 1 v (stL b D).length ((stL b D).map .string) ∧ Below w.heap.size w w' := by
  have H : Hid (∀ w', Below w.heap.size w w' → PAt B w' v0 v1 v2 v3 D) := fun w' hb => h.kept hb hB
  clear h
  obtain ⟨W, hW⟩ : ∃ W, W = (w.alloc (.cells #[v0, v1, v2, v3] 36)).alloc (.cells #[] 9) := ⟨_, rfl⟩
  have sW : W.heap.size = w.heap.size + 2 := by rw [hW]; simp
  have kW : Hid (Below (w.heap.size + 1) W W) := Below.refl _ _
  have EW : Hid (W = (w.alloc (.cells #[v0, v1, v2, v3] 36)).alloc (.cells #[] 9)) := hW
  have OW : Hid (W.ownsRow (w.heap.size + 1) 9 1 (.slice (some ⟨w.heap.size + 1, 0, none⟩) 0 0) 0 []) := by
    rw [hW]
    have := World.ownsRow_made (base := w.heap.size + 1) (e := 9) (size := 1) (w.alloc (.cells #[v0, v1, v2, v3] 36)) #[] 0 (by simp) (Nat.zero_le _) rfl
    simpa [Hid] using this
  have bx : Hid (∀ w', Below (w.heap.size + 1) W w' → (w'.cell? ⟨w.heap.size, 0, none⟩ = some v0 ∧ w'.cell? ⟨w.heap.size, 1, none⟩ = some v1 ∧ w'.cell? ⟨w.heap.size, 2, none⟩ = some v2 ∧ w'.cell? ⟨w.heap.size, 3, none⟩ = some v3) ∧ Below w.heap.size w w') := fun w' hb => by
    rw [hW] at hb
    have hb' : Below (w.heap.size + 1) (w.alloc (.cells #[v0, v1, v2, v3] 36)) w' := ((Below.refl _ _).alloc (by simp) _).trans hb
    exact ⟨⟨box_in hb' 0 _ rfl, box_in hb' 1 _ rfl, box_in hb' 2 _ rfl, box_in hb' 3 _ rfl⟩, below_end hb'⟩
  clear hW
  go_enter Tryz.func50, Tryz.ntmps50
  go_upto_region 2 with fail
  rw [← EW.out]
  obtain ⟨⟨a0, a1, a2, a3⟩, hbw⟩ := bx.out W kW.out
  go_wp2_with fail
  refine (validS_any B v0 v1 v2 v3 D _ (H.out _ hbw) (by have := hbw.size; omega) hz).mono ?_; rintro e w1 ⟨b, rfl, is, hb1⟩
  have IS : Hid _ := is
  have k1 : Hid (Below (w.heap.size + 1) W w1) := kW.out.trans (hb1.mono (by omega))
  have O1 : Hid (w1.ownsRow (w.heap.size + 1) 9 1 (.slice (some ⟨w.heap.size + 1, 0, none⟩) 0 0) 0 []) := own_belowR OW.out hb1
  clear is hb1 a0 a1 a2 a3 hbw
  cases b
  · go_wp2_with fail
    go_ret
    exact ⟨_, false, rfl, IS.out, own_leR O1.out (by omega), (bx.out _ k1.out).2⟩
  · have HV : Hid D.V := by have := IS.out; simpa [Hid] using this
    have hnp : D.np ≤ 14 := HV.out.2.1.1
    have hnv : D.nv ≤ 18 := HV.out.2.2.1
    go_wp2_with fail
    go_loopw [3, 4] (fun v i wr => ∃ (q g cap : Nat), q ≤ D.np ∧ i = .int .i64 q ∧ v = .slice (some ⟨g, 0, none⟩) (insA (stnP D q)).length cap ∧ Hid (wr.ownsRow (w.heap.size + 1) 9 1 (.slice (some ⟨g, 0, none⟩) (insA (stnP D q)).length cap) (insA (stnP D q)).length ((insA (stnP D q)).map .string)) ∧ Hid (Below (w.heap.size + 1) W wr)) (fun _ i _ => D.np - (intOf i).toNat)
    case atStart => exact ⟨0, _, 0, Nat.zero_le _, rfl, rfl, by simpa [Hid, stnP, insA] using O1.out, k1⟩
    case round =>
      obtain ⟨q, g, cap, hq, rfl, rfl, hown, hbel⟩ := hrel
      obtain ⟨⟨a0, a1, a2, a3⟩, hbw⟩ := bx.out wr hbel.out
      have hsr : w.heap.size + 1 ≤ wr.heap.size := by have := hbel.out.size; omega
      have hlen := insA_len (stnP D q)
      rw [stnP_len] at hlen
      by_cases hlt : q < D.np
      · obtain ⟨op, cp, hv2, _, hcv⟩ := (H.out wr hbw).p
        obtain ⟨b, off, rfl, hbB, hcell⟩ := hcv q hlt
        have e2 : wr.cell? ⟨b, off + q * 3 + 2, none⟩ = some (.string (D.fp q).2.2) := hcell 2 (by omega)
        clear hcv hcell
        have HI : Hid (insR (insA (stnP D q)) (D.fp q).2.2 = insA (stnP D (q + 1))) := by show _ = _; rw [stnP_succ, insA_snoc]
        generalize insA (stnP D q) = l at hown hlen HI
        subst hv2
        go_wp2_with fail
        refine (insS_any (w.heap.size + 1) g cap l (D.fp q).2.2 wr hown.out (by omega) hsr).mono ?_; rintro e w2 ⟨g', cap', rfl, ho, hb2⟩
        rw [HI.out] at ho ⊢
        have HO : Hid (w2.ownsRow (w.heap.size + 1) 9 1 (.slice (some ⟨g', 0, none⟩) (insA (stnP D (q + 1))).length cap') (insA (stnP D (q + 1))).length ((insA (stnP D (q + 1))).map .string)) := ho
        have k2 : Hid (Below (w.heap.size + 1) W w2) := hbel.out.trans (hb2.mono hsr)
        clear ho hb2
        go_wp2_with fail
        go_roundw
        case rel => exact ⟨q + 1, g', cap', by omega, by go_num, rfl, HO, k2⟩
        case measure => simp [intOf]; omega
      · obtain rfl : q = D.np := by omega
        obtain ⟨op, cp, hv2, _, hcV⟩ := (H.out wr hbw).p
        clear hcV
        subst hv2
        go_wp2_with fail
        have O2 := hown
        have K2 := hbel
        clear hown hbel a0 a1 a2 a3 hbw hsr
        go_loopw [3, 5] (fun v i wr => ∃ (q g cap : Nat), q ≤ D.nv ∧ i = .int .i64 q ∧ v = .slice (some ⟨g, 0, none⟩) (insA (stnP D D.np ++ stnV D q)).length cap ∧ Hid (wr.ownsRow (w.heap.size + 1) 9 1 (.slice (some ⟨g, 0, none⟩) (insA (stnP D D.np ++ stnV D q)).length cap) (insA (stnP D D.np ++ stnV D q)).length ((insA (stnP D D.np ++ stnV D q)).map .string)) ∧ Hid (Below (w.heap.size + 1) W wr)) (fun _ i _ => D.nv - (intOf i).toNat)
        case atStart => exact ⟨0, g, cap, Nat.zero_le _, rfl, by simp [stnV], by simpa [Hid, stnV] using O2.out, K2⟩
        case round =>
          obtain ⟨q, g, cap, hq, rfl, rfl, hown, hbel⟩ := hrel
          obtain ⟨⟨a0, a1, a2, a3⟩, hbw⟩ := bx.out wr hbel.out
          have hsr : w.heap.size + 1 ≤ wr.heap.size := by have := hbel.out.size; omega
          have hlen2 := insA_len (stnP D D.np ++ stnV D q)
          rw [List.length_append, stnP_len, stnV_len] at hlen2
          by_cases hlt : q < D.nv
          · obtain ⟨op', cp', hv3, _, hcv⟩ := (H.out wr hbw).v
            obtain ⟨b, off, rfl, hbB, hcell⟩ := hcv q hlt
            have e3 : wr.cell? ⟨b, off + q * 4 + 3, none⟩ = some (.string (D.fv q).2.2.2) := hcell 3 (by omega)
            clear hcv hcell
            have HI : Hid (insR (insA (stnP D D.np ++ stnV D q)) (D.fv q).2.2.2 = insA (stnP D D.np ++ stnV D (q + 1))) := by show _ = _; rw [stnV_succ, ← List.append_assoc, insA_snoc]
            generalize insA (stnP D D.np ++ stnV D q) = l at hown hlen2 HI
            subst hv3
            go_wp2_with fail
            refine (insS_any (w.heap.size + 1) g cap l (D.fv q).2.2.2 wr hown.out (by omega) hsr).mono ?_; rintro e w2 ⟨g', cap', rfl, ho, hb2⟩
            rw [HI.out] at ho ⊢
            have HO : Hid (w2.ownsRow (w.heap.size + 1) 9 1 (.slice (some ⟨g', 0, none⟩) (insA (stnP D D.np ++ stnV D (q + 1))).length cap') (insA (stnP D D.np ++ stnV D (q + 1))).length ((insA (stnP D D.np ++ stnV D (q + 1))).map .string)) := ho
            have k2 : Hid (Below (w.heap.size + 1) W w2) := hbel.out.trans (hb2.mono hsr)
            clear ho hb2
            go_wp2_with fail
            go_roundw
            case rel => exact ⟨q + 1, g', cap', by omega, by go_num, rfl, HO, k2⟩
            case measure => simp [intOf]; omega
          · obtain rfl : q = D.nv := by omega
            obtain ⟨op', cp', hv3, _, hcV⟩ := (H.out wr hbw).v
            clear hcV
            subst hv3
            go_wp2_with fail
            go_ret
            exact ⟨_, true, rfl, by simpa using IS.out, own_leR hown.out (by omega), hbw⟩

end Go.Proofs.YtffmfomonmhkcaaGreat

/-
  A law for a call beside a box that is made meanwhile, in a region that draws its order: what the call makes and the box are two. No program is named here.
-/
namespace Go.Proofs.YtffmfomonmhkcaaGreat
open Go.RowKit Go.Sort

section
variable {P : Program}
theorem callAlloc {C : World → Prop} {Q : Exit → Act → World → Prop} {l : List Oper} {n : Nat} {listed : Array Bool} {ic ia dc da : Nat} {oc oa : Oper} {a : Act} {w : World} {fn : FuncId} {args : Array Value} (z : Array Value) (t : TypeId) (Post : Value → World → World → Prop)
    (hc : l.toArray[ic]? = some oc ∧ oc.guard = none ∧ oc.dst = some dc ∧ ic < n) (ha : l.toArray[ia]? = some oa ∧ oa.guard = none ∧ oa.dst = some da ∧ ia < n)
    (ne : dc ≠ da ∧ ic ≠ ia)
    (r0 : Region.ready .any l.toArray listed = [ic, ia]) (r1 : Region.ready .any l.toArray (listed.setIfInBounds ia true) = [ic]) (r2 : Region.ready .any l.toArray (listed.setIfInBounds ic true) = [ia])
    (hCB : ∀ u, Below w.heap.size w u → C u) (run : ∀ u, (execOp a.eval oc).run P u = .ok (.enter fn args) u) (run' : ∀ v u, (execOp (a.put (some da) v).eval oc).run P u = .ok (.enter fn args) u)
    (con : ∀ u, Below w.heap.size w u → Calls P fn args u fun e u' => ∃ v, e = .returned v ∧ Post v u u' ∧ Below u.heap.size u u')
    (exa : ∀ (b : Act) (u : World), (execOp b.eval oa).run P u = .ok (.value (.pointer (some ⟨u.heap.size, 0, none⟩))) (u.alloc (.cells z t)))
    (K : ∀ v pB u1 u2 u, Below w.heap.size w u1 → Post v u1 u2 → Below u1.heap.size u1 u2 → Below u2.heap.size u2 u → (pB < u1.heap.size ∨ u2.heap.size ≤ pB) → u.heap[pB]? = some (.cells z t (0, 0)) → w.heap.size ≤ pB → Below w.heap.size w u → tailC P Q l n ((listed.setIfInBounds ic true).setIfInBounds ia true) ((a.put (some dc) v).put (some da) (.pointer (some ⟨pB, 0, none⟩))) u) :
    anyH P .any l.toArray C n (tailC P Q l n) 2 listed a w := by
  obtain ⟨hc1, hc2, hc3, hc4⟩ := hc
  obtain ⟨ha1, ha2, ha3, ha4⟩ := ha
  obtain ⟨n1, m1⟩ := ne
  have st : ∀ u : World, w.heap.size ≤ u.heap.size → Below w.heap.size w u → Below w.heap.size w (u.alloc (.cells z t)) := fun u hs hu => hu.alloc hs _
  refine twoH ic ia r0 ⟨hc4, ha4⟩ ?_ ?_
  · refine stepH_call hc1 (wanted_none hc2 _) (run w) ((con w (Below.refl _ _)).mono fun e u ⟨p, he, hp, hu⟩ => ⟨_, he, hCB u hu, ?_⟩)
    rw [hc3]
    refine oneH _ _ ⟨ha1, ha4⟩ r2 (wanted_none ha2 _) (exa _ u) (hCB _ (st u hu.size hu)) ?_
    rw [ha3]
    exact K p _ w u _ (Below.refl _ _) hp hu ((Below.refl _ _).alloc (Nat.le_refl _) _) (.inr (Nat.le_refl _)) (heap_alloc_new u _) hu.size (st u hu.size hu)
  · have hw0 := st w (Nat.le_refl _) (Below.refl _ _)
    refine stepH_value _ _ ha1 (wanted_none ha2 _) (exa _ w) ⟨hCB _ hw0, ?_⟩
    rw [ha3]
    refine callH ⟨hc1, hc4⟩ r1 (wanted_none hc2 _) (run' _ _) ((con _ hw0).mono fun e u ⟨p, he, hp, hu⟩ => ?_)
    have hbu : Below w.heap.size w u := hw0.trans (hu.mono (by simp))
    refine ⟨_, he, hCB u hbu, ?_⟩
    rw [hc3]
    have hk := K p w.heap.size _ u u hw0 hp hu (Below.refl _ _) (.inl (by simp)) ((hu.block _ (by simp)).trans (heap_alloc_new w _)) (Nat.le_refl _) hbu
    rw [Array.setIfInBounds_comm _ _ (Ne.symm m1)]
    rw [Act.put_comm (a := a) _ _ (fun d hd => by cases hd; simpa using n1)]
    exact hk
end

end Go.Proofs.YtffmfomonmhkcaaGreat
