/-
  Somebody who shares goes, in a book of the call's own: the program's letLeave.
-/
import Derived.Test.YtidojjecjjochacGreatDoorZqd
import Derived.Test.YtidojjecjjochacGreatDoorM15
import Derived.Test.YtidojjecjjochacGreatDoorZpt
import Derived.Test.YtidojjecjjochacGreatDoorM9
namespace Go.Proofs.YtidojjecjjochacGreatDoor
open Go.RowKit Go.Sort

theorem eH_one (L : List HB) (h : ∀ x ∈ L, ∃ a b c a' b' c', x.2.1.1 = .slice a b c ∧ x.2.2.1 = .slice a' b' c') : ∀ u ∈ enc 3 eH L, u.oneCell' = true := fun u hu => by
  obtain ⟨x, hx, j, hj, rfl⟩ := enc_mem hu
  obtain ⟨a, b, c, a', b', c', e1, e2⟩ := h x hx
  match j, hj with
  | 0, _ => rfl
  | 1, _ => show x.2.1.1.oneCell' = true; rw [e1]; rfl
  | 2, _ => show x.2.2.1.oneCell' = true; rw [e2]; rfl
theorem BsO.one {B : Nat} {w : World} {v1 : Value} {L : List HB} (h : BsO B w v1 L) : ∀ u ∈ enc 3 eH L, u.oneCell' = true :=
  eH_one L fun x hx => by
    obtain ⟨a, b, e1⟩ := Row.form (h.el x hx).h
    obtain ⟨a', b', e2⟩ := Row.form (h.el x hx).n
    exact ⟨_, _, _, _, _, _, e1, e2⟩
theorem tyK_ne {w : World} {g : Nat} {c c' : Array Value} (h : w.heap[g]? = some (.cells c 30 (0, 0))) (h' : w.heap[g]? = some (.cells c' 45 (0, 0))) : False := by
  rw [h] at h'
  injection h' with h1
  injection h1 with _ h2
  revert h2
  decide
theorem tyKS_ne {w : World} {g : Nat} {c c' : Array Value} (h : w.heap[g]? = some (.cells c 30 (0, 0))) (h' : w.heap[g]? = some (.cells c' 9 (0, 0))) : False := by
  rw [h] at h'
  injection h' with h1
  injection h1 with _ h2
  revert h2
  decide
/-- The book in its box, when the list of batches alone, and the box, have turned. -/
theorem PkO.turn {B gb g : Nat} {w w2 : World} {v0 v1 v' : Value} {T : List ByteArray} {L L' : List HB} (h : PkO B w v0 v1 T L) (hbx : ∃ c, w.heap[gb]? = some (.cells c 30 (0, 0))) (hgt : ∃ c, w.heap[g]? = some (.cells c 45 (0, 0))) (hk : ∀ b, b < w.heap.size → b ≠ g → b ≠ gb → w2.heap[b]? = w.heap[b]?) (hr : Row w2 B 45 3 eH v' L') (hs : L'.Sublist L) : PkO B w2 v0 v' T L' := by
  obtain ⟨cb, hbx⟩ := hbx
  obtain ⟨cg, hgt⟩ := hgt
  have kp : ∀ (q : Nat) (c : Array Value), w.heap[q]? = some (.cells c 9 (0, 0)) → w2.heap[q]? = w.heap[q]? := fun q c hc => hk q (Array.getElem?_eq_some_iff.1 hc).1 (fun e => by subst e; exact tyS_ne hc hgt) (fun e => by subst e; exact tyKS_ne hbx hc)
  refine ⟨strRow_kept h.th kp, h.zt, ⟨hr, fun x hx => ((h.bs.el x (hs.subset hx)).kept kp)⟩, ?_⟩
  exact h.nd.sublist (List.Sublist.append (List.Sublist.refl _) (hdB_sub hs))

set_option maxRecDepth 100000 in
set_option maxHeartbeats 8000000 in
theorem letLv_any (B gb q : Nat) (v0 v1 : Value) (T : List ByteArray) (L : List HB) (x : ByteArray) (w : World) (hbx : w.heap[gb]? = some (.cells #[v0, v1] 30 (0, 0))) (hp : PkO B w v0 v1 T L) (hgb : B ≤ gb) (hq : atI (L.map dH) x = (q : Int)) (hql : q < L.length) (hL : L.length ≤ 64) :
    Calls Tryz.prog 49 #[.pointer (some ⟨gb, 0, none⟩), .agg #[.string x]] w fun e w' => e = .returned (.tuple #[]) ∧ ∃ v1', w'.heap[gb]? = some (.cells #[v0, v1'] 30 (0, 0)) ∧ PkO B w' v0 v1' T (L.take q ++ L.drop (q + 1)) ∧ Below B w w' := by
  have hro := hp.bs.ro
  obtain ⟨o0, k0, rfl⟩ := Row.form hp.th
  rcases hro.2 with ⟨_, h0⟩ | ⟨g, cap, cur, rfl, hbg, hg, hnc, hm, hcs, hxs⟩
  · omega
  have hgl := (Array.getElem?_eq_some_iff.1 hg).1
  have hbl := (Array.getElem?_eq_some_iff.1 hbx).1
  have hne : gb ≠ g := fun e => by subst e; exact tyK_ne hbx hg
  obtain ⟨n, en⟩ : ∃ n, L.length = n := ⟨_, rfl⟩
  obtain ⟨nt, ent⟩ : ∃ n, T.length = n := ⟨_, rfl⟩
  have HXL : Hid ((enc 3 eH L).length = n * 3) := by show _ = _; rw [enc_len, en]
  rw [en] at hql hL hnc hxs hbx hp hro
  rw [ent] at hbx hp
  rw [ent]
  obtain ⟨W, hW⟩ : ∃ W, W = w.alloc (.cells #[.string x] 88) := ⟨_, rfl⟩
  have EW : Hid (W = w.alloc (.cells #[.string x] 88)) := hW
  have BW : Hid (Below w.heap.size w W) := by rw [hW]; exact (Below.refl _ _).alloc (Nat.le_refl _) _
  have RX : Hid (W.heap[w.heap.size]? = some (.cells #[.string x] 88 (0, 0))) := by rw [hW]; exact heap_alloc_new w _
  clear hW
  have HP : Hid (PkO B w (.slice o0 nt k0) (.slice (some ⟨g, 0, none⟩) n cap) T L) := hp
  have HBX : Hid (w.heap[gb]? = some (.cells #[.slice o0 nt k0, .slice (some ⟨g, 0, none⟩) n cap] 30 (0, 0))) := hbx
  have HG : Hid (w.heap[g]? = some (.cells cur 45 (0, 0))) := hg
  have HAT : Hid (∀ u, Below w.heap.size w u → AtL (fun b => b < w.heap.size) u (L.map dH) (.slice (some ⟨g, 0, none⟩) n cap)) := fun u hu => (hp.at_.2.up (fun b hb => hb.2)).same (Same.of_below hu (fun b hb => hb))
  have HEN : Hid (L.length = n) := en
  have HQ : Hid (idxI (L.map dH) (fun p : DShareBatch => eqB p.1 x) = (q : Int)) := hq
  have HXS : Hid (cur.toList.take (n * 3) = enc 3 eH L) := hxs
  have HON : Hid (∀ u ∈ enc 3 eH L, u.oneCell' = true) := hp.bs.one
  have HM : Hid (cap ≤ maxLen) := hm
  have HCS : Hid (cur.size = cap * 3) := hcs
  have HB : Hid (B ≤ g ∧ B ≤ gb) := ⟨hbg, hgb⟩
  clear hp hbx hg hq hxs hro hm en ent hcs hbg hgb
  have RB := (BW.out.block gb hbl).trans HBX.out
  have z0 := (cell_row RB 0 (.slice o0 nt k0) rfl).1
  have z1 := (cell_row RB 1 (.slice (some ⟨g, 0, none⟩) n cap) rfl).1
  have z2 := (cell_row RX.out 0 (.string x) rfl).1
  have q0 := fun d os => cell_regrown z0 d os
  have q1 := fun d os => cell_regrown z1 d os
  have q2 := fun d os => cell_regrown z2 d os
  go_enter Tryz.func49, Tryz.ntmps49
  go_upto_region 1 with fail
  rw [← EW.out]
  refine wp_region_head_tail 5 (by kernel_rfl) (by kernel_rfl) ?_
  simp only [List.take_succ_cons, List.take_zero, List.drop_succ_cons, List.drop_zero]
  repeat (first | go_big_quiet_step (fail) | quiet_step (fail))
  refine wpQuiet_nil ?_
  intro _ hw'
  obtain ⟨⟨dq, osq⟩, hw''⟩ := hw'
  subst hw''
  have HU0 : Hid (Below W.heap.size W (grow (redrawn W dq) osq)) := below_regrown W dq osq
  generalize grow (redrawn W dq) osq = u at HU0 ⊢
  have HU : Hid (Below w.heap.size w u) := BW.out.trans (HU0.out.mono BW.out.size)
  clear q0 q1 q2 z0 z1 z2 RB HU0 RX BW EW
  go_wp2_with fail
  refine (batchAtI_any (fun b => b < w.heap.size) _ _ (L.map dH) x u (HAT.out u HU.out) (fun b hb => Nat.lt_of_lt_of_le hb HU.out.size)).mono ?_
  rintro e w1 ⟨rfl, hb1⟩
  rw [HQ.out]
  have HW1 : Hid (Below w.heap.size w w1) := HU.out.trans (hb1.mono HU.out.size)
  clear hb1 HU HAT
  have RB := (HW1.out.block gb hbl).trans HBX.out
  have z1 := (cell_row RB 1 (.slice (some ⟨g, 0, none⟩) n cap) rfl).1
  go_wp2_with fail
  refine (delB_any g cap n q cur (enc 3 eH L) w1 ((HW1.out.block g hgl).trans HG.out) HCS.out HXS.out HXL.out hql hnc HON.out).mono ?_
  rintro e w2 ⟨rfl, R, hR, hRs, hRt, hgr⟩
  have HR : Hid (w2.heap[g]? = some (.cells R 45 (0, 0)) ∧ R.size = cap * 3 ∧ R.toList.take ((n - 1) * 3) = (enc 3 eH L).take (q * 3) ++ (enc 3 eH L).drop ((q + 1) * 3)) := ⟨hR, hRs, hRt⟩
  have HGR : Hid (w1.grownBy w2 (some g)) := hgr
  have RB2 : Hid (w2.heap[gb]? = some (.cells #[.slice o0 nt k0, .slice (some ⟨g, 0, none⟩) n cap] 30 (0, 0))) := (hgr.block gb (Nat.lt_of_lt_of_le hbl HW1.out.size) (fun e => hne (by injection e))).trans RB
  clear hR hRs hRt hgr RB z1
  obtain ⟨z1, f1⟩ := cell_row RB2.out 1 (.slice (some ⟨g, 0, none⟩) n cap) rfl
  go_wp2_with fail
  go_end0
  have b12 : Below B w w2 := ((HW1.out.mono (Nat.le_trans HB.out.1 (Nat.le_of_lt hgl))).grown HGR.out (Nat.le_trans (Nat.le_trans HB.out.1 (Nat.le_of_lt hgl)) HW1.out.size) (fun p hp => by injection hp with h; subst h; exact HB.out.1))
  refine ⟨rfl, .slice (some ⟨g, 0, none⟩) (n - 1) cap, by rw [set_row RB2.out 1 _]; rfl, ?_, b12.setCell (p := ⟨gb, 1, none⟩) HB.out.2 _⟩
  have hlen : (L.take q ++ L.drop (q + 1)).length = n - 1 := by have := HEN.out; rw [List.length_append, List.length_take, List.length_drop]; omega
  refine HP.out.turn (gb := gb) (g := g) ⟨_, HBX.out⟩ ⟨_, HG.out⟩ (fun b hb h1 h2 => ?_) ?_ ?_
  · exact (Below.heap_setCell _ _ _ _ (show b ≠ gb from h2)).trans ((HGR.out.block b (Nat.lt_of_lt_of_le hb HW1.out.size) (fun e => h1 (by injection e))).trans (HW1.out.block b hb))
  · refine ⟨by rw [enc_len], .inr ⟨g, cap, R, by rw [hlen], HB.out.1, (Below.heap_setCell _ _ _ _ (show g ≠ gb from fun e => hne e.symm)).trans HR.out.1, by rw [hlen]; omega, HM.out, HR.out.2.1, ?_⟩⟩
    rw [hlen, HR.out.2.2, enc_append, enc_take, enc_drop]
  · have : (L.take q ++ L.drop (q + 1)).Sublist (L.take q ++ L.drop q) := List.Sublist.append (List.Sublist.refl _) (by rw [← List.drop_drop]; exact List.drop_sublist _ _)
    rwa [List.take_append_drop] at this

end Go.Proofs.YtidojjecjjochacGreatDoor
