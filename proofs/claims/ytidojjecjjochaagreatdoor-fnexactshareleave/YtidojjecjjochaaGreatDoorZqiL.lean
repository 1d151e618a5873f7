/-
  The program's ShareLeave, whole: it answers as the model does, with a book that owns its memory.
-/
import Derived.Test.YtidojjecjjochaaGreatDoorZqhL
import Derived.Test.YtidojjecjjochaaGreatDoorZqf
namespace Go.Proofs.YtidojjecjjochaaGreatDoor
open Go.RowKit Go.Sort

def lvC (Bs : List DShareBatch) (x : ByteArray) : Int := if atI Bs x < 0 then 3 else 0
theorem lvC_yes {Bs : List DShareBatch} {x : ByteArray} (h : atI Bs x < 0) : lvC Bs x = 3 := by unfold lvC; rw [if_pos h]
theorem lvC_no {Bs : List DShareBatch} {x : ByteArray} (h : ¬ atI Bs x < 0) : lvC Bs x = 0 := by unfold lvC; rw [if_neg h]
def lvR (D : DShareBook) (x : ByteArray) : DShareBook := if atI D.2 x < 0 then D else (D.1, D.2.take (atI D.2 x).toNat ++ D.2.drop ((atI D.2 x).toNat + 1))
theorem lev_is (D : DShareBook) (x : ByteArray) : (if bokB D = true then lvR D x else ([], [])) = (levS D x).1 ∧ (if bokB D = true then lvC D.2 x else 1) = (levS D x).2 := by
  unfold levS lvR lvC
  by_cases h : bokB D = true
  · simp only [if_pos h]
    by_cases h2 : atI D.2 x < 0
    · simp only [if_pos h2]; exact ⟨trivial, trivial⟩
    · simp only [if_neg h2]; exact ⟨trivial, trivial⟩
  · simp only [if_neg h]; exact ⟨trivial, trivial⟩

theorem lev_tot (D : DShareBook) (x : ByteArray) : Lay.tot (levS D x).1 ≤ 1048576 := by
  by_cases h : bokB D = true
  · exact (lev_small (bok_small (bok_iff.1 h)).1).tot
  · have e : (levS D x).1 = ([], []) := by unfold levS; rw [if_neg h]
    rw [e]
    exact sm_nil.tot

set_option maxRecDepth 100000 in
set_option maxHeartbeats 4000000 in
theorem refLv_any (S : Nat → Prop) (Bs : List DShareBatch) (o0 oa : Option Addr) (n0 k0 nb kb : Nat) (x : ByteArray) (w : World) (h1 : AtL S w Bs (.slice oa nb kb)) (hS : ∀ b, S b → b < w.heap.size) :
    Calls Tryz.prog 113 #[.agg #[.string x], .agg #[.slice o0 n0 k0, .slice oa nb kb]] w fun e w' => e = .returned (errW x (lvC Bs x)) ∧ Below w.heap.size w w' := by
  have H : Hid (∀ o1 o2, AtL S ((w.alloc o1).alloc o2) Bs (.slice oa nb kb)) := fun o1 o2 => h1.same (Same.of_below (((Below.refl _ _).alloc (Nat.le_refl _) o1).alloc (by simp) o2) hS)
  have HS : Hid (∀ o1 o2 b, S b → b < ((w.alloc o1).alloc o2).heap.size) := fun o1 o2 b hb => by have := hS b hb; simp; omega
  have BW : Hid (∀ o1 o2, Below w.heap.size w ((w.alloc o1).alloc o2)) := fun o1 o2 => ((Below.refl _ _).alloc (Nat.le_refl _) _).alloc (by simp) _
  have BS : Hid (∀ o1 o2, ((w.alloc o1).alloc o2).heap.size = w.heap.size + 2 ∧ ((w.alloc o1).alloc o2).heap[w.heap.size]? = some o1) := fun o1 o2 => ⟨by simp, (Below.heap_alloc _ _ _ (by simp)).trans (heap_alloc_new w _)⟩
  clear h1 hS
  obtain ⟨RV, eRV⟩ : ∃ v, errW x (lvC Bs x) = v := ⟨_, rfl⟩
  rw [eRV]
  have ERV : Hid (errW x (lvC Bs x) = RV) := eRV
  clear eRV
  go_enter Tryz.func113, Tryz.ntmps113
  go_wp2_with fail
  refine (batchAtI_any S _ _ Bs x _ (H.out _ _) (HS.out _ _)).mono ?_
  rintro e w1 ⟨rfl, hb1⟩
  have B1 : Hid (Below w.heap.size w w1) := (BW.out _ _).trans (hb1.mono (by rw [(BS.out _ _).1]; omega))
  have X1 : Hid (w1.heap[w.heap.size]? = some (.cells #[.string x] 45 (0, 0))) := (hb1.block _ (by rw [(BS.out _ _).1]; omega)).trans (BS.out _ _).2
  clear hb1
  have y0 := (cell_row X1.out 0 (.string x) rfl).1
  obtain ⟨i, ei⟩ : ∃ i, idxI Bs (fun p : DShareBatch => eqB p.1 x) = i := ⟨_, rfl⟩
  have EI : Hid (atI Bs x = i) := ei
  rw [ei]
  clear ei
  by_cases hi : i < 0
  · have e3 : errW x (lvC Bs x) = refV x 3 := by rw [lvC_yes (by rw [EI.out]; exact hi), errW_yes x (by decide)]; rfl
    have E3 : Hid (RV = refV x 3) := ERV.out.symm.trans e3
    clear e3
    go_wp2_with (first
      | (go_at_call 114; refine (refused_any _ _ _).mono ?_; rintro e w2 ⟨rfl, rfl⟩))
    go_ret
    exact ⟨by rw [E3.out]; rfl, B1.out⟩
  · have e3 : errW x (lvC Bs x) = .nilIface := by rw [lvC_no (by rw [EI.out]; exact hi), errW_no]
    have E3 : Hid (RV = .nilIface) := ERV.out.symm.trans e3
    clear e3
    go_wp2_with fail
    go_ret
    exact ⟨by rw [E3.out]; rfl, B1.out⟩

theorem levP_any (S : Nat → Prop) (T : List ByteArray) (Bs : List DShareBatch) (o0 oa : Option Addr) (n0 k0 nb kb : Nat) (x : ByteArray) (w : World) (h0 : AtL S w T (.slice o0 n0 k0)) (h1 : AtL S w Bs (.slice oa nb kb)) (hS : ∀ b, S b → b < w.heap.size) (hl : Laid0 w) :
    Calls Tryz.prog 7 #[.agg #[.slice o0 n0 k0, .slice oa nb kb], .string x] w (AnsW w (levS (T, Bs) x).1 (levS (T, Bs) x).2) := by
  rw [← (lev_is (T, Bs) x).1, ← (lev_is (T, Bs) x).2]
  refine topW_L x _ _ o0 oa n0 k0 nb kb w fun u hu => ?_
  have h0u := h0.same (Same.of_below hu hS)
  have h1u := h1.same (Same.of_below hu hS)
  have hSu : ∀ b, S b → b < u.heap.size := fun b hb => Nat.lt_of_lt_of_le (hS b hb) hu.size
  refine ansW_L x (lvC Bs x) (lvR (T, Bs) x) S T Bs o0 oa n0 k0 nb kb u h0u h1u hSu (hl.below hu) (fun _ v hv => ?_) (fun hok hc v hv => ?_) (fun hc => ?_)
  · exact refLv_any S Bs o0 oa n0 k0 nb kb x v (h1u.same (Same.of_below hv hSu)) (fun b hb => Nat.lt_of_lt_of_le (hSu b hb) hv.size)
  · have hsm := bok_small (bok_iff.1 hok)
    have hn : ¬ atI Bs x < 0 := fun h => by rw [lvC_yes h] at hc; exact absurd hc (by decide)
    obtain ⟨q, eq, hq⟩ := at_lt hn
    refine behW_L x (lvR (T, Bs) x) S T Bs o0 oa n0 k0 nb kb v (h0u.same (Same.of_below hv hSu)) (h1u.same (Same.of_below hv hSu)) (fun b hb => Nat.lt_of_lt_of_le (hSu b hb) hv.size) hsm.1 (fun B gb v0 v1 L z _ _ hgb hbx hp hm => ?_)
    have hlen : L.length = Bs.length := by rw [← hm, List.length_map]
    refine (letLv_any B gb q v0 v1 T L x z hbx hp hgb (by rw [hm]; exact eq) (by omega) (by have := hsm.2.2; simp only at this; omega)).mono ?_
    rintro e w' ⟨he, v1', hb', hp', hbe⟩
    refine ⟨he, v0, v1', L.take q ++ L.drop (q + 1), hb', ?_, ?_, hbe⟩
    · unfold lvR
      rw [if_neg hn]
      exact hp'
    · unfold lvR
      rw [if_neg hn, eq, Int.toNat_natCast]
      simp only
      rw [List.map_append, List.map_take, List.map_drop, hm]
  · have hn : atI Bs x < 0 := by
      by_cases h : atI Bs x < 0
      · exact h
      · exact absurd (lvC_no h) hc
    unfold lvR
    rw [if_pos hn]

end Go.Proofs.YtidojjecjjochaaGreatDoor
