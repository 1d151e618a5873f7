/-
  Who can have all they need, by the model.
-/
import Derived.Test.YthgnhjkkfhfgmabZmg
import Derived.Deep.Cut
namespace Go.Proofs.Ythgnhjkkfhfgmab
open Go.RowKit Go.Sort

set_option maxRecDepth 100000 in
set_option maxHeartbeats 8000000 in
theorem canZ_any (S : Nat → Prop) (T : List ByteArray) (Bs : List DShareBatch) (o0 oa : Option Addr) (n0 k0 nb kb : Nat) (SG : Nat → Prop) (gone : List ByteArray) (og : Option Addr) (ng kg a : Nat) (w : World) (h0 : AtL S w T (.slice o0 n0 k0)) (h1 : AtL S w Bs (.slice oa nb kb)) (hS : ∀ b, S b → b < w.heap.size) (hG : AtL SG w gone (.slice og ng kg)) (hSG : ∀ b, SG b → b < w.heap.size) (ha : a < Bs.length) :
    Calls Try.prog 37 #[.agg #[.slice o0 n0 k0, .slice oa nb kb], .int .i64 a, .slice og ng kg] w fun e w' => e = .returned (.bool (canB Bs a gone)) ∧ Below w.heap.size w w' := by
  have HG : Hid (∀ u, Below w.heap.size w u → AtL SG u gone (.slice og ng kg)) := fun u hu => hG.same (Same.of_below hu hSG)
  have HSG : Hid (∀ u, Below w.heap.size w u → ∀ b, SG b → b < u.heap.size) := fun u hu b hb => Nat.lt_of_lt_of_le (hSG b hb) hu.size
  have enb : Bs.length = nb := by obtain ⟨_, _, e, _⟩ := h1; cases e; rfl
  have hmx : nb ≤ 9223372036854775807 := by obtain ⟨_, _, e, hf, _⟩ := id h1; cases e; have := hf.1; unfold maxLen at this; omega
  have ENB : Hid (Bs.length ≤ nb ∧ nb ≤ Bs.length) := ⟨by omega, by omega⟩
  have H0 : Hid (∀ u, Below w.heap.size w u → AtL S u T (.slice o0 n0 k0)) := fun u hu => h0.same (Same.of_below hu hS)
  have H1 : Hid (∀ u, Below w.heap.size w u → AtL S u Bs (.slice oa nb kb)) := fun u hu => h1.same (Same.of_below hu hS)
  have HS : Hid (∀ u, Below w.heap.size w u → ∀ b, S b → b < u.heap.size) := fun u hu b hb => Nat.lt_of_lt_of_le (hS b hb) hu.size
  obtain ⟨W, hW⟩ : ∃ W, W = w.alloc (.cells #[.slice o0 n0 k0, .slice oa nb kb] 26) := ⟨_, rfl⟩
  have EW : Hid (W = w.alloc (.cells #[.slice o0 n0 k0, .slice oa nb kb] 26)) := hW
  have BW : Hid (Below w.heap.size w W) := by rw [hW]; exact (Below.refl _ _).alloc (Nat.le_refl _) _
  have RW : Hid (W.heap[w.heap.size]? = some (.cells #[.slice o0 n0 k0, .slice oa nb kb] 26 (0, 0))) := by rw [hW]; exact heap_alloc_new w _
  have sW : w.heap.size + 1 ≤ W.heap.size := by rw [hW]; simp
  clear hW enb
  have BOX : Hid (∀ u, Below W.heap.size W u → u.heap[w.heap.size]? = some (.cells #[.slice o0 n0 k0, .slice oa nb kb] 26 (0, 0)) ∧ Below w.heap.size w u) := fun u hu => ⟨(hu.block _ (by omega)).trans RW.out, BW.out.trans (hu.mono (by omega))⟩
  go_enter Try.func37, Try.ntmps37
  go_wp2_with fail
  rw [← EW.out]
  go_loopw [7] (fun i wr => ∃ q : Nat, q ≤ nb ∧ i = .int .i64 q ∧ Hid (∀ j, j < q → inWay Bs a gone j = false) ∧ Hid (Below W.heap.size W wr)) (fun i _ => nb - (intOf i).toNat)
  case atStart => exact ⟨0, Nat.zero_le _, rfl, fun _ h => by omega, Below.refl _ _⟩
  case round =>
    obtain ⟨q, hq, rfl, hall, hbel⟩ := hrel
    have HB := hbel.out
    have bwr := (BOX.out wr HB).2
    have hsz := HB.size
    have y0 := (cell_row (BOX.out wr HB).1 0 (.slice o0 n0 k0) rfl).1
    have y1 := (cell_row (BOX.out wr HB).1 1 (.slice oa nb kb) rfl).1
    by_cases hlt : q < nb
    case neg =>
      go_wp2_with fail
      go_ret
      rw [can_yes (fun i hi => hall.out i (by have := ENB.out; omega))]
      exact ⟨rfl, bwr⟩
    have han : a < nb := by have := ENB.out; omega
    have hqb : q < Bs.length := by have := ENB.out; omega
    obtain ⟨bb, off, o1, n1, k1, o2, n2, k2, rfl, hbS, e0, e1, e2, a1, a2, z0⟩ := bat_at (H1.out wr bwr) q hqb
    obtain ⟨bb', off', p1, m1, l1, p2, m2, l2, hoo, _, _, _, g2, _, b2, _⟩ := bat_at (H1.out wr bwr) a ha
    cases hoo
    obtain ⟨f, ef⟩ : ∃ f, Bs[q] = f := ⟨_, rfl⟩
    obtain ⟨g, eg⟩ : ∃ g, Bs[a] = g := ⟨_, rfl⟩
    rw [ef] at e0 a1 a2 z0
    rw [eg] at b2
    have hwa : inWay Bs a gone q = (!(q == a) && !(hasB gone f.1) && shareB f.2.1 g.2.2) := by unfold inWay; rw [btN_at hqb, btN_at ha, ef, eg]
    have qy0 := fun d os => cell_regrown y0 d os
    have qy1 := fun d os => cell_regrown y1 d os
    have qe0 := fun d os => cell_regrown e0 d os
    have qe1 := fun d os => cell_regrown e1 d os
    have qg2 := fun d os => cell_regrown g2 d os
    have A1 : Hid (AtL S wr f.2.1 (.slice o1 n1 k1)) := a1
    have A2 : Hid (AtL S wr g.2.2 (.slice p2 m2 l2)) := b2
    have AG : Hid (AtL SG wr gone (.slice og ng kg)) := HG.out wr bwr
    have SW : Hid (∀ b, S b → b < wr.heap.size) := HS.out wr bwr
    have SGW : Hid (∀ b, SG b → b < wr.heap.size) := HSG.out wr bwr
    clear y0 e0 e1 e2 g2 a1 a2 b2
    by_cases hqa : q = a
    · have hqi : ((q : Int) == (a : Int)) = true := by simp [hqa]
      have hqn : ((q : Int) != (a : Int)) = false := by simp [hqa]
      have hw0 : inWay Bs a gone q = false := by rw [hwa]; simp [hqa]
      go_wp2
      refine wp_region_quiet_below (by kernel_rfl) (by kernel_rfl) ?_
      repeat (first | go_big_quiet_step (fail) | quiet_step (fail))
      refine wpQuiet_nil ?_
      intro _ hw'
      obtain ⟨⟨dq, osq⟩, hw''⟩ := hw'
      subst hw''
      go_wp2
      go_roundw
      case rel => exact ⟨q + 1, by omega, by go_num, fun j hj => by
        by_cases e : j = q
        · subst e; exact hw0
        · exact hall.out j (by omega), HB.trans ((below_regrown _ dq osq).mono hsz)⟩
      case measure => simp [intOf]; omega
    have hqi : ((q : Int) == (a : Int)) = false := by simp; omega
    have hqn : ((q : Int) != (a : Int)) = true := by simp; omega
    have hqa' : (q == a) = false := by simpa using hqa
    cases c0 : hasB gone f.1
    case true =>
      have hw0 : inWay Bs a gone q = false := by rw [hwa, c0]; simp
      go_wp2
      refine wp_region_quiet_below (by kernel_rfl) (by kernel_rfl) ?_
      repeat (first | go_big_quiet_step (with_reducible exact hasZ_q SG _ gone _ _ AG.out SGW.out _ c0 _ _) | quiet_step (with_reducible exact hasZ_q SG _ gone _ _ AG.out SGW.out _ c0 _ _))
      refine wpQuiet_nil ?_
      intro _ hw'
      obtain ⟨⟨dq, osq⟩, hw''⟩ := hw'
      subst hw''
      go_wp2
      go_roundw
      case rel => exact ⟨q + 1, by omega, by go_num, fun j hj => by
        by_cases e : j = q
        · subst e; exact hw0
        · exact hall.out j (by omega), HB.trans ((below_regrown _ dq osq).mono hsz)⟩
      case measure => simp [intOf]; omega
    cases c1 : shareB f.2.1 g.2.2
    case false =>
      have hw0 : inWay Bs a gone q = false := by rw [hwa, c1]; simp
      go_wp2
      refine wp_region_quiet_below (by kernel_rfl) (by kernel_rfl) ?_
      repeat (first | go_big_quiet_step (first | (with_reducible exact hasZ_q SG _ gone _ _ AG.out SGW.out _ c0 _ _) | (with_reducible exact shareZ_q S _ _ f.2.1 g.2.2 _ A1.out A2.out SW.out _ c1 _ _)) | quiet_step (first | (with_reducible exact hasZ_q SG _ gone _ _ AG.out SGW.out _ c0 _ _) | (with_reducible exact shareZ_q S _ _ f.2.1 g.2.2 _ A1.out A2.out SW.out _ c1 _ _)))
      refine wpQuiet_nil ?_
      intro _ hw'
      obtain ⟨⟨dq, osq⟩, hw''⟩ := hw'
      subst hw''
      go_wp2
      go_roundw
      case rel => exact ⟨q + 1, by omega, by go_num, fun j hj => by
        by_cases e : j = q
        · subst e; exact hw0
        · exact hall.out j (by omega), HB.trans ((below_regrown _ dq osq).mono hsz)⟩
      case measure => simp [intOf]; omega
    have hw0 : inWay Bs a gone q = true := by rw [hwa, hqa', c0, c1]; rfl
    go_wp2
    refine wp_region_quiet_below (by kernel_rfl) (by kernel_rfl) ?_
    repeat (first | go_big_quiet_step (first | (with_reducible exact hasZ_q SG _ gone _ _ AG.out SGW.out _ c0 _ _) | (with_reducible exact shareZ_q S _ _ f.2.1 g.2.2 _ A1.out A2.out SW.out _ c1 _ _)) | quiet_step (first | (with_reducible exact hasZ_q SG _ gone _ _ AG.out SGW.out _ c0 _ _) | (with_reducible exact shareZ_q S _ _ f.2.1 g.2.2 _ A1.out A2.out SW.out _ c1 _ _)))
    refine wpQuiet_nil ?_
    intro _ hw'
    obtain ⟨⟨dq, osq⟩, hw''⟩ := hw'
    subst hw''
    go_wp2
    go_ret
    rw [can_no hqb hw0]
    exact ⟨rfl, bwr.trans ((below_regrown _ dq osq).mono bwr.size)⟩

end Go.Proofs.Ythgnhjkkfhfgmab
