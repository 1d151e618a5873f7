/-
  Several texts in one.
-/
import Derived.Test.YtidojjecjjochadGreatDoorXia
import Derived.Test.YtidojjecjjochadGreatDoorM6
import Derived.Deep.Cut
/-
  The model's insertion of a name into the names that a batch has: a list of the call's own comes out.
-/
namespace Go.Proofs.YtidojjecjjochadGreatDoor
open Go.RowKit

open Go.Sort in
set_option maxRecDepth 100000 in
set_option maxHeartbeats 4000000 in
theorem insZ_any (base g cap : Nat) (l : List ByteArray) (x : ByteArray) (w : World) (h : w.ownsRow base 9 1 (.slice (some ⟨g, 0, none⟩) l.length cap) l.length (l.map .string)) (hl : l.length ≤ 1048576) (hbase : base ≤ w.heap.size) :
    Calls Tryz.prog 21 #[.slice (some ⟨g, 0, none⟩) l.length cap, .string x] w fun e w' => ∃ g' cap', e = .returned (.slice (some ⟨g', 0, none⟩) (insR l x).length cap') ∧ w'.ownsRow base 9 1 (.slice (some ⟨g', 0, none⟩) (insR l x).length cap') (insR l x).length ((insR l x).map .string) ∧ Below w.heap.size w w' := by
  have HO : Hid _ := h
  obtain ⟨hcap, hc⟩ := own_cells h
  have HC : Hid (∀ i, i < l.length → w.cell? ⟨g, i, none⟩ = some (.string (nthB l i))) := hc
  clear h hc
  generalize hn : l.length = n at *
  have HN : Hid (l.length = n) := hn
  clear hn
  go_enter Tryz.func21, Tryz.ntmps21
  go_wp2
  go_loop [5] (fun i => ∃ k : Nat, k ≤ n ∧ i = .int .i64 k ∧ Hid (∀ j, j < k → ltB (nthB l j) x = true)) (fun i => n - (intOf i).toNat)
  case atStart => exact ⟨0, Nat.zero_le _, rfl, fun _ h => by omega⟩
  case round =>
    obtain ⟨k, hk, rfl, hall⟩ := hrel
    have NEW : Hid ((k < n → ltB (nthB l k) x = false ∧ eqB (nthB l k) x = false) → insR l x = l.take k ++ [x] ++ l.drop k) := fun h => insR_new l k x (by rw [HN.out]; exact hk) hall.out (by rw [HN.out]; exact h)
    by_cases hlt : k < n
    · have e0 := HC.out k hlt
      cases h1 : Op.bytesLess (nthB l k).toList x.toList
      · cases h2 : ((nthB l k).toList == x.toList)
        · have E : Hid (insR l x = l.take k ++ [x] ++ l.drop k) := NEW.out (fun _ => ⟨h1, h2⟩)
          have hkc : (k : Int) ≤ (cap : Int) := by omega
          have hkn : (k : Int) ≤ (n : Int) := by omega
          go_wp2_with fail
          refine wp_region_mix 12 [1, 2, 3, 5, 8, 9, 10] (by kernel_rfl) (by kernel_rfl) ?_
          simp only [List.filterMap_cons, List.filterMap_nil, List.getElem?_cons_succ, List.getElem?_cons_zero]
          repeat (first | go_big_quiet_step (fail) | quiet_step (fail))
          refine wpQuiet_nil ?_
          refine ins3 (md := .any) (i0 := 0) (i1 := 4) (i2 := 6) (i3 := 7) (i4 := 11) (d0 := 33) (d1 := 37) (d2 := 39) (d3 := 40) (d4 := 44) (k1 := 36) (k2 := 43) (kx := 38) (X := .string x) (t := 22) (e := 9)
            ⟨_, _, _, _, _, ⟨rfl, rfl, rfl, by decide⟩, ⟨rfl, rfl, rfl, by decide⟩, ⟨rfl, rfl, rfl, by decide⟩, ⟨rfl, rfl, rfl, by decide⟩, ⟨rfl, rfl, rfl, by decide⟩, rfl, rfl, rfl, ?run0, ?run2, by decide, by decide, by kernel_rfl, by kernel_rfl, by kernel_rfl, by kernel_rfl, by kernel_rfl, by kernel_rfl, by kernel_rfl⟩
            elSX (W := w) ⟨by simp, by simp, by simp, by simp, by simp⟩ rfl rfl rfl (src_take HN.out hk HC.out) (src_drop HN.out hk hcap HC.out) rfl ?u1 ?u2 ?ux (by omega) (by unfold maxLen; omega) ?K
          case run0 => intro bb ww; go_simp
          case run2 =>
            intro bb hx ww
            have hx' : bb.tmps[38]?.getD undef = .string x := by simpa [Act.eval] using hx
            clear hx
            go_simp
          case u1 => intro v hv; obtain ⟨_, _, rfl⟩ := List.mem_map.1 hv; rfl
          case u2 => intro v hv; obtain ⟨_, _, rfl⟩ := List.mem_map.1 hv; rfl
          case ux => intro v hv; simp [Value.cells] at hv; subst hv; rfl
          case K =>
            intro r0 r1 r2 r3 r4 w4 hown hb4
            refine ⟨by kernel_rfl, ?_⟩
            simp only [List.drop_succ_cons, List.drop_zero]
            have hnk : k + 1 + (n - k) = (insR l x).length := by rw [E.out]; have := HN.out; simp; omega
            have hcs : (l.take k).map Value.string ++ (Value.string x).cells.toList ++ (l.drop k).map Value.string = (insR l x).map .string := by rw [E.out]; simp [Value.cells]
            rw [hnk, hcs] at hown
            have HOW : Hid (w4.ownsRow w.heap.size 9 1 r4 (insR l x).length ((insR l x).map .string)) := hown
            have HPOS : Hid (0 < (insR l x).length) := by show 0 < _; omega
            clear hown hcs hnk
            simp only [Act.put, List.setIfInBounds_toArray, List.set_cons_zero, List.set_cons_succ]
            go_wp2_with fail
            all_goals
              go_ret
              rcases HOW.out.2 with ⟨_, e⟩ | ⟨g', cap', cur, rfl, hbg, rest⟩
              · have := HPOS.out; omega
              · exact ⟨g', cap', rfl, ⟨HOW.out.1, .inr ⟨g', cap', cur, rfl, by omega, rest⟩⟩, hb4⟩
        · have E : Hid (insR l x = l) := insR_eq l k x (by rw [HN.out]; exact hlt) hall.out h2
          go_wp2_with fail
          go_ret
          rw [E.out, HN.out]
          exact ⟨g, cap, rfl, HO.out, Below.refl _ _⟩
      · go_wp2_with fail
        go_round
        case rel => exact ⟨k + 1, by omega, by go_num, fun j hj => by
          by_cases e : j = k
          · subst e; exact h1
          · exact hall.out j (by omega)⟩
        case measure => simp [intOf]; omega
    · have E : Hid (insR l x = l.take k ++ [x] ++ l.drop k) := NEW.out (fun h => absurd h hlt)
      have hkc : (k : Int) ≤ (cap : Int) := by omega
      have hkn : (k : Int) ≤ (n : Int) := by omega
      go_wp2_with fail
      refine wp_region_mix 12 [1, 2, 3, 5, 8, 9, 10] (by kernel_rfl) (by kernel_rfl) ?_
      simp only [List.filterMap_cons, List.filterMap_nil, List.getElem?_cons_succ, List.getElem?_cons_zero]
      repeat (first | go_big_quiet_step (fail) | quiet_step (fail))
      refine wpQuiet_nil ?_
      refine ins3 (md := .any) (i0 := 0) (i1 := 4) (i2 := 6) (i3 := 7) (i4 := 11) (d0 := 33) (d1 := 37) (d2 := 39) (d3 := 40) (d4 := 44) (k1 := 36) (k2 := 43) (kx := 38) (X := .string x) (t := 22) (e := 9)
        ⟨_, _, _, _, _, ⟨rfl, rfl, rfl, by decide⟩, ⟨rfl, rfl, rfl, by decide⟩, ⟨rfl, rfl, rfl, by decide⟩, ⟨rfl, rfl, rfl, by decide⟩, ⟨rfl, rfl, rfl, by decide⟩, rfl, rfl, rfl, ?run0, ?run2, by decide, by decide, by kernel_rfl, by kernel_rfl, by kernel_rfl, by kernel_rfl, by kernel_rfl, by kernel_rfl, by kernel_rfl⟩
        elSX (W := w) ⟨by simp, by simp, by simp, by simp, by simp⟩ rfl rfl rfl (src_take HN.out hk HC.out) (src_drop HN.out hk hcap HC.out) rfl ?u1 ?u2 ?ux (by omega) (by unfold maxLen; omega) ?K
      case run0 => intro bb ww; go_simp
      case run2 =>
        intro bb hx ww
        have hx' : bb.tmps[38]?.getD undef = .string x := by simpa [Act.eval] using hx
        clear hx
        go_simp
      case u1 => intro v hv; obtain ⟨_, _, rfl⟩ := List.mem_map.1 hv; rfl
      case u2 => intro v hv; obtain ⟨_, _, rfl⟩ := List.mem_map.1 hv; rfl
      case ux => intro v hv; simp [Value.cells] at hv; subst hv; rfl
      case K =>
        intro r0 r1 r2 r3 r4 w4 hown hb4
        refine ⟨by kernel_rfl, ?_⟩
        simp only [List.drop_succ_cons, List.drop_zero]
        have hnk : k + 1 + (n - k) = (insR l x).length := by rw [E.out]; have := HN.out; simp; omega
        have hcs : (l.take k).map Value.string ++ (Value.string x).cells.toList ++ (l.drop k).map Value.string = (insR l x).map .string := by rw [E.out]; simp [Value.cells]
        rw [hnk, hcs] at hown
        have HOW : Hid (w4.ownsRow w.heap.size 9 1 r4 (insR l x).length ((insR l x).map .string)) := hown
        have HPOS : Hid (0 < (insR l x).length) := by show 0 < _; omega
        clear hown hcs hnk
        simp only [Act.put, List.setIfInBounds_toArray, List.set_cons_zero, List.set_cons_succ]
        go_wp2_with fail
        all_goals
          go_ret
          rcases HOW.out.2 with ⟨_, e⟩ | ⟨g', cap', cur, rfl, hbg, rest⟩
          · have := HPOS.out; omega
          · exact ⟨g', cap', rfl, ⟨HOW.out.1, .inr ⟨g', cap', cur, rfl, by omega, rest⟩⟩, hb4⟩

end Go.Proofs.YtidojjecjjochadGreatDoor

/-
  Who can have all they need, by the model.
-/
namespace Go.Proofs.YtidojjecjjochadGreatDoor
open Go.RowKit Go.Sort

set_option maxRecDepth 100000 in
set_option maxHeartbeats 8000000 in
theorem canZ_any (S : Nat → Prop) (T : List ByteArray) (Bs : List DShareBatch) (o0 oa : Option Addr) (n0 k0 nb kb : Nat) (SG : Nat → Prop) (gone : List ByteArray) (og : Option Addr) (ng kg a : Nat) (w : World) (h0 : AtL S w T (.slice o0 n0 k0)) (h1 : AtL S w Bs (.slice oa nb kb)) (hS : ∀ b, S b → b < w.heap.size) (hG : AtL SG w gone (.slice og ng kg)) (hSG : ∀ b, SG b → b < w.heap.size) (ha : a < Bs.length) :
    Calls Tryz.prog 55 #[.agg #[.slice o0 n0 k0, .slice oa nb kb], .int .i64 a, .slice og ng kg] w fun e w' => e = .returned (.bool (canB Bs a gone)) ∧ Below w.heap.size w w' := by
  have HG : Hid (∀ u, Below w.heap.size w u → AtL SG u gone (.slice og ng kg)) := fun u hu => hG.same (Same.of_below hu hSG)
  have HSG : Hid (∀ u, Below w.heap.size w u → ∀ b, SG b → b < u.heap.size) := fun u hu b hb => Nat.lt_of_lt_of_le (hSG b hb) hu.size
  have enb : Bs.length = nb := by obtain ⟨_, _, e, _⟩ := h1; cases e; rfl
  have hmx : nb ≤ 9223372036854775807 := by obtain ⟨_, _, e, hf, _⟩ := id h1; cases e; have := hf.1; unfold maxLen at this; omega
  have ENB : Hid (Bs.length ≤ nb ∧ nb ≤ Bs.length) := ⟨by omega, by omega⟩
  have H0 : Hid (∀ u, Below w.heap.size w u → AtL S u T (.slice o0 n0 k0)) := fun u hu => h0.same (Same.of_below hu hS)
  have H1 : Hid (∀ u, Below w.heap.size w u → AtL S u Bs (.slice oa nb kb)) := fun u hu => h1.same (Same.of_below hu hS)
  have HS : Hid (∀ u, Below w.heap.size w u → ∀ b, S b → b < u.heap.size) := fun u hu b hb => Nat.lt_of_lt_of_le (hS b hb) hu.size
  obtain ⟨W, hW⟩ : ∃ W, W = w.alloc (.cells #[.slice o0 n0 k0, .slice oa nb kb] 30) := ⟨_, rfl⟩
  have EW : Hid (W = w.alloc (.cells #[.slice o0 n0 k0, .slice oa nb kb] 30)) := hW
  have BW : Hid (Below w.heap.size w W) := by rw [hW]; exact (Below.refl _ _).alloc (Nat.le_refl _) _
  have RW : Hid (W.heap[w.heap.size]? = some (.cells #[.slice o0 n0 k0, .slice oa nb kb] 30 (0, 0))) := by rw [hW]; exact heap_alloc_new w _
  have sW : w.heap.size + 1 ≤ W.heap.size := by rw [hW]; simp
  clear hW enb
  have BOX : Hid (∀ u, Below W.heap.size W u → u.heap[w.heap.size]? = some (.cells #[.slice o0 n0 k0, .slice oa nb kb] 30 (0, 0)) ∧ Below w.heap.size w u) := fun u hu => ⟨(hu.block _ (by omega)).trans RW.out, BW.out.trans (hu.mono (by omega))⟩
  go_enter Tryz.func55, Tryz.ntmps55
  go_wp2_with fail
  rw [← EW.out]
  go_loopw [7] (fun i wr => ∃ q : Nat, q ≤ nb ∧ i = .int .i64 q ∧ Hid (∀ j, j < q → inWay Bs a gone j = false) ∧ Hid (Below W.heap.size W wr)) (fun i _ => nb - (intOf i).toNat)
  case atStart => exact ⟨0, Nat.zero_le _, rfl, fun _ h => by omega, Below.refl _ _⟩
  case round =>
    obtain ⟨q, hq, rfl, hall, hbel⟩ := hrel
    have HB := hbel.out
    have bwr := (BOX.out wr HB).2
    have hsz := HB.size
    have y0 := (cell_row (BOX.out wr HB).1 0 (.slice o0 n0 k0) rfl).1
    have y1 := (cell_row (BOX.out wr HB).1 1 (.slice oa nb kb) rfl).1
    by_cases hlt : q < nb
    case neg =>
      go_wp2_with fail
      go_ret
      rw [can_yes (fun i hi => hall.out i (by have := ENB.out; omega))]
      exact ⟨rfl, bwr⟩
    have han : a < nb := by have := ENB.out; omega
    have hqb : q < Bs.length := by have := ENB.out; omega
    obtain ⟨bb, off, o1, n1, k1, o2, n2, k2, rfl, hbS, e0, e1, e2, a1, a2, z0⟩ := bat_at (H1.out wr bwr) q hqb
    obtain ⟨bb', off', p1, m1, l1, p2, m2, l2, hoo, _, _, _, g2, _, b2, _⟩ := bat_at (H1.out wr bwr) a ha
    cases hoo
    obtain ⟨f, ef⟩ : ∃ f, Bs[q] = f := ⟨_, rfl⟩
    obtain ⟨g, eg⟩ : ∃ g, Bs[a] = g := ⟨_, rfl⟩
    rw [ef] at e0 a1 a2 z0
    rw [eg] at b2
    have hwa : inWay Bs a gone q = (!(q == a) && !(hasB gone f.1) && shareB f.2.1 g.2.2) := by unfold inWay; rw [btN_at hqb, btN_at ha, ef, eg]
    have qy0 := fun d os => cell_regrown y0 d os
    have qy1 := fun d os => cell_regrown y1 d os
    have qe0 := fun d os => cell_regrown e0 d os
    have qe1 := fun d os => cell_regrown e1 d os
    have qg2 := fun d os => cell_regrown g2 d os
    have A1 : Hid (AtL S wr f.2.1 (.slice o1 n1 k1)) := a1
    have A2 : Hid (AtL S wr g.2.2 (.slice p2 m2 l2)) := b2
    have AG : Hid (AtL SG wr gone (.slice og ng kg)) := HG.out wr bwr
    have SW : Hid (∀ b, S b → b < wr.heap.size) := HS.out wr bwr
    have SGW : Hid (∀ b, SG b → b < wr.heap.size) := HSG.out wr bwr
    clear y0 e0 e1 e2 g2 a1 a2 b2
    by_cases hqa : q = a
    · have hqi : ((q : Int) == (a : Int)) = true := by simp [hqa]
      have hqn : ((q : Int) != (a : Int)) = false := by simp [hqa]
      have hw0 : inWay Bs a gone q = false := by rw [hwa]; simp [hqa]
      go_wp2
      refine wp_region_quiet_below (by kernel_rfl) (by kernel_rfl) ?_
      repeat (first | go_big_quiet_step (fail) | quiet_step (fail))
      refine wpQuiet_nil ?_
      intro _ hw'
      obtain ⟨⟨dq, osq⟩, hw''⟩ := hw'
      subst hw''
      go_wp2
      go_roundw
      case rel => exact ⟨q + 1, by omega, by go_num, fun j hj => by
        by_cases e : j = q
        · subst e; exact hw0
        · exact hall.out j (by omega), HB.trans ((below_regrown _ dq osq).mono hsz)⟩
      case measure => simp [intOf]; omega
    have hqi : ((q : Int) == (a : Int)) = false := by simp; omega
    have hqn : ((q : Int) != (a : Int)) = true := by simp; omega
    have hqa' : (q == a) = false := by simpa using hqa
    cases c0 : hasB gone f.1
    case true =>
      have hw0 : inWay Bs a gone q = false := by rw [hwa, c0]; simp
      go_wp2
      refine wp_region_quiet_below (by kernel_rfl) (by kernel_rfl) ?_
      repeat (first | go_big_quiet_step (with_reducible exact hasZ_q SG _ gone _ _ AG.out SGW.out _ c0 _ _) | quiet_step (with_reducible exact hasZ_q SG _ gone _ _ AG.out SGW.out _ c0 _ _))
      refine wpQuiet_nil ?_
      intro _ hw'
      obtain ⟨⟨dq, osq⟩, hw''⟩ := hw'
      subst hw''
      go_wp2
      go_roundw
      case rel => exact ⟨q + 1, by omega, by go_num, fun j hj => by
        by_cases e : j = q
        · subst e; exact hw0
        · exact hall.out j (by omega), HB.trans ((below_regrown _ dq osq).mono hsz)⟩
      case measure => simp [intOf]; omega
    cases c1 : shareB f.2.1 g.2.2
    case false =>
      have hw0 : inWay Bs a gone q = false := by rw [hwa, c1]; simp
      go_wp2
      refine wp_region_quiet_below (by kernel_rfl) (by kernel_rfl) ?_
      repeat (first | go_big_quiet_step (first | (with_reducible exact hasZ_q SG _ gone _ _ AG.out SGW.out _ c0 _ _) | (with_reducible exact shareZ_q S _ _ f.2.1 g.2.2 _ A1.out A2.out SW.out _ c1 _ _)) | quiet_step (first | (with_reducible exact hasZ_q SG _ gone _ _ AG.out SGW.out _ c0 _ _) | (with_reducible exact shareZ_q S _ _ f.2.1 g.2.2 _ A1.out A2.out SW.out _ c1 _ _)))
      refine wpQuiet_nil ?_
      intro _ hw'
      obtain ⟨⟨dq, osq⟩, hw''⟩ := hw'
      subst hw''
      go_wp2
      go_roundw
      case rel => exact ⟨q + 1, by omega, by go_num, fun j hj => by
        by_cases e : j = q
        · subst e; exact hw0
        · exact hall.out j (by omega), HB.trans ((below_regrown _ dq osq).mono hsz)⟩
      case measure => simp [intOf]; omega
    have hw0 : inWay Bs a gone q = true := by rw [hwa, hqa', c0, c1]; rfl
    go_wp2
    refine wp_region_quiet_below (by kernel_rfl) (by kernel_rfl) ?_
    repeat (first | go_big_quiet_step (first | (with_reducible exact hasZ_q SG _ gone _ _ AG.out SGW.out _ c0 _ _) | (with_reducible exact shareZ_q S _ _ f.2.1 g.2.2 _ A1.out A2.out SW.out _ c1 _ _)) | quiet_step (first | (with_reducible exact hasZ_q SG _ gone _ _ AG.out SGW.out _ c0 _ _) | (with_reducible exact shareZ_q S _ _ f.2.1 g.2.2 _ A1.out A2.out SW.out _ c1 _ _)))
    refine wpQuiet_nil ?_
    intro _ hw'
    obtain ⟨⟨dq, osq⟩, hw''⟩ := hw'
    subst hw''
    go_wp2
    go_ret
    rw [can_no hqb hw0]
    exact ⟨rfl, bwr.trans ((below_regrown _ dq osq).mono bwr.size)⟩

end Go.Proofs.YtidojjecjjochadGreatDoor

/-
  The next one that can, by the model.
-/
namespace Go.Proofs.YtidojjecjjochadGreatDoor
open Go.RowKit Go.Sort

/-- The first that is not gone and can, -1 if there is none. -/
def freeB (Bs : List DShareBatch) (gone : List ByteArray) (i : Nat) : Bool := !(hasB gone (btN Bs i).1) && canB Bs i gone
def nxtI (Bs : List DShareBatch) (gone : List ByteArray) : Int := idxI (List.range Bs.length) (freeB Bs gone)
theorem nxt_yes {Bs : List DShareBatch} {gone : List ByteArray} {q : Nat} (hq : q < Bs.length) (h : freeB Bs gone q = true) (hno : ∀ j, j < q → freeB Bs gone j = false) : nxtI Bs gone = (q : Int) :=
  idx_yes (l := List.range Bs.length) (k := q) (by simpa using hq) (by simpa using h) (fun j hj hjq => by simpa using hno j hjq)
theorem nxt_no {Bs : List DShareBatch} {gone : List ByteArray} (h : ∀ j, j < Bs.length → freeB Bs gone j = false) : nxtI Bs gone = -1 :=
  idx_no (l := List.range Bs.length) (fun j hj => by simpa using h j (by simpa using hj))

set_option maxRecDepth 100000 in
set_option maxHeartbeats 8000000 in
theorem nextZ_any (S : Nat → Prop) (T : List ByteArray) (Bs : List DShareBatch) (o0 oa : Option Addr) (n0 k0 nb kb : Nat) (SG : Nat → Prop) (gone : List ByteArray) (og : Option Addr) (ng kg : Nat) (w : World) (h0 : AtL S w T (.slice o0 n0 k0)) (h1 : AtL S w Bs (.slice oa nb kb)) (hS : ∀ b, S b → b < w.heap.size) (hG : AtL SG w gone (.slice og ng kg)) (hSG : ∀ b, SG b → b < w.heap.size) :
    Calls Tryz.prog 44 #[.agg #[.slice o0 n0 k0, .slice oa nb kb], .slice og ng kg] w fun e w' => e = .returned (.int .i64 (nxtI Bs gone)) ∧ Below w.heap.size w w' := by
  have HG : Hid (∀ u, Below w.heap.size w u → AtL SG u gone (.slice og ng kg)) := fun u hu => hG.same (Same.of_below hu hSG)
  have HSG : Hid (∀ u, Below w.heap.size w u → ∀ b, SG b → b < u.heap.size) := fun u hu b hb => Nat.lt_of_lt_of_le (hSG b hb) hu.size
  have enb : Bs.length = nb := by obtain ⟨_, _, e, _⟩ := h1; cases e; rfl
  have hmx : nb ≤ 9223372036854775807 := by obtain ⟨_, _, e, hf, _⟩ := id h1; cases e; have := hf.1; unfold maxLen at this; omega
  have ENB : Hid (Bs.length ≤ nb ∧ nb ≤ Bs.length) := ⟨by omega, by omega⟩
  have H0 : Hid (∀ u, Below w.heap.size w u → AtL S u T (.slice o0 n0 k0)) := fun u hu => h0.same (Same.of_below hu hS)
  have H1 : Hid (∀ u, Below w.heap.size w u → AtL S u Bs (.slice oa nb kb)) := fun u hu => h1.same (Same.of_below hu hS)
  have HS : Hid (∀ u, Below w.heap.size w u → ∀ b, S b → b < u.heap.size) := fun u hu b hb => Nat.lt_of_lt_of_le (hS b hb) hu.size
  obtain ⟨W, hW⟩ : ∃ W, W = w.alloc (.cells #[.slice o0 n0 k0, .slice oa nb kb] 30) := ⟨_, rfl⟩
  have EW : Hid (W = w.alloc (.cells #[.slice o0 n0 k0, .slice oa nb kb] 30)) := hW
  have BW : Hid (Below w.heap.size w W) := by rw [hW]; exact (Below.refl _ _).alloc (Nat.le_refl _) _
  have RW : Hid (W.heap[w.heap.size]? = some (.cells #[.slice o0 n0 k0, .slice oa nb kb] 30 (0, 0))) := by rw [hW]; exact heap_alloc_new w _
  have sW : w.heap.size + 1 ≤ W.heap.size := by rw [hW]; simp
  clear hW enb
  have BOX : Hid (∀ u, Below W.heap.size W u → u.heap[w.heap.size]? = some (.cells #[.slice o0 n0 k0, .slice oa nb kb] 30 (0, 0)) ∧ Below w.heap.size w u) := fun u hu => ⟨(hu.block _ (by omega)).trans RW.out, BW.out.trans (hu.mono (by omega))⟩
  go_enter Tryz.func44, Tryz.ntmps44
  go_wp2_with fail
  rw [← EW.out]
  go_loopw [5] (fun i wr => ∃ q : Nat, q ≤ nb ∧ i = .int .i64 q ∧ Hid (∀ j, j < q → freeB Bs gone j = false) ∧ Hid (Below W.heap.size W wr)) (fun i _ => nb - (intOf i).toNat)
  case atStart => exact ⟨0, Nat.zero_le _, rfl, fun _ h => by omega, Below.refl _ _⟩
  case round =>
    obtain ⟨q, hq, rfl, hall, hbel⟩ := hrel
    have HB := hbel.out
    have bwr := (BOX.out wr HB).2
    have hsz := HB.size
    have y0 := (cell_row (BOX.out wr HB).1 0 (.slice o0 n0 k0) rfl).1
    have y1 := (cell_row (BOX.out wr HB).1 1 (.slice oa nb kb) rfl).1
    by_cases hlt : q < nb
    case neg =>
      go_wp2_with fail
      go_ret
      rw [nxt_no (fun i hi => hall.out i (by have := ENB.out; omega))]
      exact ⟨rfl, bwr⟩
    have hqb : q < Bs.length := by have := ENB.out; omega
    obtain ⟨bb, off, o1, n1, k1, o2, n2, k2, rfl, hbS, e0, _, _, _, _, _⟩ := bat_at (H1.out wr bwr) q hqb
    obtain ⟨f, ef⟩ : ∃ f, Bs[q] = f := ⟨_, rfl⟩
    rw [ef] at e0
    have hfr : freeB Bs gone q = (!(hasB gone f.1) && canB Bs q gone) := by unfold freeB; rw [btN_at hqb, ef]
    have CH : Hid (Calls Tryz.prog 35 #[.slice og ng kg, .string f.1] wr fun e w' => e = .returned (.bool (hasB gone f.1)) ∧ Below wr.heap.size wr w') := hasZ_any SG _ gone f.1 wr (HG.out wr bwr)
    go_wp2_with fail
    refine CH.out.mono ?_; rintro e u1 ⟨rfl, hb1⟩
    have HB1 : Below W.heap.size W u1 := HB.trans (hb1.mono hsz)
    have bu1 := (BOX.out u1 HB1).2
    have B1 : Hid (Below W.heap.size W u1) := HB1
    have s1 := HB1.size
    clear hb1 y0 y1 e0
    have y0 := (cell_row (BOX.out u1 HB1).1 0 (.slice o0 n0 k0) rfl).1
    have y1 := (cell_row (BOX.out u1 HB1).1 1 (.slice (some ⟨bb, off, none⟩) nb kb) rfl).1
    cases c0 : hasB gone f.1
    case true =>
      have hw0 : freeB Bs gone q = false := by rw [hfr, c0]; rfl
      go_wp2_with fail
      go_roundw
      case rel => exact ⟨q + 1, by omega, by go_num, fun j hj => by
        by_cases e : j = q
        · subst e; exact hw0
        · exact hall.out j (by omega), B1⟩
      case measure => simp [intOf]; omega
    have CC : Hid (Calls Tryz.prog 55 #[.agg #[.slice o0 n0 k0, .slice (some ⟨bb, off, none⟩) nb kb], .int .i64 q, .slice og ng kg] u1 fun e w' => e = .returned (.bool (canB Bs q gone)) ∧ Below u1.heap.size u1 w') := canZ_any S T Bs _ _ _ _ _ _ SG gone og ng kg q u1 (H0.out u1 bu1) (H1.out u1 bu1) (HS.out u1 bu1) (HG.out u1 bu1) (HSG.out u1 bu1) hqb
    go_wp2_with fail
    refine CC.out.mono ?_; rintro e u2 ⟨rfl, hb2⟩
    have B2 : Hid (Below W.heap.size W u2) := B1.out.trans (hb2.mono s1)
    have bu2 := (BOX.out u2 B2.out).2
    clear hb2 y0 y1
    cases c1 : canB Bs q gone
    · have hw0 : freeB Bs gone q = false := by rw [hfr, c1]; simp
      go_wp2_with fail
      go_roundw
      case rel => exact ⟨q + 1, by omega, by go_num, fun j hj => by
        by_cases e : j = q
        · subst e; exact hw0
        · exact hall.out j (by omega), B2⟩
      case measure => simp [intOf]; omega
    · have hw0 : freeB Bs gone q = true := by rw [hfr, c0, c1]; rfl
      go_wp2_with fail
      go_ret
      rw [nxt_yes hqb hw0 (fun j hj => hall.out j hj)]
      exact ⟨rfl, bu2⟩

end Go.Proofs.YtidojjecjjochadGreatDoor
