/-
  Several texts in one.
-/
import Derived.Test.YtaejlcanccfmmaaGreatDoorM9
import Derived.Deep.Cut
import Derived.Test.YtaejlcanccfmmaaGreatDoorM11
import Derived.Test.YtaejlcanccfmmaaGreatDoorM10
import Derived.Test.YtaejlcanccfmmaaGreatDoorM1
import Derived.Maps.AppendAt
namespace Go.Proofs.YtaejlcanccfmmaaGreatDoor
open Go.RowKit Go.Sort
set_option maxRecDepth 100000 in
set_option maxHeartbeats 8000000 in
theorem canZ_any (S : Nat → Prop) (T : List ByteArray) (Bs : List DShareBatch) (o0 oa : Option Addr) (n0 k0 nb kb : Nat) (SG : Nat → Prop) (gone : List ByteArray) (og : Option Addr) (ng kg a : Nat) (w : World) (h0 : AtL S w T (.slice o0 n0 k0)) (h1 : AtL S w Bs (.slice oa nb kb)) (hS : ∀ b, S b → b < w.heap.size) (hG : AtL SG w gone (.slice og ng kg)) (hSG : ∀ b, SG b → b < w.heap.size) (ha : a < Bs.length) :
    Calls Tryz.prog 118 #[.agg #[.slice o0 n0 k0, .slice oa nb kb], .int .i64 a, .slice og ng kg] w fun e w' => e = .returned (.bool (canB Bs a gone)) ∧ Below w.heap.size w w' := by
  have HG : Hid _ := hG.ups hSG
  have HSG : Hid _ := lt_up hSG
  have enb : Bs.length = nb := by obtain ⟨_, _, e, _⟩ := h1; cases e; rfl
  have hmx : nb ≤ 9223372036854775807 := by obtain ⟨_, _, e, hf, _⟩ := id h1; cases e; have := hf.1; unfold maxLen at this; omega
  have ENB : Hid (Bs.length ≤ nb ∧ nb ≤ Bs.length) := ⟨by omega, by omega⟩
  have H0 : Hid _ := h0.ups hS
  have H1 : Hid _ := h1.ups hS
  have HS : Hid _ := lt_up hS
  obtain ⟨W, EW, BW, RW, sW⟩ := box_new w #[.slice o0 n0 k0, .slice oa nb kb] 26
  clear enb
  have BOX : Hid (∀ u, Below W.heap.size W u → u.heap[w.heap.size]? = some (.cells #[.slice o0 n0 k0, .slice oa nb kb] 26 (0, 0)) ∧ Below w.heap.size w u) := fun u hu => ⟨(hu.block _ (by omega)).trans RW.out, BW.out.trans (hu.mono (by omega))⟩
  go_enter Tryz.func118, Tryz.ntmps118
  go_wp2_with fail
  rw [← EW.out]
  go_loopw [7] (fun i wr => ∃ q : Nat, q ≤ nb ∧ i = .int .i64 q ∧ Hid (∀ j, j < q → inWay Bs a gone j = false) ∧ Hid (Below W.heap.size W wr)) (fun i _ => nb - (intOf i).toNat)
  case atStart => exact ⟨0, Nat.zero_le _, rfl, fun _ h => by omega, Below.refl _ _⟩
  case round =>
    obtain ⟨q, hq, rfl, hall, hbel⟩ := hrel
    have HB := hbel.out
    have bwr := (BOX.out wr HB).2
    have hsz := HB.size
    have y0 := (cell_row (BOX.out wr HB).1 0 (.slice o0 n0 k0) rfl).1
    have y1 := (cell_row (BOX.out wr HB).1 1 (.slice oa nb kb) rfl).1
    by_cases hlt : q < nb
    case neg =>
      go_wp2_with fail
      go_ret
      rw [can_yes (fun i hi => hall.out i (by have := ENB.out; omega))]
      exact ⟨rfl, bwr⟩
    have han : a < nb := by have := ENB.out; omega
    have hqb : q < Bs.length := by have := ENB.out; omega
    obtain ⟨bb, off, o1, n1, k1, o2, n2, k2, rfl, hbS, e0, e1, e2, a1, a2, z0⟩ := bat_at (H1.out wr bwr) q hqb
    obtain ⟨bb', off', p1, m1, l1, p2, m2, l2, hoo, _, _, _, g2, _, b2, _⟩ := bat_at (H1.out wr bwr) a ha
    cases hoo
    obtain ⟨f, ef⟩ : ∃ f, Bs[q] = f := ⟨_, rfl⟩
    obtain ⟨g, eg⟩ : ∃ g, Bs[a] = g := ⟨_, rfl⟩
    rw [ef] at e0 a1 a2 z0
    rw [eg] at b2
    have hwa : inWay Bs a gone q = (!(q == a) && !(hasB gone f.1) && shareB f.2.1 g.2.2) := by unfold inWay; rw [btN_at hqb, btN_at ha, ef, eg]
    have qy0 := fun d os => cell_regrown y0 d os
    have qy1 := fun d os => cell_regrown y1 d os
    have qe0 := fun d os => cell_regrown e0 d os
    have qe1 := fun d os => cell_regrown e1 d os
    have qg2 := fun d os => cell_regrown g2 d os
    have A1 : Hid (AtL S wr f.2.1 (.slice o1 n1 k1)) := a1
    have A2 : Hid (AtL S wr g.2.2 (.slice p2 m2 l2)) := b2
    have AG : Hid (AtL SG wr gone (.slice og ng kg)) := HG.out wr bwr
    have SW : Hid (∀ b, S b → b < wr.heap.size) := HS.out wr bwr
    have SGW : Hid (∀ b, SG b → b < wr.heap.size) := HSG.out wr bwr
    clear y0 e0 e1 e2 g2 a1 a2 b2
    by_cases hqa : q = a
    · have hqi : ((q : Int) == (a : Int)) = true := by simp [hqa]
      have hqn : ((q : Int) != (a : Int)) = false := by simp [hqa]
      have hw0 : inWay Bs a gone q = false := by rw [hwa]; simp [hqa]
      go_wp2
      refine wp_region_quiet_below (by kernel_rfl) (by kernel_rfl) ?_
      repeat (first | go_big_quiet_step (fail) | quiet_step (fail))
      refine wpQuiet_nil ?_
      intro _ hw'
      obtain ⟨⟨dq, osq⟩, hw''⟩ := hw'
      subst hw''
      go_wp2
      go_roundw
      case rel => exact ⟨q + 1, by omega, by go_num, fun j hj => by
        by_cases e : j = q
        · subst e; exact hw0
        · exact hall.out j (by omega), HB.trans ((below_regrown _ dq osq).mono hsz)⟩
      case measure => simp [intOf]; omega
    have hqi : ((q : Int) == (a : Int)) = false := by simp; omega
    have hqn : ((q : Int) != (a : Int)) = true := by simp; omega
    have hqa' : (q == a) = false := by simpa using hqa
    cases c0 : hasB gone f.1
    case true =>
      have hw0 : inWay Bs a gone q = false := by rw [hwa, c0]; simp
      go_wp2
      refine wp_region_quiet_below (by kernel_rfl) (by kernel_rfl) ?_
      repeat (first | go_big_quiet_step (with_reducible exact hasZ_q SG _ gone _ _ AG.out SGW.out _ c0 _ _) | quiet_step (with_reducible exact hasZ_q SG _ gone _ _ AG.out SGW.out _ c0 _ _))
      refine wpQuiet_nil ?_
      intro _ hw'
      obtain ⟨⟨dq, osq⟩, hw''⟩ := hw'
      subst hw''
      go_wp2
      go_roundw
      case rel => exact ⟨q + 1, by omega, by go_num, fun j hj => by
        by_cases e : j = q
        · subst e; exact hw0
        · exact hall.out j (by omega), HB.trans ((below_regrown _ dq osq).mono hsz)⟩
      case measure => simp [intOf]; omega
    cases c1 : shareB f.2.1 g.2.2
    case false =>
      have hw0 : inWay Bs a gone q = false := by rw [hwa, c1]; simp
      go_wp2
      refine wp_region_quiet_below (by kernel_rfl) (by kernel_rfl) ?_
      repeat (first | go_big_quiet_step (first | (with_reducible exact hasZ_q SG _ gone _ _ AG.out SGW.out _ c0 _ _) | (with_reducible exact shareZ_q S _ _ f.2.1 g.2.2 _ A1.out A2.out SW.out _ c1 _ _)) | quiet_step (first | (with_reducible exact hasZ_q SG _ gone _ _ AG.out SGW.out _ c0 _ _) | (with_reducible exact shareZ_q S _ _ f.2.1 g.2.2 _ A1.out A2.out SW.out _ c1 _ _)))
      refine wpQuiet_nil ?_
      intro _ hw'
      obtain ⟨⟨dq, osq⟩, hw''⟩ := hw'
      subst hw''
      go_wp2
      go_roundw
      case rel => exact ⟨q + 1, by omega, by go_num, fun j hj => by
        by_cases e : j = q
        · subst e; exact hw0
        · exact hall.out j (by omega), HB.trans ((below_regrown _ dq osq).mono hsz)⟩
      case measure => simp [intOf]; omega
    have hw0 : inWay Bs a gone q = true := by rw [hwa, hqa', c0, c1]; rfl
    go_wp2
    refine wp_region_quiet_below (by kernel_rfl) (by kernel_rfl) ?_
    repeat (first | go_big_quiet_step (first | (with_reducible exact hasZ_q SG _ gone _ _ AG.out SGW.out _ c0 _ _) | (with_reducible exact shareZ_q S _ _ f.2.1 g.2.2 _ A1.out A2.out SW.out _ c1 _ _)) | quiet_step (first | (with_reducible exact hasZ_q SG _ gone _ _ AG.out SGW.out _ c0 _ _) | (with_reducible exact shareZ_q S _ _ f.2.1 g.2.2 _ A1.out A2.out SW.out _ c1 _ _)))
    refine wpQuiet_nil ?_
    intro _ hw'
    obtain ⟨⟨dq, osq⟩, hw''⟩ := hw'
    subst hw''
    go_wp2
    go_ret
    rw [can_no hqb hw0]
    exact ⟨rfl, bwr.trans ((below_regrown _ dq osq).mono bwr.size)⟩
end Go.Proofs.YtaejlcanccfmmaaGreatDoor

namespace Go.Proofs.YtaejlcanccfmmaaGreatDoor
open Go.RowKit Go.Sort
def freeB (Bs : List DShareBatch) (gone : List ByteArray) (i : Nat) : Bool := !(hasB gone (btN Bs i).1) && canB Bs i gone
def nxtI (Bs : List DShareBatch) (gone : List ByteArray) : Int := idxI (List.range Bs.length) (freeB Bs gone)
theorem nxt_yes {Bs : List DShareBatch} {gone : List ByteArray} {q : Nat} (hq : q < Bs.length) (h : freeB Bs gone q = true) (hno : ∀ j, j < q → freeB Bs gone j = false) : nxtI Bs gone = (q : Int) :=
  idx_yes (l := List.range Bs.length) (k := q) (by simpa using hq) (by simpa using h) (fun j hj hjq => by simpa using hno j hjq)
theorem nxt_no {Bs : List DShareBatch} {gone : List ByteArray} (h : ∀ j, j < Bs.length → freeB Bs gone j = false) : nxtI Bs gone = -1 :=
  idx_no (l := List.range Bs.length) (fun j hj => by simpa using h j (by simpa using hj))
set_option maxRecDepth 100000 in
set_option maxHeartbeats 8000000 in
theorem nextZ_any (S : Nat → Prop) (T : List ByteArray) (Bs : List DShareBatch) (o0 oa : Option Addr) (n0 k0 nb kb : Nat) (SG : Nat → Prop) (gone : List ByteArray) (og : Option Addr) (ng kg : Nat) (w : World) (h0 : AtL S w T (.slice o0 n0 k0)) (h1 : AtL S w Bs (.slice oa nb kb)) (hS : ∀ b, S b → b < w.heap.size) (hG : AtL SG w gone (.slice og ng kg)) (hSG : ∀ b, SG b → b < w.heap.size) :
    Calls Tryz.prog 115 #[.agg #[.slice o0 n0 k0, .slice oa nb kb], .slice og ng kg] w fun e w' => e = .returned (.int .i64 (nxtI Bs gone)) ∧ Below w.heap.size w w' := by
  have HG : Hid _ := hG.ups hSG
  have HSG : Hid _ := lt_up hSG
  have enb : Bs.length = nb := by obtain ⟨_, _, e, _⟩ := h1; cases e; rfl
  have hmx : nb ≤ 9223372036854775807 := by obtain ⟨_, _, e, hf, _⟩ := id h1; cases e; have := hf.1; unfold maxLen at this; omega
  have ENB : Hid (Bs.length ≤ nb ∧ nb ≤ Bs.length) := ⟨by omega, by omega⟩
  have H0 : Hid _ := h0.ups hS
  have H1 : Hid _ := h1.ups hS
  have HS : Hid _ := lt_up hS
  obtain ⟨W, EW, BW, RW, sW⟩ := box_new w #[.slice o0 n0 k0, .slice oa nb kb] 26
  clear enb
  have BOX : Hid (∀ u, Below W.heap.size W u → u.heap[w.heap.size]? = some (.cells #[.slice o0 n0 k0, .slice oa nb kb] 26 (0, 0)) ∧ Below w.heap.size w u) := fun u hu => ⟨(hu.block _ (by omega)).trans RW.out, BW.out.trans (hu.mono (by omega))⟩
  go_enter Tryz.func115, Tryz.ntmps115
  go_wp2_with fail
  rw [← EW.out]
  go_loopw [5] (fun i wr => ∃ q : Nat, q ≤ nb ∧ i = .int .i64 q ∧ Hid (∀ j, j < q → freeB Bs gone j = false) ∧ Hid (Below W.heap.size W wr)) (fun i _ => nb - (intOf i).toNat)
  case atStart => exact ⟨0, Nat.zero_le _, rfl, fun _ h => by omega, Below.refl _ _⟩
  case round =>
    obtain ⟨q, hq, rfl, hall, hbel⟩ := hrel
    have HB := hbel.out
    have bwr := (BOX.out wr HB).2
    have hsz := HB.size
    have y0 := (cell_row (BOX.out wr HB).1 0 (.slice o0 n0 k0) rfl).1
    have y1 := (cell_row (BOX.out wr HB).1 1 (.slice oa nb kb) rfl).1
    by_cases hlt : q < nb
    case neg =>
      go_wp2_with fail
      go_ret
      rw [nxt_no (fun i hi => hall.out i (by have := ENB.out; omega))]
      exact ⟨rfl, bwr⟩
    have hqb : q < Bs.length := by have := ENB.out; omega
    obtain ⟨bb, off, o1, n1, k1, o2, n2, k2, rfl, hbS, e0, _, _, _, _, _⟩ := bat_at (H1.out wr bwr) q hqb
    obtain ⟨f, ef⟩ : ∃ f, Bs[q] = f := ⟨_, rfl⟩
    rw [ef] at e0
    have hfr : freeB Bs gone q = (!(hasB gone f.1) && canB Bs q gone) := by unfold freeB; rw [btN_at hqb, ef]
    have CH : Hid (Calls Tryz.prog 20 #[.slice og ng kg, .string f.1] wr fun e w' => e = .returned (.bool (hasB gone f.1)) ∧ Below wr.heap.size wr w') := hasZ_any SG _ gone f.1 wr (HG.out wr bwr)
    go_wp2_with fail
    refine CH.out.mono ?_; rintro e u1 ⟨rfl, hb1⟩
    have HB1 : Below W.heap.size W u1 := HB.trans (hb1.mono hsz)
    have bu1 := (BOX.out u1 HB1).2
    have B1 : Hid (Below W.heap.size W u1) := HB1
    have s1 := HB1.size
    clear hb1 y0 y1 e0
    have y0 := (cell_row (BOX.out u1 HB1).1 0 (.slice o0 n0 k0) rfl).1
    have y1 := (cell_row (BOX.out u1 HB1).1 1 (.slice (some ⟨bb, off, none⟩) nb kb) rfl).1
    cases c0 : hasB gone f.1
    case true =>
      have hw0 : freeB Bs gone q = false := by rw [hfr, c0]; rfl
      go_wp2_with fail
      go_roundw
      case rel => exact ⟨q + 1, by omega, by go_num, fun j hj => by
        by_cases e : j = q
        · subst e; exact hw0
        · exact hall.out j (by omega), B1⟩
      case measure => simp [intOf]; omega
    have CC : Hid (Calls Tryz.prog 118 #[.agg #[.slice o0 n0 k0, .slice (some ⟨bb, off, none⟩) nb kb], .int .i64 q, .slice og ng kg] u1 fun e w' => e = .returned (.bool (canB Bs q gone)) ∧ Below u1.heap.size u1 w') := canZ_any S T Bs _ _ _ _ _ _ SG gone og ng kg q u1 (H0.out u1 bu1) (H1.out u1 bu1) (HS.out u1 bu1) (HG.out u1 bu1) (HSG.out u1 bu1) hqb
    go_wp2_with fail
    refine CC.out.mono ?_; rintro e u2 ⟨rfl, hb2⟩
    have B2 : Hid (Below W.heap.size W u2) := B1.out.trans (hb2.mono s1)
    have bu2 := (BOX.out u2 B2.out).2
    clear hb2 y0 y1
    cases c1 : canB Bs q gone
    · have hw0 : freeB Bs gone q = false := by rw [hfr, c1]; simp
      go_wp2_with fail
      go_roundw
      case rel => exact ⟨q + 1, by omega, by go_num, fun j hj => by
        by_cases e : j = q
        · subst e; exact hw0
        · exact hall.out j (by omega), B2⟩
      case measure => simp [intOf]; omega
    · have hw0 : freeB Bs gone q = true := by rw [hfr, c0, c1]; rfl
      go_wp2_with fail
      go_ret
      rw [nxt_yes hqb hw0 (fun j hj => hall.out j hj)]
      exact ⟨rfl, bu2⟩
end Go.Proofs.YtaejlcanccfmmaaGreatDoor

namespace Go.Proofs.YtaejlcanccfmmaaGreatDoor
open Go.RowKit
theorem own_built {base e size k : Nat} {w : World} {c : Array Value} (hb : base ≤ w.heap.size) (hk : k ≤ maxLen) (hc : c.size = k * size) : (w.alloc (.cells c e)).ownsRow base e size (.slice (some ⟨w.heap.size, 0, none⟩) k k) k c.toList :=
  ⟨by simp [hc], .inr ⟨w.heap.size, k, c, rfl, hb, heap_alloc_new w _, Nat.le_refl _, hk, hc, by rw [List.take_of_length_le (by simp [hc])]⟩⟩
def eS (a : ByteArray) (_ : Nat) : Value := .string a
abbrev OkS (a : ByteArray) : Prop := a.size ≤ maxLen
theorem flatS : Flat 1 eS OkS := ⟨rfl, fun h => ⟨fun j hj => by obtain rfl : j = 0 := (by omega); exact h.1, h.2⟩, fun h => ⟨rfl, h⟩, fun _ _ => rfl⟩
theorem infS : (Tryz.prog.info? 9).map (fun i => (i.zero, i.size, i.bytes)) = some (some (.string ByteArray.empty), 1, 16) := by kernel_rfl
theorem elS : ElT Tryz.prog 23 9 1 16 := by
  obtain ⟨i0, hi, hz0, hz1, hz2⟩ := info_parts infS
  exact ⟨by kernel_rfl, ⟨i0, _, hi, hz0, hz1, hz2, rfl⟩, by decide⟩
theorem flat_on {α : Type} [Own α] {k : Nat} {e : α → Nat → Value} {ok : α → Prop} (F : Flat k e ok) (hon : ∀ {w : World} {a : α}, ok a → Own.On (fun _ => False) w a (e a)) {w : World} {B : Nat} {t : TypeId} {v : Value} {l : List α} (h : Row w B t k e v l) {S : Nat → Prop} (hS : ∀ g, v.ownBlock = some g → S g) (hok : ∀ x ∈ l, ok x) : OnL S w l v := by
  have := Row.on h id F.wid hS (fun _ _ => False) (fun _ _ h => h.elim) (fun _ _ _ h => h.elim) (fun i hi => hon (hok _ (List.getElem_mem hi)))
  rwa [List.map_id] at this
theorem onS {w : World} {B : Nat} {t : TypeId} {v : Value} {l : List ByteArray} (h : Row w B t 1 eS v l) {S : Nat → Prop} (hS : ∀ g, v.ownBlock = some g → S g) (hok : ∀ x ∈ l, OkS x) : OnL S w l v := flat_on flatS (fun h => ⟨rfl, h⟩) h hS hok
end Go.Proofs.YtaejlcanccfmmaaGreatDoor

namespace Go.Proofs.YtaejlcanccfmmaaGreatDoor
open Go.RowKit Go.Sort
def ordF (Bs : List DShareBatch) : Nat → List ByteArray → List ByteArray × Bool
  | 0, g => (g, true)
  | n + 1, g => if nxtI Bs g < 0 then ([], false) else ordF Bs n (g ++ [(btN Bs (nxtI Bs g).toNat).1])
noncomputable def ordS (D : DShareBook) : List ByteArray × Bool := if bokB D = true then ordF D.2 D.2.length [] else ([], false)
theorem nxt_lt {Bs : List DShareBatch} {g : List ByteArray} (h : ¬ nxtI Bs g < 0) : ∃ q : Nat, nxtI Bs g = (q : Int) ∧ q < Bs.length := by
  unfold nxtI idxI at h ⊢
  cases e : (List.range Bs.length).findIdx? (freeB Bs g) with
  | none => rw [e] at h; simp at h
  | some i =>
    refine ⟨i, rfl, ?_⟩
    have := List.findIdx?_eq_some_iff_getElem.1 e
    obtain ⟨h1, _⟩ := this
    simpa using h1
def lenV (v : Value) : Nat := match v with
  | .slice _ n _ => n
  | _ => 0
set_option maxRecDepth 100000 in
set_option maxHeartbeats 16000000 in
theorem orderZ_any (S : Nat → Prop) (T : List ByteArray) (Bs : List DShareBatch) (o0 oa : Option Addr) (n0 k0 nb kb : Nat) (w : World) (h0 : AtL S w T (.slice o0 n0 k0)) (h1 : AtL S w Bs (.slice oa nb kb)) (hS : ∀ b, S b → b < w.heap.size) :
    Calls Tryz.prog 110 #[.agg #[.slice o0 n0 k0, .slice oa nb kb]] w fun e w' => ∃ q, e = .returned (.tuple #[q, .bool (ordS (T, Bs)).2]) ∧ Row w' w.heap.size 9 1 eS q (ordS (T, Bs)).1 ∧ Below w.heap.size w w' := by
  have enb : Bs.length = nb := by obtain ⟨_, _, e, _⟩ := h1; cases e; rfl
  have hmx : nb ≤ 9223372036854775807 := by obtain ⟨_, _, e, hf, _⟩ := id h1; cases e; have := hf.1; unfold maxLen at this; omega
  have ENB : Hid (Bs.length ≤ nb ∧ nb ≤ Bs.length) := ⟨by omega, by omega⟩
  have H0 : Hid _ := h0.ups hS
  have H1 : Hid _ := h1.ups hS
  have HS : Hid _ := lt_up hS
  obtain ⟨W, EW, BW, RW, sW⟩ := box_new w #[.slice o0 n0 k0, .slice oa nb kb] 26
  clear enb
  have BOX : Hid (∀ u, Below W.heap.size W u → u.heap[w.heap.size]? = some (.cells #[.slice o0 n0 k0, .slice oa nb kb] 26 (0, 0)) ∧ Below w.heap.size w u) := fun u hu => ⟨(hu.block _ (by omega)).trans RW.out, BW.out.trans (hu.mono (by omega))⟩
  obtain ⟨R, hR⟩ : ∃ R, R = ordS (T, Bs) := ⟨_, rfl⟩
  have HRR : Hid (R = ordS (T, Bs)) := hR
  rw [← hR]
  clear hR
  obtain ⟨W1, hW1⟩ : ∃ W1, W1 = W.alloc (.cells #[] 9) := ⟨_, rfl⟩
  have EW1 : Hid (W1 = W.alloc (.cells #[] 9)) := hW1
  have BW1 : Hid (Below W.heap.size W W1) := by rw [hW1]; exact (Below.refl _ _).alloc (Nat.le_refl _) _
  have G0 : Hid (Row W1 W.heap.size 9 1 eS (.slice (some ⟨W.heap.size, 0, none⟩) 0 0) []) := by
    show World.ownsRow _ _ _ _ _ _ _
    rw [hW1]
    exact own_built (c := #[]) (by omega) (by unfold maxLen; omega) rfl
  have sW1 : W.heap.size + 1 ≤ W1.heap.size := by rw [hW1]; simp
  clear hW1
  have HB := BW1.out
  have y0 := (cell_row (BOX.out W1 HB).1 0 (.slice o0 n0 k0) rfl).1
  have y1 := (cell_row (BOX.out W1 HB).1 1 (.slice oa nb kb) rfl).1
  have CB : Hid (Calls Tryz.prog 16 #[.agg #[.slice o0 n0 k0, .slice oa nb kb]] W1 fun e w' => e = .returned (.bool (bokB (T, Bs))) ∧ Below W1.heap.size W1 w') := bookZ_any S (T, Bs) _ _ W1 (H0.out W1 (BOX.out W1 HB).2) (H1.out W1 (BOX.out W1 HB).2) (HS.out W1 (BOX.out W1 HB).2)
  go_enter Tryz.func110, Tryz.ntmps110
  go_upto_region 1 with fail
  rw [← EW.out]
  go_upto_region 2 with fail
  rw [← EW1.out]
  go_wp2_with fail
  refine CB.out.mono ?_; rintro e u ⟨rfl, hbu⟩
  have BU : Hid (Below W.heap.size W u) := HB.trans (hbu.mono HB.size)
  have GU : Hid (Row u W.heap.size 9 1 eS (.slice (some ⟨W.heap.size, 0, none⟩) 0 0) []) := Row.below G0.out hbu
  clear hbu y0 y1 HB CB
  cases hbk : bokB (T, Bs)
  · have er : R = ([], false) := by rw [HRR.out]; unfold ordS; rw [hbk]; rfl
    subst er
    go_wp2_with fail
    exact bodyPost_ret (v := .tuple #[.slice (some ⟨W.heap.size, 0, none⟩) 0 0, .bool false]) (by simp [results, Tryz.results110, go_sem]) rfl ⟨_, rfl, Row.low GU.out (by omega), (BOX.out u BU.out).2⟩
  have hst : R = ordF Bs Bs.length [] := by rw [HRR.out]; unfold ordS; rw [hbk]; rfl
  have hnb5 : nb ≤ 5 := by have h1 := (bok_iff.1 hbk).len; have h2 := ENB.out; simp only at h1; omega
  go_wp2_with fail
  go_loopw [4] (fun v wr => ∃ (gone : List ByteArray) (og : Option Addr) (kg ng : Nat), v = .slice og ng kg ∧ ng ≤ nb ∧ Hid (gone.length ≤ ng ∧ ng ≤ gone.length) ∧ Hid (Row wr W.heap.size 9 1 eS (.slice og ng kg) gone) ∧ Hid (∀ x ∈ gone, x.size ≤ maxLen) ∧ Hid (R = ordF Bs (Bs.length - gone.length) gone) ∧ Hid (Below W.heap.size W wr)) (fun v _ => nb - lenV v)
  case atStart => exact ⟨[], _, _, 0, rfl, Nat.zero_le _, ⟨Nat.le_refl _, Nat.le_refl _⟩, GU, fun x hx => by simp at hx, hst, BU⟩
  case round =>
    obtain ⟨gone, og, kg, ng, rfl, hng, hgl, hrow, hok, hor, hbel⟩ := hrel
    have HB := hbel.out
    have bwr := (BOX.out wr HB).2
    have hsz := HB.size
    have y0 := (cell_row (BOX.out wr HB).1 0 (.slice o0 n0 k0) rfl).1
    have y1 := (cell_row (BOX.out wr HB).1 1 (.slice oa nb kb) rfl).1
    by_cases hlt : ng < nb
    case neg =>
      have er : R = (gone, true) := by
        rw [hor.out, show Bs.length - gone.length = 0 by have := ENB.out; have := hgl.out; omega]; rfl
      subst er
      go_wp2_with fail
      exact bodyPost_ret (v := .tuple #[.slice og ng kg, .bool true]) (by simp [results, Tryz.results110, go_sem]) rfl ⟨_, rfl, Row.low hrow.out (by omega), bwr⟩
    have hmore : R = if nxtI Bs gone < 0 then ([], false) else ordF Bs (Bs.length - gone.length - 1) (gone ++ [(btN Bs (nxtI Bs gone).toNat).1]) := by
      have h1 := ENB.out
      have h2 := hgl.out
      have h3 := hor.out
      obtain ⟨k, ek⟩ : ∃ k, Bs.length - gone.length = k + 1 := ⟨Bs.length - gone.length - 1, by omega⟩
      rw [ek] at h3 ⊢
      rw [h3]; rfl
    have hlt' := World.ownsRow.lt hrow.out
    have hlow : Hid (∀ qq, (Value.slice og ng kg).ownBlock = some qq → W.heap.size ≤ qq) := fun qq hq => (hlt' qq hq).1
    have AG : AtL (fun b => W.heap.size ≤ b ∧ b < wr.heap.size) wr gone (.slice og ng kg) := flatS.row_at hrow.out (fun q hq => hlt' q hq) (fun x hx => hok.out x hx)
    have CN : Hid (Calls Tryz.prog 115 #[.agg #[.slice o0 n0 k0, .slice oa nb kb], .slice og ng kg] wr fun e w' => e = .returned (.int .i64 (nxtI Bs gone)) ∧ Below wr.heap.size wr w') := nextZ_any S T Bs _ _ _ _ _ _ _ gone og ng kg wr (H0.out wr bwr) (H1.out wr bwr) (HS.out wr bwr) AG (fun b hb => hb.2)
    clear AG hlt'
    go_wp2_with fail
    refine CN.out.mono ?_; rintro e u ⟨rfl, hbu⟩
    have BU2 : Hid (Below W.heap.size W u) := HB.trans (hbu.mono hsz)
    have GU2 : Hid (Row u W.heap.size 9 1 eS (.slice og ng kg) gone) := Row.below hrow.out hbu
    have su := BU2.out.size
    clear hbu y0 y1 CN
    by_cases hneg : nxtI Bs gone < 0
    · have er : R = ([], false) := by rw [hmore, if_pos hneg]
      subst er
      have GE : Row (u.alloc (.cells #[] 9)) w.heap.size 9 1 eS (.slice (some ⟨u.heap.size, 0, none⟩) 0 0) [] := own_built (c := #[]) (by omega) (by unfold maxLen; omega) rfl
      have BE : Below w.heap.size w (u.alloc (.cells #[] 9)) := ((BOX.out u BU2.out).2).alloc (by omega) _
      go_wp2_with fail
      exact bodyPost_ret (v := .tuple #[.slice (some ⟨u.heap.size, 0, none⟩) 0 0, .bool false]) (by simp [results, Tryz.results110, go_sem]) rfl ⟨_, rfl, GE, BE⟩
    obtain ⟨q, eq, hqb⟩ := nxt_lt hneg
    rw [if_neg hneg, eq, Int.toNat_natCast, btN_at hqb] at hmore
    have HMO : Hid _ := hmore
    clear hmore hor
    rw [eq]
    have bu := (BOX.out u BU2.out).2
    obtain ⟨bb, off, o1, n1, k1, o2, n2, k2, rfl, hbS, e0, _, _, _, _, z0⟩ := bat_at (H1.out u bu) q hqb
    have y1 := (cell_row (BOX.out u BU2.out).1 1 (.slice (some ⟨bb, off, none⟩) nb kb) rfl).1
    obtain ⟨f, ef⟩ : ∃ f, Bs[q] = f := ⟨_, rfl⟩
    rw [ef] at e0 z0 HMO
    have hqn : q < nb := by have := ENB.out; omega
    have hng0 : ¬ ((q : Int) < 0) := by omega
    obtain ⟨i0, zz, hi, hz0, hz1, hz2, hz3⟩ := elS.info
    have OWN : Hid ((u.alloc (.cells #[.string f.1] 9)).ownsRow W.heap.size 9 1 (.slice og ng kg) ng (enc 1 eS gone)) := by
      have h1 := Row.below GU2.out ((Below.refl _ _).alloc (Nat.le_refl _) (.cells #[.string f.1] 9))
      have h2 : gone.length = ng := by have := hgl.out; omega
      rw [Row, h2] at h1
      exact h1
    clear hneg
    go_wp2_with (at_builtin; refine wpList_append_own_at _ rfl _ _ 23 rfl W.heap.size 9 i0 zz 1 16 elS.ht hi hz0 hz1 hz2 hz3 (by decide) _ _ _ rfl OWN.out ⟨u.heap.size, 0, none⟩ 1 1 [.string f.1] rfl rfl (cell_one_new _ _ _) (by simp [Value.oneCell']) (by unfold maxLen; omega) (by omega) (by simp; omega) ?_; intro v' u8 hown hgr _ hbk'; have ROW : Row u8 W.heap.size 9 1 eS v' (gone ++ [f.1]) := (by show World.ownsRow _ _ _ _ _ _ _; rw [List.length_append, enc_append, show gone.length = ng by have := hgl.out; omega]; exact hown); have B8 : Below W.heap.size W u8 := (BU2.out.alloc su _).grown hgr (by simp; omega) (fun qq hq => by have := hlow.out qq hq; omega); obtain ⟨ov', kv', hv'⟩ := Row.form ROW; subst hv'; have ROWH : Hid (Row u8 W.heap.size 9 1 eS (.slice ov' (gone ++ [f.1]).length kv') (gone ++ [f.1])) := ROW; have B8H : Hid _ := B8; clear ROW hgr hbk' hown B8)
    go_roundw
    case rel => exact ⟨gone ++ [f.1], ov', kv', _, rfl, by have := hgl.out; omega, ⟨by simp, by simp⟩, (by have h := ROWH; rw [List.length_append] at h; exact h), fun x hx => by
      rcases List.mem_append.1 hx with h | h
      · exact hok.out x h
      · simp at h; rw [h]; exact z0, by
        show R = _
        rw [HMO.out, List.length_append, show Bs.length - (gone.length + [f.1].length) = Bs.length - gone.length - 1 by simp; omega], B8H⟩
    case measure => simp [lenV]; have := hgl.out; omega
end Go.Proofs.YtaejlcanccfmmaaGreatDoor

namespace Go.Proofs.YtaejlcanccfmmaaGreatDoor
open Go.RowKit
def gnS (Bs : List DShareBatch) : Nat → List ByteArray
  | 0 => []
  | k + 1 => gnS Bs k ++ [(btN Bs (nxtI Bs (gnS Bs k)).toNat).1]
def Vd (Bs : List DShareBatch) (k : Nat) : Prop := ∀ j, j < k → ¬ nxtI Bs (gnS Bs j) < 0
def allG (Bs : List DShareBatch) (g : List ByteArray) : Bool := !(Bs.any fun f => !(hasB g f.1))
theorem allG_iff {Bs : List DShareBatch} {g : List ByteArray} : allG Bs g = true ↔ ∀ x ∈ Bs.map (·.1), x ∈ g := by
  unfold allG
  rw [Bool.not_eq_true', List.any_eq_false]
  constructor
  · intro h x hx
    obtain ⟨f, hf, rfl⟩ := List.mem_map.1 hx
    have := h f hf
    simp only [Bool.not_eq_true', Bool.not_eq_false] at this
    exact (hasB_iff _ _).1 (by simpa using this)
  · intro h f hf
    rw [(hasB_iff _ _).2 (h f.1 (List.mem_map.2 ⟨f, hf, rfl⟩))]
    simp
theorem nxt_free {Bs : List DShareBatch} {g : List ByteArray} (h : ¬ nxtI Bs g < 0) : ∃ q : Nat, nxtI Bs g = (q : Int) ∧ ∃ hq : q < Bs.length, hasB g Bs[q].1 = false ∧ canB Bs q g = true := by
  unfold nxtI idxI at h ⊢
  cases e : (List.range Bs.length).findIdx? (freeB Bs g) with
  | none => rw [e] at h; simp at h
  | some i =>
    obtain ⟨hi, h1, _⟩ := List.findIdx?_eq_some_iff_getElem.1 e
    have hi' : i < Bs.length := by simpa using hi
    rw [List.getElem_range] at h1
    unfold freeB at h1
    rw [btN_at hi', Bool.and_eq_true, Bool.not_eq_true'] at h1
    exact ⟨i, rfl, hi', h1⟩
theorem gn_len (Bs : List DShareBatch) : ∀ k, (gnS Bs k).length = k
  | 0 => rfl
  | k + 1 => by rw [gnS, List.length_append, gn_len Bs k]; rfl
theorem Vd.down {Bs : List DShareBatch} {k : Nat} (h : Vd Bs (k + 1)) : Vd Bs k := fun j hj => h j (by omega)
theorem Vd.up {Bs : List DShareBatch} {k : Nat} (h : Vd Bs k) (hn : ¬ nxtI Bs (gnS Bs k) < 0) : Vd Bs (k + 1) := fun j hj => by
  by_cases e : j = k
  · subst e; exact hn
  · exact h j (by omega)
section
variable {T : List ByteArray} {Bs : List DShareBatch}
theorem names_nodup (h : BokP (T, Bs)) : (Bs.map (·.1)).Nodup := by
  refine List.pairwise_iff_getElem.2 fun i j hi hj hij e => ?_
  rw [List.getElem_map, List.getElem_map] at e
  have := bok_names h (by simpa using hi) (by simpa using hj) e
  omega
theorem gn_sub (h : BokP (T, Bs)) : ∀ {k : Nat}, Vd Bs k → (gnS Bs k).Nodup ∧ ∀ x ∈ gnS Bs k, x ∈ Bs.map (·.1)
  | 0, _ => ⟨List.nodup_nil, fun x hx => by cases hx⟩
  | k + 1, hv => by
    obtain ⟨h1, h2⟩ := gn_sub h hv.down
    obtain ⟨q, eq, hq, hg, _⟩ := nxt_free (hv k (by omega))
    rw [gnS, eq, Int.toNat_natCast, btN_at hq]
    constructor
    · refine List.nodup_append.2 ⟨h1, by simp, fun a ha b hb e => ?_⟩
      rw [List.mem_singleton] at hb
      rw [e, hb] at ha
      rw [(hasB_iff _ _).2 ha] at hg
      cases hg
    · intro x hx
      rcases List.mem_append.1 hx with hx | hx
      · exact h2 x hx
      · rw [List.mem_singleton] at hx
        rw [hx]
        exact List.mem_map.2 ⟨_, List.getElem_mem hq, rfl⟩
theorem vd_le (h : BokP (T, Bs)) {k : Nat} (hv : Vd Bs k) : k ≤ Bs.length := by
  obtain ⟨h1, h2⟩ := gn_sub h hv
  have := h1.length_le_of_subset h2
  rw [gn_len, List.length_map] at this
  exact this
theorem all_when (h : BokP (T, Bs)) {k : Nat} (hv : Vd Bs k) : allG Bs (gnS Bs k) = decide (k = Bs.length) := by
  obtain ⟨h1, h2⟩ := gn_sub h hv
  have hle := vd_le h hv
  rw [Bool.eq_iff_iff, allG_iff, decide_eq_true_iff]
  constructor
  · intro ha
    have := (names_nodup h).length_le_of_subset ha
    rw [gn_len, List.length_map] at this
    omega
  · intro e x hx
    refine Classical.byContradiction fun hn => ?_
    have nd : (x :: gnS Bs k).Nodup := List.nodup_cons.2 ⟨hn, h1⟩
    have := nd.length_le_of_subset (l₂ := Bs.map (·.1)) (fun y hy => by
      rcases List.mem_cons.1 hy with rfl | hy
      · exact hx
      · exact h2 y hy)
    rw [List.length_cons, gn_len, List.length_map] at this
    omega
theorem ord_at : ∀ {k : Nat}, Vd Bs k → k ≤ Bs.length → ordF Bs Bs.length [] = ordF Bs (Bs.length - k) (gnS Bs k)
  | 0, _, _ => rfl
  | k + 1, hv, hk => by
    rw [ord_at hv.down (by omega), show Bs.length - k = (Bs.length - (k + 1)) + 1 by omega, ordF, if_neg (hv k (by omega))]
    rfl
theorem ord_end (hb : bokB (T, Bs) = true) {k : Nat} (hv : Vd Bs k) (hs : nxtI Bs (gnS Bs k) < 0 ∨ k = Bs.length) : ordS (T, Bs) = if k = Bs.length then (gnS Bs k, true) else ([], false) := by
  have h := bok_iff.1 hb
  have hle := vd_le h hv
  unfold ordS
  rw [if_pos hb]
  show ordF Bs Bs.length [] = _
  rw [ord_at hv hle]
  by_cases e : k = Bs.length
  · rw [if_pos e, show Bs.length - k = 0 by omega]; rfl
  · rw [if_neg e, show Bs.length - k = (Bs.length - k - 1) + 1 by omega, ordF, if_pos (hs.resolve_right e)]
theorem gn_short (h : BokP (T, Bs)) {k : Nat} (hv : Vd Bs k) : ∀ x ∈ gnS Bs k, x.size ≤ 8 := fun x hx => by
  obtain ⟨f, hf, rfl⟩ := List.mem_map.1 ((gn_sub h hv).2 x hx)
  obtain ⟨i, hi, rfl⟩ := List.getElem_of_mem hf
  have := (h.row i hi).bat
  unfold batB at this
  simp only [Bool.and_eq_true] at this
  have := this.1.1.1
  unfold nameB at this
  rw [Bool.and_eq_true, decide_eq_true_iff] at this
  exact this.1.2
end
end Go.Proofs.YtaejlcanccfmmaaGreatDoor
