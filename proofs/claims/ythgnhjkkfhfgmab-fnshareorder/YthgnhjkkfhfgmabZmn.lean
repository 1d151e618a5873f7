/-
  The next one that can, by the model.
-/
import Derived.Test.YthgnhjkkfhfgmabZmc
namespace Go.Proofs.Ythgnhjkkfhfgmab
open Go.RowKit Go.Sort

/-- The first that is not gone and can, -1 if there is none. -/
def freeB (Bs : List DShareBatch) (gone : List ByteArray) (i : Nat) : Bool := !(hasB gone (btN Bs i).1) && canB Bs i gone
def nxtI (Bs : List DShareBatch) (gone : List ByteArray) : Int := idxI (List.range Bs.length) (freeB Bs gone)
theorem nxt_yes {Bs : List DShareBatch} {gone : List ByteArray} {q : Nat} (hq : q < Bs.length) (h : freeB Bs gone q = true) (hno : ∀ j, j < q → freeB Bs gone j = false) : nxtI Bs gone = (q : Int) :=
  idx_yes (l := List.range Bs.length) (k := q) (by simpa using hq) (by simpa using h) (fun j hj hjq => by simpa using hno j hjq)
theorem nxt_no {Bs : List DShareBatch} {gone : List ByteArray} (h : ∀ j, j < Bs.length → freeB Bs gone j = false) : nxtI Bs gone = -1 :=
  idx_no (l := List.range Bs.length) (fun j hj => by simpa using h j (by simpa using hj))

set_option maxRecDepth 100000 in
set_option maxHeartbeats 8000000 in
theorem nextZ_any (S : Nat → Prop) (T : List ByteArray) (Bs : List DShareBatch) (o0 oa : Option Addr) (n0 k0 nb kb : Nat) (SG : Nat → Prop) (gone : List ByteArray) (og : Option Addr) (ng kg : Nat) (w : World) (h0 : AtL S w T (.slice o0 n0 k0)) (h1 : AtL S w Bs (.slice oa nb kb)) (hS : ∀ b, S b → b < w.heap.size) (hG : AtL SG w gone (.slice og ng kg)) (hSG : ∀ b, SG b → b < w.heap.size) :
    Calls Try.prog 21 #[.agg #[.slice o0 n0 k0, .slice oa nb kb], .slice og ng kg] w fun e w' => e = .returned (.int .i64 (nxtI Bs gone)) ∧ Below w.heap.size w w' := by
  have HG : Hid (∀ u, Below w.heap.size w u → AtL SG u gone (.slice og ng kg)) := fun u hu => hG.same (Same.of_below hu hSG)
  have HSG : Hid (∀ u, Below w.heap.size w u → ∀ b, SG b → b < u.heap.size) := fun u hu b hb => Nat.lt_of_lt_of_le (hSG b hb) hu.size
  have enb : Bs.length = nb := by obtain ⟨_, _, e, _⟩ := h1; cases e; rfl
  have hmx : nb ≤ 9223372036854775807 := by obtain ⟨_, _, e, hf, _⟩ := id h1; cases e; have := hf.1; unfold maxLen at this; omega
  have ENB : Hid (Bs.length ≤ nb ∧ nb ≤ Bs.length) := ⟨by omega, by omega⟩
  have H0 : Hid (∀ u, Below w.heap.size w u → AtL S u T (.slice o0 n0 k0)) := fun u hu => h0.same (Same.of_below hu hS)
  have H1 : Hid (∀ u, Below w.heap.size w u → AtL S u Bs (.slice oa nb kb)) := fun u hu => h1.same (Same.of_below hu hS)
  have HS : Hid (∀ u, Below w.heap.size w u → ∀ b, S b → b < u.heap.size) := fun u hu b hb => Nat.lt_of_lt_of_le (hS b hb) hu.size
  obtain ⟨W, hW⟩ : ∃ W, W = w.alloc (.cells #[.slice o0 n0 k0, .slice oa nb kb] 26) := ⟨_, rfl⟩
  have EW : Hid (W = w.alloc (.cells #[.slice o0 n0 k0, .slice oa nb kb] 26)) := hW
  have BW : Hid (Below w.heap.size w W) := by rw [hW]; exact (Below.refl _ _).alloc (Nat.le_refl _) _
  have RW : Hid (W.heap[w.heap.size]? = some (.cells #[.slice o0 n0 k0, .slice oa nb kb] 26 (0, 0))) := by rw [hW]; exact heap_alloc_new w _
  have sW : w.heap.size + 1 ≤ W.heap.size := by rw [hW]; simp
  clear hW enb
  have BOX : Hid (∀ u, Below W.heap.size W u → u.heap[w.heap.size]? = some (.cells #[.slice o0 n0 k0, .slice oa nb kb] 26 (0, 0)) ∧ Below w.heap.size w u) := fun u hu => ⟨(hu.block _ (by omega)).trans RW.out, BW.out.trans (hu.mono (by omega))⟩
  go_enter Try.func21, Try.ntmps21
  go_wp2_with fail
  rw [← EW.out]
  go_loopw [5] (fun i wr => ∃ q : Nat, q ≤ nb ∧ i = .int .i64 q ∧ Hid (∀ j, j < q → freeB Bs gone j = false) ∧ Hid (Below W.heap.size W wr)) (fun i _ => nb - (intOf i).toNat)
  case atStart => exact ⟨0, Nat.zero_le _, rfl, fun _ h => by omega, Below.refl _ _⟩
  case round =>
    obtain ⟨q, hq, rfl, hall, hbel⟩ := hrel
    have HB := hbel.out
    have bwr := (BOX.out wr HB).2
    have hsz := HB.size
    have y0 := (cell_row (BOX.out wr HB).1 0 (.slice o0 n0 k0) rfl).1
    have y1 := (cell_row (BOX.out wr HB).1 1 (.slice oa nb kb) rfl).1
    by_cases hlt : q < nb
    case neg =>
      go_wp2_with fail
      go_ret
      rw [nxt_no (fun i hi => hall.out i (by have := ENB.out; omega))]
      exact ⟨rfl, bwr⟩
    have hqb : q < Bs.length := by have := ENB.out; omega
    obtain ⟨bb, off, o1, n1, k1, o2, n2, k2, rfl, hbS, e0, _, _, _, _, _⟩ := bat_at (H1.out wr bwr) q hqb
    obtain ⟨f, ef⟩ : ∃ f, Bs[q] = f := ⟨_, rfl⟩
    rw [ef] at e0
    have hfr : freeB Bs gone q = (!(hasB gone f.1) && canB Bs q gone) := by unfold freeB; rw [btN_at hqb, ef]
    have CH : Hid (Calls Try.prog 36 #[.slice og ng kg, .string f.1] wr fun e w' => e = .returned (.bool (hasB gone f.1)) ∧ Below wr.heap.size wr w') := hasZ_any SG _ gone f.1 wr (HG.out wr bwr)
    go_wp2_with fail
    refine CH.out.mono ?_; rintro e u1 ⟨rfl, hb1⟩
    have HB1 : Below W.heap.size W u1 := HB.trans (hb1.mono hsz)
    have bu1 := (BOX.out u1 HB1).2
    have B1 : Hid (Below W.heap.size W u1) := HB1
    have s1 := HB1.size
    clear hb1 y0 y1 e0
    have y0 := (cell_row (BOX.out u1 HB1).1 0 (.slice o0 n0 k0) rfl).1
    have y1 := (cell_row (BOX.out u1 HB1).1 1 (.slice (some ⟨bb, off, none⟩) nb kb) rfl).1
    cases c0 : hasB gone f.1
    case true =>
      have hw0 : freeB Bs gone q = false := by rw [hfr, c0]; rfl
      go_wp2_with fail
      go_roundw
      case rel => exact ⟨q + 1, by omega, by go_num, fun j hj => by
        by_cases e : j = q
        · subst e; exact hw0
        · exact hall.out j (by omega), B1⟩
      case measure => simp [intOf]; omega
    have CC : Hid (Calls Try.prog 37 #[.agg #[.slice o0 n0 k0, .slice (some ⟨bb, off, none⟩) nb kb], .int .i64 q, .slice og ng kg] u1 fun e w' => e = .returned (.bool (canB Bs q gone)) ∧ Below u1.heap.size u1 w') := canZ_any S T Bs _ _ _ _ _ _ SG gone og ng kg q u1 (H0.out u1 bu1) (H1.out u1 bu1) (HS.out u1 bu1) (HG.out u1 bu1) (HSG.out u1 bu1) hqb
    go_wp2_with fail
    refine CC.out.mono ?_; rintro e u2 ⟨rfl, hb2⟩
    have B2 : Hid (Below W.heap.size W u2) := B1.out.trans (hb2.mono s1)
    have bu2 := (BOX.out u2 B2.out).2
    clear hb2 y0 y1
    cases c1 : canB Bs q gone
    · have hw0 : freeB Bs gone q = false := by rw [hfr, c1]; simp
      go_wp2_with fail
      go_roundw
      case rel => exact ⟨q + 1, by omega, by go_num, fun j hj => by
        by_cases e : j = q
        · subst e; exact hw0
        · exact hall.out j (by omega), B2⟩
      case measure => simp [intOf]; omega
    · have hw0 : freeB Bs gone q = true := by rw [hfr, c0, c1]; rfl
      go_wp2_with fail
      go_ret
      rw [nxt_yes hqb hw0 (fun j hj => hall.out j hj)]
      exact ⟨rfl, bu2⟩

end Go.Proofs.Ythgnhjkkfhfgmab
