/-
  Several texts in one.
-/
import Derived.Test.YthgnhjkkfhfgmaaZpw
import Derived.Test.YthgnhjkkfhfgmaaZpb
import Derived.Test.YthgnhjkkfhfgmaaM11
/-
  The program's ShareBookOk, whole: it answers as the model does.
-/
namespace Go.Proofs.Ythgnhjkkfhfgmaa
open Go.RowKit

theorem prev_map_bat {T : List ByteArray} (o : Option DShareBatch) (x : DShareBatch) : batB T o x = tst (fun f : DShareBatch => baI T f) (fun p f : DShareBatch => ltB p.1 f.1) o x := by
  unfold batB tst baI
  simp only
  cases nameB x.1 <;> cases asO (fun a b : DShareBatch => ltB a.1 b.1) o x <;> cases subB T x.2.2 <;> cases subB x.2.2 x.2.1 <;> rfl
theorem bok_parts (T : List ByteArray) (Bs : List DShareBatch) : BokP (T, Bs) ↔ okB 8 (tst nameB ltB) T = true ∧ okB 5 (tst (fun f : DShareBatch => baI T f) (fun p f : DShareBatch => ltB p.1 f.1)) Bs = true ∧ Apart Bs := by
  constructor
  · intro h
    refine ⟨h.things, ?_, fun i hi k hk => (h.row i hi).sha k hk⟩
    rw [ok_iff]
    exact ⟨h.len, fun i hi => by have := (h.row i hi).bat; rw [prev_map_bat] at this; exact this⟩
  · rintro ⟨h1, h2, h3⟩
    rw [ok_iff] at h2
    exact ⟨h1, h2.1, fun i hi => ⟨by rw [prev_map_bat]; exact h2.2 i hi, fun k hk => h3 i hi k hk⟩⟩
theorem bat_nodup {T : List ByteArray} {Bs : List DShareBatch} (h : okB 5 (tst (fun f : DShareBatch => baI T f) (fun p f : DShareBatch => ltB p.1 f.1)) Bs = true) : ∀ x ∈ Bs, x.2.1.Nodup := fun x hx => by
  rw [ok_iff] at h
  obtain ⟨i, hi, rfl⟩ := List.getElem_of_mem hx
  have := h.2 i hi
  rw [tst, Bool.and_eq_true, baI, Bool.and_eq_true, Bool.and_eq_true] at this
  exact (sub_parts this.1.2.2).1

set_option maxRecDepth 100000 in
set_option maxHeartbeats 8000000 in
theorem bookP_any (S : Nat → Prop) (T : List ByteArray) (Bs : List DShareBatch) (o0 oa : Option Addr) (n0 k0 nb kb : Nat) (w : World) (h0 : AtL S w T (.slice o0 n0 k0)) (h1 : AtL S w Bs (.slice oa nb kb)) (hS : ∀ b, S b → b < w.heap.size) :
    Calls Try.prog 12 #[.agg #[.slice o0 n0 k0, .slice oa nb kb]] w fun e w' => e = .returned (.bool (bokB (T, Bs))) ∧ Below w.heap.size w w' := by
  have H0 : Hid (∀ u, Below w.heap.size w u → AtL S u T (.slice o0 n0 k0)) := fun u hu => h0.same (Same.of_below hu hS)
  have H1 : Hid (∀ u, Below w.heap.size w u → AtL S u Bs (.slice oa nb kb)) := fun u hu => h1.same (Same.of_below hu hS)
  have HS : Hid (∀ u, Below w.heap.size w u → ∀ b, S b → b < u.heap.size) := fun u hu b hb => Nat.lt_of_lt_of_le (hS b hb) hu.size
  clear h0 h1
  obtain ⟨W, hW⟩ : ∃ W, W = w.alloc (.cells #[.slice o0 n0 k0, .slice oa nb kb] 26) := ⟨_, rfl⟩
  have EW : Hid (W = w.alloc (.cells #[.slice o0 n0 k0, .slice oa nb kb] 26)) := hW
  have BW : Hid (Below w.heap.size w W) := by rw [hW]; exact (Below.refl _ _).alloc (Nat.le_refl _) _
  have RW : Hid (W.heap[w.heap.size]? = some (.cells #[.slice o0 n0 k0, .slice oa nb kb] 26 (0, 0))) := by rw [hW]; exact heap_alloc_new w _
  have sW : w.heap.size + 1 ≤ W.heap.size := by rw [hW]; simp
  clear hW
  have BOX : Hid (∀ u, Below W.heap.size W u → u.heap[w.heap.size]? = some (.cells #[.slice o0 n0 k0, .slice oa nb kb] 26 (0, 0)) ∧ Below w.heap.size w u) := fun u hu => ⟨(hu.block _ (by omega)).trans RW.out, BW.out.trans (hu.mono (by omega))⟩
  have y0 := (cell_row (BOX.out W (Below.refl _ _)).1 0 (.slice o0 n0 k0) rfl).1
  have y1 := (cell_row (BOX.out W (Below.refl _ _)).1 1 (.slice oa nb kb) rfl).1
  go_enter Try.func12, Try.ntmps12
  go_upto_region 1 with fail
  rw [← EW.out]
  go_wp2_with fail
  refine (isOkN_any S _ T 8 W (H0.out W BW.out) (HS.out W BW.out)).mono ?_; rintro e u1 ⟨rfl, hb1⟩
  have B1 : Hid (Below W.heap.size W u1) := hb1
  clear hb1 y0 y1
  cases hT : okB 8 (tst (fun f : ByteArray => nameB f) (fun p f : ByteArray => ltB p f)) T
  · go_wp2_with fail
    go_ret
    rw [bok_no (fun h => by have := ((bok_parts T Bs).1 h).1; rw [show okB 8 (tst nameB ltB) T = false from hT] at this; cases this)]
    exact ⟨rfl, (BOX.out u1 B1.out).2⟩
  have y0 := (cell_row (BOX.out u1 B1.out).1 0 (.slice o0 n0 k0) rfl).1
  have y1 := (cell_row (BOX.out u1 B1.out).1 1 (.slice oa nb kb) rfl).1
  go_wp2_with fail
  refine (batches_any S _ _ T Bs u1 (H0.out u1 (BOX.out u1 B1.out).2) (H1.out u1 (BOX.out u1 B1.out).2) (HS.out u1 (BOX.out u1 B1.out).2)).mono ?_; rintro e u2 ⟨rfl, hb2⟩
  have B2 : Hid (Below W.heap.size W u2) := B1.out.trans (hb2.mono B1.out.size)
  clear hb2 y0 y1
  cases hB : okB 5 (tst (fun f : DShareBatch => baI T f) (fun p f : DShareBatch => ltB p.1 f.1)) Bs
  · go_wp2_with fail
    go_ret
    rw [bok_no (fun h => by have := ((bok_parts T Bs).1 h).2.1; rw [hB] at this; cases this)]
    exact ⟨rfl, (BOX.out u2 B2.out).2⟩
  have y0 := (cell_row (BOX.out u2 B2.out).1 0 (.slice o0 n0 k0) rfl).1
  have y1 := (cell_row (BOX.out u2 B2.out).1 1 (.slice oa nb kb) rfl).1
  go_wp2_with fail
  refine (who_any S Bs _ _ u2 (H1.out u2 (BOX.out u2 B2.out).2) (HS.out u2 (BOX.out u2 B2.out).2) (bat_nodup hB)).mono ?_; rintro e u3 ⟨hw3, hb3⟩
  have B3 : Hid (Below W.heap.size W u3) := B2.out.trans (hb3.mono B2.out.size)
  clear hb3 y0 y1
  rcases hw3 with ⟨rfl, hA⟩ | ⟨m, M, rfl, _, hM⟩
  · have EB : Hid (bokB (T, Bs) = false) := bok_no (fun h => hA ((bok_parts T Bs).1 h).2.2)
    clear hA
    go_wp2_with fail
    go_ret
    rw [EB.out]
    exact ⟨rfl, (BOX.out u3 B3.out).2⟩
  · have EB : Hid (bokB (T, Bs) = true) := bok_yes ((bok_parts T Bs).2 ⟨hT, hB, hM.apart⟩)
    clear hM
    go_wp2_with fail
    go_ret
    rw [EB.out]
    exact ⟨rfl, (BOX.out u3 B3.out).2⟩

end Go.Proofs.Ythgnhjkkfhfgmaa

/-
  Who has a thing, by the model.
-/
namespace Go.Proofs.Ythgnhjkkfhfgmaa
open Go.RowKit Go.Sort

/-- The name of the first batch that has it. -/
def whoF (Bs : List DShareBatch) (x : ByteArray) : ByteArray := match Bs.find? (fun f => hasB f.2.1 x) with
  | some f => f.1
  | none => ⟨#[]⟩
noncomputable def whoS (D : DShareBook) (x : ByteArray) : ByteArray := if bokB D = true then whoF D.2 x else ⟨#[]⟩
theorem who_yes {Bs : List DShareBatch} {x : ByteArray} {q : Nat} (hq : q < Bs.length) (h : hasB Bs[q].2.1 x = true) (hno : ∀ j (hj : j < Bs.length), j < q → hasB Bs[j].2.1 x = false) : whoF Bs x = Bs[q].1 := by
  have : Bs.find? (fun f => hasB f.2.1 x) = some Bs[q] := by
    rw [List.find?_eq_some_iff_getElem]
    exact ⟨h, q, hq, rfl, fun j hj => by simp [hno j (by omega) hj]⟩
  unfold whoF; rw [this]
theorem who_no {Bs : List DShareBatch} {x : ByteArray} (h : ∀ j (hj : j < Bs.length), hasB Bs[j].2.1 x = false) : whoF Bs x = ⟨#[]⟩ := by
  have : Bs.find? (fun f => hasB f.2.1 x) = none := by
    rw [List.find?_eq_none]
    intro f hf
    obtain ⟨j, hj, rfl⟩ := List.mem_iff_getElem.1 hf
    rw [h j hj]; simp
  unfold whoF; rw [this]

set_option maxRecDepth 100000 in
set_option maxHeartbeats 8000000 in
theorem whoZ_any (S : Nat → Prop) (T : List ByteArray) (Bs : List DShareBatch) (o0 oa : Option Addr) (n0 k0 nb kb : Nat) (x : ByteArray) (w : World) (h0 : AtL S w T (.slice o0 n0 k0)) (h1 : AtL S w Bs (.slice oa nb kb)) (hS : ∀ b, S b → b < w.heap.size) :
    Calls Try.prog 6 #[.agg #[.slice o0 n0 k0, .slice oa nb kb], .string x] w fun e w' => e = .returned (.string (whoS (T, Bs) x)) ∧ Below w.heap.size w w' := by
  have enb : Bs.length = nb := by obtain ⟨_, _, e, _⟩ := h1; cases e; rfl
  have hmx : nb ≤ 9223372036854775807 := by obtain ⟨_, _, e, hf, _⟩ := id h1; cases e; have := hf.1; unfold maxLen at this; omega
  have ENB : Hid (Bs.length ≤ nb ∧ nb ≤ Bs.length) := ⟨by omega, by omega⟩
  have H0 : Hid (∀ u, Below w.heap.size w u → AtL S u T (.slice o0 n0 k0)) := fun u hu => h0.same (Same.of_below hu hS)
  have H1 : Hid (∀ u, Below w.heap.size w u → AtL S u Bs (.slice oa nb kb)) := fun u hu => h1.same (Same.of_below hu hS)
  have HS : Hid (∀ u, Below w.heap.size w u → ∀ b, S b → b < u.heap.size) := fun u hu b hb => Nat.lt_of_lt_of_le (hS b hb) hu.size
  obtain ⟨W, hW⟩ : ∃ W, W = w.alloc (.cells #[.slice o0 n0 k0, .slice oa nb kb] 26) := ⟨_, rfl⟩
  have EW : Hid (W = w.alloc (.cells #[.slice o0 n0 k0, .slice oa nb kb] 26)) := hW
  have BW : Hid (Below w.heap.size w W) := by rw [hW]; exact (Below.refl _ _).alloc (Nat.le_refl _) _
  have RW : Hid (W.heap[w.heap.size]? = some (.cells #[.slice o0 n0 k0, .slice oa nb kb] 26 (0, 0))) := by rw [hW]; exact heap_alloc_new w _
  have sW : w.heap.size + 1 ≤ W.heap.size := by rw [hW]; simp
  clear hW enb
  have BOX : Hid (∀ u, Below W.heap.size W u → u.heap[w.heap.size]? = some (.cells #[.slice o0 n0 k0, .slice oa nb kb] 26 (0, 0)) ∧ Below w.heap.size w u) := fun u hu => ⟨(hu.block _ (by omega)).trans RW.out, BW.out.trans (hu.mono (by omega))⟩
  obtain ⟨R, hR⟩ : ∃ R, R = whoS (T, Bs) x := ⟨_, rfl⟩
  have HRR : Hid (R = whoS (T, Bs) x) := hR
  rw [← hR]
  clear hR
  go_enter Try.func6, Try.ntmps6
  go_wp2_with fail
  rw [← EW.out]
  go_loopw [5] (fun i wr => ∃ q : Nat, q ≤ nb ∧ i = .int .i64 q ∧ Hid (∀ j (hj : j < Bs.length), j < q → hasB Bs[j].2.1 x = false) ∧ Hid (Below W.heap.size W wr)) (fun i _ => nb - (intOf i).toNat)
  case atStart => exact ⟨0, Nat.zero_le _, rfl, fun _ _ h => by omega, Below.refl _ _⟩
  case round =>
    obtain ⟨q, hq, rfl, hall, hbel⟩ := hrel
    have HB := hbel.out
    have bwr := (BOX.out wr HB).2
    have hsz := HB.size
    have y0 := (cell_row (BOX.out wr HB).1 0 (.slice o0 n0 k0) rfl).1
    have y1 := (cell_row (BOX.out wr HB).1 1 (.slice oa nb kb) rfl).1
    by_cases hlt : q < nb
    case neg =>
      have er : R = ⟨#[]⟩ := by
        rw [HRR.out]; unfold whoS
        rw [who_no (fun i hi => hall.out i hi (by have := ENB.out; omega))]
        split <;> rfl
      go_wp2_with fail
      go_ret
      rw [er]
      exact ⟨rfl, bwr⟩
    have hqb : q < Bs.length := by have := ENB.out; omega
    have CB : Hid (Calls Try.prog 7 #[.agg #[.slice o0 n0 k0, .slice oa nb kb]] wr fun e w' => e = .returned (.bool (bokB (T, Bs))) ∧ Below wr.heap.size wr w') := bookZ_any S (T, Bs) _ _ wr (H0.out wr bwr) (H1.out wr bwr) (HS.out wr bwr)
    go_wp2_with fail
    refine CB.out.mono ?_; rintro e u ⟨rfl, hbu⟩
    have HB1 : Below W.heap.size W u := HB.trans (hbu.mono hsz)
    have B1 : Hid (Below W.heap.size W u) := HB1
    have bu := (BOX.out u HB1).2
    have s1 := HB1.size
    clear hbu y0 y1 CB
    cases hbk : bokB (T, Bs)
    · have er : R = ⟨#[]⟩ := by rw [HRR.out]; unfold whoS; rw [hbk]; rfl
      go_wp2_with fail
      go_ret
      rw [er]
      exact ⟨rfl, bu⟩
    obtain ⟨bb, off, o1, n1, k1, o2, n2, k2, rfl, hbS, e0, e1, _, a1, _, _⟩ := bat_at (H1.out u bu) q hqb
    have y1 := (cell_row (BOX.out u HB1).1 1 (.slice (some ⟨bb, off, none⟩) nb kb) rfl).1
    obtain ⟨f, ef⟩ : ∃ f, Bs[q] = f := ⟨_, rfl⟩
    rw [ef] at e0 a1
    have CH : Hid (Calls Try.prog 15 #[.slice o1 n1 k1, .string x] u fun e w' => e = .returned (.bool (hasB f.2.1 x)) ∧ Below u.heap.size u w') := hasZ_any S _ f.2.1 x u a1
    clear a1
    go_wp2_with fail
    refine CH.out.mono ?_; rintro e u2 ⟨rfl, hb2⟩
    have B2 : Hid (Below W.heap.size W u2) := B1.out.trans (hb2.mono s1)
    have bu2 := (BOX.out u2 B2.out).2
    have z0 := (hb2.cell (p := ⟨bb, off + q * 3, none⟩) (HS.out u bu bb hbS)).trans e0
    clear hb2 y1 e0 e1
    have y1 := (cell_row (BOX.out u2 B2.out).1 1 (.slice (some ⟨bb, off, none⟩) nb kb) rfl).1
    cases c0 : hasB f.2.1 x
    · have hp : hasB Bs[q].2.1 x = false := by rw [ef]; exact c0
      go_wp2_with fail
      go_roundw
      case rel => exact ⟨q + 1, by omega, by go_num, fun j hj hjq => by
        by_cases e : j = q
        · subst e; exact hp
        · exact hall.out j hj (by omega), B2⟩
      case measure => simp [intOf]; omega
    · have hp : hasB Bs[q].2.1 x = true := by rw [ef]; exact c0
      have er : R = f.1 := by rw [HRR.out]; unfold whoS; rw [hbk, if_pos rfl, ← ef]; exact who_yes hqb hp (fun j hj hjq => hall.out j hj hjq)
      go_wp2_with fail
      go_ret
      rw [er]
      exact ⟨rfl, bu2⟩

end Go.Proofs.Ythgnhjkkfhfgmaa
