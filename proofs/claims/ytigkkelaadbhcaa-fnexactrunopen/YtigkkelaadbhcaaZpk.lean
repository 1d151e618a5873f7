/-
  The program's ShareBookOk, whole: it answers as the model does.
-/
import Derived.Test.YtigkkelaadbhcaaZpw
import Derived.Test.YtigkkelaadbhcaaZpb
namespace Go.Proofs.Ytigkkelaadbhcaa
open Go.RowKit

theorem prev_map_bat {T : List ByteArray} (o : Option DShareBatch) (x : DShareBatch) : batB T o x = tst (fun f : DShareBatch => baI T f) (fun p f : DShareBatch => ltB p.1 f.1) o x := by
  unfold batB tst baI
  simp only
  cases nameB x.1 <;> cases asO (fun a b : DShareBatch => ltB a.1 b.1) o x <;> cases subB T x.2.2 <;> cases subB x.2.2 x.2.1 <;> rfl
theorem bok_parts (T : List ByteArray) (Bs : List DShareBatch) : BokP (T, Bs) ↔ okB 8 (tst nameB ltB) T = true ∧ okB 5 (tst (fun f : DShareBatch => baI T f) (fun p f : DShareBatch => ltB p.1 f.1)) Bs = true ∧ Apart Bs := by
  constructor
  · intro h
    refine ⟨h.things, ?_, fun i hi k hk => (h.row i hi).sha k hk⟩
    rw [ok_iff]
    exact ⟨h.len, fun i hi => by have := (h.row i hi).bat; rw [prev_map_bat] at this; exact this⟩
  · rintro ⟨h1, h2, h3⟩
    rw [ok_iff] at h2
    exact ⟨h1, h2.1, fun i hi => ⟨by rw [prev_map_bat]; exact h2.2 i hi, fun k hk => h3 i hi k hk⟩⟩
theorem bat_nodup {T : List ByteArray} {Bs : List DShareBatch} (h : okB 5 (tst (fun f : DShareBatch => baI T f) (fun p f : DShareBatch => ltB p.1 f.1)) Bs = true) : ∀ x ∈ Bs, x.2.1.Nodup := fun x hx => by
  rw [ok_iff] at h
  obtain ⟨i, hi, rfl⟩ := List.getElem_of_mem hx
  have := h.2 i hi
  rw [tst, Bool.and_eq_true, baI, Bool.and_eq_true, Bool.and_eq_true] at this
  exact (sub_parts this.1.2.2).1
set_option maxRecDepth 100000 in
set_option maxHeartbeats 8000000 in
theorem bookP_any (S : Nat → Prop) (T : List ByteArray) (Bs : List DShareBatch) (o0 oa : Option Addr) (n0 k0 nb kb : Nat) (w : World) (h0 : AtL S w T (.slice o0 n0 k0)) (h1 : AtL S w Bs (.slice oa nb kb)) (hS : ∀ b, S b → b < w.heap.size) :
    Calls Try.prog 15 #[.agg #[.slice o0 n0 k0, .slice oa nb kb]] w fun e w' => e = .returned (.bool (bokB (T, Bs))) ∧ Below w.heap.size w w' := by
  have H0 : Hid (∀ u, Below w.heap.size w u → AtL S u T (.slice o0 n0 k0)) := fun u hu => h0.same (Same.of_below hu hS)
  have H1 : Hid (∀ u, Below w.heap.size w u → AtL S u Bs (.slice oa nb kb)) := fun u hu => h1.same (Same.of_below hu hS)
  have HS : Hid (∀ u, Below w.heap.size w u → ∀ b, S b → b < u.heap.size) := fun u hu b hb => Nat.lt_of_lt_of_le (hS b hb) hu.size
  clear h0 h1
  obtain ⟨W, hW⟩ : ∃ W, W = w.alloc (.cells #[.slice o0 n0 k0, .slice oa nb kb] 26) := ⟨_, rfl⟩
  have EW : Hid (W = w.alloc (.cells #[.slice o0 n0 k0, .slice oa nb kb] 26)) := hW
  have BW : Hid (Below w.heap.size w W) := by rw [hW]; exact (Below.refl _ _).alloc (Nat.le_refl _) _
  have RW : Hid (W.heap[w.heap.size]? = some (.cells #[.slice o0 n0 k0, .slice oa nb kb] 26 (0, 0))) := by rw [hW]; exact heap_alloc_new w _
  have sW : w.heap.size + 1 ≤ W.heap.size := by rw [hW]; simp
  clear hW
  have BOX : Hid (∀ u, Below W.heap.size W u → u.heap[w.heap.size]? = some (.cells #[.slice o0 n0 k0, .slice oa nb kb] 26 (0, 0)) ∧ Below w.heap.size w u) := fun u hu => ⟨(hu.block _ (by omega)).trans RW.out, BW.out.trans (hu.mono (by omega))⟩
  have y0 := (cell_row (BOX.out W (Below.refl _ _)).1 0 (.slice o0 n0 k0) rfl).1
  have y1 := (cell_row (BOX.out W (Below.refl _ _)).1 1 (.slice oa nb kb) rfl).1
  go_enter Try.func15, Try.ntmps15
  go_upto_region 1 with fail
  rw [← EW.out]
  go_wp2_with fail
  refine (isOkN_any S _ T 8 W (H0.out W BW.out) (HS.out W BW.out)).mono ?_; rintro e u1 ⟨rfl, hb1⟩
  have B1 : Hid (Below W.heap.size W u1) := hb1
  clear hb1 y0 y1
  cases hT : okB 8 (tst (fun f : ByteArray => nameB f) (fun p f : ByteArray => ltB p f)) T
  · go_wp2_with fail
    go_ret
    rw [bok_no (fun h => by have := ((bok_parts T Bs).1 h).1; rw [show okB 8 (tst nameB ltB) T = false from hT] at this; cases this)]
    exact ⟨rfl, (BOX.out u1 B1.out).2⟩
  have y0 := (cell_row (BOX.out u1 B1.out).1 0 (.slice o0 n0 k0) rfl).1
  have y1 := (cell_row (BOX.out u1 B1.out).1 1 (.slice oa nb kb) rfl).1
  go_wp2_with fail
  refine (batches_any S _ _ T Bs u1 (H0.out u1 (BOX.out u1 B1.out).2) (H1.out u1 (BOX.out u1 B1.out).2) (HS.out u1 (BOX.out u1 B1.out).2)).mono ?_; rintro e u2 ⟨rfl, hb2⟩
  have B2 : Hid (Below W.heap.size W u2) := B1.out.trans (hb2.mono B1.out.size)
  clear hb2 y0 y1
  cases hB : okB 5 (tst (fun f : DShareBatch => baI T f) (fun p f : DShareBatch => ltB p.1 f.1)) Bs
  · go_wp2_with fail
    go_ret
    rw [bok_no (fun h => by have := ((bok_parts T Bs).1 h).2.1; rw [hB] at this; cases this)]
    exact ⟨rfl, (BOX.out u2 B2.out).2⟩
  have y0 := (cell_row (BOX.out u2 B2.out).1 0 (.slice o0 n0 k0) rfl).1
  have y1 := (cell_row (BOX.out u2 B2.out).1 1 (.slice oa nb kb) rfl).1
  go_wp2_with fail
  refine (who_any S Bs _ _ u2 (H1.out u2 (BOX.out u2 B2.out).2) (HS.out u2 (BOX.out u2 B2.out).2) (bat_nodup hB)).mono ?_; rintro e u3 ⟨hw3, hb3⟩
  have B3 : Hid (Below W.heap.size W u3) := B2.out.trans (hb3.mono B2.out.size)
  clear hb3 y0 y1
  rcases hw3 with ⟨rfl, hA⟩ | ⟨m, M, rfl, _, hM⟩
  · have EB : Hid (bokB (T, Bs) = false) := bok_no (fun h => hA ((bok_parts T Bs).1 h).2.2)
    clear hA
    go_wp2_with fail
    go_ret
    rw [EB.out]
    exact ⟨rfl, (BOX.out u3 B3.out).2⟩
  · have EB : Hid (bokB (T, Bs) = true) := bok_yes ((bok_parts T Bs).2 ⟨hT, hB, hM.apart⟩)
    clear hM
    go_wp2_with fail
    go_ret
    rw [EB.out]
    exact ⟨rfl, (BOX.out u3 B3.out).2⟩
end Go.Proofs.Ytigkkelaadbhcaa
