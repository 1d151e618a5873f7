/-
  From a plant that can be read to its lists in memory.
-/
import Derived.Test.YtciembgenlcogabUt
import Derived.Deep.Slices
import Derived.Lib.SmallJoins
import Derived.ProofKit
namespace Go.Proofs.Ytciembgenlcogab
open Go.ChangeShapes Go.WideShapes Go.ChangeAt Go.RowKit

theorem c9 : Try.prog.cellsOf 9 = 1 := by kernel_rfl
theorem c3 : Try.prog.cellsOf 3 = 1 := by kernel_rfl
theorem c84 : Try.prog.cellsOf 71 = 2 := by kernel_rfl
theorem c87 : Try.prog.cellsOf 74 = 3 := by kernel_rfl
theorem c90 : Try.prog.cellsOf 77 = 4 := by kernel_rfl

section
variable {H : Type} {enc : TypeId × Value → H} {w : World} {base : Nat} {spare : Nat → Bool} {held : Bool}

/-- A list that can be read, its elements' cells as a function says. -/
theorem lst_of {t e : TypeId} {fuel k : Nat} {v : Value} {x : DataW H × List MemPlace} {α : Type} [Inhabited α] (ht : Try.prog.underlying t = some (.slice e)) (hk : Try.prog.cellsOf e = k) (hk1 : 1 ≤ k) (c : (Nat → α) → Nat → Nat → Value) (q : α → Prop)
    (hc : ∀ f i j, c f i j = c (fun _ => f i) 0 j)
    (hel : ∀ n cs y, cs.length = k → DataW.trod enc Try.prog w base spare held n e cs = some y → ∃ a : α, q a ∧ ∀ j, j < k → cs[j]? = some (c (fun _ => a) 0 j))
    (h : DataW.trod enc Try.prog w base spare held fuel t [v] = some x) : ∃ (n : Nat) (f : Nat → α), Lst w.heap.size w v n k (c f) ∧ ∀ i, i < n → q (f i) := by
  rcases Deep.open_slice ht h with ⟨h1, _⟩ | ⟨a, len, cap, m, n, D, Pl, h1, hb, hl, hm, hmm, _, hx⟩
  · simp at h1; subst h1
    exact ⟨0, fun _ => default, ⟨none, 0, rfl, Nat.zero_le _, fun i hi => by omega⟩, fun i hi => by omega⟩
  · simp at h1; subst h1
    have hle : len ≤ m := by rw [hmm]; split <;> omega
    obtain ⟨f, hf⟩ := Deep.choose_lt (α := α) (n := len) (p := fun i a' => q a' ∧ ∀ j, j < k → w.cell? ((a.add (i * k)).add j) = some (c (fun _ => a') 0 j)) (fun i hi => by
      obtain ⟨cs', h2, h3⟩ := hx i (by omega)
      rw [hk] at h2
      obtain ⟨_, h4, h5⟩ := World.cells?_some h2
      obtain ⟨a', hq, h6⟩ := hel n cs' _ h4 h3
      exact ⟨a', hq, fun j hj => (h5 j hj).trans (h6 j hj)⟩)
    refine ⟨len, f, ⟨some a, cap, rfl, Nat.le_trans hl hm, fun i hi => ?_⟩, fun i hi => (hf i hi).1⟩
    have h0 := (hf 0 (by omega)).2 0 hk1
    have hsp : a.spot = none := by
      have h7 := World.cell?_spot h0
      simpa [Addr.add] using h7
    obtain ⟨b, off, sp⟩ := a
    simp only at hsp
    subst hsp
    refine ⟨b, off, rfl, ?_, fun j hj => ?_⟩
    · exact World.block_lt_of_cell? w _ (by simpa [add_plain] using h0)
    · have h8 := (hf i hi).2 j hj
      rw [add_plain, add_plain] at h8
      rw [hc]; exact h8

theorem el_str {n : Nat} {cs : List Value} {y : DataW H × List MemPlace} (h : DataW.trod enc Try.prog w base spare held n 9 cs = some y) : ∃ a : ByteArray, cs = [.string a] ∧ a.size ≤ maxLen := by
  obtain ⟨s, h1, _, h2⟩ := DataW.trod_string Try.underlying9 h
  exact ⟨s, h1, h2⟩
theorem el_int {n : Nat} {cs : List Value} {y : DataW H × List MemPlace} (h : DataW.trod enc Try.prog w base spare held n 3 cs = some y) : ∃ a : Int, cs = [.int .i64 a] := by
  obtain ⟨s, h1, _, _⟩ := DataW.trod_int Try.underlying3 h
  exact ⟨s, h1⟩

theorem lst_str {fuel : Nat} {v : Value} {x : DataW H × List MemPlace} (h : DataW.trod enc Try.prog w base spare held fuel 22 [v] = some x) : ∃ (n : Nat) (f : Nat → ByteArray), Lst w.heap.size w v n 1 (cS f) ∧ ∀ i, i < n → (f i).size ≤ maxLen :=
  lst_of (α := ByteArray) Try.underlying22 c9 (Nat.le_refl _) cS (fun a => a.size ≤ maxLen) (fun _ _ _ => rfl) (fun n cs y hl hy => by
    obtain ⟨a, rfl, ha⟩ := el_str hy
    exact ⟨a, ha, fun j hj => by
      have e : j = 0 := by omega
      subst e; rfl⟩) h

theorem lst_foe {fuel : Nat} {v : Value} {x : DataW H × List MemPlace} (h : DataW.trod enc Try.prog w base spare held fuel 23 [v] = some x) : ∃ (n : Nat) (f : Nat → ByteArray × ByteArray), Lst w.heap.size w v n 2 (cF f) ∧ ∀ i, i < n → (f i).1.size ≤ maxLen ∧ (f i).2.size ≤ maxLen :=
  lst_of (α := ByteArray × ByteArray) Try.underlying23 c84 (by omega) cF (fun a => a.1.size ≤ maxLen ∧ a.2.size ≤ maxLen) (fun _ _ _ => rfl) (fun n cs y hl hy => by
    match cs, hl with
    | [x0, x1], _ =>
      obtain ⟨xs, m, _, _, _, hlen, hf⟩ := DataW.trod_struct Try.underlying71 hy
      have g0 : DataW.trod enc Try.prog w base spare held m 9 [x0] = xs[0]? := by simpa [c9, c3] using hf 0 _ rfl
      have g1 : DataW.trod enc Try.prog w base spare held m 9 [x1] = xs[1]? := by simpa [c9, c3] using hf 1 _ rfl
      rw [List.getElem?_eq_getElem (by rw [hlen]; decide)] at g0 g1
      obtain ⟨a0, e0, k0⟩ := el_str g0
      obtain ⟨a1, e1, k1⟩ := el_str g1
      simp at e0 e1
      subst e0 e1
      exact ⟨(a0, a1), ⟨k0, k1⟩, fun j hj => by
        rcases (show j = 0 ∨ j = 1 by omega) with rfl | rfl <;> rfl⟩) h

theorem lst_place {fuel : Nat} {v : Value} {x : DataW H × List MemPlace} (h : DataW.trod enc Try.prog w base spare held fuel 24 [v] = some x) : ∃ (n : Nat) (f : Nat → ByteArray × Int × ByteArray), Lst w.heap.size w v n 3 (cP f) ∧ ∀ i, i < n → (f i).1.size ≤ maxLen ∧ (f i).2.2.size ≤ maxLen :=
  lst_of (α := ByteArray × Int × ByteArray) Try.underlying24 c87 (by omega) cP (fun a => a.1.size ≤ maxLen ∧ a.2.2.size ≤ maxLen) (fun _ _ _ => rfl) (fun n cs y hl hy => by
    match cs, hl with
    | [x0, x1, x2], _ =>
      obtain ⟨xs, m, _, _, _, hlen, hf⟩ := DataW.trod_struct Try.underlying74 hy
      have g0 : DataW.trod enc Try.prog w base spare held m 9 [x0] = xs[0]? := by simpa [c9, c3] using hf 0 _ rfl
      have g1 : DataW.trod enc Try.prog w base spare held m 3 [x1] = xs[1]? := by simpa [c9, c3] using hf 1 _ rfl
      have g2 : DataW.trod enc Try.prog w base spare held m 9 [x2] = xs[2]? := by simpa [c9, c3] using hf 2 _ rfl
      rw [List.getElem?_eq_getElem (by rw [hlen]; decide)] at g0 g1 g2
      obtain ⟨a0, e0, k0⟩ := el_str g0
      obtain ⟨a1, e1⟩ := el_int g1
      obtain ⟨a2, e2, k2⟩ := el_str g2
      simp at e0 e1 e2
      subst e0 e1 e2
      exact ⟨(a0, a1, a2), ⟨k0, k2⟩, fun j hj => by
        rcases (show j = 0 ∨ j = 1 ∨ j = 2 by omega) with rfl | rfl | rfl <;> rfl⟩) h

theorem lst_valve {fuel : Nat} {v : Value} {x : DataW H × List MemPlace} (h : DataW.trod enc Try.prog w base spare held fuel 25 [v] = some x) : ∃ (n : Nat) (f : Nat → ByteArray × ByteArray × ByteArray × ByteArray), Lst w.heap.size w v n 4 (cV f) ∧ ∀ i, i < n → (f i).1.size ≤ maxLen ∧ (f i).2.1.size ≤ maxLen ∧ (f i).2.2.1.size ≤ maxLen ∧ (f i).2.2.2.size ≤ maxLen :=
  lst_of (α := ByteArray × ByteArray × ByteArray × ByteArray) Try.underlying25 c90 (by omega) cV (fun a => a.1.size ≤ maxLen ∧ a.2.1.size ≤ maxLen ∧ a.2.2.1.size ≤ maxLen ∧ a.2.2.2.size ≤ maxLen) (fun _ _ _ => rfl) (fun n cs y hl hy => by
    match cs, hl with
    | [x0, x1, x2, x3], _ =>
      obtain ⟨xs, m, _, _, _, hlen, hf⟩ := DataW.trod_struct Try.underlying77 hy
      have g0 : DataW.trod enc Try.prog w base spare held m 9 [x0] = xs[0]? := by simpa [c9, c3] using hf 0 _ rfl
      have g1 : DataW.trod enc Try.prog w base spare held m 9 [x1] = xs[1]? := by simpa [c9, c3] using hf 1 _ rfl
      have g2 : DataW.trod enc Try.prog w base spare held m 9 [x2] = xs[2]? := by simpa [c9, c3] using hf 2 _ rfl
      have g3 : DataW.trod enc Try.prog w base spare held m 9 [x3] = xs[3]? := by simpa [c9, c3] using hf 3 _ rfl
      rw [List.getElem?_eq_getElem (by rw [hlen]; decide)] at g0 g1 g2 g3
      obtain ⟨a0, e0, k0⟩ := el_str g0
      obtain ⟨a1, e1, k1⟩ := el_str g1
      obtain ⟨a2, e2, k2⟩ := el_str g2
      obtain ⟨a3, e3, k3⟩ := el_str g3
      simp at e0 e1 e2 e3
      subst e0 e1 e2 e3
      exact ⟨(a0, a1, a2, a3), ⟨k0, k1, k2, k3⟩, fun j hj => by
        rcases (show j = 0 ∨ j = 1 ∨ j = 2 ∨ j = 3 by omega) with rfl | rfl | rfl | rfl <;> rfl⟩) h

set_option maxRecDepth 100000 in
theorem plant_of {r : Reach} {b0 : Nat} {v : Value} {d : DataW H} {p : List MemPlace} (hv : Value.okWide Try.prog w r b0 27 v) (h : DataW.Trod enc Try.prog w base spare held 27 v d p) :
    ∃ v0 v1 v2 v3 D, v = .agg #[v0, v1, v2, v3] ∧ PAt w.heap.size w v0 v1 v2 v3 D ∧ D.All := by
  obtain ⟨v0, v1, v2, v3, y0, y1, y2, y3, n, rfl, _, _, h0, h1, h2, h3⟩ := Joins.open_agg4 Try.underlying27 (by kernel_rfl) (by kernel_rfl) hv h
  obtain ⟨ns, fs, a0, b0⟩ := lst_str h0
  obtain ⟨nf, ff, a1, b1⟩ := lst_foe h1
  obtain ⟨np, fp, a2, b2⟩ := lst_place h2
  obtain ⟨nv, fv, a3, b3⟩ := lst_valve h3
  exact ⟨v0, v1, v2, v3, ⟨ns, fs, nf, ff, np, fp, nv, fv⟩, rfl, ⟨a0, a1, a2, a3⟩, ⟨b0, b1, b2, b3⟩⟩
end

end Go.Proofs.Ytciembgenlcogab
