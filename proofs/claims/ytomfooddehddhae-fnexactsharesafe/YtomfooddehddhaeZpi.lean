/-
  Plain: who goes when, always the first that can; when all are gone.
-/
import Derived.Test.YtomfooddehddhaeZpg
import Derived.Test.YtomfooddehddhaeZmf
namespace Go.Proofs.Ytomfooddehddhae
open Go.RowKit

/-- Who is gone behind k rounds. -/
def gnS (Bs : List DShareBatch) : Nat → List ByteArray
  | 0 => []
  | k + 1 => gnS Bs k ++ [(btN Bs (nxtI Bs (gnS Bs k)).toNat).1]
/-- In each round ahead of k somebody could go. -/
def Vd (Bs : List DShareBatch) (k : Nat) : Prop := ∀ j, j < k → ¬ nxtI Bs (gnS Bs j) < 0
/-- Are all gone? -/
def allG (Bs : List DShareBatch) (g : List ByteArray) : Bool := !(Bs.any fun f => !(hasB g f.1))
theorem allG_iff {Bs : List DShareBatch} {g : List ByteArray} : allG Bs g = true ↔ ∀ x ∈ Bs.map (·.1), x ∈ g := by
  unfold allG
  rw [Bool.not_eq_true', List.any_eq_false]
  constructor
  · intro h x hx
    obtain ⟨f, hf, rfl⟩ := List.mem_map.1 hx
    have := h f hf
    simp only [Bool.not_eq_true', Bool.not_eq_false] at this
    exact (hasB_iff _ _).1 (by simpa using this)
  · intro h f hf
    rw [(hasB_iff _ _).2 (h f.1 (List.mem_map.2 ⟨f, hf, rfl⟩))]
    simp
theorem nxt_free {Bs : List DShareBatch} {g : List ByteArray} (h : ¬ nxtI Bs g < 0) : ∃ q : Nat, nxtI Bs g = (q : Int) ∧ ∃ hq : q < Bs.length, hasB g Bs[q].1 = false ∧ canB Bs q g = true := by
  unfold nxtI idxI at h ⊢
  cases e : (List.range Bs.length).findIdx? (freeB Bs g) with
  | none => rw [e] at h; simp at h
  | some i =>
    obtain ⟨hi, h1, _⟩ := List.findIdx?_eq_some_iff_getElem.1 e
    have hi' : i < Bs.length := by simpa using hi
    rw [List.getElem_range] at h1
    unfold freeB at h1
    rw [btN_at hi', Bool.and_eq_true, Bool.not_eq_true'] at h1
    exact ⟨i, rfl, hi', h1⟩
theorem gn_len (Bs : List DShareBatch) : ∀ k, (gnS Bs k).length = k
  | 0 => rfl
  | k + 1 => by rw [gnS, List.length_append, gn_len Bs k]; rfl
theorem Vd.down {Bs : List DShareBatch} {k : Nat} (h : Vd Bs (k + 1)) : Vd Bs k := fun j hj => h j (by omega)
theorem Vd.up {Bs : List DShareBatch} {k : Nat} (h : Vd Bs k) (hn : ¬ nxtI Bs (gnS Bs k) < 0) : Vd Bs (k + 1) := fun j hj => by
  by_cases e : j = k
  · subst e; exact hn
  · exact h j (by omega)
section
variable {T : List ByteArray} {Bs : List DShareBatch}
theorem names_nodup (h : BokP (T, Bs)) : (Bs.map (·.1)).Nodup := by
  refine List.pairwise_iff_getElem.2 fun i j hi hj hij e => ?_
  rw [List.getElem_map, List.getElem_map] at e
  have := bok_names h (by simpa using hi) (by simpa using hj) e
  omega
theorem gn_sub (h : BokP (T, Bs)) : ∀ {k : Nat}, Vd Bs k → (gnS Bs k).Nodup ∧ ∀ x ∈ gnS Bs k, x ∈ Bs.map (·.1)
  | 0, _ => ⟨List.nodup_nil, fun x hx => by cases hx⟩
  | k + 1, hv => by
    obtain ⟨h1, h2⟩ := gn_sub h hv.down
    obtain ⟨q, eq, hq, hg, _⟩ := nxt_free (hv k (by omega))
    rw [gnS, eq, Int.toNat_natCast, btN_at hq]
    constructor
    · refine List.nodup_append.2 ⟨h1, by simp, fun a ha b hb e => ?_⟩
      rw [List.mem_singleton] at hb
      rw [e, hb] at ha
      rw [(hasB_iff _ _).2 ha] at hg
      cases hg
    · intro x hx
      rcases List.mem_append.1 hx with hx | hx
      · exact h2 x hx
      · rw [List.mem_singleton] at hx
        rw [hx]
        exact List.mem_map.2 ⟨_, List.getElem_mem hq, rfl⟩
theorem vd_le (h : BokP (T, Bs)) {k : Nat} (hv : Vd Bs k) : k ≤ Bs.length := by
  obtain ⟨h1, h2⟩ := gn_sub h hv
  have := h1.length_le_of_subset h2
  rw [gn_len, List.length_map] at this
  exact this
theorem all_when (h : BokP (T, Bs)) {k : Nat} (hv : Vd Bs k) : allG Bs (gnS Bs k) = decide (k = Bs.length) := by
  obtain ⟨h1, h2⟩ := gn_sub h hv
  have hle := vd_le h hv
  rw [Bool.eq_iff_iff, allG_iff, decide_eq_true_iff]
  constructor
  · intro ha
    have := (names_nodup h).length_le_of_subset ha
    rw [gn_len, List.length_map] at this
    omega
  · intro e x hx
    refine Classical.byContradiction fun hn => ?_
    have nd : (x :: gnS Bs k).Nodup := List.nodup_cons.2 ⟨hn, h1⟩
    have := nd.length_le_of_subset (l₂ := Bs.map (·.1)) (fun y hy => by
      rcases List.mem_cons.1 hy with rfl | hy
      · exact hx
      · exact h2 y hy)
    rw [List.length_cons, gn_len, List.length_map] at this
    omega
theorem ord_at : ∀ {k : Nat}, Vd Bs k → k ≤ Bs.length → ordF Bs Bs.length [] = ordF Bs (Bs.length - k) (gnS Bs k)
  | 0, _, _ => rfl
  | k + 1, hv, hk => by
    rw [ord_at hv.down (by omega), show Bs.length - k = (Bs.length - (k + 1)) + 1 by omega, ordF, if_neg (hv k (by omega))]
    rfl
/-- What is told when no round comes any more. -/
theorem ord_end (hb : bokB (T, Bs) = true) {k : Nat} (hv : Vd Bs k) (hs : nxtI Bs (gnS Bs k) < 0 ∨ k = Bs.length) : ordS (T, Bs) = if k = Bs.length then (gnS Bs k, true) else ([], false) := by
  have h := bok_iff.1 hb
  have hle := vd_le h hv
  unfold ordS
  rw [if_pos hb]
  show ordF Bs Bs.length [] = _
  rw [ord_at hv hle]
  by_cases e : k = Bs.length
  · rw [if_pos e, show Bs.length - k = 0 by omega]; rfl
  · rw [if_neg e, show Bs.length - k = (Bs.length - k - 1) + 1 by omega, ordF, if_pos (hs.resolve_right e)]
theorem gn_short (h : BokP (T, Bs)) {k : Nat} (hv : Vd Bs k) : ∀ x ∈ gnS Bs k, x.size ≤ 8 := fun x hx => by
  obtain ⟨f, hf, rfl⟩ := List.mem_map.1 ((gn_sub h hv).2 x hx)
  obtain ⟨i, hi, rfl⟩ := List.getElem_of_mem hf
  have := (h.row i hi).bat
  unfold batB at this
  simp only [Bool.and_eq_true] at this
  have := this.1.1.1
  unfold nameB at this
  rw [Bool.and_eq_true, decide_eq_true_iff] at this
  exact this.1.2
end

end Go.Proofs.Ytomfooddehddhae
