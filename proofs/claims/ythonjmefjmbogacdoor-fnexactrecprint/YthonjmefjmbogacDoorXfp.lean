/-
  What a recipe looks like as a text (plain).
-/
import Derived.Test.YthonjmefjmbogacDoorXfc
import Derived.Test.YthonjmefjmbogacDoorXpo
import Derived.Test.YthonjmefjmbogacDoorXq
namespace Go.Proofs.YthonjmefjmbogacDoor
open Go.RowKit

/-- A line, its words written with one space between. -/
def lineOf (ws : List ByteArray) : List UInt8 := Lib.join (ws.map (·.data.toList)) [32] ++ [10]
def txt (L : List (List ByteArray)) : List UInt8 := (L.map lineOf).flatten
theorem txt_app (L M : List (List ByteArray)) : txt (L ++ M) = txt L ++ txt M := by simp [txt]
theorem txt_one (ws : List ByteArray) : txt [ws] = lineOf ws := by simp [txt]
theorem txt_take (L : List (List ByteArray)) (k : Nat) (ws : List ByteArray) (h : L[k]? = some ws) : txt (L.take (k + 1)) = txt (L.take k) ++ lineOf ws := by
  rw [List.take_add_one, h, txt_app]; simp [txt]
theorem txt_le (L : List (List ByteArray)) (k : Nat) : (txt (L.take k)).length ≤ (txt L).length := by
  conv => rhs; rw [← List.take_append_drop k L]
  rw [txt_app, List.length_append]; omega


/-- The words of a phase. -/
def wdP (p : DRecPhase) : List ByteArray := wdL p.1 p.2.1 p.2.2.1 p.2.2.2.1 p.2.2.2.2.1 p.2.2.2.2.2.1 p.2.2.2.2.2.2.1 p.2.2.2.2.2.2.2
/-- The text of a recipe. -/
noncomputable def recT (r : List DRecPhase) : List UInt8 := if recB r = true then txt (r.map wdP) else []
theorem isT_nil {s : ByteArray} (h : isT s [] = true) : s.size = 0 := by
  have h' : s.toList = [] := by simpa [isT] using h
  rw [sz_list, ← ByteArray.toList_eq, h']
  rfl
theorem nm_le {s : ByteArray} (h : nameB s = true) : s.size ≤ 8 := by
  simp only [nameB, Bool.and_eq_true, decide_eq_true_eq] at h
  exact h.1.2
theorem ph_all {p : DRecPhase} (h : phaseB p = true) : (∀ s ∈ [p.1, p.2.2.1, p.2.2.2.1, p.2.2.2.2.2.2.1, p.2.2.2.2.2.2.2], s.size ≤ 8) ∧ (1 ≤ p.2.1 ∧ p.2.1 ≤ 5) ∧ (0 ≤ p.2.2.2.2.1 ∧ p.2.2.2.2.1 ≤ 1000) ∧ (1 ≤ p.2.2.2.2.2.1 ∧ p.2.2.2.2.2.1 ≤ 1000) := by
  have h1 := ph_name h
  simp only [phaseB, plainB, Bool.and_eq_true, inB, decide_eq_true_eq, beq_iff_eq] at h
  obtain ⟨⟨⟨⟨_, hw⟩, ha⟩, ht⟩, he⟩ := h
  have hb : p.2.2.2.1.size ≤ 8 ∧ (1 ≤ p.2.1 ∧ p.2.1 ≤ 5) ∧ (0 ≤ p.2.2.2.2.1 ∧ p.2.2.2.2.1 ≤ 1000) := by
    unfold argsB at ha
    split at ha
    · simp only [Bool.and_eq_true, inB, decide_eq_true_eq] at ha
      exact ⟨nm_le ha.1.2, by omega, by omega⟩
    · split at ha
      · simp only [Bool.and_eq_true, inB, decide_eq_true_eq] at ha
        exact ⟨nm_le ha.1.1.2, by omega, by omega⟩
      · split at ha
        · simp only [Bool.and_eq_true, inB, decide_eq_true_eq] at ha
          exact ⟨by rw [isT_nil ha.1.2]; omega, by omega, by omega⟩
        · split at ha
          · simp only [Bool.and_eq_true, beq_iff_eq] at ha
            exact ⟨by rw [isT_nil ha.1.2]; omega, by omega, by omega⟩
          · cases ha
  refine ⟨?_, hb.2.1, hb.2.2, hw⟩
  intro s hs
  simp only [List.mem_cons, List.not_mem_nil, or_false] at hs
  rcases hs with rfl | rfl | rfl | rfl | rfl
  · exact nm_le h1.1
  · exact nm_le h1.2.2.2
  · exact hb.1
  · exact nm_le ht
  · exact nm_le he
theorem wd_size {p : DRecPhase} (h : phaseB p = true) : ∀ s ∈ wdP p, s.size ≤ 8 := by
  obtain ⟨hz, hk, hn, hw⟩ := ph_all h
  have hd : ∀ m : Int, 0 ≤ m → m ≤ 1000 → (tx (Lib.decDigits m.toNat)).size ≤ 8 := fun m h0 h1 => by rw [tx_size]; have := dec_len m.toNat (by omega); omega
  have hkw := kw_size p.2.1
  intro s hs
  unfold wdP wdL at hs
  simp only [List.mem_append, List.mem_cons, List.not_mem_nil, or_false] at hs
  rcases hs with (((rfl | rfl | rfl) | hs) | hs) | (rfl | rfl | rfl | rfl | rfl | rfl)
  · exact hz _ (by simp)
  · omega
  · exact hz _ (by simp)
  · split at hs
    · cases hs
    · rw [List.mem_singleton.1 hs]; exact hz _ (by simp)
  · split at hs
    · cases hs
    · rw [List.mem_singleton.1 hs]; exact hd _ hn.1 hn.2
  · decide
  · exact hd _ (by omega) hw.2
  · decide
  · exact hz _ (by simp)
  · decide
  · exact hz _ (by simp)
theorem inter_len (c : Nat) : ∀ l : List (List UInt8), (∀ x ∈ l, x.length ≤ c) → (([32] : List UInt8).intercalate l).length ≤ l.length * (c + 1)
  | [], _ => by simp [List.intercalate]
  | [a], h => by
    have := h a (by simp)
    simp [List.intercalate]
    omega
  | a :: b :: l, h => by
    have h1 := h a (by simp)
    have h2 := inter_len c (b :: l) (fun x hx => h x (by simp [hx]))
    have e : (([32] : List UInt8).intercalate (a :: b :: l)) = a ++ ([32] ++ ([32] : List UInt8).intercalate (b :: l)) := by simp [List.intercalate, List.intersperse]
    rw [e, List.length_append, List.length_append]
    simp only [List.length_cons, List.length_nil] at h2 ⊢
    have h3 : (l.length + 1 + 1) * (c + 1) = (l.length + 1) * (c + 1) + (c + 1) := Nat.succ_mul _ _
    omega
theorem line_len {p : DRecPhase} (h : phaseB p = true) : (lineOf (wdP p)).length ≤ 100 := by
  have h1 := inter_len 8 ((wdP p).map (·.data.toList)) (fun x hx => by
    obtain ⟨s, hs, rfl⟩ := List.mem_map.1 hx
    have := wd_size h s hs
    rw [sz_list] at this
    exact this)
  have h2 : (wdP p).length ≤ 11 := wd_len _ _ _ _ _ _ _ _
  have h3 : (wdP p).length * 9 ≤ 11 * 9 := Nat.mul_le_mul_right _ h2
  rw [List.length_map] at h1
  unfold lineOf Lib.join
  rw [List.length_append]
  simp only [List.length_cons, List.length_nil]
  omega
theorem txt_len : ∀ r : List DRecPhase, (∀ p ∈ r, phaseB p = true) → (txt (r.map wdP)).length ≤ 100 * r.length
  | [], _ => by simp [txt]
  | p :: r, h => by
    have h1 := line_len (h p (by simp))
    have h2 := txt_len r (fun q hq => h q (by simp [hq]))
    have e : txt ((p :: r).map wdP) = lineOf (wdP p) ++ txt (r.map wdP) := by simp [txt]
    rw [e, List.length_append, List.length_cons]
    omega
theorem ph_mem {r : List DRecPhase} (h : RecP r) : ∀ p ∈ r, phaseB p = true := fun p hp => by
  obtain ⟨k, hk, rfl⟩ := List.mem_iff_getElem.1 hp
  exact (step_of h hk).1
theorem builder_below {T e : TypeId} {B b : Nat} {bs : List Value} {u u' : World} (h : Lib.IsBuilderF T e B b bs u) (hb : Below u.heap.size u u') : Lib.IsBuilderF T e B b bs u' := by
  have go : ∀ p, Lib.BuilderAtF T e B b p bs u → Lib.BuilderAtF T e B b p bs u' := fun p h => by
    have hlt := h.lt
    obtain ⟨hB, v, hv, hown, hne⟩ := h
    exact ⟨hB, v, (hb.block b hlt).trans hv, hown.kept (row := none) ⟨hb.os, hb.tape, hb.output, hb.size, fun k hk _ => hb.block k hk⟩ (Classical.em _), hne⟩
  rcases h with h | h
  · exact .inl (go _ h)
  · exact .inr (go _ h)
theorem builder_is {B b : Nat} {bs : List Value} {u : World} (h : Lib.IsBuilderF 39 5 B b bs u) : ∃ c, u.heap[b]? = some (.cells c 39 (0, 0)) := by
  rcases h with ⟨_, v, hv, _⟩ | ⟨_, v, hv, _⟩
  · exact ⟨_, hv⟩
  · exact ⟨_, hv⟩

end Go.Proofs.YthonjmefjmbogacDoor
