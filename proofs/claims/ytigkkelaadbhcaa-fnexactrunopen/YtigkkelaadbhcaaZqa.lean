/-
  Plain: a book of shares in memory of the call's own, no two of its lists in one block.
-/
import Derived.Test.YtigkkelaadbhcaaZrap
import Derived.Test.YtigkkelaadbhcaaZxm
namespace Go.Proofs.Ytigkkelaadbhcaa
open Go.RowKit

/-- The blocks of the lists of texts of a batch, of some, of a book. -/
def hdX (x : HB) : List Nat := x.2.1.1.ownBlock.toList ++ x.2.2.1.ownBlock.toList
def hdB (L : List HB) : List Nat := L.flatMap hdX
def hdT (v0 : Value) (L : List HB) : List Nat := v0.ownBlock.toList ++ hdB L
/-- A book of the call's own. -/
structure PkO (B : Nat) (w : World) (v0 v1 : Value) (T : List ByteArray) (L : List HB) : Prop where
  th : Row w B 9 1 eS v0 T
  zt : ∀ s ∈ T, s.size ≤ maxLen
  bs : BsO B w v1 L
  nd : (hdT v0 L).Nodup
theorem hdX_mem {x : HB} {b : Nat} : b ∈ hdX x ↔ x.2.1.1.ownBlock = some b ∨ x.2.2.1.ownBlock = some b := by
  unfold hdX
  rw [List.mem_append, Option.mem_toList, Option.mem_toList]
theorem hdB_mem {L : List HB} {b : Nat} : b ∈ hdB L ↔ ∃ x ∈ L, b ∈ hdX x := by
  unfold hdB
  rw [List.mem_flatMap]
theorem hdB_app (L M : List HB) : hdB (L ++ M) = hdB L ++ hdB M := by unfold hdB; rw [List.flatMap_append]
theorem hdB_one (x : HB) : hdB [x] = hdX x := by unfold hdB; rw [List.flatMap_cons, List.flatMap_nil, List.append_nil]
section
variable {B : Nat} {w w' : World} {v0 v1 : Value} {T : List ByteArray} {L : List HB}
theorem tyS_ne {g : Nat} {c c' : Array Value} (h : w.heap[g]? = some (.cells c 9 (0, 0))) (h' : w.heap[g]? = some (.cells c' 48 (0, 0))) : False := by
  rw [h] at h'
  injection h' with h1
  injection h1 with _ h2
  revert h2
  decide
theorem HbO.lt {x : HB} (h : HbO B w x) {b : Nat} (hb : b ∈ hdX x) : B ≤ b ∧ b < w.heap.size := by
  rcases hdX_mem.1 hb with hb | hb
  · exact World.ownsRow.lt h.h b hb
  · exact World.ownsRow.lt h.n b hb
theorem HbO.ty {x : HB} (h : HbO B w x) {b : Nat} (hb : b ∈ hdX x) : ∃ c, w.heap[b]? = some (.cells c 9 (0, 0)) := by
  rcases hdX_mem.1 hb with hb | hb
  · exact Row.typed h.h b hb
  · exact Row.typed h.n b hb
theorem BsO.lt (h : BsO B w v1 L) {b : Nat} (hb : b ∈ hdB L) : B ≤ b ∧ b < w.heap.size := by
  obtain ⟨x, hx, hb⟩ := hdB_mem.1 hb
  exact (h.el x hx).lt hb
theorem PkO.below (h : PkO B w v0 v1 T L) (hb : Below w.heap.size w w') : PkO B w' v0 v1 T L := ⟨Row.below h.th hb, h.zt, h.bs.below hb, h.nd⟩
theorem PkO.low {B' : Nat} (h : PkO B w v0 v1 T L) (hB : B' ≤ B) : PkO B' w v0 v1 T L := ⟨Row.low h.th hB, h.zt, ⟨Row.low h.bs.ro hB, fun x hx => (h.bs.el x hx).low hB⟩, h.nd⟩
theorem PkO.at_ (h : PkO B w v0 v1 T L) : AtL (fun b => B ≤ b ∧ b < w.heap.size) w T v0 ∧ AtL (fun b => B ≤ b ∧ b < w.heap.size) w (L.map dH) v1 := ⟨str_at h.th h.zt, h.bs.at_⟩
theorem PkO.nil (B : Nat) (w : World) : PkO B w (.slice none 0 0) (.slice none 0 0) [] [] := ⟨Row.nil _ _ _ _ _, (fun _ h => by cases h), ⟨Row.nil _ _ _ _ _, (fun _ h => by cases h)⟩, List.nodup_nil⟩
theorem hdB_dis (h : (hdB L).Nodup) {i j : Nat} (hi : i < L.length) (hj : j < L.length) {b : Nat} (h1 : b ∈ hdX L[i]) (h2 : b ∈ hdX L[j]) : i = j := by
  have h' := h
  unfold hdB at h'
  rw [List.Nodup, List.pairwise_flatMap] at h'
  have hp := List.pairwise_iff_getElem.1 h'.2
  rcases Nat.lt_trichotomy i j with e | e | e
  · exact absurd rfl (hp i j hi hj e b h1 b h2)
  · exact e
  · exact absurd rfl (hp j i hj hi e b h2 b h1)
theorem hdX_nodup (h : (hdB L).Nodup) {x : HB} (hx : x ∈ L) : (hdX x).Nodup := by
  unfold hdB at h
  rw [List.Nodup, List.pairwise_flatMap] at h
  exact h.1 x hx
theorem HbO.on {x : HB} (h : HbO B w x) (hd : (hdX x).Nodup) : Own.On (fun b => b ∈ hdX x) w (dH x) (eH x) := by
  have hd' := hd
  unfold hdX at hd'
  rw [List.nodup_append] at hd'
  refine on_DShareBatch.2 ⟨fun _ => False, fun b => b ∈ hdX x, fun _ h => h.elim, fun _ h => h, ⟨rfl, h.z⟩, fun b => x.2.1.1.ownBlock = some b, fun b => x.2.2.1.ownBlock = some b, fun b hb => ⟨hdX_mem.2 (.inl hb), fun h2 => ?_⟩, fun b hb => hdX_mem.2 (.inr hb), onS h.h (fun _ hg => hg) h.zh, onS h.n (fun _ hg => hg) h.zn⟩
  exact hd'.2.2 b (by rw [Option.mem_toList]; exact hb) b (by rw [Option.mem_toList]; exact h2) rfl
theorem BsO.on (h : BsO B w v1 L) (hd : (hdB L).Nodup) : OnL (fun b => v1.ownBlock = some b ∨ b ∈ hdB L) w (L.map dH) v1 := by
  refine Row.on h.ro dH rfl (fun g hg => .inl hg) (fun i b => ∃ q : i < L.length, b ∈ hdX L[i]) ?_ ?_ ?_
  · rintro i b ⟨q, hb⟩
    refine ⟨.inr (hdB_mem.2 ⟨_, List.getElem_mem q, hb⟩), fun e => ?_⟩
    obtain ⟨c, hc⟩ := (h.el _ (List.getElem_mem q)).ty hb
    obtain ⟨c', hc'⟩ := Row.typed h.ro b e
    exact tyS_ne hc hc'
  · rintro i j b ⟨q1, h1⟩ ⟨q2, h2⟩
    exact hdB_dis hd q1 q2 h1 h2
  · intro i hi
    exact Own.on_up ((h.el _ (List.getElem_mem hi)).on (hdX_nodup hd (List.getElem_mem hi))) (fun b hb => ⟨hi, hb⟩)
/-- Such a book owns its memory. -/
theorem PkO.on (h : PkO B w v0 v1 T L) : Own.On (fun b => B ≤ b ∧ b < w.heap.size) w ((T, L.map dH) : DShareBook) (cs [v0, v1]) := by
  have hd := h.nd
  unfold hdT at hd
  rw [List.nodup_append] at hd
  refine on_DShareBook.2 ⟨fun b => v0.ownBlock = some b, fun b => v1.ownBlock = some b ∨ b ∈ hdB L, fun b hb => ⟨World.ownsRow.lt h.th b hb, ?_⟩, ?_, onS h.th (fun _ hg => hg) h.zt, h.bs.on hd.2.1⟩
  · rintro (h2 | h2)
    · obtain ⟨c, hc⟩ := Row.typed h.th b hb
      obtain ⟨c', hc'⟩ := Row.typed h.bs.ro b h2
      exact tyS_ne hc hc'
    · exact hd.2.2 b (by rw [Option.mem_toList]; exact hb) b h2 rfl
  · rintro b (hb | hb)
    · exact World.ownsRow.lt h.bs.ro b hb
    · exact h.bs.lt hb
end
/-- One more batch behind, its lists in new memory. -/
theorem hdB_push {m : Nat} {L : List HB} {x : HB} (hd : (hdB L).Nodup) (hl : ∀ b ∈ hdB L, b < m) (hx : (hdX x).Nodup) (hm : ∀ b ∈ hdX x, m ≤ b) : (hdB (L ++ [x])).Nodup := by
  rw [hdB_app, hdB_one, List.nodup_append]
  exact ⟨hd, hx, fun a ha b hb e => by have := hl a ha; have := hm b hb; omega⟩
theorem hdX_two {x : HB} {m : Nat} (h1 : ∀ b, x.2.1.1.ownBlock = some b → b < m) (h2 : ∀ b, x.2.2.1.ownBlock = some b → m ≤ b) : (hdX x).Nodup := by
  unfold hdX
  rw [List.nodup_append]
  refine ⟨?_, ?_, fun a ha b hb e => ?_⟩
  · cases x.2.1.1.ownBlock <;> simp
  · cases x.2.2.1.ownBlock <;> simp
  · rw [Option.mem_toList] at ha hb
    have := h1 a ha
    have := h2 b hb
    omega
end Go.Proofs.Ytigkkelaadbhcaa
