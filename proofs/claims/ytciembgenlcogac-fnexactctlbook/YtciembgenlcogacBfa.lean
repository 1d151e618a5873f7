/-
  The lists of a station's book, when nothing has happened, as rows of cells: pairs of foes, places, names of valves.
-/
import Derived.Test.YtciembgenlcogacGp
import Derived.Test.YtciembgenlcogacZh
import Derived.Test.YtciembgenlcogacRva
namespace Go.Proofs.Ytciembgenlcogac
open Go.RowKit

def gF (p : ByteArray × ByteArray) (j : Nat) : Value := if j = 0 then .string p.1 else .string p.2
def gP (p : ByteArray × Int) (j : Nat) : Value := if j = 0 then .string p.1 else if j = 1 then .int .i64 p.2 else if j = 2 then .int .i64 0 else if j = 3 then .int .i64 0 else .slice none 0 0
def gS (a : ByteArray) (_ : Nat) : Value := .string a
theorem infFg : (Try.prog.info? 53).map (fun i => (i.zero, i.size, i.bytes)) = some (some (.agg #[.string ByteArray.empty, .string ByteArray.empty]), 2, 32) := by kernel_rfl
theorem infPg : (Try.prog.info? 57).map (fun i => (i.zero, i.size, i.bytes)) = some (some (.agg #[.string ByteArray.empty, .int .i64 0, .int .i64 0, .int .i64 0, .slice none 0 0]), 5, 64) := by kernel_rfl
theorem infSg : (Try.prog.info? 9).map (fun i => (i.zero, i.size, i.bytes)) = some (some (.string ByteArray.empty), 1, 16) := by kernel_rfl
theorem elFg : ElT Try.prog 29 53 2 32 := by
  obtain ⟨i, h1, h2, h3, h4⟩ := info_parts infFg
  exact ⟨by kernel_rfl, ⟨i, _, h1, h2, h3, h4, rfl⟩, by decide⟩
theorem elPg : ElT Try.prog 30 57 5 64 := by
  obtain ⟨i, h1, h2, h3, h4⟩ := info_parts infPg
  exact ⟨by kernel_rfl, ⟨i, _, h1, h2, h3, h4, rfl⟩, by decide⟩
theorem elSg : ElT Try.prog 22 9 1 16 := by
  obtain ⟨i, h1, h2, h3, h4⟩ := info_parts infSg
  exact ⟨by kernel_rfl, ⟨i, _, h1, h2, h3, h4, rfl⟩, by decide⟩
/-- The foes of a plant; the places and the valves of a station, of the first k. -/
def foL (D : PD) (k : Nat) : List DClaimFoe := (List.range k).map D.ff
def spL (D : PD) (st : ByteArray) (k : Nat) : List (ByteArray × Int) := ((List.range k).filter fun i => eqB (D.fp i).2.2 st).map fun i => ((D.fp i).1, (D.fp i).2.1)
def vaL (D : PD) (st : ByteArray) (k : Nat) : List ByteArray := ((List.range k).filter fun i => eqB (D.fv i).2.2.2 st).map fun i => (D.fv i).1
theorem foL_succ (D : PD) (k : Nat) : foL D (k + 1) = foL D k ++ [D.ff k] := by simp [foL, List.range_succ]
theorem foL_len (D : PD) (k : Nat) : (foL D k).length = k := by simp [foL]
theorem spL_yes {D : PD} {st : ByteArray} {k : Nat} (h : eqB (D.fp k).2.2 st = true) : spL D st (k + 1) = spL D st k ++ [((D.fp k).1, (D.fp k).2.1)] := by simp [spL, List.range_succ, List.filter_append, h]
theorem spL_no {D : PD} {st : ByteArray} {k : Nat} (h : eqB (D.fp k).2.2 st = false) : spL D st (k + 1) = spL D st k := by simp [spL, List.range_succ, List.filter_append, h]
theorem spL_len (D : PD) (st : ByteArray) (k : Nat) : (spL D st k).length ≤ k := by
  have := List.length_filter_le (fun i => eqB (D.fp i).2.2 st) (List.range k)
  simp only [spL, List.length_map]
  simpa using this
theorem vaL_yes {D : PD} {st : ByteArray} {k : Nat} (h : eqB (D.fv k).2.2.2 st = true) : vaL D st (k + 1) = vaL D st k ++ [(D.fv k).1] := by simp [vaL, List.range_succ, List.filter_append, h]
theorem vaL_no {D : PD} {st : ByteArray} {k : Nat} (h : eqB (D.fv k).2.2.2 st = false) : vaL D st (k + 1) = vaL D st k := by simp [vaL, List.range_succ, List.filter_append, h]
theorem vaL_len (D : PD) (st : ByteArray) (k : Nat) : (vaL D st k).length ≤ k := by
  have := List.length_filter_le (fun i => eqB (D.fv i).2.2.2 st) (List.range k)
  simp only [vaL, List.length_map]
  simpa using this
def toSpot (p : ByteArray × Int) : DClaimSpot := (p.1, p.2, 0, 0, [])
/-- A station's book when nothing has happened, or nothing. -/
def bookD (b : Bool) (D : PD) (st : ByteArray) : DClaimBook := bif b then (foL D D.nf, (spL D st D.np).map toSpot, vaL D st D.nv, [], 0) else ([], [], [], [], 0)
/-- 5 cells of a box written, one behind the other. -/
theorem ret5 {w : World} {g : Nat} {x0 x1 x2 x3 x4 : Value} {t : TypeId} (h : w.heap[g]? = some (.cells #[x0, x1, x2, x3, x4] t (0, 0))) (a0 a1 a2 a3 a4 : Value) :
    (((((w.setCell ⟨g, 0, none⟩ a0).setCell ⟨g, 1, none⟩ a1).setCell ⟨g, 2, none⟩ a2).setCell ⟨g, 3, none⟩ a3).setCell ⟨g, 4, none⟩ a4).heap[g]? = some (.cells #[a0, a1, a2, a3, a4] t (0, 0)) ∧ (∀ q, q ≠ g → (((((w.setCell ⟨g, 0, none⟩ a0).setCell ⟨g, 1, none⟩ a1).setCell ⟨g, 2, none⟩ a2).setCell ⟨g, 3, none⟩ a3).setCell ⟨g, 4, none⟩ a4).heap[q]? = w.heap[q]?) ∧ (((((w.setCell ⟨g, 0, none⟩ a0).setCell ⟨g, 1, none⟩ a1).setCell ⟨g, 2, none⟩ a2).setCell ⟨g, 3, none⟩ a3).setCell ⟨g, 4, none⟩ a4).heap.size = w.heap.size ∧ Below g w (((((w.setCell ⟨g, 0, none⟩ a0).setCell ⟨g, 1, none⟩ a1).setCell ⟨g, 2, none⟩ a2).setCell ⟨g, 3, none⟩ a3).setCell ⟨g, 4, none⟩ a4) := by
  refine ⟨?_, ?_, by simp, ?_⟩
  · have := set_row (set_row (set_row (set_row (set_row h 0 a0) 1 a1) 2 a2) 3 a3) 4 a4
    simpa using this
  · intro q hq
    exact ((Below.heap_setCell _ ⟨g, 4, none⟩ a4 q hq).trans ((Below.heap_setCell _ ⟨g, 3, none⟩ a3 q hq).trans ((Below.heap_setCell _ ⟨g, 2, none⟩ a2 q hq).trans ((Below.heap_setCell _ ⟨g, 1, none⟩ a1 q hq).trans (Below.heap_setCell _ ⟨g, 0, none⟩ a0 q hq)))))
  · exact ((((((Below.refl _ _).setCell (p := ⟨g, 0, none⟩) (Nat.le_refl _) a0).setCell (p := ⟨g, 1, none⟩) (Nat.le_refl _) a1).setCell (p := ⟨g, 2, none⟩) (Nat.le_refl _) a2).setCell (p := ⟨g, 3, none⟩) (Nat.le_refl _) a3).setCell (p := ⟨g, 4, none⟩) (Nat.le_refl _) a4)
theorem row_keep {w w' : World} {base e size k : Nat} {v : Value} {xs : List Value} (hb : Below w.heap.size w w') (h : w.ownsRow base e size v k xs) : w'.ownsRow base e size v k xs := ownsRow_kept h (fun g hg => hb.block g (World.ownsRow.lt h g hg).2)
theorem box_keep {w w' : World} {g : Nat} {c : Array Value} {t : TypeId} (hb : Below w.heap.size w w') (h : w.heap[g]? = some (.cells c t (0, 0))) : w'.heap[g]? = some (.cells c t (0, 0)) := (hb.block g (Array.getElem?_eq_some_iff.1 h).1).trans h
theorem has_max {D : PD} (hV : D.V) {x : ByteArray} (h : hasB D.ns D.fs x = true) : x.size ≤ maxLen := by
  unfold hasB at h
  obtain ⟨i, hi, e⟩ := List.any_eq_true.1 h
  have h1 := name_size (hV.1.2.2.1 i (List.mem_range.1 hi)).1
  have h2 := eqB_size e
  unfold maxLen; omega
theorem nm_max {a : ByteArray} (h : a.size ≤ 8) : a.size ≤ maxLen := by unfold maxLen; omega
theorem z0a : (-9223372036854775808 : Int) ≤ 0 := by decide
theorem z0b : (0 : Int) ≤ 9223372036854775807 := by decide
/-- Three rows, each in blocks of its own, are a book of the caller's own. -/
theorem book_on {T s2 s3 e : Nat} {w : World} {D : PD} {st : ByteArray} {v0 v1 v2 : Value} (hV : D.V)
    (r0 : w.ownsRow T 53 2 v0 (foL D D.nf).length (enc 2 gF (foL D D.nf))) (l0 : ∀ g, v0.ownBlock = some g → T ≤ g ∧ g < s2)
    (r1 : w.ownsRow s2 57 5 v1 (spL D st D.np).length (enc 5 gP (spL D st D.np))) (l1 : ∀ g, v1.ownBlock = some g → s2 ≤ g ∧ g < s3)
    (r2 : w.ownsRow s3 9 1 v2 (vaL D st D.nv).length (enc 1 gS (vaL D st D.nv))) (l2 : ∀ g, v2.ownBlock = some g → s3 ≤ g ∧ g < e) (h12 : T ≤ s2) (h23 : s2 ≤ s3) (h3 : s3 ≤ e) :
    Own.On (fun b => T ≤ b ∧ b < e) w (bookD true D st) (cs [v0, v1, v2, .slice none 0 0, .int .i64 0]) := by
  have b0 : OnL (fun b => T ≤ b ∧ b < s2) w (foL D D.nf) v0 := OnL.of_row r0 l0 (fun i hi => ⟨gF (foL D D.nf)[i], fun j hj => enc_at 2 gF _ i hi j hj, by
    obtain ⟨k, hk, e⟩ := List.mem_map.1 (List.getElem_mem hi)
    have hf := hV.1.2.2.2 k (List.mem_range.1 hk)
    have hs1 : (D.ff k).1.size ≤ maxLen := has_max hV hf.2.1
    have hs2 : (D.ff k).2.size ≤ maxLen := has_max hV hf.2.2.1
    rw [e] at hs1 hs2
    exact on_DClaimFoe.2 ⟨fun _ => False, fun _ => False, fun _ h => h.elim, fun _ h => h.elim, ⟨rfl, hs1⟩, ⟨rfl, hs2⟩⟩⟩)
  have b1 : OnL (fun b => s2 ≤ b ∧ b < s3) w ((spL D st D.np).map toSpot) v1 := OnL.of_row (xs := enc 5 gP (spL D st D.np)) (by rw [List.length_map]; exact r1) l1 (fun i hi => by
    have hi' : i < (spL D st D.np).length := by simpa using hi
    refine ⟨gP (spL D st D.np)[i], fun j hj => enc_at 5 gP _ i hi' j hj, ?_⟩
    obtain ⟨k, hk, e⟩ := List.mem_map.1 (List.getElem_mem hi')
    have hp := hV.2.1.2 k (List.mem_range.1 (List.mem_filter.1 hk).1)
    have hc : 0 ≤ (D.fp k).2.1 ∧ (D.fp k).2.1 ≤ 1000 := by have := hp.2.2.1; simpa [inB] using this
    have hn := nm_max (name_size hp.1)
    rw [List.getElem_map, ← e]
    refine on_DClaimSpot.2 ⟨fun _ => False, fun _ => False, fun _ h => h.elim, fun _ h => h.elim, ⟨rfl, hn⟩, fun _ => False, fun _ => False, fun _ h => h.elim, fun _ h => h.elim, ⟨rfl, by show _ ≤ (D.fp k).2.1; omega, by show (D.fp k).2.1 ≤ _; omega⟩, fun _ => False, fun _ => False, fun _ h => h.elim, fun _ h => h.elim, ⟨rfl, z0a, z0b⟩, fun _ => False, fun _ => False, fun _ h => h.elim, fun _ h => h.elim, ⟨rfl, z0a, z0b⟩, ⟨none, 0, rfl, ⟨Nat.zero_le _, Nat.le_refl 0, fun _ => rfl⟩, .inl rfl⟩⟩)
  have b2 : OnL (fun b => s3 ≤ b ∧ b < e) w (vaL D st D.nv) v2 := OnL.of_row r2 l2 (fun i hi => ⟨gS (vaL D st D.nv)[i], fun j hj => enc_at 1 gS _ i hi j hj, by
    obtain ⟨k, hk, e⟩ := List.mem_map.1 (List.getElem_mem hi)
    have hp := hV.2.2.2 k (List.mem_range.1 (List.mem_filter.1 hk).1)
    have hn := nm_max (name_size hp.1)
    rw [← e]
    exact ⟨rfl, hn⟩⟩)
  exact on_DClaimBook.2 ⟨_, fun b => s2 ≤ b ∧ b < e, fun b hb => ⟨⟨hb.1, by omega⟩, fun h => by omega⟩, fun b hb => ⟨by omega, hb.2⟩, b0, _, fun b => s3 ≤ b ∧ b < e, fun b hb => ⟨⟨hb.1, by omega⟩, fun h => by omega⟩, fun b hb => ⟨by omega, hb.2⟩, b1, _, fun _ => False, fun b hb => ⟨hb, fun h => h⟩, fun _ h => h.elim, b2, fun _ => False, fun _ => False, fun _ h => h.elim, fun _ h => h.elim, ⟨none, 0, rfl, ⟨Nat.zero_le _, Nat.le_refl 0, fun _ => rfl⟩, .inl rfl⟩, rfl, z0a, z0b⟩
/-- Nothing is a book of the caller's own. -/
theorem none_on {S : Nat → Prop} {w : World} {D : PD} {st : ByteArray} : Own.On S w (bookD false D st) (cs [.slice none 0 0, .slice none 0 0, .slice none 0 0, .slice none 0 0, .int .i64 0]) :=
  on_DClaimBook.2 ⟨fun _ => False, fun _ => False, fun _ h => h.elim, fun _ h => h.elim, ⟨none, 0, rfl, ⟨Nat.zero_le _, Nat.le_refl 0, fun _ => rfl⟩, .inl rfl⟩, fun _ => False, fun _ => False, fun _ h => h.elim, fun _ h => h.elim, ⟨none, 0, rfl, ⟨Nat.zero_le _, Nat.le_refl 0, fun _ => rfl⟩, .inl rfl⟩, fun _ => False, fun _ => False, fun _ h => h.elim, fun _ h => h.elim, ⟨none, 0, rfl, ⟨Nat.zero_le _, Nat.le_refl 0, fun _ => rfl⟩, .inl rfl⟩, fun _ => False, fun _ => False, fun _ h => h.elim, fun _ h => h.elim, ⟨none, 0, rfl, ⟨Nat.zero_le _, Nat.le_refl 0, fun _ => rfl⟩, .inl rfl⟩, rfl, z0a, z0b⟩

end Go.Proofs.Ytciembgenlcogac
