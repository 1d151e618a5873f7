/-
  The model's copies of names and of a want: all in memory of its own.
-/
import Derived.Test.YtndacfockllehaaGreatM20
import Derived.Deep.Cut
namespace Go.Proofs.YtndacfockllehaaGreat
open Go.RowKit

def eS (a : ByteArray) (_ : Nat) : Value := .string a
abbrev OkS (a : ByteArray) : Prop := a.size ≤ maxLen
abbrev OkI (x : Int) : Prop := -9223372036854775808 ≤ x ∧ x ≤ 9223372036854775807
theorem flatS : Flat 1 eS OkS := ⟨rfl, fun h => ⟨fun j hj => by obtain rfl : j = 0 := (by omega); exact h.1, h.2⟩, fun h => ⟨rfl, h⟩, fun _ _ => rfl⟩
def eU (p : DClaimUse) (j : Nat) : Value := if j = 0 then .string p.1 else if j = 1 then .int .i64 p.2.1 else .int .i64 p.2.2
theorem flatU : Flat 3 eU (fun p => OkS p.1 ∧ OkI p.2.1 ∧ OkI p.2.2) := ⟨rfl, fun {S w a c} h => by
  rw [at_DClaimUse] at h
  refine ⟨fun j hj => ?_, h.1.2, h.2.1.2, h.2.2.2⟩
  rcases (show j = 0 ∨ j = 1 ∨ j = 2 by omega) with rfl | rfl | rfl
  · exact h.1.1
  · exact h.2.1.1
  · exact h.2.2.1, fun h => at_DClaimUse.2 ⟨⟨rfl, h.1⟩, ⟨rfl, h.2.1⟩, rfl, h.2.2⟩, fun a j => by unfold eU; split <;> (try split) <;> rfl⟩
theorem infS : (Tryz.prog.info? 9).map (fun i => (i.zero, i.size, i.bytes)) = some (some (.string ByteArray.empty), 1, 16) := by kernel_rfl
theorem infU : (Tryz.prog.info? 95).map (fun i => (i.zero, i.size, i.bytes)) = some (some (.agg #[.string ByteArray.empty, .int .i64 0, .int .i64 0]), 3, 32) := by kernel_rfl
theorem elS : ElT Tryz.prog 22 9 1 16 := by
  obtain ⟨i, h1, h2, h3, h4⟩ := info_parts infS
  exact ⟨by kernel_rfl, ⟨i, _, h1, h2, h3, h4, rfl⟩, by decide⟩
theorem elU : ElT Tryz.prog 66 95 3 32 := by
  obtain ⟨i, h1, h2, h3, h4⟩ := info_parts infU
  exact ⟨by kernel_rfl, ⟨i, _, h1, h2, h3, h4, rfl⟩, by decide⟩
theorem onS_row {w : World} {B : Nat} {t : TypeId} {v : Value} {l : List ByteArray} {S : Nat → Prop} (h : Row w B t 1 eS v l) (hS : ∀ g, v.ownBlock = some g → S g) (hok : ∀ x ∈ l, OkS x) : OnL S w l v :=
  OnL.of_row h hS (fun i hi => ⟨eS l[i], fun j hj => enc_at 1 eS l i hi j hj, show Lay.At _ _ _ _ from ⟨rfl, hok _ (List.getElem_mem hi)⟩⟩)
theorem onU_row {w : World} {B : Nat} {t : TypeId} {v : Value} {l : List DClaimUse} {S : Nat → Prop} (h : Row w B t 3 eU v l) (hS : ∀ g, v.ownBlock = some g → S g) (hok : ∀ x ∈ l, OkS x.1 ∧ OkI x.2.1 ∧ OkI x.2.2) : OnL S w l v :=
  OnL.of_row h hS (fun i hi => ⟨eU l[i], fun j hj => enc_at 3 eU l i hi j hj, on_DClaimUse.2 ⟨fun _ => False, fun _ => False, fun _ h => h.elim, fun _ h => h.elim, ⟨rfl, (hok _ (List.getElem_mem hi)).1⟩, fun _ => False, fun _ => False, fun _ h => h.elim, fun _ h => h.elim, ⟨rfl, (hok _ (List.getElem_mem hi)).2.1⟩, ⟨rfl, (hok _ (List.getElem_mem hi)).2.2⟩⟩⟩)
/-- 5 cells of a box written, one behind the other. -/
theorem ret_5 {w : World} {g : Nat} {x0 x1 x2 x3 x4 : Value} {t : TypeId} (h : w.heap[g]? = some (.cells #[x0, x1, x2, x3, x4] t (0, 0))) (a0 a1 a2 a3 a4 : Value) :
    (((((w.setCell ⟨g, 0, none⟩ a0).setCell ⟨g, 1, none⟩ a1).setCell ⟨g, 2, none⟩ a2).setCell ⟨g, 3, none⟩ a3).setCell ⟨g, 4, none⟩ a4).heap[g]? = some (.cells #[a0, a1, a2, a3, a4] t (0, 0)) ∧ (∀ q, q ≠ g → (((((w.setCell ⟨g, 0, none⟩ a0).setCell ⟨g, 1, none⟩ a1).setCell ⟨g, 2, none⟩ a2).setCell ⟨g, 3, none⟩ a3).setCell ⟨g, 4, none⟩ a4).heap[q]? = w.heap[q]?) ∧ (((((w.setCell ⟨g, 0, none⟩ a0).setCell ⟨g, 1, none⟩ a1).setCell ⟨g, 2, none⟩ a2).setCell ⟨g, 3, none⟩ a3).setCell ⟨g, 4, none⟩ a4).heap.size = w.heap.size ∧ Below g w (((((w.setCell ⟨g, 0, none⟩ a0).setCell ⟨g, 1, none⟩ a1).setCell ⟨g, 2, none⟩ a2).setCell ⟨g, 3, none⟩ a3).setCell ⟨g, 4, none⟩ a4) := by
  refine ⟨?_, ?_, by simp, ?_⟩
  · have := set_row (set_row (set_row (set_row (set_row h 0 a0) 1 a1) 2 a2) 3 a3) 4 a4
    simpa using this
  · intro q hq
    exact ((Below.heap_setCell _ ⟨g, 4, none⟩ a4 q hq).trans ((Below.heap_setCell _ ⟨g, 3, none⟩ a3 q hq).trans ((Below.heap_setCell _ ⟨g, 2, none⟩ a2 q hq).trans ((Below.heap_setCell _ ⟨g, 1, none⟩ a1 q hq).trans (Below.heap_setCell _ ⟨g, 0, none⟩ a0 q hq)))))
  · exact ((((((Below.refl _ _).setCell (p := ⟨g, 0, none⟩) (Nat.le_refl _) a0).setCell (p := ⟨g, 1, none⟩) (Nat.le_refl _) a1).setCell (p := ⟨g, 2, none⟩) (Nat.le_refl _) a2).setCell (p := ⟨g, 3, none⟩) (Nat.le_refl _) a3).setCell (p := ⟨g, 4, none⟩) (Nat.le_refl _) a4)
/-- 6 cells of a box written, one behind the other. -/
theorem ret_6 {w : World} {g : Nat} {x0 x1 x2 x3 x4 x5 : Value} {t : TypeId} (h : w.heap[g]? = some (.cells #[x0, x1, x2, x3, x4, x5] t (0, 0))) (a0 a1 a2 a3 a4 a5 : Value) :
    ((((((w.setCell ⟨g, 0, none⟩ a0).setCell ⟨g, 1, none⟩ a1).setCell ⟨g, 2, none⟩ a2).setCell ⟨g, 3, none⟩ a3).setCell ⟨g, 4, none⟩ a4).setCell ⟨g, 5, none⟩ a5).heap[g]? = some (.cells #[a0, a1, a2, a3, a4, a5] t (0, 0)) ∧ (∀ q, q ≠ g → ((((((w.setCell ⟨g, 0, none⟩ a0).setCell ⟨g, 1, none⟩ a1).setCell ⟨g, 2, none⟩ a2).setCell ⟨g, 3, none⟩ a3).setCell ⟨g, 4, none⟩ a4).setCell ⟨g, 5, none⟩ a5).heap[q]? = w.heap[q]?) ∧ ((((((w.setCell ⟨g, 0, none⟩ a0).setCell ⟨g, 1, none⟩ a1).setCell ⟨g, 2, none⟩ a2).setCell ⟨g, 3, none⟩ a3).setCell ⟨g, 4, none⟩ a4).setCell ⟨g, 5, none⟩ a5).heap.size = w.heap.size ∧ Below g w ((((((w.setCell ⟨g, 0, none⟩ a0).setCell ⟨g, 1, none⟩ a1).setCell ⟨g, 2, none⟩ a2).setCell ⟨g, 3, none⟩ a3).setCell ⟨g, 4, none⟩ a4).setCell ⟨g, 5, none⟩ a5) := by
  refine ⟨?_, ?_, by simp, ?_⟩
  · have := set_row (set_row (set_row (set_row (set_row (set_row h 0 a0) 1 a1) 2 a2) 3 a3) 4 a4) 5 a5
    simpa using this
  · intro q hq
    exact ((Below.heap_setCell _ ⟨g, 5, none⟩ a5 q hq).trans ((Below.heap_setCell _ ⟨g, 4, none⟩ a4 q hq).trans ((Below.heap_setCell _ ⟨g, 3, none⟩ a3 q hq).trans ((Below.heap_setCell _ ⟨g, 2, none⟩ a2 q hq).trans ((Below.heap_setCell _ ⟨g, 1, none⟩ a1 q hq).trans (Below.heap_setCell _ ⟨g, 0, none⟩ a0 q hq))))))
  · exact (((((((Below.refl _ _).setCell (p := ⟨g, 0, none⟩) (Nat.le_refl _) a0).setCell (p := ⟨g, 1, none⟩) (Nat.le_refl _) a1).setCell (p := ⟨g, 2, none⟩) (Nat.le_refl _) a2).setCell (p := ⟨g, 3, none⟩) (Nat.le_refl _) a3).setCell (p := ⟨g, 4, none⟩) (Nat.le_refl _) a4).setCell (p := ⟨g, 5, none⟩) (Nat.le_refl _) a5)

set_option maxRecDepth 100000 in
set_option maxHeartbeats 4000000 in
theorem names21_any (S : Nat → Prop) (v : Value) (l : List ByteArray) (w : World) (h : AtL S w l v) (hl : l.length ≤ 1048576) (hS : ∀ b, S b → b < w.heap.size) :
    Calls Tryz.prog 109 #[v] w fun e w' => ∃ r, e = .returned r ∧ Row w' w.heap.size 9 1 eS r l ∧ Below w.heap.size w w' := by
  have hsr : Hid (Src (w.alloc (.cells #[] 9)) v l.length 1 (enc 1 eS l)) := (flatS.src (h.same (Same.of_below ((Below.refl _ _).alloc (Nat.le_refl _) _) hS)))
  have hr0 : Hid (Row (w.alloc (.cells #[] 9)) w.heap.size 9 1 eS (.slice (some ⟨w.heap.size, 0, none⟩) 0 0) []) := Row.made w _ _ _ (Nat.le_refl _)
  have hbl : Hid (Below w.heap.size w (w.alloc (.cells #[] 9))) := (Below.refl _ _).alloc (Nat.le_refl _) _
  clear h
  go_enter Tryz.func109, Tryz.ntmps109
  go_wp2_with (first
    | (at_builtin; refine wpList_app elS rfl _ _ rfl rfl rfl hr0.out hsr.out (flatS.enc_one l) (by unfold maxLen; simp; omega) (by simp; omega) hbl.out.size ?_; intro v' w1 hown hg hbk))
  go_ret
  refine ⟨v', rfl, ?_, hbl.out.grown hg hbl.out.size (fun p hp => by cases hp; exact Nat.le_refl _)⟩
  have := hown
  rw [List.length_nil, Nat.zero_add, enc_nil, List.nil_append] at this
  exact this

end Go.Proofs.YtndacfockllehaaGreat
