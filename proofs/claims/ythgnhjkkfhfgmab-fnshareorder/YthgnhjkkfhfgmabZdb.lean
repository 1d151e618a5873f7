/-
  What is drawn by the reader of codes: a number, one of some texts, a slot.
-/
import Derived.Test.YthgnhjkkfhfgmabZda
import Derived.Test.YthgnhjkkfhfgmabXsr
namespace Go.Proofs.Ythgnhjkkfhfgmab
open Go.RowKit

theorem Rd.but {R : Nat} {w w' : World} {ob : Option Addr} {n cb : Nat} {p : Int} {f : Nat → Int} (h : Rd R w ob n cb p f) (hb : ∀ b, b ≤ R → w'.heap[b]? = w.heap[b]?) : Rd R w' ob n cb p f := by
  refine ⟨(hb R (Nat.le_refl _)).trans h.at_, h.le, h.p0, h.p1, h.fb, fun i hi => ?_⟩
  obtain ⟨b, off, h1, h2, h3⟩ := h.ce i hi
  exact ⟨b, off, h1, h2, (World.cell?_of_block (w := w) (a := ⟨b, off + i, none⟩) (hb b (by omega))).trans h3⟩
theorem Rd.lt {R : Nat} {w : World} {ob : Option Addr} {n cb : Nat} {p : Int} {f : Nat → Int} (h : Rd R w ob n cb p f) : R < w.heap.size := (Array.getElem?_eq_some_iff.1 h.at_).1
theorem but_new {S : Nat → Prop} {a w : World} (h : But S a w) {g : Nat} (hg : a.heap.size ≤ g) (i : Nat) (x : Value) : But S a (w.setCell ⟨g, i, none⟩ x) := by
  have hb := (Below.refl g w).setCell (p := ⟨g, i, none⟩) (Nat.le_refl _) x
  exact ⟨hb.os.trans h.os, hb.tape.trans h.tape, hb.output.trans h.output, Nat.le_trans h.size hb.size, fun b h1 h2 => (Below.heap_setCell w _ x b (fun e => by have : b = g := e; omega)).trans (h.block b h1 h2)⟩
theorem but_alloc {S : Nat → Prop} {a w : World} (h : But S a w) (o : Obj) : But S a (w.alloc o) := h.trans (But.of_below ((Below.refl _ _).alloc (Nat.le_refl _) o))
theorem lit_at (t : TypeId) (W : World) (l : List ByteArray) (hl : l.length ≤ maxLen) (hz : ∀ s ∈ l, s.size ≤ maxLen) : AtL (fun b => b = W.heap.size) (W.alloc (.cells (l.map Value.string).toArray t)) l (.slice (some ⟨W.heap.size, 0, none⟩) l.length l.length) := by
  refine ⟨_, _, rfl, ⟨hl, Nat.le_refl _, fun h => by cases h⟩, fun i hi => ⟨_, _, rfl, rfl, fun _ => .string l[i], fun j hj => ?_, ?_⟩⟩
  · rw [width_str] at hj ⊢
    have ej : j = 0 := by omega
    subst ej
    have h2 := heap_alloc_new W (.cells (l.map Value.string).toArray t)
    rw [Nat.mul_one, Nat.zero_add, Nat.add_zero]
    exact (cell_row h2 i _ (by simp [hi])).1
  · rw [at_str]; exact ⟨rfl, hz _ (List.getElem_mem hi)⟩

set_option maxRecDepth 100000 in
set_option maxHeartbeats 4000000 in
theorem pick_rd (R : Nat) (ob : Option Addr) (n cb : Nat) (f : Nat → Int) (p : Int) (m : Int) (w : World) (h : Rd R w ob n cb p f) (hp : p ≤ 90000) (hm : 1 ≤ m) (hm2 : m ≤ 1000) :
    Calls Try.prog 33 #[.pointer (some ⟨R, 0, none⟩), .int .i64 m] w fun e w' => ∃ x, e = .returned (.int .i64 x) ∧ 0 ≤ x ∧ x < m ∧ ∃ p', p' ≤ p + 1 ∧ Hid (Rd R w' ob n cb p' f) ∧ Hid (But (fun k => k = R) w w') := by
  refine (pick_any R ob n cb p m f w h hm hm2).mono ?_
  rintro e w' ⟨x, q, rfl, h0, h1, rfl⟩
  refine ⟨x, rfl, h0, h1, p + 1, Int.le_refl _, h.next (by omega) q, ?_⟩
  have hb := (Below.refl R w).setCell (p := ⟨R, 1, none⟩) (Nat.le_refl _) (.int .i64 (p + 1))
  exact ⟨hb.os, hb.tape, hb.output, hb.size, fun b h1 h2 => Below.heap_setCell w _ _ b h2⟩

set_option maxRecDepth 100000 in
set_option maxHeartbeats 4000000 in
theorem of_rd (R : Nat) (ob : Option Addr) (n cb : Nat) (f : Nat → Int) (p : Int) (S : Nat → Prop) (l : List ByteArray) (v : Value) (w : World) (h : Rd R w ob n cb p f) (hp : p ≤ 90000) (hat : AtL S w l v) (hS : ∀ b, S b → b < w.heap.size ∧ b ≠ R) (h1 : 1 ≤ l.length) (h2 : l.length ≤ 1000) :
    Calls Try.prog 34 #[.pointer (some ⟨R, 0, none⟩), v] w fun e w' => ∃ s, s ∈ l ∧ e = .returned (.string s) ∧ ∃ p', p' ≤ p + 1 ∧ Hid (Rd R w' ob n cb p' f) ∧ Hid (But (fun k => k = R) w w') := by
  obtain ⟨oa, cap, rfl, hn, hc⟩ := hat
  obtain ⟨m, em⟩ : ∃ m, l.length = m := ⟨_, rfl⟩
  have EM : Hid (l.length = m) := em
  rw [em]
  rw [em] at h1 h2
  have HC : Hid _ := hc
  have HS : Hid _ := hS
  have H : Hid (Rd R w ob n cb p f) := h
  clear em hn hc hS h
  go_enter Try.func34, Try.ntmps34
  go_wp2_with fail
  refine (pick_rd R ob n cb f p m w H.out hp (by omega) (by omega)).mono ?_
  rintro e w1 ⟨x, rfl, hx0, hx1, p', hp', rd1, bt1⟩
  obtain ⟨i, rfl⟩ := Int.eq_ofNat_of_zero_le hx0
  have hi : i < l.length := by have := EM.out; omega
  obtain ⟨b, off, rfl, hbS, c, h3, h4⟩ := HC.out i hi
  have e0 := h3 0 (by decide)
  rw [h4.1, width_str, Nat.mul_one, Nat.add_zero] at e0
  have e1 : w1.cell? ⟨b, off + i, none⟩ = some (.string (l[i]'hi)) := (World.cell?_of_block (w := w) (a := ⟨b, off + i, none⟩) (bt1.out.block b (HS.out b hbS).1 (HS.out b hbS).2)).trans e0
  obtain ⟨s, es⟩ : ∃ s, s = l[i]'hi := ⟨_, rfl⟩
  rw [← es] at e1
  have HM : Hid (s ∈ l) := by show s ∈ l; rw [es]; exact List.getElem_mem hi
  clear es h3 h4 e0 HC
  go_wp2
  go_ret
  exact ⟨s, HM.out, rfl, p', hp', rd1, bt1⟩

end Go.Proofs.Ythgnhjkkfhfgmab
