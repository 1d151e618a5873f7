/-
  Several texts in one.
-/
import Derived.Test.YtkongeofapbblabXdi
import Derived.Test.YtkongeofapbblabLy
/-
  A recipe is drawn, whole, spoilt or none.
-/
namespace Go.Proofs.Ytkongeofapbblab
open Go.RowKit Go.Sort

/-- What is answered by the drawing of any recipe. -/
def AnE (R : Nat) (ob : Option Addr) (n cb : Nat) (f : Nat → Int) (p : Int) (w : World) (e : Ending) (w' : World) : Prop := ∃ v M, e = .returned v ∧ M.length ≤ 14 ∧ (∀ x ∈ M, PzL 2000 x) ∧ ∃ p', p' ≤ p + 3000 ∧ Hid (Rd R w' ob n cb p' f) ∧ Hid (But (fun q => q = R) w w') ∧ Hid (Row w' w.heap.size 33 8 eR v M)
theorem AnE.of {R : Nat} {ob : Option Addr} {n cb : Nat} {f : Nat → Int} {p : Int} {w : World} {e : Ending} {w' : World} (h : ∃ v M, e = .returned v ∧ M.length ≤ 14 ∧ (∀ x ∈ M, PzL 2000 x) ∧ ∃ p', p' ≤ p + 3000 ∧ Hid (Rd R w' ob n cb p' f) ∧ Hid (But (fun q => q = R) w w') ∧ Hid (Row w' w.heap.size 33 8 eR v M)) : AnE R ob n cb f p w e w' := h

set_option maxRecDepth 100000 in
set_option maxHeartbeats 4000000 in
theorem any_rd (R : Nat) (ob : Option Addr) (n cb : Nat) (f : Nat → Int) (p : Int) (w : World) (h : Rd R w ob n cb p f) (hp : p ≤ 50000) :
    Calls Try.prog 8 #[.pointer (some ⟨R, 0, none⟩)] w fun e w' => AnE R ob n cb f p w e w' := by
  have rlt := h.lt
  have C : Hid _ := recipe_rd R ob n cb f p w h (by omega)
  clear h
  go_enter Try.func8, Try.ntmps8
  go_wp2_with fail
  refine Calls.mono C.out ?_
  rintro e W1 ⟨v, L, rfl, h1, h2, p1, hp1, D1⟩
  clear C
  obtain ⟨oo, ko, hf⟩ := Row.form D1.out.row
  subst hf
  obtain ⟨nl, hnl⟩ : ∃ nl, L.length = nl := ⟨_, rfl⟩
  have HLK : Hid (L.length = nl) := hnl
  rw [hnl] at h1 h2 D1
  rw [hnl]
  clear hnl
  have C : Hid _ := pick_rd R ob n cb f p1 24 W1 D1.out.rd (by omega) (by omega) (by omega)
  go_wp2_with fail
  refine Calls.mono C.out ?_
  rintro e W2 ⟨z, rfl, z0, z1, p2, hp2, RD2, bt⟩
  have D2 : Hid (Dr R ob n cb f w (w.heap.size + 1) W2 p2 (.slice oo nl ko) L) := D1.out.call RD2.out bt.out
  clear C bt RD2 D1
  have whi := D2.out.hi
  rcases (show z = 0 ∨ z = 1 ∨ 2 ≤ z by omega) with rfl | rfl | hz
  · have C : Hid _ := spoilL_rd R ob n cb f p2 (fun b => w.heap.size + 1 ≤ b ∧ b < W2.heap.size) L oo nl ko W2 D2.out.rd (by omega) (flatR.row_at D2.out.row (fun q hq => World.ownsRow.lt D2.out.row q hq) (fun x hx => (D2.out.pz x hx).ok (by omega))) (fun b hb => ⟨hb.2, by omega⟩) h1 h2 D2.out.pz
    go_wp2_with fail
    refine Calls.mono C.out ?_
    rintro e W3 ⟨v3, M, rfl, hm, hz, p3, hp3, RD3, BT3, RW3⟩
    have BT : Hid (But (fun q => q = R) w W3) := D2.out.but.trans BT3.out
    have RW : Hid (Row W3 w.heap.size 33 8 eR v3 M) := RW3.out.low (by omega)
    have HZM : Hid (∀ x ∈ M, PzL 2000 x) := hz
    clear C BT3 RW3 D2 hz
    obtain ⟨o3, k3, hf3⟩ := Row.form RW.out
    subst hf3
    go_wp2_with fail
    go_ret
    exact AnE.of ⟨_, M, rfl, hm, HZM.out, p3, by omega, RD3, BT, RW⟩
  · go_wp2_with fail
    go_ret
    exact AnE.of ⟨_, [], rfl, by simp, (fun _ h => by cases h), p2, by omega, D2.out.rd.but (fun b hb => Below.heap_alloc W2 _ b (by have := D2.out.rd.lt; omega)), but_alloc D2.out.but _, Row.made W2 33 8 eR (by omega)⟩
  · have hz0 : (z == 0) = false := by simp; omega
    have hz1 : (z == 1) = false := by simp; omega
    go_wp2_with fail
    go_ret
    exact AnE.of ⟨_, L, rfl, by have := HLK.out; omega, fun x hx => (D2.out.pz x hx).up (by omega), p2, by omega, D2.out.rd, D2.out.but, D2.out.row.low (by omega)⟩

end Go.Proofs.Ytkongeofapbblab

/-
  Types of the laws as data.
-/
namespace Go.Proofs.Ytkongeofapbblab
open Go.RowKit
abbrev DRecSay := Int × Bool
theorem width_DRecSay : Lay.width DRecSay = 2 := rfl
theorem at_DRecSay {S : Nat → Prop} {w : World} {a : DRecSay} {c : Nat → Value} : Lay.At S w a c ↔ (c 0 = .int .i64 a.1 ∧ -9223372036854775808 ≤ a.1 ∧ a.1 ≤ 9223372036854775807) ∧ c 1 = .bool a.2 := Iff.rfl
theorem tot_DRecSay {a : DRecSay} : Lay.tot a = 0 + (0) := rfl

end Go.Proofs.Ytkongeofapbblab
