/-
  A word of the laws as data in memory: its measure, its copy, its comparison, and how a value of the law's type that can be read is opened.
-/
import Derived.Test.YtciembgenlcogaeGreatBm
import Derived.Test.YtciembgenlcogaeGreatWmf
namespace Go.Proofs.YtciembgenlcogaeGreat
open Go.ChangeShapes Go.WideShapes Go.ChangeAt Go.RowKit

/-- A word's want in memory, below B. -/
def WAt (B : Nat) (w : World) (a : C.DClaimWant) (o2 o3 o4 o5 : Option Addr) (n2 n3 n4 n5 k2 k3 k4 k5 : Nat) : Prop := C.Lay.At (fun b => b < B) w a (C.cs [.int .i64 a.1, .int .i64 a.2.1, .slice o2 n2 k2, .slice o3 n3 k3, .slice o4 n4 k4, .slice o5 n5 k5])
theorem WAt.kept {B B' : Nat} {w w' : World} {a : C.DClaimWant} {o2 o3 o4 o5 : Option Addr} {n2 n3 n4 n5 k2 k3 k4 k5 : Nat} (h : WAt B w a o2 o3 o4 o5 n2 n3 n4 n5 k2 k3 k4 k5) (hb : Below B' w w') (hB : B ≤ B') : WAt B w' a o2 o3 o4 o5 n2 n3 n4 n5 k2 k3 k4 k5 := C.Lay.same h (C.Same.of_below hb (fun _ hx => Nat.lt_of_lt_of_le hx hB))
theorem WAt.up {B B' : Nat} {w : World} {a : C.DClaimWant} {o2 o3 o4 o5 : Option Addr} {n2 n3 n4 n5 k2 k3 k4 k5 : Nat} (h : WAt B w a o2 o3 o4 o5 n2 n3 n4 n5 k2 k3 k4 k5) (hB : B ≤ B') : WAt B' w a o2 o3 o4 o5 n2 n3 n4 n5 k2 k3 k4 k5 := C.Lay.up h (fun _ hx => Nat.lt_of_lt_of_le hx hB)
theorem atl_len {α : Type} [C.Lay α] {S : Nat → Prop} {w : World} {l : List α} {oa : Option Addr} {n k : Nat} (h : C.AtL S w l (.slice oa n k)) : l.length = n := by
  obtain ⟨_, _, hv, _⟩ := h
  cases hv; rfl
theorem WAt.parts {B : Nat} {w : World} {a : C.DClaimWant} {o2 o3 o4 o5 : Option Addr} {n2 n3 n4 n5 k2 k3 k4 k5 : Nat} (h : WAt B w a o2 o3 o4 o5 n2 n3 n4 n5 k2 k3 k4 k5) :
    (C.AtL (fun b => b < B) w a.2.2.1 (.slice o2 n2 k2) ∧ C.AtL (fun b => b < B) w a.2.2.2.1 (.slice o3 n3 k3) ∧ C.AtL (fun b => b < B) w a.2.2.2.2.1 (.slice o4 n4 k4) ∧ C.AtL (fun b => b < B) w a.2.2.2.2.2 (.slice o5 n5 k5)) ∧ a.2.2.1.length = n2 ∧ a.2.2.2.1.length = n3 ∧ a.2.2.2.2.1.length = n4 ∧ a.2.2.2.2.2.length = n5 := by
  obtain ⟨_, _, h2, h3, h4, h5⟩ := C.at_DClaimWant.1 h
  exact ⟨⟨h2, h3, h4, h5⟩, atl_len h2, atl_len h3, atl_len h4, atl_len h5⟩
theorem want_lens {a : C.DClaimWant} {n2 n3 n4 n5 : Nat} (m2 : a.2.2.1.length = n2) (m3 : a.2.2.2.1.length = n3) (m4 : a.2.2.2.2.1.length = n4) (m5 : a.2.2.2.2.2.length = n5) (hm : C.Lay.tot a ≤ 1048576) : n2 ≤ 1048576 ∧ n3 ≤ 1048576 ∧ n4 ≤ 1048576 ∧ n5 ≤ 1048576 := by
  rw [C.tot_DClaimWant] at hm
  have h2 := C.totL_len a.2.2.1
  have h3 := C.totL_len a.2.2.2.1
  have h4 := C.totL_len a.2.2.2.2.1
  have h5 := C.totL_len a.2.2.2.2.2
  omega

set_option maxRecDepth 100000 in
set_option maxHeartbeats 8000000 in
theorem szWord_any (B : Nat) (k n mv : Int) (st : ByteArray) (dn : Bool) (a : C.DClaimWant) (o2 o3 o4 o5 : Option Addr) (n2 n3 n4 n5 k2 k3 k4 k5 : Nat) (x : Int) (w : World) (h : WAt B w a o2 o3 o4 o5 n2 n3 n4 n5 k2 k3 k4 k5) (hB : B ≤ w.heap.size) (hst : st.size ≤ maxLen) (h0 : 0 ≤ x) (h1 : x ≤ 1048576) :
    Calls Tryz.prog 5 #[.agg #[.int .i64 k, .string st, .int .i64 n, .int .i64 a.1, .int .i64 a.2.1, .slice o2 n2 k2, .slice o3 n3 k3, .slice o4 n4 k4, .slice o5 n5 k5, .int .i64 mv, .bool dn], .int .i64 x] w fun e w' => ∃ y : Int, e = .returned (.int .i64 y) ∧ (y < 0 ∨ y + (C.Lay.tot a : Int) + (st.size : Int) = x) ∧ Below w.heap.size w w' := by
  unfold maxLen at hst
  have k0 : Hid (Below (w.heap.size + 1) (w.alloc (.cells #[.int .i64 k, .string st, .int .i64 n, .int .i64 a.1, .int .i64 a.2.1, .slice o2 n2 k2, .slice o3 n3 k3, .slice o4 n4 k4, .slice o5 n5 k5, .int .i64 mv, .bool dn] 32)) (w.alloc (.cells #[.int .i64 k, .string st, .int .i64 n, .int .i64 a.1, .int .i64 a.2.1, .slice o2 n2 k2, .slice o3 n3 k3, .slice o4 n4 k4, .slice o5 n5 k5, .int .i64 mv, .bool dn] 32))) := Below.refl _ _
  have HI : Hid (WAt B (w.alloc (.cells #[.int .i64 k, .string st, .int .i64 n, .int .i64 a.1, .int .i64 a.2.1, .slice o2 n2 k2, .slice o3 n3 k3, .slice o4 n4 k4, .slice o5 n5 k5, .int .i64 mv, .bool dn] 32)) a o2 o3 o4 o5 n2 n3 n4 n5 k2 k3 k4 k5) := h.kept (below_end k0.out) hB
  have sB : B ≤ (w.alloc (.cells #[.int .i64 k, .string st, .int .i64 n, .int .i64 a.1, .int .i64 a.2.1, .slice o2 n2 k2, .slice o3 n3 k3, .slice o4 n4 k4, .slice o5 n5 k5, .int .i64 mv, .bool dn] 32)).heap.size := by simp; omega
  clear h
  by_cases hneg : x - (st.size : Int) < 0
  · go_enter Tryz.func5, Tryz.ntmps5
    go_wp2_with fail
    go_ret
    exact ⟨_, rfl, Or.inl (by omega), below_end k0.out⟩
  · go_enter Tryz.func5, Tryz.ntmps5
    go_wp2_with fail
    refine (C.szClaimWant_any (fun b => b < B) a (C.cs [.int .i64 a.1, .int .i64 a.2.1, .slice o2 n2 k2, .slice o3 n3 k3, .slice o4 n4 k4, .slice o5 n5 k5]) (x - (st.size : Int)) _ HI.out (fun b hb => Nat.lt_of_lt_of_le hb sB) (by omega) (by omega)).mono ?_
    rintro e w1 ⟨y, rfl, t, u1⟩
    have k1 : Hid (Below w.heap.size w w1) := below_end (below_of k0.out u1)
    have T : Hid _ := t
    clear t u1
    by_cases hy : y < 0
    · go_wp2_with fail
      go_ret
      exact ⟨_, rfl, Or.inl (by omega), k1.out⟩
    · go_wp2_with fail
      go_ret
      exact ⟨_, rfl, Or.inr (by have := T.out; omega), k1.out⟩

set_option maxRecDepth 100000 in
set_option maxHeartbeats 8000000 in
theorem toWord_any (B : Nat) (k n mv : Int) (st : ByteArray) (dn : Bool) (a : C.DClaimWant) (o2 o3 o4 o5 : Option Addr) (n2 n3 n4 n5 k2 k3 k4 k5 : Nat) (w : World) (h : WAt B w a o2 o3 o4 o5 n2 n3 n4 n5 k2 k3 k4 k5) (hB : B ≤ w.heap.size) (hm : C.Lay.tot a ≤ 1048576) :
    Calls Tryz.prog 8 #[.agg #[.int .i64 k, .string st, .int .i64 n, .int .i64 a.1, .int .i64 a.2.1, .slice o2 n2 k2, .slice o3 n3 k3, .slice o4 n4 k4, .slice o5 n5 k5, .int .i64 mv, .bool dn]] w fun e w' => ∃ (s2 s3 s4 s5 : Option Addr) (c2 c3 c4 c5 : Nat), e = .returned (.agg #[.int .i64 k, .string st, .int .i64 n, .int .i64 a.1, .int .i64 a.2.1, .slice s2 n2 c2, .slice s3 n3 c3, .slice s4 n4 c4, .slice s5 n5 c5, .int .i64 mv, .bool dn]) ∧ WAt w'.heap.size w' a s2 s3 s4 s5 n2 n3 n4 n5 c2 c3 c4 c5 ∧ Below w.heap.size w w' := by
  obtain ⟨_, m2, m3, m4, m5⟩ := h.parts
  have M2 : Hid (a.2.2.1.length = n2) := m2
  have M3 : Hid (a.2.2.2.1.length = n3) := m3
  have M4 : Hid (a.2.2.2.2.1.length = n4) := m4
  have M5 : Hid (a.2.2.2.2.2.length = n5) := m5
  clear m2 m3 m4 m5
  have H : Hid (∀ w', Below w.heap.size w w' → WAt B w' a o2 o3 o4 o5 n2 n3 n4 n5 k2 k3 k4 k5) := fun w' hb => h.kept hb hB
  clear h
  obtain ⟨U0, h0⟩ : ∃ u, u = ((w.alloc (.cells #[.int .i64 k, .string st, .int .i64 n, .int .i64 a.1, .int .i64 a.2.1, .slice o2 n2 k2, .slice o3 n3 k3, .slice o4 n4 k4, .slice o5 n5 k5, .int .i64 mv, .bool dn] 32)).alloc (.cells #[.int .i64 0, .string ⟨#[]⟩, .int .i64 0, .int .i64 0, .int .i64 0, .slice none 0 0, .slice none 0 0, .slice none 0 0, .slice none 0 0, .int .i64 0, .bool false] 46)).alloc (.cells #[.int .i64 0, .string ⟨#[]⟩, .int .i64 0, .int .i64 0, .int .i64 0, .slice none 0 0, .slice none 0 0, .slice none 0 0, .slice none 0 0, .int .i64 0, .bool false] 46) := ⟨_, rfl⟩
  have E0 : Hid (U0 = ((w.alloc (.cells #[.int .i64 k, .string st, .int .i64 n, .int .i64 a.1, .int .i64 a.2.1, .slice o2 n2 k2, .slice o3 n3 k3, .slice o4 n4 k4, .slice o5 n5 k5, .int .i64 mv, .bool dn] 32)).alloc (.cells #[.int .i64 0, .string ⟨#[]⟩, .int .i64 0, .int .i64 0, .int .i64 0, .slice none 0 0, .slice none 0 0, .slice none 0 0, .slice none 0 0, .int .i64 0, .bool false] 46)).alloc (.cells #[.int .i64 0, .string ⟨#[]⟩, .int .i64 0, .int .i64 0, .int .i64 0, .slice none 0 0, .slice none 0 0, .slice none 0 0, .slice none 0 0, .int .i64 0, .bool false] 46)) := h0
  have C0 : Hid (C.Cp 32 46 w U0 #[.int .i64 k, .string st, .int .i64 n, .int .i64 a.1, .int .i64 a.2.1, .slice o2 n2 k2, .slice o3 n3 k3, .slice o4 n4 k4, .slice o5 n5 k5, .int .i64 mv, .bool dn] #[.int .i64 0, .string ⟨#[]⟩, .int .i64 0, .int .i64 0, .int .i64 0, .slice none 0 0, .slice none 0 0, .slice none 0 0, .slice none 0 0, .int .i64 0, .bool false] #[.int .i64 0, .string ⟨#[]⟩, .int .i64 0, .int .i64 0, .int .i64 0, .slice none 0 0, .slice none 0 0, .slice none 0 0, .slice none 0 0, .int .i64 0, .bool false]) := by rw [h0]; exact C.cp_init 32 46 w #[.int .i64 k, .string st, .int .i64 n, .int .i64 a.1, .int .i64 a.2.1, .slice o2 n2 k2, .slice o3 n3 k3, .slice o4 n4 k4, .slice o5 n5 k5, .int .i64 mv, .bool dn] #[.int .i64 0, .string ⟨#[]⟩, .int .i64 0, .int .i64 0, .int .i64 0, .slice none 0 0, .slice none 0 0, .slice none 0 0, .slice none 0 0, .int .i64 0, .bool false] #[.int .i64 0, .string ⟨#[]⟩, .int .i64 0, .int .i64 0, .int .i64 0, .slice none 0 0, .slice none 0 0, .slice none 0 0, .slice none 0 0, .int .i64 0, .bool false]
  clear h0
  go_enter Tryz.func8, Tryz.ntmps8
  go_upto_region 2 with fail
  rw [← E0.out]
  obtain ⟨ar0, _⟩ := C.cell_row C0.out.arg 0 (.int .i64 k) rfl
  obtain ⟨p0, q0⟩ := C.cell_row C0.out.out 0 (.int .i64 0) rfl
  go_upto_region 3 with fail
  obtain ⟨U1, h1⟩ : ∃ u, u = (U0.setCell ⟨w.heap.size + 1 + 1, 0, none⟩ (.int .i64 k)) := ⟨_, rfl⟩
  have E1 : Hid (U1 = (U0.setCell ⟨w.heap.size + 1 + 1, 0, none⟩ (.int .i64 k))) := h1
  have C1 : Hid (C.Cp 32 46 w U1 #[.int .i64 k, .string st, .int .i64 n, .int .i64 a.1, .int .i64 a.2.1, .slice o2 n2 k2, .slice o3 n3 k3, .slice o4 n4 k4, .slice o5 n5 k5, .int .i64 mv, .bool dn] #[.int .i64 0, .string ⟨#[]⟩, .int .i64 0, .int .i64 0, .int .i64 0, .slice none 0 0, .slice none 0 0, .slice none 0 0, .slice none 0 0, .int .i64 0, .bool false] #[.int .i64 k, .string ⟨#[]⟩, .int .i64 0, .int .i64 0, .int .i64 0, .slice none 0 0, .slice none 0 0, .slice none 0 0, .slice none 0 0, .int .i64 0, .bool false]) := by rw [h1]; exact (C0.out.put 0 _)
  rw [← E1.out]
  clear h1 ar0 p0 q0
  obtain ⟨ar1, _⟩ := C.cell_row C1.out.arg 1 (.string st) rfl
  obtain ⟨p1, q1⟩ := C.cell_row C1.out.out 1 (.string ⟨#[]⟩) rfl
  go_upto_region 4 with fail
  obtain ⟨U2, h2⟩ : ∃ u, u = (U1.setCell ⟨w.heap.size + 1 + 1, 1, none⟩ (.string st)) := ⟨_, rfl⟩
  have E2 : Hid (U2 = (U1.setCell ⟨w.heap.size + 1 + 1, 1, none⟩ (.string st))) := h2
  have C2 : Hid (C.Cp 32 46 w U2 #[.int .i64 k, .string st, .int .i64 n, .int .i64 a.1, .int .i64 a.2.1, .slice o2 n2 k2, .slice o3 n3 k3, .slice o4 n4 k4, .slice o5 n5 k5, .int .i64 mv, .bool dn] #[.int .i64 0, .string ⟨#[]⟩, .int .i64 0, .int .i64 0, .int .i64 0, .slice none 0 0, .slice none 0 0, .slice none 0 0, .slice none 0 0, .int .i64 0, .bool false] #[.int .i64 k, .string st, .int .i64 0, .int .i64 0, .int .i64 0, .slice none 0 0, .slice none 0 0, .slice none 0 0, .slice none 0 0, .int .i64 0, .bool false]) := by rw [h2]; exact (C1.out.put 1 _)
  rw [← E2.out]
  clear h2 ar1 p1 q1
  obtain ⟨ar2, _⟩ := C.cell_row C2.out.arg 2 (.int .i64 n) rfl
  obtain ⟨p2, q2⟩ := C.cell_row C2.out.out 2 (.int .i64 0) rfl
  go_upto_region 5 with fail
  obtain ⟨U3, h3⟩ : ∃ u, u = (U2.setCell ⟨w.heap.size + 1 + 1, 2, none⟩ (.int .i64 n)) := ⟨_, rfl⟩
  have E3 : Hid (U3 = (U2.setCell ⟨w.heap.size + 1 + 1, 2, none⟩ (.int .i64 n))) := h3
  have C3 : Hid (C.Cp 32 46 w U3 #[.int .i64 k, .string st, .int .i64 n, .int .i64 a.1, .int .i64 a.2.1, .slice o2 n2 k2, .slice o3 n3 k3, .slice o4 n4 k4, .slice o5 n5 k5, .int .i64 mv, .bool dn] #[.int .i64 0, .string ⟨#[]⟩, .int .i64 0, .int .i64 0, .int .i64 0, .slice none 0 0, .slice none 0 0, .slice none 0 0, .slice none 0 0, .int .i64 0, .bool false] #[.int .i64 k, .string st, .int .i64 n, .int .i64 0, .int .i64 0, .slice none 0 0, .slice none 0 0, .slice none 0 0, .slice none 0 0, .int .i64 0, .bool false]) := by rw [h3]; exact (C2.out.put 2 _)
  rw [← E3.out]
  clear h3 ar2 p2 q2
  obtain ⟨ar3, _⟩ := C.cell_row C3.out.arg 3 (.int .i64 a.1) rfl
  obtain ⟨ar4, _⟩ := C.cell_row C3.out.arg 4 (.int .i64 a.2.1) rfl
  obtain ⟨ar5, _⟩ := C.cell_row C3.out.arg 5 (.slice o2 n2 k2) rfl
  obtain ⟨ar6, _⟩ := C.cell_row C3.out.arg 6 (.slice o3 n3 k3) rfl
  obtain ⟨ar7, _⟩ := C.cell_row C3.out.arg 7 (.slice o4 n4 k4) rfl
  obtain ⟨ar8, _⟩ := C.cell_row C3.out.arg 8 (.slice o5 n5 k5) rfl
  go_wp2_with fail
  have sz3 := C3.out.sz
  refine (C.toClaimWant_any (fun b => b < B) a (C.cs [.int .i64 a.1, .int .i64 a.2.1, .slice o2 n2 k2, .slice o3 n3 k3, .slice o4 n4 k4, .slice o5 n5 k5]) U3 (H.out _ C3.out.bel) (fun b hb => by have := C3.out.bel.size; omega) hm).mono ?_
  rintro e w1 ⟨g, rfl, hg, hb1⟩
  obtain ⟨⟨ge0, r0⟩, ⟨ge1, r1⟩, gl2, gl3, gl4, gl5⟩ := C.at_DClaimWant.1 hg
  obtain ⟨s2, c2, ge2, _⟩ := id gl2
  rw [M2.out] at ge2
  rw [ge2] at gl2
  obtain ⟨s3, c3, ge3, _⟩ := id gl3
  rw [M3.out] at ge3
  rw [ge3] at gl3
  obtain ⟨s4, c4, ge4, _⟩ := id gl4
  rw [M4.out] at ge4
  rw [ge4] at gl4
  obtain ⟨s5, c5, ge5, _⟩ := id gl5
  rw [M5.out] at ge5
  rw [ge5] at gl5
  rw [ge0, ge1, ge2, ge3, ge4, ge5]
  clear ge0 ge1 ge2 ge3 ge4 ge5 hg
  have L2 : Hid (C.AtL (fun b => w.heap.size + 1 + 1 < b ∧ b < w1.heap.size) w1 a.2.2.1 (.slice s2 n2 c2)) := gl2.up (fun b hb => ⟨by have := hb.1; omega, hb.2⟩)
  have L3 : Hid (C.AtL (fun b => w.heap.size + 1 + 1 < b ∧ b < w1.heap.size) w1 a.2.2.2.1 (.slice s3 n3 c3)) := gl3.up (fun b hb => ⟨by have := hb.1; omega, hb.2⟩)
  have L4 : Hid (C.AtL (fun b => w.heap.size + 1 + 1 < b ∧ b < w1.heap.size) w1 a.2.2.2.2.1 (.slice s4 n4 c4)) := gl4.up (fun b hb => ⟨by have := hb.1; omega, hb.2⟩)
  have L5 : Hid (C.AtL (fun b => w.heap.size + 1 + 1 < b ∧ b < w1.heap.size) w1 a.2.2.2.2.2 (.slice s5 n5 c5)) := gl5.up (fun b hb => ⟨by have := hb.1; omega, hb.2⟩)
  clear gl2 gl3 gl4 gl5 ar3 ar4 ar5 ar6 ar7 ar8
  have CN : Hid (C.Cp 32 46 w w1 #[.int .i64 k, .string st, .int .i64 n, .int .i64 a.1, .int .i64 a.2.1, .slice o2 n2 k2, .slice o3 n3 k3, .slice o4 n4 k4, .slice o5 n5 k5, .int .i64 mv, .bool dn] #[.int .i64 0, .string ⟨#[]⟩, .int .i64 0, .int .i64 0, .int .i64 0, .slice none 0 0, .slice none 0 0, .slice none 0 0, .slice none 0 0, .int .i64 0, .bool false] #[.int .i64 k, .string st, .int .i64 n, .int .i64 0, .int .i64 0, .slice none 0 0, .slice none 0 0, .slice none 0 0, .slice none 0 0, .int .i64 0, .bool false]) := C3.out.next hb1
  clear hb1
  obtain ⟨p3, q3⟩ := C.cell_row CN.out.out 3 (.int .i64 0) rfl
  obtain ⟨p4, q4⟩ := C.cell_row CN.out.out 4 (.int .i64 0) rfl
  obtain ⟨p5, q5⟩ := C.cell_row CN.out.out 5 (.slice none 0 0) rfl
  obtain ⟨p6, q6⟩ := C.cell_row CN.out.out 6 (.slice none 0 0) rfl
  obtain ⟨p7, q7⟩ := C.cell_row CN.out.out 7 (.slice none 0 0) rfl
  obtain ⟨p8, q8⟩ := C.cell_row CN.out.out 8 (.slice none 0 0) rfl
  go_upto_region 6 with fail
  obtain ⟨U4, h4⟩ : ∃ u, u = ((((((w1.setCell ⟨w.heap.size + 1 + 1, 3, none⟩ (.int .i64 a.1)).setCell ⟨w.heap.size + 1 + 1, 4, none⟩ (.int .i64 a.2.1)).setCell ⟨w.heap.size + 1 + 1, 5, none⟩ (.slice s2 n2 c2)).setCell ⟨w.heap.size + 1 + 1, 6, none⟩ (.slice s3 n3 c3)).setCell ⟨w.heap.size + 1 + 1, 7, none⟩ (.slice s4 n4 c4)).setCell ⟨w.heap.size + 1 + 1, 8, none⟩ (.slice s5 n5 c5)) := ⟨_, rfl⟩
  have E4 : Hid (U4 = ((((((w1.setCell ⟨w.heap.size + 1 + 1, 3, none⟩ (.int .i64 a.1)).setCell ⟨w.heap.size + 1 + 1, 4, none⟩ (.int .i64 a.2.1)).setCell ⟨w.heap.size + 1 + 1, 5, none⟩ (.slice s2 n2 c2)).setCell ⟨w.heap.size + 1 + 1, 6, none⟩ (.slice s3 n3 c3)).setCell ⟨w.heap.size + 1 + 1, 7, none⟩ (.slice s4 n4 c4)).setCell ⟨w.heap.size + 1 + 1, 8, none⟩ (.slice s5 n5 c5))) := h4
  have C4 : Hid (C.Cp 32 46 w U4 #[.int .i64 k, .string st, .int .i64 n, .int .i64 a.1, .int .i64 a.2.1, .slice o2 n2 k2, .slice o3 n3 k3, .slice o4 n4 k4, .slice o5 n5 k5, .int .i64 mv, .bool dn] #[.int .i64 0, .string ⟨#[]⟩, .int .i64 0, .int .i64 0, .int .i64 0, .slice none 0 0, .slice none 0 0, .slice none 0 0, .slice none 0 0, .int .i64 0, .bool false] #[.int .i64 k, .string st, .int .i64 n, .int .i64 a.1, .int .i64 a.2.1, .slice s2 n2 c2, .slice s3 n3 c3, .slice s4 n4 c4, .slice s5 n5 c5, .int .i64 0, .bool false]) := by rw [h4]; exact ((((((CN.out.put 3 _).put 4 _).put 5 _).put 6 _).put 7 _).put 8 _)
  rw [← E4.out]
  have SS4 : Hid (C.Same (fun b => w.heap.size + 1 + 1 < b ∧ b < w1.heap.size) w1 U4) := by rw [h4]; exact ((((((C.Same.of_set w1 ⟨w.heap.size + 1 + 1, 3, none⟩ (.int .i64 a.1) (by show ¬ (w.heap.size + 1 + 1 < w.heap.size + 1 + 1 ∧ _); omega)).trans (C.Same.of_set (w1.setCell ⟨w.heap.size + 1 + 1, 3, none⟩ (.int .i64 a.1)) ⟨w.heap.size + 1 + 1, 4, none⟩ (.int .i64 a.2.1) (by show ¬ (w.heap.size + 1 + 1 < w.heap.size + 1 + 1 ∧ _); omega))).trans (C.Same.of_set ((w1.setCell ⟨w.heap.size + 1 + 1, 3, none⟩ (.int .i64 a.1)).setCell ⟨w.heap.size + 1 + 1, 4, none⟩ (.int .i64 a.2.1)) ⟨w.heap.size + 1 + 1, 5, none⟩ (.slice s2 n2 c2) (by show ¬ (w.heap.size + 1 + 1 < w.heap.size + 1 + 1 ∧ _); omega))).trans (C.Same.of_set (((w1.setCell ⟨w.heap.size + 1 + 1, 3, none⟩ (.int .i64 a.1)).setCell ⟨w.heap.size + 1 + 1, 4, none⟩ (.int .i64 a.2.1)).setCell ⟨w.heap.size + 1 + 1, 5, none⟩ (.slice s2 n2 c2)) ⟨w.heap.size + 1 + 1, 6, none⟩ (.slice s3 n3 c3) (by show ¬ (w.heap.size + 1 + 1 < w.heap.size + 1 + 1 ∧ _); omega))).trans (C.Same.of_set ((((w1.setCell ⟨w.heap.size + 1 + 1, 3, none⟩ (.int .i64 a.1)).setCell ⟨w.heap.size + 1 + 1, 4, none⟩ (.int .i64 a.2.1)).setCell ⟨w.heap.size + 1 + 1, 5, none⟩ (.slice s2 n2 c2)).setCell ⟨w.heap.size + 1 + 1, 6, none⟩ (.slice s3 n3 c3)) ⟨w.heap.size + 1 + 1, 7, none⟩ (.slice s4 n4 c4) (by show ¬ (w.heap.size + 1 + 1 < w.heap.size + 1 + 1 ∧ _); omega))).trans (C.Same.of_set (((((w1.setCell ⟨w.heap.size + 1 + 1, 3, none⟩ (.int .i64 a.1)).setCell ⟨w.heap.size + 1 + 1, 4, none⟩ (.int .i64 a.2.1)).setCell ⟨w.heap.size + 1 + 1, 5, none⟩ (.slice s2 n2 c2)).setCell ⟨w.heap.size + 1 + 1, 6, none⟩ (.slice s3 n3 c3)).setCell ⟨w.heap.size + 1 + 1, 7, none⟩ (.slice s4 n4 c4)) ⟨w.heap.size + 1 + 1, 8, none⟩ (.slice s5 n5 c5) (by show ¬ (w.heap.size + 1 + 1 < w.heap.size + 1 + 1 ∧ _); omega)))
  have Y4 : Hid (U4.heap.size = w1.heap.size) := by rw [h4]; show _ = _; simp [World.setCell]
  clear h4 p3 q3 p4 q4 p5 q5 p6 q6 p7 q7 p8 q8
  obtain ⟨ar9, _⟩ := C.cell_row C4.out.arg 9 (.int .i64 mv) rfl
  obtain ⟨p9, q9⟩ := C.cell_row C4.out.out 9 (.int .i64 0) rfl
  go_upto_region 7 with fail
  obtain ⟨U5, h5⟩ : ∃ u, u = (U4.setCell ⟨w.heap.size + 1 + 1, 9, none⟩ (.int .i64 mv)) := ⟨_, rfl⟩
  have E5 : Hid (U5 = (U4.setCell ⟨w.heap.size + 1 + 1, 9, none⟩ (.int .i64 mv))) := h5
  have C5 : Hid (C.Cp 32 46 w U5 #[.int .i64 k, .string st, .int .i64 n, .int .i64 a.1, .int .i64 a.2.1, .slice o2 n2 k2, .slice o3 n3 k3, .slice o4 n4 k4, .slice o5 n5 k5, .int .i64 mv, .bool dn] #[.int .i64 0, .string ⟨#[]⟩, .int .i64 0, .int .i64 0, .int .i64 0, .slice none 0 0, .slice none 0 0, .slice none 0 0, .slice none 0 0, .int .i64 0, .bool false] #[.int .i64 k, .string st, .int .i64 n, .int .i64 a.1, .int .i64 a.2.1, .slice s2 n2 c2, .slice s3 n3 c3, .slice s4 n4 c4, .slice s5 n5 c5, .int .i64 mv, .bool false]) := by rw [h5]; exact (C4.out.put 9 _)
  rw [← E5.out]
  have SS5 : Hid (C.Same (fun b => w.heap.size + 1 + 1 < b ∧ b < w1.heap.size) U4 U5) := by rw [h5]; exact (C.Same.of_set U4 ⟨w.heap.size + 1 + 1, 9, none⟩ (.int .i64 mv) (by show ¬ (w.heap.size + 1 + 1 < w.heap.size + 1 + 1 ∧ _); omega))
  have Y5 : Hid (U5.heap.size = U4.heap.size) := by rw [h5]; show _ = _; simp [World.setCell]
  clear h5 ar9 p9 q9
  obtain ⟨ar10, _⟩ := C.cell_row C5.out.arg 10 (.bool dn) rfl
  obtain ⟨p10, q10⟩ := C.cell_row C5.out.out 10 (.bool false) rfl
  go_upto_region 8 with fail
  obtain ⟨U6, h6⟩ : ∃ u, u = (U5.setCell ⟨w.heap.size + 1 + 1, 10, none⟩ (.bool dn)) := ⟨_, rfl⟩
  have E6 : Hid (U6 = (U5.setCell ⟨w.heap.size + 1 + 1, 10, none⟩ (.bool dn))) := h6
  have C6 : Hid (C.Cp 32 46 w U6 #[.int .i64 k, .string st, .int .i64 n, .int .i64 a.1, .int .i64 a.2.1, .slice o2 n2 k2, .slice o3 n3 k3, .slice o4 n4 k4, .slice o5 n5 k5, .int .i64 mv, .bool dn] #[.int .i64 0, .string ⟨#[]⟩, .int .i64 0, .int .i64 0, .int .i64 0, .slice none 0 0, .slice none 0 0, .slice none 0 0, .slice none 0 0, .int .i64 0, .bool false] #[.int .i64 k, .string st, .int .i64 n, .int .i64 a.1, .int .i64 a.2.1, .slice s2 n2 c2, .slice s3 n3 c3, .slice s4 n4 c4, .slice s5 n5 c5, .int .i64 mv, .bool dn]) := by rw [h6]; exact (C5.out.put 10 _)
  rw [← E6.out]
  have SS6 : Hid (C.Same (fun b => w.heap.size + 1 + 1 < b ∧ b < w1.heap.size) U5 U6) := by rw [h6]; exact (C.Same.of_set U5 ⟨w.heap.size + 1 + 1, 10, none⟩ (.bool dn) (by show ¬ (w.heap.size + 1 + 1 < w.heap.size + 1 + 1 ∧ _); omega))
  have Y6 : Hid (U6.heap.size = U5.heap.size) := by rw [h6]; show _ = _; simp [World.setCell]
  clear h6 ar10 p10 q10
  obtain ⟨x0, _⟩ := C.cell_row C6.out.out 0 (.int .i64 k) rfl
  obtain ⟨rr0, rf0⟩ := C.cell_row C6.out.res 0 (.int .i64 0) rfl
  obtain ⟨x1, _⟩ := C.cell_row C6.out.out 1 (.string st) rfl
  obtain ⟨rr1, rf1⟩ := C.cell_row C6.out.res 1 (.string ⟨#[]⟩) rfl
  obtain ⟨x2, _⟩ := C.cell_row C6.out.out 2 (.int .i64 n) rfl
  obtain ⟨rr2, rf2⟩ := C.cell_row C6.out.res 2 (.int .i64 0) rfl
  obtain ⟨x3, _⟩ := C.cell_row C6.out.out 3 (.int .i64 a.1) rfl
  obtain ⟨rr3, rf3⟩ := C.cell_row C6.out.res 3 (.int .i64 0) rfl
  obtain ⟨x4, _⟩ := C.cell_row C6.out.out 4 (.int .i64 a.2.1) rfl
  obtain ⟨rr4, rf4⟩ := C.cell_row C6.out.res 4 (.int .i64 0) rfl
  obtain ⟨x5, _⟩ := C.cell_row C6.out.out 5 (.slice s2 n2 c2) rfl
  obtain ⟨rr5, rf5⟩ := C.cell_row C6.out.res 5 (.slice none 0 0) rfl
  obtain ⟨x6, _⟩ := C.cell_row C6.out.out 6 (.slice s3 n3 c3) rfl
  obtain ⟨rr6, rf6⟩ := C.cell_row C6.out.res 6 (.slice none 0 0) rfl
  obtain ⟨x7, _⟩ := C.cell_row C6.out.out 7 (.slice s4 n4 c4) rfl
  obtain ⟨rr7, rf7⟩ := C.cell_row C6.out.res 7 (.slice none 0 0) rfl
  obtain ⟨x8, _⟩ := C.cell_row C6.out.out 8 (.slice s5 n5 c5) rfl
  obtain ⟨rr8, rf8⟩ := C.cell_row C6.out.res 8 (.slice none 0 0) rfl
  obtain ⟨x9, _⟩ := C.cell_row C6.out.out 9 (.int .i64 mv) rfl
  obtain ⟨rr9, rf9⟩ := C.cell_row C6.out.res 9 (.int .i64 0) rfl
  obtain ⟨x10, _⟩ := C.cell_row C6.out.out 10 (.bool dn) rfl
  obtain ⟨rr10, rf10⟩ := C.cell_row C6.out.res 10 (.bool false) rfl
  go_wp2_with fail
  obtain ⟨FW, hF⟩ : ∃ u, u = (((((((((((U6.setCell ⟨w.heap.size + 1, 0, none⟩ (.int .i64 k)).setCell ⟨w.heap.size + 1, 1, none⟩ (.string st)).setCell ⟨w.heap.size + 1, 2, none⟩ (.int .i64 n)).setCell ⟨w.heap.size + 1, 3, none⟩ (.int .i64 a.1)).setCell ⟨w.heap.size + 1, 4, none⟩ (.int .i64 a.2.1)).setCell ⟨w.heap.size + 1, 5, none⟩ (.slice s2 n2 c2)).setCell ⟨w.heap.size + 1, 6, none⟩ (.slice s3 n3 c3)).setCell ⟨w.heap.size + 1, 7, none⟩ (.slice s4 n4 c4)).setCell ⟨w.heap.size + 1, 8, none⟩ (.slice s5 n5 c5)).setCell ⟨w.heap.size + 1, 9, none⟩ (.int .i64 mv)).setCell ⟨w.heap.size + 1, 10, none⟩ (.bool dn)) := ⟨_, rfl⟩
  have CF1 := (((((((((((C6.out.ret 0 (.int .i64 k)).ret 1 (.string st)).ret 2 (.int .i64 n)).ret 3 (.int .i64 a.1)).ret 4 (.int .i64 a.2.1)).ret 5 (.slice s2 n2 c2)).ret 6 (.slice s3 n3 c3)).ret 7 (.slice s4 n4 c4)).ret 8 (.slice s5 n5 c5)).ret 9 (.int .i64 mv)).ret 10 (.bool dn))
  rw [← hF] at CF1
  simp only [List.setIfInBounds_toArray, List.set_cons_zero, List.set_cons_succ] at CF1
  have CF : Hid (C.Cp 32 46 w FW #[.int .i64 k, .string st, .int .i64 n, .int .i64 a.1, .int .i64 a.2.1, .slice o2 n2 k2, .slice o3 n3 k3, .slice o4 n4 k4, .slice o5 n5 k5, .int .i64 mv, .bool dn] #[.int .i64 k, .string st, .int .i64 n, .int .i64 a.1, .int .i64 a.2.1, .slice s2 n2 c2, .slice s3 n3 c3, .slice s4 n4 c4, .slice s5 n5 c5, .int .i64 mv, .bool dn] #[.int .i64 k, .string st, .int .i64 n, .int .i64 a.1, .int .i64 a.2.1, .slice s2 n2 c2, .slice s3 n3 c3, .slice s4 n4 c4, .slice s5 n5 c5, .int .i64 mv, .bool dn]) := CF1
  clear CF1
  have SF : Hid (C.Same (fun b => w.heap.size + 1 + 1 < b ∧ b < w1.heap.size) U6 FW) := by rw [hF]; exact (((((((((((C.Same.of_set U6 ⟨w.heap.size + 1, 0, none⟩ (.int .i64 k) (by show ¬ (w.heap.size + 1 + 1 < w.heap.size + 1 ∧ _); omega)).trans (C.Same.of_set (U6.setCell ⟨w.heap.size + 1, 0, none⟩ (.int .i64 k)) ⟨w.heap.size + 1, 1, none⟩ (.string st) (by show ¬ (w.heap.size + 1 + 1 < w.heap.size + 1 ∧ _); omega))).trans (C.Same.of_set ((U6.setCell ⟨w.heap.size + 1, 0, none⟩ (.int .i64 k)).setCell ⟨w.heap.size + 1, 1, none⟩ (.string st)) ⟨w.heap.size + 1, 2, none⟩ (.int .i64 n) (by show ¬ (w.heap.size + 1 + 1 < w.heap.size + 1 ∧ _); omega))).trans (C.Same.of_set (((U6.setCell ⟨w.heap.size + 1, 0, none⟩ (.int .i64 k)).setCell ⟨w.heap.size + 1, 1, none⟩ (.string st)).setCell ⟨w.heap.size + 1, 2, none⟩ (.int .i64 n)) ⟨w.heap.size + 1, 3, none⟩ (.int .i64 a.1) (by show ¬ (w.heap.size + 1 + 1 < w.heap.size + 1 ∧ _); omega))).trans (C.Same.of_set ((((U6.setCell ⟨w.heap.size + 1, 0, none⟩ (.int .i64 k)).setCell ⟨w.heap.size + 1, 1, none⟩ (.string st)).setCell ⟨w.heap.size + 1, 2, none⟩ (.int .i64 n)).setCell ⟨w.heap.size + 1, 3, none⟩ (.int .i64 a.1)) ⟨w.heap.size + 1, 4, none⟩ (.int .i64 a.2.1) (by show ¬ (w.heap.size + 1 + 1 < w.heap.size + 1 ∧ _); omega))).trans (C.Same.of_set (((((U6.setCell ⟨w.heap.size + 1, 0, none⟩ (.int .i64 k)).setCell ⟨w.heap.size + 1, 1, none⟩ (.string st)).setCell ⟨w.heap.size + 1, 2, none⟩ (.int .i64 n)).setCell ⟨w.heap.size + 1, 3, none⟩ (.int .i64 a.1)).setCell ⟨w.heap.size + 1, 4, none⟩ (.int .i64 a.2.1)) ⟨w.heap.size + 1, 5, none⟩ (.slice s2 n2 c2) (by show ¬ (w.heap.size + 1 + 1 < w.heap.size + 1 ∧ _); omega))).trans (C.Same.of_set ((((((U6.setCell ⟨w.heap.size + 1, 0, none⟩ (.int .i64 k)).setCell ⟨w.heap.size + 1, 1, none⟩ (.string st)).setCell ⟨w.heap.size + 1, 2, none⟩ (.int .i64 n)).setCell ⟨w.heap.size + 1, 3, none⟩ (.int .i64 a.1)).setCell ⟨w.heap.size + 1, 4, none⟩ (.int .i64 a.2.1)).setCell ⟨w.heap.size + 1, 5, none⟩ (.slice s2 n2 c2)) ⟨w.heap.size + 1, 6, none⟩ (.slice s3 n3 c3) (by show ¬ (w.heap.size + 1 + 1 < w.heap.size + 1 ∧ _); omega))).trans (C.Same.of_set (((((((U6.setCell ⟨w.heap.size + 1, 0, none⟩ (.int .i64 k)).setCell ⟨w.heap.size + 1, 1, none⟩ (.string st)).setCell ⟨w.heap.size + 1, 2, none⟩ (.int .i64 n)).setCell ⟨w.heap.size + 1, 3, none⟩ (.int .i64 a.1)).setCell ⟨w.heap.size + 1, 4, none⟩ (.int .i64 a.2.1)).setCell ⟨w.heap.size + 1, 5, none⟩ (.slice s2 n2 c2)).setCell ⟨w.heap.size + 1, 6, none⟩ (.slice s3 n3 c3)) ⟨w.heap.size + 1, 7, none⟩ (.slice s4 n4 c4) (by show ¬ (w.heap.size + 1 + 1 < w.heap.size + 1 ∧ _); omega))).trans (C.Same.of_set ((((((((U6.setCell ⟨w.heap.size + 1, 0, none⟩ (.int .i64 k)).setCell ⟨w.heap.size + 1, 1, none⟩ (.string st)).setCell ⟨w.heap.size + 1, 2, none⟩ (.int .i64 n)).setCell ⟨w.heap.size + 1, 3, none⟩ (.int .i64 a.1)).setCell ⟨w.heap.size + 1, 4, none⟩ (.int .i64 a.2.1)).setCell ⟨w.heap.size + 1, 5, none⟩ (.slice s2 n2 c2)).setCell ⟨w.heap.size + 1, 6, none⟩ (.slice s3 n3 c3)).setCell ⟨w.heap.size + 1, 7, none⟩ (.slice s4 n4 c4)) ⟨w.heap.size + 1, 8, none⟩ (.slice s5 n5 c5) (by show ¬ (w.heap.size + 1 + 1 < w.heap.size + 1 ∧ _); omega))).trans (C.Same.of_set (((((((((U6.setCell ⟨w.heap.size + 1, 0, none⟩ (.int .i64 k)).setCell ⟨w.heap.size + 1, 1, none⟩ (.string st)).setCell ⟨w.heap.size + 1, 2, none⟩ (.int .i64 n)).setCell ⟨w.heap.size + 1, 3, none⟩ (.int .i64 a.1)).setCell ⟨w.heap.size + 1, 4, none⟩ (.int .i64 a.2.1)).setCell ⟨w.heap.size + 1, 5, none⟩ (.slice s2 n2 c2)).setCell ⟨w.heap.size + 1, 6, none⟩ (.slice s3 n3 c3)).setCell ⟨w.heap.size + 1, 7, none⟩ (.slice s4 n4 c4)).setCell ⟨w.heap.size + 1, 8, none⟩ (.slice s5 n5 c5)) ⟨w.heap.size + 1, 9, none⟩ (.int .i64 mv) (by show ¬ (w.heap.size + 1 + 1 < w.heap.size + 1 ∧ _); omega))).trans (C.Same.of_set ((((((((((U6.setCell ⟨w.heap.size + 1, 0, none⟩ (.int .i64 k)).setCell ⟨w.heap.size + 1, 1, none⟩ (.string st)).setCell ⟨w.heap.size + 1, 2, none⟩ (.int .i64 n)).setCell ⟨w.heap.size + 1, 3, none⟩ (.int .i64 a.1)).setCell ⟨w.heap.size + 1, 4, none⟩ (.int .i64 a.2.1)).setCell ⟨w.heap.size + 1, 5, none⟩ (.slice s2 n2 c2)).setCell ⟨w.heap.size + 1, 6, none⟩ (.slice s3 n3 c3)).setCell ⟨w.heap.size + 1, 7, none⟩ (.slice s4 n4 c4)).setCell ⟨w.heap.size + 1, 8, none⟩ (.slice s5 n5 c5)).setCell ⟨w.heap.size + 1, 9, none⟩ (.int .i64 mv)) ⟨w.heap.size + 1, 10, none⟩ (.bool dn) (by show ¬ (w.heap.size + 1 + 1 < w.heap.size + 1 ∧ _); omega)))
  have YF : Hid (FW.heap.size = U6.heap.size) := by rw [hF]; show _ = _; simp [World.setCell]
  rw [← hF]
  clear hF x0 rr0 rf0 x1 rr1 rf1 x2 rr2 rf2 x3 rr3 rf3 x4 rr4 rf4 x5 rr5 rf5 x6 rr6 rf6 x7 rr7 rf7 x8 rr8 rf8 x9 rr9 rf9 x10 rr10 rf10
  have f0 := (C.cell_row CF.out.res 0 (.int .i64 k) rfl).1
  have f1 := (C.cell_row CF.out.res 1 (.string st) rfl).1
  have f2 := (C.cell_row CF.out.res 2 (.int .i64 n) rfl).1
  have f3 := (C.cell_row CF.out.res 3 (.int .i64 a.1) rfl).1
  have f4 := (C.cell_row CF.out.res 4 (.int .i64 a.2.1) rfl).1
  have f5 := (C.cell_row CF.out.res 5 (.slice s2 n2 c2) rfl).1
  have f6 := (C.cell_row CF.out.res 6 (.slice s3 n3 c3) rfl).1
  have f7 := (C.cell_row CF.out.res 7 (.slice s4 n4 c4) rfl).1
  have f8 := (C.cell_row CF.out.res 8 (.slice s5 n5 c5) rfl).1
  have f9 := (C.cell_row CF.out.res 9 (.int .i64 mv) rfl).1
  have f10 := (C.cell_row CF.out.res 10 (.bool dn) rfl).1
  have SA := ((SS4.out.trans SS5.out).trans SS6.out).trans SF.out
  have YA : FW.heap.size = w1.heap.size := ((YF.out.trans Y6.out).trans Y5.out).trans Y4.out
  exact bodyPost_ret (v := .agg #[.int .i64 k, .string st, .int .i64 n, .int .i64 a.1, .int .i64 a.2.1, .slice s2 n2 c2, .slice s3 n3 c3, .slice s4 n4 c4, .slice s5 n5 c5, .int .i64 mv, .bool dn]) (by simp [results, Tryz.results8, go_sem, f0, f1, f2, f3, f4, f5, f6, f7, f8, f9, f10]) rfl ⟨s2, s3, s4, s5, c2, c3, c4, c5, rfl, C.at_DClaimWant.2 ⟨⟨rfl, r0⟩, ⟨rfl, r1⟩, (L2.out.same SA).up (fun b hb => by rw [YA]; exact hb.2), (L3.out.same SA).up (fun b hb => by rw [YA]; exact hb.2), (L4.out.same SA).up (fun b hb => by rw [YA]; exact hb.2), (L5.out.same SA).up (fun b hb => by rw [YA]; exact hb.2)⟩, CF.out.bel⟩

set_option maxRecDepth 100000 in
set_option maxHeartbeats 8000000 in
theorem eqWord_any (B B' : Nat) (k n mv : Int) (st : ByteArray) (dn : Bool) (a : C.DClaimWant) (o2 o3 o4 o5 s2 s3 s4 s5 : Option Addr) (n2 n3 n4 n5 k2 k3 k4 k5 c2 c3 c4 c5 : Nat) (w : World) (h : WAt B w a o2 o3 o4 o5 n2 n3 n4 n5 k2 k3 k4 k5) (h' : WAt B' w a s2 s3 s4 s5 n2 n3 n4 n5 c2 c3 c4 c5) (hB : B ≤ w.heap.size) (hB' : B' ≤ w.heap.size) :
    Calls Tryz.prog 11 #[.agg #[.int .i64 k, .string st, .int .i64 n, .int .i64 a.1, .int .i64 a.2.1, .slice o2 n2 k2, .slice o3 n3 k3, .slice o4 n4 k4, .slice o5 n5 k5, .int .i64 mv, .bool dn], .agg #[.int .i64 k, .string st, .int .i64 n, .int .i64 a.1, .int .i64 a.2.1, .slice s2 n2 c2, .slice s3 n3 c3, .slice s4 n4 c4, .slice s5 n5 c5, .int .i64 mv, .bool dn]] w fun e w' => e = .returned (.bool true) ∧ Below w.heap.size w w' := by
  obtain ⟨W, hW⟩ : ∃ u, u = (w.alloc (.cells #[.int .i64 k, .string st, .int .i64 n, .int .i64 a.1, .int .i64 a.2.1, .slice o2 n2 k2, .slice o3 n3 k3, .slice o4 n4 k4, .slice o5 n5 k5, .int .i64 mv, .bool dn] 46)).alloc (.cells #[.int .i64 k, .string st, .int .i64 n, .int .i64 a.1, .int .i64 a.2.1, .slice s2 n2 c2, .slice s3 n3 c3, .slice s4 n4 c4, .slice s5 n5 c5, .int .i64 mv, .bool dn] 46) := ⟨_, rfl⟩
  have EW : Hid (W = (w.alloc (.cells #[.int .i64 k, .string st, .int .i64 n, .int .i64 a.1, .int .i64 a.2.1, .slice o2 n2 k2, .slice o3 n3 k3, .slice o4 n4 k4, .slice o5 n5 k5, .int .i64 mv, .bool dn] 46)).alloc (.cells #[.int .i64 k, .string st, .int .i64 n, .int .i64 a.1, .int .i64 a.2.1, .slice s2 n2 c2, .slice s3 n3 c3, .slice s4 n4 c4, .slice s5 n5 c5, .int .i64 mv, .bool dn] 46)) := hW
  have bW : Hid (Below w.heap.size w W) := by rw [hW]; exact ((Below.refl _ _).alloc (Nat.le_refl _) _).alloc (by simp) _
  have kW : Hid (Below (w.heap.size + 1 + 1) W W) := Below.refl _ _
  have sW : w.heap.size + 1 + 1 ≤ W.heap.size := by rw [hW]; simp
  have bx : Hid (∀ w', Below (w.heap.size + 1 + 1) W w' → (w'.cell? ⟨w.heap.size, 0, none⟩ = some (.int .i64 k) ∧ w'.cell? ⟨w.heap.size, 1, none⟩ = some (.string st) ∧ w'.cell? ⟨w.heap.size, 2, none⟩ = some (.int .i64 n) ∧ w'.cell? ⟨w.heap.size, 3, none⟩ = some (.int .i64 a.1) ∧ w'.cell? ⟨w.heap.size, 4, none⟩ = some (.int .i64 a.2.1) ∧ w'.cell? ⟨w.heap.size, 5, none⟩ = some (.slice o2 n2 k2) ∧ w'.cell? ⟨w.heap.size, 6, none⟩ = some (.slice o3 n3 k3) ∧ w'.cell? ⟨w.heap.size, 7, none⟩ = some (.slice o4 n4 k4) ∧ w'.cell? ⟨w.heap.size, 8, none⟩ = some (.slice o5 n5 k5) ∧ w'.cell? ⟨w.heap.size, 9, none⟩ = some (.int .i64 mv) ∧ w'.cell? ⟨w.heap.size, 10, none⟩ = some (.bool dn)) ∧ w'.cell? ⟨w.heap.size + 1, 0, none⟩ = some (.int .i64 k) ∧ w'.cell? ⟨w.heap.size + 1, 1, none⟩ = some (.string st) ∧ w'.cell? ⟨w.heap.size + 1, 2, none⟩ = some (.int .i64 n) ∧ w'.cell? ⟨w.heap.size + 1, 3, none⟩ = some (.int .i64 a.1) ∧ w'.cell? ⟨w.heap.size + 1, 4, none⟩ = some (.int .i64 a.2.1) ∧ w'.cell? ⟨w.heap.size + 1, 5, none⟩ = some (.slice s2 n2 c2) ∧ w'.cell? ⟨w.heap.size + 1, 6, none⟩ = some (.slice s3 n3 c3) ∧ w'.cell? ⟨w.heap.size + 1, 7, none⟩ = some (.slice s4 n4 c4) ∧ w'.cell? ⟨w.heap.size + 1, 8, none⟩ = some (.slice s5 n5 c5) ∧ w'.cell? ⟨w.heap.size + 1, 9, none⟩ = some (.int .i64 mv) ∧ w'.cell? ⟨w.heap.size + 1, 10, none⟩ = some (.bool dn)) := fun w' hb => by
    rw [hW] at hb
    obtain ⟨h1, h2⟩ := two_box hb
    exact ⟨⟨h1 0 _ rfl, h1 1 _ rfl, h1 2 _ rfl, h1 3 _ rfl, h1 4 _ rfl, h1 5 _ rfl, h1 6 _ rfl, h1 7 _ rfl, h1 8 _ rfl, h1 9 _ rfl, h1 10 _ rfl⟩, h2 0 _ rfl, h2 1 _ rfl, h2 2 _ rfl, h2 3 _ rfl, h2 4 _ rfl, h2 5 _ rfl, h2 6 _ rfl, h2 7 _ rfl, h2 8 _ rfl, h2 9 _ rfl, h2 10 _ rfl⟩
  clear hW
  have HP : Hid (WAt B W a o2 o3 o4 o5 n2 n3 n4 n5 k2 k3 k4 k5) := h.kept bW.out hB
  have HQ : Hid (WAt B' W a s2 s3 s4 s5 n2 n3 n4 n5 c2 c3 c4 c5) := h'.kept bW.out hB'
  clear h h'
  have gk : (k != k) = false := by simp
  have gn : (n != n) = false := by simp
  have gm : (mv != mv) = false := by simp
  have gd : (dn != dn) = false := by simp
  go_enter Tryz.func11, Tryz.ntmps11
  go_upto_region 1 with fail
  rw [← EW.out]
  obtain ⟨⟨x0, x1, x2, x3, x4, x5, x6, x7, x8, x9, x10⟩, y0, y1, y2, y3, y4, y5, y6, y7, y8, y9, y10⟩ := bx.out W kW.out
  go_wp2_with fail
  refine (C.eqClaimWant_any (fun b => b < B) (fun b => b < B') a (C.cs [.int .i64 a.1, .int .i64 a.2.1, .slice o2 n2 k2, .slice o3 n3 k3, .slice o4 n4 k4, .slice o5 n5 k5]) (C.cs [.int .i64 a.1, .int .i64 a.2.1, .slice s2 n2 c2, .slice s3 n3 c3, .slice s4 n4 c4, .slice s5 n5 c5]) _ HP.out HQ.out (fun b hb => by have := bW.out.size; omega) (fun b hb => by have := bW.out.size; omega)).mono ?_
  rintro e w1 ⟨rfl, hb1⟩
  have k1 : Hid (Below (w.heap.size + 1 + 1) W w1) := kW.out.trans (hb1.mono sW)
  have b1 : Hid (Below w.heap.size w w1) := bW.out.trans (hb1.mono bW.out.size)
  clear hb1 x0 y0 x1 y1 x2 y2 x3 y3 x4 y4 x5 y5 x6 y6 x7 y7 x8 y8 x9 y9 x10 y10
  obtain ⟨⟨x0, x1, x2, x3, x4, x5, x6, x7, x8, x9, x10⟩, y0, y1, y2, y3, y4, y5, y6, y7, y8, y9, y10⟩ := bx.out w1 k1.out
  go_wp2_with fail
  go_ret
  exact ⟨rfl, b1.out⟩

theorem cWordW : Tryz.prog.cellsOf 32 = 11 := by kernel_rfl
theorem cBoolW : Tryz.prog.cellsOf 4 = 1 := by kernel_rfl
theorem slice_of {α : Type} [C.Lay α] {S : Nat → Prop} {w : World} {l : List α} {v : Value} (h : C.AtL S w l v) : ∃ oa n k, v = .slice oa n k := by
  obtain ⟨oa, k, hv, _⟩ := h
  exact ⟨oa, _, k, hv⟩
theorem ofDWord {H : Type} {enc : TypeId × Value → H} {w : World} {base : Nat} {spare : Nat → Bool} {held : Bool} {m : Nat} {cs : List Value} {y : DataW H × List MemPlace} (hl : cs.length = 11) (hm : DataW.trod enc Tryz.prog w base spare held m 32 cs = some y) :
    ∃ (k n mv : Int) (st : ByteArray) (dn : Bool) (a : C.DClaimWant) (o2 o3 o4 o5 : Option Addr) (n2 n3 n4 n5 k2 k3 k4 k5 : Nat), cs = [.int .i64 k, .string st, .int .i64 n, .int .i64 a.1, .int .i64 a.2.1, .slice o2 n2 k2, .slice o3 n3 k3, .slice o4 n4 k4, .slice o5 n5 k5, .int .i64 mv, .bool dn] ∧ WAt w.heap.size w a o2 o3 o4 o5 n2 n3 n4 n5 k2 k3 k4 k5 ∧ st.size ≤ maxLen := by
  match cs, hl with
  | [x0, x1, x2, x3, x4, x5, x6, x7, x8, x9, x10], _ =>
    obtain ⟨xs, mm, _, _, _, hlen, hf⟩ := DataW.trod_struct Tryz.underlying32 hm
    have g0 : DataW.trod enc Tryz.prog w base spare held mm 3 [x0] = xs[0]? := by simpa [C.cStr, C.cInt, C.cDClaimWant, cBoolW] using hf 0 _ rfl
    have g1 : DataW.trod enc Tryz.prog w base spare held mm 9 [x1] = xs[1]? := by simpa [C.cStr, C.cInt, C.cDClaimWant, cBoolW] using hf 1 _ rfl
    have g2 : DataW.trod enc Tryz.prog w base spare held mm 3 [x2] = xs[2]? := by simpa [C.cStr, C.cInt, C.cDClaimWant, cBoolW] using hf 2 _ rfl
    have g3 : DataW.trod enc Tryz.prog w base spare held mm 30 [x3, x4, x5, x6, x7, x8] = xs[3]? := by simpa [C.cStr, C.cInt, C.cDClaimWant, cBoolW] using hf 3 _ rfl
    have g4 : DataW.trod enc Tryz.prog w base spare held mm 3 [x9] = xs[4]? := by simpa [C.cStr, C.cInt, C.cDClaimWant, cBoolW] using hf 4 _ rfl
    have g5 : DataW.trod enc Tryz.prog w base spare held mm 4 [x10] = xs[5]? := by simpa [C.cStr, C.cInt, C.cDClaimWant, cBoolW] using hf 5 _ rfl
    rw [List.getElem?_eq_getElem (by rw [hlen]; decide)] at g0 g1 g2 g3 g4 g5
    obtain ⟨k, e0, _⟩ := C.ofInt g0
    obtain ⟨st, e1, hst⟩ := C.ofStr g1
    obtain ⟨n, e2, _⟩ := C.ofInt g2
    obtain ⟨a, c, hat, hc⟩ := C.ofDClaimWant rfl g3
    obtain ⟨mv, e9, _⟩ := C.ofInt g4
    obtain ⟨dn, e10, _⟩ := DataW.trod_bool Tryz.underlying4 g5
    simp at e0 e1 e2 e9 e10
    subst e0 e1 e2 e9 e10
    have q0 : x3 = c 0 := Option.some.inj (hc 0 (by rw [C.width_DClaimWant]; omega))
    have q1 : x4 = c 1 := Option.some.inj (hc 1 (by rw [C.width_DClaimWant]; omega))
    have q2 : x5 = c 2 := Option.some.inj (hc 2 (by rw [C.width_DClaimWant]; omega))
    have q3 : x6 = c 3 := Option.some.inj (hc 3 (by rw [C.width_DClaimWant]; omega))
    have q4 : x7 = c 4 := Option.some.inj (hc 4 (by rw [C.width_DClaimWant]; omega))
    have q5 : x8 = c 5 := Option.some.inj (hc 5 (by rw [C.width_DClaimWant]; omega))
    obtain ⟨⟨t0, r0⟩, ⟨t1, r1⟩, l2, l3, l4, l5⟩ := C.at_DClaimWant.1 hat
    rw [← q2] at l2
    rw [← q3] at l3
    rw [← q4] at l4
    rw [← q5] at l5
    obtain ⟨o2, n2, k2, z2⟩ := slice_of l2
    obtain ⟨o3, n3, k3, z3⟩ := slice_of l3
    obtain ⟨o4, n4, k4, z4⟩ := slice_of l4
    obtain ⟨o5, n5, k5, z5⟩ := slice_of l5
    rw [q0, q1, t0, t1, z2, z3, z4, z5]
    rw [z2] at l2
    rw [z3] at l3
    rw [z4] at l4
    rw [z5] at l5
    exact ⟨k, n, mv, st, dn, a, o2, o3, o4, o5, n2, n3, n4, n5, k2, k3, k4, k5, rfl, C.at_DClaimWant.2 ⟨⟨rfl, r0⟩, ⟨rfl, r1⟩, l2, l3, l4, l5⟩, hst⟩
set_option maxRecDepth 100000 in
theorem ofWord {H : Type} {enc : TypeId × Value → H} {w : World} {base : Nat} {spare : Nat → Bool} {held : Bool} {r : Reach} {b0 : Nat} {v : Value} {d : DataW H} {p : List MemPlace} (hv : Value.okWide Tryz.prog w r b0 32 v) (h : DataW.Trod enc Tryz.prog w base spare held 32 v d p) :
    ∃ (k n mv : Int) (st : ByteArray) (dn : Bool) (a : C.DClaimWant) (o2 o3 o4 o5 : Option Addr) (n2 n3 n4 n5 k2 k3 k4 k5 : Nat), v = .agg #[.int .i64 k, .string st, .int .i64 n, .int .i64 a.1, .int .i64 a.2.1, .slice o2 n2 k2, .slice o3 n3 k3, .slice o4 n4 k4, .slice o5 n5 k5, .int .i64 mv, .bool dn] ∧ WAt w.heap.size w a o2 o3 o4 o5 n2 n3 n4 n5 k2 k3 k4 k5 ∧ st.size ≤ maxLen := by
  obtain ⟨cs, rfl, hsz⟩ := okWide_struct Tryz.underlying32 hv
  obtain ⟨m, hm⟩ := h
  have hl : cs.toList.length = 11 := by rw [Array.length_toList]; exact hsz.trans cWordW
  obtain ⟨k, n, mv, st, dn, a, o2, o3, o4, o5, n2, n3, n4, n5, k2, k3, k4, k5, hcs, hw, hst⟩ := ofDWord hl hm
  refine ⟨k, n, mv, st, dn, a, o2, o3, o4, o5, n2, n3, n4, n5, k2, k3, k4, k5, ?_, hw, hst⟩
  congr 1
  exact Array.ext' hcs

end Go.Proofs.YtciembgenlcogaeGreat
