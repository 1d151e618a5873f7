/-
  Two lists of texts, one behind the other: the library's slices.Concat.
-/
import Derived.Test.YthonjmefjmbogacDoorXsr
import Derived.Lib.AppendZeros
namespace Go.Proofs.YthonjmefjmbogacDoor
open Go.RowKit

set_option maxRecDepth 100000 in
set_option maxHeartbeats 4000000 in
theorem growC_any (m : Int) (w : World) (h0 : 0 < m) (h1 : m ≤ 1000) :
    Calls Tryd.prog 45 #[.slice none 0 0, .int .i64 m] w fun e w' => ∃ v, e = .returned v ∧ w'.ownsRow w.heap.size 9 1 v 0 [] ∧ Below w.heap.size w w' := by
  obtain ⟨n, rfl⟩ : ∃ n : Nat, m = n := ⟨m.toNat, by omega⟩
  obtain ⟨i0, hi, hz0, hz1, hz2⟩ := info_parts infS
  obtain ⟨c, hc⟩ : ∃ c, grownCap w n 0 9 = c := ⟨_, rfl⟩
  have hcn : n ≤ c := by rw [← hc]; exact grownCap_ge w n 0 9
  have hcm : c ≤ maxLen := by rw [← hc]; exact grownCap_le_maxLen w n 0 9 (by unfold maxLen; omega)
  obtain ⟨A, hA⟩ : ∃ A, Builtin.zeroCells (Value.string ByteArray.empty).cells n ++ Builtin.zeroCells (Value.string ByteArray.empty).cells (c - n) = A := ⟨_, rfl⟩
  have hAs : A.size = c * 1 := by
    rw [← hA]
    simp [Builtin.zeroCells, Value.cells]
    omega
  have hrun : Hid ((Builtin.append_ #[45, 3] 45 #[.slice none 0 0, .int .i64 n]).run Tryd.prog w = .ok (.slice (some ⟨w.heap.size, 0, none⟩) n c) (w.drew.alloc (.cells A 9))) := by
    show _ = _
    rw [← hA, ← hc]
    exact Lib.run_append_nil_zeros w 45 3 45 9 i0 (.string ByteArray.empty) .i64 .i64 (by kernel_rfl) (by kernel_rfl) hi hz0 n (by omega) (by omega) (by omega) (by rw [hz2]; omega)
  have HA : Hid (A.size = c * 1) := hAs
  have HC : Hid (c ≤ maxLen) := hcm
  unfold maxLen at hcm
  clear hA hAs hc hi hz0 hz1 hz2
  go_enter Tryd.func45, Tryd.ntmps45
  go_wp2_with (at_builtin; refine Lib.wpList_append_run _ rfl _ _ _ _ rfl _ _ rfl rfl _ _ hrun.out ?_)
  go_ret
  refine ⟨_, rfl, ⟨rfl, .inr ⟨w.heap.size, c, A, rfl, Nat.le_refl _, ?_, by omega, HC.out, HA.out, by simp⟩⟩, (Below.refl _ _).drew.alloc (Nat.le_refl _) _⟩
  exact heap_alloc_new w.drew _

set_option maxRecDepth 100000 in
set_option maxHeartbeats 4000000 in
theorem concat_any (S1 S2 : Nat → Prop) (l1 l2 : List ByteArray) (v1 v2 : Value) (g : Nat) (w : World) (h1 : AtL S1 w l1 v1) (h2 : AtL S2 w l2 v2) (hS1 : ∀ b, S1 b → b < w.heap.size) (hS2 : ∀ b, S2 b → b < w.heap.size)
    (hg : w.heap[g]? = some (.cells #[v1, v2] 45 (0, 0))) (hl1 : 0 < l1.length) (hl : l1.length + l2.length ≤ 1000) :
    Calls Tryd.prog 31 #[.slice (some ⟨g, 0, none⟩) 2 2] w fun e w' => ∃ v, e = .returned v ∧ Row w' w.heap.size 9 1 eS v (l1 ++ l2) ∧ Below w.heap.size w w' := by
  have H1 : Hid (∀ u, Below w.heap.size w u → Src u v1 l1.length 1 (enc 1 eS l1)) := fun u hu => flatS.src (h1.same (Same.of_below hu hS1))
  have H2 : Hid (∀ u, Below w.heap.size w u → Src u v2 l2.length 1 (enc 1 eS l2)) := fun u hu => flatS.src (h2.same (Same.of_below hu hS2))
  obtain ⟨o1, c1, rfl, -⟩ := h1
  obtain ⟨o2, c2, rfl, -⟩ := h2
  obtain ⟨n1, e1⟩ : ∃ n, l1.length = n := ⟨_, rfl⟩
  obtain ⟨n2, e2⟩ : ∃ n, l2.length = n := ⟨_, rfl⟩
  have E1 : Hid (l1.length = n1) := e1
  have E2 : Hid (l2.length = n2) := e2
  rw [e1] at H1 hl hl1 hg
  rw [e2] at H2 hl hg
  have hgl : g < w.heap.size := (Array.getElem?_eq_some_iff.1 hg).1
  have C0 : Hid (∀ u, Below w.heap.size w u → u.cell? ⟨g, 0, none⟩ = some (.slice o1 n1 c1)) := fun u hu => (cell_row ((hu.block g hgl).trans hg) 0 _ rfl).1
  have C1 : Hid (∀ u, Below w.heap.size w u → u.cell? ⟨g, 1, none⟩ = some (.slice o2 n2 c2)) := fun u hu => (cell_row ((hu.block g hgl).trans hg) 1 _ rfl).1
  have B0 : Hid (Below w.heap.size w w) := Below.refl _ _
  clear hg hS1 hS2 e1 e2
  go_enter Tryd.func31, Tryd.ntmps31
  go_wp2_with fail
  go_loopw [3, 11] (fun sz i wr => (i = .int .i64 0 ∧ sz = .int .i64 0 ∨ i = .int .i64 1 ∧ sz = .int .i64 n1 ∨ i = .int .i64 2 ∧ sz = .int .i64 (n1 + n2)) ∧ wr = w) (fun _ i _ => 3 - (intOf i).toNat)
  case atStart => exact ⟨.inl ⟨rfl, rfl⟩, rfl⟩
  case round =>
    obtain ⟨hrel, rfl⟩ := hrel
    have k0 := C0.out wr B0.out
    have k1 := C1.out wr B0.out
    rcases hrel with ⟨rfl, rfl⟩ | ⟨rfl, rfl⟩ | ⟨rfl, rfl⟩
    · go_wp2_with fail
      go_roundw
      case rel => exact ⟨.inr (.inl ⟨by first | rfl | go_num, by first | rfl | go_num⟩), (by first | exact rfl | exact trivial)⟩
      case measure => simp [intOf]
    · go_wp2_with fail
      go_roundw
      case rel => exact ⟨.inr (.inr ⟨by first | rfl | go_num, by first | rfl | go_num⟩), (by first | exact rfl | exact trivial)⟩
      case measure => simp [intOf]
    · clear k0 k1
      have G : Hid _ := growC_any ((n1 : Int) + n2) wr (by omega) (by omega)
      go_wp2_with fail
      refine Calls.mono G.out ?_
      rintro e w1 ⟨v, rfl, hown, hb⟩
      have R1 : Hid (Row w1 wr.heap.size 9 1 eS v []) := hown
      have B1 : Hid (Below wr.heap.size wr w1) := hb
      clear hown hb G
      obtain ⟨w0, hw0⟩ : ∃ w0, w0 = wr := ⟨_, rfl⟩
      subst hw0
      go_wp2_with fail
      go_loopw [6, 27] (fun nv i wr => ∃ (L : List ByteArray) (q : Value), q = nv ∧ (i = .int .i64 0 ∧ L = [] ∨ i = .int .i64 1 ∧ L = l1 ∨ i = .int .i64 2 ∧ L = l1 ++ l2) ∧ Hid (Row wr w0.heap.size 9 1 eS q L) ∧ Hid (Below w0.heap.size w0 wr)) (fun _ i _ => 3 - (intOf i).toNat)
      case atStart => exact ⟨[], _, rfl, .inl ⟨rfl, rfl⟩, R1, B1⟩
      case round =>
        obtain ⟨L, q, rfl, hrel, RL, BL⟩ := hrel
        have k0 := C0.out wr BL.out
        have k1 := C1.out wr BL.out
        have hsz : w0.heap.size ≤ wr.heap.size := BL.out.size
        rcases hrel with ⟨rfl, rfl⟩ | ⟨rfl, rfl⟩ | ⟨rfl, rfl⟩
        · go_wp2_with (at_builtin; refine wpList_app elS rfl _ _ rfl rfl rfl RL.out (H1.out _ BL.out) (flatS.enc_one _) (by unfold maxLen; simp; omega) (by simp; omega) (by omega) ?_; intro vE u5 hown hgE hbk; have R5 : Hid (Row u5 w0.heap.size 9 1 eS vE l1) := (by show World.ownsRow _ _ _ _ _ _ _; rw [E1.out]; simpa [enc] using hown); have B5 : Hid (Below w0.heap.size w0 u5) := BL.out.grown hgE (by omega) (fun q hq => (World.ownsRow.lt RL.out q hq).1); clear hown hgE hbk)
          go_roundw
          case rel => exact ⟨l1, _, rfl, .inr (.inl ⟨by first | rfl | go_num, rfl⟩), R5, B5⟩
          case measure => simp [intOf]
        · have hL : L.length = n1 := E1.out
          go_wp2_with (at_builtin; refine wpList_app elS rfl _ _ rfl rfl rfl RL.out (H2.out _ BL.out) (flatS.enc_one _) (by unfold maxLen; omega) (by omega) (by omega) ?_; intro vE u5 hown hgE hbk; have R5 : Hid (Row u5 w0.heap.size 9 1 eS vE (L ++ l2)) := (by show World.ownsRow _ _ _ _ _ _ _; rw [List.length_append, E2.out, enc_append]; exact hown); have B5 : Hid (Below w0.heap.size w0 u5) := BL.out.grown hgE (by omega) (fun q hq => (World.ownsRow.lt RL.out q hq).1); clear hown hgE hbk)
          go_roundw
          case rel => exact ⟨_, _, rfl, .inr (.inr ⟨by first | rfl | go_num, rfl⟩), R5, B5⟩
          case measure => simp [intOf]
        · go_wp2_with fail
          go_ret
          exact ⟨_, rfl, RL.out, BL.out⟩

end Go.Proofs.YthonjmefjmbogacDoor
