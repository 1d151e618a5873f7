/-
  The law FnExactShareOrder, walked: whatever the book, the call returns true, and nothing that was there before has turned.
-/
import Derived.Test.YtomfooddehddhadZmf
import Derived.Test.YtomfooddehddhadZxe
import Derived.Test.YtomfooddehddhadZxk
import Derived.Test.YtomfooddehddhadZxh
import Derived.Deep.RegionWith
namespace Go.Proofs.Ytomfooddehddhad
open Go.RowKit
open Go.Sort
theorem bookL_cs {S : Nat → Prop} {w : World} {T : List ByteArray} {Bs : List DShareBatch} {v0 v1 : Value} (h0 : AtL S w T v0) (h1 : AtL S w Bs v1) : Lay.At S w ((T, Bs) : DShareBook) (cs [v0, v1]) := at_DShareBook.2 ⟨h0, h1⟩
theorem cntZ_le {α : Type} [Own α] (K : Nat) : ∀ l : List α, (∀ x ∈ l, Own.cnt x ≤ K * (Lay.tot x + 1)) → cntL l ≤ K * totL l
  | [], _ => by simp [cntL, cntTo]
  | x :: l, h => by
    have h1 := h x List.mem_cons_self
    have h2 := cntZ_le K l (fun y hy => h y (List.mem_cons_of_mem _ hy))
    have e1 : cntL (x :: l) = Own.cnt x + cntL l := by simp [cntL, cntTo]
    have e2 : totL (x :: l) = (Lay.tot x + 1) + totL l := by simp [totL, sumTo]; omega
    rw [e1, e2, Nat.mul_add]
    omega
theorem cntZ_strs (l : List ByteArray) : cntL l ≤ totL l := by
  have := cntZ_le 1 l (fun x _ => by show 1 ≤ 1 * (x.size + 1); omega)
  omega
theorem cntZ_len : ∀ l : List ByteArray, cntL l = l.length
  | [] => rfl
  | x :: l => by
    have e1 : cntL (x :: l) = 1 + cntL l := by simp [cntL, cntTo]; rfl
    rw [e1, cntZ_len l, List.length_cons]; omega
theorem cnt_book {T : List ByteArray} {Bs : List DShareBatch} (h : Lay.tot (α := DShareBook) (T, Bs) ≤ 1048576) : Own.cnt (α := DShareBook) (T, Bs) ≤ 1048576 := by
  rw [tot_DShareBook] at h
  rw [cnt_DShareBook]
  have h0 := cntZ_strs T
  have h1 : cntL Bs ≤ 1 * totL Bs := cntZ_le 1 Bs (fun x _ => by
    rw [cnt_DShareBatch, tot_DShareBatch]
    have := cntZ_strs x.2.1
    have := cntZ_strs x.2.2
    omega)
  simp only at h ⊢
  omega
theorem ordF_len (Bs : List DShareBatch) : ∀ (n : Nat) (g : List ByteArray), (ordF Bs n g).1.length ≤ g.length + n
  | 0, g => Nat.le_refl _
  | n + 1, g => by
    unfold ordF
    split
    · exact Nat.zero_le _
    · have := ordF_len Bs n (g ++ [(btN Bs (nxtI Bs g).toNat).1])
      rw [List.length_append] at this
      simp only [List.length_cons, List.length_nil] at this
      omega
theorem ord_len (D : DShareBook) : (ordS D).1.length ≤ 5 := by
  unfold ordS
  by_cases h : bokB D = true
  · rw [if_pos h]
    have h1 := ordF_len D.2 D.2.length []
    have h2 := (bok_iff.1 h).len
    simp only [List.length_nil] at h1
    omega
  · rw [if_neg h]; exact Nat.zero_le _
theorem ordF_mem {Bs : List DShareBatch} {P : ByteArray → Prop} (hP : ∀ i (h : i < Bs.length), P Bs[i].1) : ∀ (n : Nat) (g : List ByteArray), (∀ x ∈ g, P x) → ∀ x ∈ (ordF Bs n g).1, P x
  | 0, g, hg => hg
  | n + 1, g, hg => by
    unfold ordF
    split
    · intro x hx; simp at hx
    · rename_i hn
      obtain ⟨q, eq, hq⟩ := nxt_lt hn
      refine ordF_mem hP n _ (fun x hx => ?_)
      rcases List.mem_append.1 hx with h | h
      · exact hg x h
      · simp only [List.mem_singleton] at h
        rw [h, eq, Int.toNat_natCast, btN_at hq]
        exact hP q hq
theorem ord_mem {T : List ByteArray} {Bs : List DShareBatch} {P : ByteArray → Prop} (hP : ∀ i (h : i < Bs.length), P Bs[i].1) : ∀ x ∈ (ordS (T, Bs)).1, P x := by
  unfold ordS
  split
  · exact ordF_mem hP _ _ (fun x hx => by simp at hx)
  · intro x hx; simp at hx

set_option maxRecDepth 100000 in
set_option maxHeartbeats 8000000 in
theorem lawr_any (PI : ∀ (S : Nat → Prop) (T : List ByteArray) (Bs : List DShareBatch) (v0 v1 : Value) (w : World), AtL S w T v0 → AtL S w Bs v1 → (∀ b, S b → b < w.heap.size) → Lay.tot (α := DShareBook) (T, Bs) ≤ 1048576 → Calls Try.prog 7 #[.agg #[v0, v1]] w fun e w' => ∃ q, e = .returned (.tuple #[q, .bool (ordS (T, Bs)).2]) ∧ OnL (fun b => w.heap.size ≤ b ∧ b < w'.heap.size) w' (ordS (T, Bs)).1 q ∧ Below w.heap.size w w') (S : Nat → Prop) (T : List ByteArray) (Bs : List DShareBatch) (c : Nat → Value) (w : World) (h : Lay.At S w ((T, Bs) : DShareBook) c) (hS : ∀ b, S b → b < w.heap.size) :
    Calls Try.prog 3 #[.agg #[c 0, c 1]] w fun e w' => e = .returned (.bool true) ∧ Below w.heap.size w w' := by
  have HZ : Hid (∀ x ∈ (ordS (T, Bs)).1, x.size ≤ maxLen) := by
    refine ord_mem (fun i hi => ?_)
    obtain ⟨_, h1⟩ := at_DShareBook.1 h
    obtain ⟨oa, kb, e, _⟩ := id h1
    rw [e] at h1
    obtain ⟨_, _, _, _, _, _, _, _, _, _, _, _, _, _, _, z⟩ := bat_at h1 i hi
    exact z
  have hll := ord_len (T, Bs)
  have H : Hid (∀ w', Below w.heap.size w w' → Lay.At S w' ((T, Bs) : DShareBook) c) := fun w' hb => Lay.same h (Same.of_below hb hS)
  clear h
  obtain ⟨w0, hw0⟩ : ∃ w0, w0 = w.alloc (.cells #[c 0, c 1] 25) := ⟨_, rfl⟩
  have EW : Hid (w0 = w.alloc (.cells #[c 0, c 1] 25)) := hw0
  have k0 : Hid (Below (w.heap.size + 1) (w.alloc (.cells #[c 0, c 1] 25)) w0) := by rw [hw0]; exact Below.refl _ _
  clear hw0
  have a0 := box_at _ _ k0.out 0 (c 0) rfl
  have a1 := box_at _ _ k0.out 1 (c 1) rfl
  have s0 : w.heap.size + 1 ≤ w0.heap.size := by have := k0.out.size; simpa using this
  obtain ⟨L, hL⟩ : ∃ L, L = (ordS (T, Bs)).1 := ⟨_, rfl⟩
  obtain ⟨R, hR⟩ : ∃ R, R = (ordS (T, Bs)).2 := ⟨_, rfl⟩
  have PP : Hid (∀ (S : Nat → Prop) (v0 v1 : Value) (w : World), AtL S w T v0 → AtL S w Bs v1 → (∀ b, S b → b < w.heap.size) → Lay.tot (α := DShareBook) (T, Bs) ≤ 1048576 → Calls Try.prog 7 #[.agg #[v0, v1]] w fun e w' => ∃ q, e = .returned (.tuple #[q, .bool R]) ∧ OnL (fun b => w.heap.size ≤ b ∧ b < w'.heap.size) w' L q ∧ Below w.heap.size w w') := fun S v0 v1 w a b c d => by rw [hL, hR]; exact PI S T Bs v0 v1 w a b c d
  have MM : Hid (∀ (S : Nat → Prop) (o0 oa : Option Addr) (n0 k0 nb kb : Nat) (w : World), AtL S w T (.slice o0 n0 k0) → AtL S w Bs (.slice oa nb kb) → (∀ b, S b → b < w.heap.size) → Calls Try.prog 5 #[.agg #[.slice o0 n0 k0, .slice oa nb kb]] w fun e w' => ∃ q, e = .returned (.tuple #[q, .bool R]) ∧ Row w' w.heap.size 9 1 eS q L ∧ Below w.heap.size w w') := fun S o0 oa n0 k0 nb kb w a b c => by rw [hL, hR]; exact orderZ_any S T Bs o0 oa n0 k0 nb kb w a b c
  rw [← hL] at HZ hll
  have HLL : Hid (L.length ≤ 5) := hll
  have HCL : Hid (cntL L ≤ 5) := by show _ ≤ _; rw [cntZ_len]; exact hll
  clear hL hR PI hll
  go_enter Try.func3, Try.ntmps3
  go_upto_region 1 with fail
  rw [← EW.out]
  go_wp2_with fail
  refine (szShareBook_any S (T, Bs) c 1048576 _ (H.out _ (below_end k0.out)) (fun b hb => by have := hS b hb; omega) (by omega) (by omega)).mono ?_
  rintro e w1 ⟨y, rfl, hy, hb1⟩
  clear a0 a1
  have k1 : Hid (Below (w.heap.size + 1) (w.alloc (.cells #[c 0, c 1] 25)) w1) := below_of k0.out hb1
  have HY : Hid _ := hy
  clear hy hb1
  by_cases hneg : y < 0
  · go_wp2_with fail
    go_ret
    exact ⟨rfl, below_end k1.out⟩
  have HM : Hid (Lay.tot (α := DShareBook) (T, Bs) ≤ 1048576) := by have := HY.out; show _ ≤ _; omega
  have HCB : Hid (Own.cnt (α := DShareBook) (T, Bs) ≤ 1048576) := cnt_book HM.out
  have a0 := box_at _ _ k1.out 0 (c 0) rfl
  have a1 := box_at _ _ k1.out 1 (c 1) rfl
  have s1 : w.heap.size + 1 ≤ w1.heap.size := by have := k1.out.size; simpa using this
  go_wp2_with fail
  refine (toShareBook_any S (T, Bs) c _ (H.out _ (below_end k1.out)) (fun b hb => by have := hS b hb; omega) HM.out).mono ?_
  rintro e w2 ⟨g2, rfl, G, hb⟩
  clear a0 a1
  have k2 : Hid (Below (w.heap.size + 1) (w.alloc (.cells #[c 0, c 1] 25)) w2) := below_of k1.out hb
  have s2 : w.heap.size + 1 ≤ w2.heap.size := by have := k2.out.size; simpa using this
  have G' := Lay.up (S' := fun b => b < w2.heap.size) G (fun b hb => hb.2)
  rw [at_DShareBook] at G'
  obtain ⟨l0, l1⟩ := G'
  clear G
  obtain ⟨n02, en⟩ : ∃ n, T.length = n := ⟨_, rfl⟩
  obtain ⟨o02, x02, e, _⟩ := id l0
  simp only at l0 e
  rw [en] at e
  rw [e] at l0
  rw [e]
  have L02 : Hid (AtL (fun b => b < w2.heap.size) w2 T (.slice o02 n02 x02)) := l0
  clear l0 e en
  obtain ⟨n12, en⟩ : ∃ n, Bs.length = n := ⟨_, rfl⟩
  obtain ⟨o12, x12, e, _⟩ := id l1
  simp only at l1 e
  rw [en] at e
  rw [e] at l1
  rw [e]
  have L12 : Hid (AtL (fun b => b < w2.heap.size) w2 Bs (.slice o12 n12 x12)) := l1
  clear l1 e en
  clear hb
  go_wp2_with fail
  refine (MM.out (fun b => b < w2.heap.size) _ _ _ _ _ _ w2 L02.out L12.out (fun b hb => hb)).mono ?_; rintro e w3 ⟨u0, rfl, o3, hb⟩
  have U3 : Hid (AtL (fun b => b < w3.heap.size) w3 L u0) := flatS.row_at o3 (S := fun b => b < w3.heap.size) (fun g hg => (World.ownsRow.lt o3 g hg).2) (fun x hx => HZ.out x hx)
  have k3 : Hid (Below (w.heap.size + 1) (w.alloc (.cells #[c 0, c 1] 25)) w3) := below_of k2.out hb
  clear hb L02 L12 o3
  have a0 := box_at _ _ k3.out 0 (c 0) rfl
  have a1 := box_at _ _ k3.out 1 (c 1) rfl
  have s3 : w.heap.size + 1 ≤ w3.heap.size := by have := k3.out.size; simpa using this
  go_wp2_with fail
  refine (toShareBook_own S (T, Bs) c _ (H.out _ (below_end k3.out)) (fun b hb => by have := hS b hb; omega) HM.out).mono ?_
  rintro e w4 ⟨g4, rfl, O, hb⟩
  clear a0 a1
  have G := Own.on_at O
  have k4 : Hid (Below (w.heap.size + 1) (w.alloc (.cells #[c 0, c 1] 25)) w4) := below_of k3.out hb
  have U4 : Hid (AtL (fun b => b < w3.heap.size) w4 L u0) := U3.out.same (Same.of_below hb (fun b hb => hb))
  have z4 := hb.size
  have ga : g4 0 = g4 0 := rfl
  have gb : g4 1 = g4 1 := rfl
  have s4 : w.heap.size + 1 ≤ w4.heap.size := by have := k4.out.size; simpa using this
  have G' := Lay.up (S' := fun b => b < w4.heap.size) G (fun b hb => hb.2)
  rw [at_DShareBook] at G'
  obtain ⟨l0, l1⟩ := G'
  clear G
  obtain ⟨n04, en⟩ : ∃ n, T.length = n := ⟨_, rfl⟩
  obtain ⟨o04, x04, e, _⟩ := id l0
  simp only at l0 e
  rw [en] at e
  rw [e] at l0
  rw [e]
  have ga : g4 0 = _ := e
  have L04 : Hid (AtL (fun b => b < w4.heap.size) w4 T (.slice o04 n04 x04)) := l0
  clear l0 e en
  obtain ⟨n14, en⟩ : ∃ n, Bs.length = n := ⟨_, rfl⟩
  obtain ⟨o14, x14, e, _⟩ := id l1
  simp only at l1 e
  rw [en] at e
  rw [e] at l1
  rw [e]
  have gb : g4 1 = _ := e
  have L14 : Hid (AtL (fun b => b < w4.heap.size) w4 Bs (.slice o14 n14 x14)) := l1
  clear l1 e en
  have X4 : Hid (Own.On (fun b => w3.heap.size ≤ b ∧ b < w4.heap.size) w4 ((T, Bs) : DShareBook) (cs [.slice o04 n04 x04, .slice o14 n14 x14])) := Own.on_ext O (fun j hj => by
    have : j < 2 := hj
    match j, this with
    | 0, _ => exact ga.symm
    | 1, _ => exact gb.symm)
  clear hb U3 O ga gb
  obtain ⟨W4, hW4⟩ : ∃ W4, W4 = w4.alloc (.cells #[.slice o04 n04 x04, .slice o14 n14 x14] 31) := ⟨_, rfl⟩
  have EW4 : Hid (W4 = w4.alloc (.cells #[.slice o04 n04 x04, .slice o14 n14 x14] 31)) := hW4
  have bA : Below w4.heap.size w4 W4 := by rw [hW4]; exact (Below.refl _ _).alloc (Nat.le_refl _) _
  have RW4 : Hid (W4.heap[w4.heap.size]? = some (.cells #[.slice o04 n04 x04, .slice o14 n14 x14] 31 (0, 0))) := by rw [hW4]; exact heap_alloc_new w4 _
  have t4 : w4.heap.size + 1 ≤ W4.heap.size ∧ W4.heap.size ≤ w4.heap.size + 1 := by rw [hW4]; simp
  have T4 : Hid _ := t4
  have t4a := t4.1
  clear hW4 t4
  have kA : Hid (Below (w.heap.size + 1) (w.alloc (.cells #[c 0, c 1] 25)) W4) := below_of k4.out bA
  have L0A : Hid (AtL (fun b => b < w4.heap.size) W4 T (.slice o04 n04 x04)) := L04.out.same (Same.of_below bA (fun b hb => hb))
  have L1A : Hid (AtL (fun b => b < w4.heap.size) W4 Bs (.slice o14 n14 x14)) := L14.out.same (Same.of_below bA (fun b hb => hb))
  have XA : Hid (Own.On (fun b => w3.heap.size ≤ b ∧ b < w4.heap.size) W4 ((T, Bs) : DShareBook) (cs [.slice o04 n04 x04, .slice o14 n14 x14])) := Own.on_same X4.out (fun b hb => bA.block b hb.2)
  have UA : Hid (AtL (fun b => b < w3.heap.size) W4 L u0) := U4.out.same (Same.of_below bA (fun b hb => by omega))
  clear bA L04 L14 X4 U4
  go_wp2_with fail
  rw [← EW4.out]
  refine (PP.out _ _ _ W4 L0A.out L1A.out (fun b hb => by omega) HM.out).mono ?_; rintro e w5 ⟨q5, rfl, a5, hb⟩
  have G5 : Hid (OnL (fun b => W4.heap.size ≤ b ∧ b < w5.heap.size) w5 L q5) := a5
  have U5 : Hid (AtL (fun b => b < w3.heap.size) w5 L u0) := UA.out.same (Same.of_below hb (fun b hb => by omega))
  have X5 : Hid (Own.On (fun b => w3.heap.size ≤ b ∧ b < w4.heap.size) w5 ((T, Bs) : DShareBook) (cs [.slice o04 n04 x04, .slice o14 n14 x14])) := Own.on_same XA.out (fun b hb2 => hb.block b (by omega))
  have R5 : Hid (w5.heap[w4.heap.size]? = some (.cells #[.slice o04 n04 x04, .slice o14 n14 x14] 31 (0, 0))) := (hb.block _ (by omega)).trans RW4.out
  have z5 := hb.size
  have k5 : Hid (Below (w.heap.size + 1) (w.alloc (.cells #[c 0, c 1] 25)) w5) := below_of kA.out hb
  clear hb a5 UA XA L0A L1A
  cases R
  all_goals
    go_wp2_with fail
    refine (eqStringS_any _ _ L q5 u0 w5 G5.out.at_ U5.out (fun b hb => hb.2) (fun b hb => by omega)).mono ?_; rintro e w6 ⟨rfl, hb⟩
    have k6 : Hid (Below (w.heap.size + 1) (w.alloc (.cells #[c 0, c 1] 25)) w6) := below_of k5.out hb
    have C6 : Hid (Below w5.heap.size w5 w6) := hb
    have z6 := hb.size
    clear hb
    have s6 : w.heap.size + 1 ≤ w6.heap.size := by have := k6.out.size; simpa using this
    have a0 := box_at _ _ k6.out 0 (c 0) rfl
    have a1 := box_at _ _ k6.out 1 (c 1) rfl
    have R6 := (C6.out.block _ (by omega)).trans R5.out
    have d0 := (cell_row R6 0 (.slice o04 n04 x04) rfl).1
    have d1 := (cell_row R6 1 (.slice o14 n14 x14) rfl).1
    clear R6
    go_wp2_with fail
    go_region_with (first
      | (go_at_call 6; refine (toShareBook_any S (T, Bs) c _ (by exact H.out _ (below_end k6.out).drew) (fun b hb => by show b < w6.heap.size; have := hS b hb; omega) HM.out).mono ?_; rintro e w7 ⟨r, rfl, G6, hb6⟩; have HG6 : Hid (Lay.At (fun b => w6.heap.size ≤ b ∧ b < w7.heap.size) w7 (T, Bs) r) := G6; clear G6; have z7 : w6.heap.size ≤ w7.heap.size := hb6.size; have g0 := (hb6.cell (p := ⟨w4.heap.size, 0, none⟩) (by show w4.heap.size < w6.heap.size; omega)).trans d0; have g1 := (hb6.cell (p := ⟨w4.heap.size, 1, none⟩) (by show w4.heap.size < w6.heap.size; omega)).trans d1; have B67 : Hid (Below w6.heap.size w6 w7) := ((Below.refl _ _).drew).trans (hb6.mono (by show w6.heap.size ≤ w6.heap.size; omega)); have C7 : Hid (Below w5.heap.size w5 w7) := C6.out.trans (B67.out.mono z6); have X7 : Hid (Own.On (fun b => w3.heap.size ≤ b ∧ b < w4.heap.size) w7 ((T, Bs) : DShareBook) (cs [.slice o04 n04 x04, .slice o14 n14 x14])) := Own.on_same X5.out (fun b hb2 => C7.out.block b (by omega)))
      | (go_at_call 9; refine (eqShareBook_any (fun b => w3.heap.size ≤ b ∧ b < w4.heap.size) (fun b => w6.heap.size ≤ b ∧ b < w7.heap.size) (T, Bs) (cs [.slice o04 n04 x04, .slice o14 n14 x14]) r _ (Own.on_at X7.out) HG6.out (fun b hb => by omega) (fun b hb => hb.2)).mono ?_; rintro e w8 ⟨rfl, hb7⟩; have z8 : w7.heap.size ≤ w8.heap.size := hb7.size; have C8 : Hid (Below w5.heap.size w5 w8) := C7.out.trans (hb7.mono (by omega))))
    all_goals
      clear HG6 hb7 hb6 a0 a1 d0 d1 g0 g1 B67 C7 X7 C6
      have k8 : Hid (Below (w.heap.size + 1) (w.alloc (.cells #[c 0, c 1] 25)) w8) := below_of k5.out C8.out
      have X8 : Hid (Own.On (fun b => w3.heap.size ≤ b ∧ b < w4.heap.size) w8 ((T, Bs) : DShareBook) (cs [.slice o04 n04 x04, .slice o14 n14 x14])) := Own.on_same X5.out (fun b hb2 => C8.out.block b (by omega))
      have G8 : Hid (OnL (fun b => W4.heap.size ≤ b ∧ b < w5.heap.size) w8 L q5) := G5.out.same (fun b hb => C8.out.block b hb.2)
      have U8 : Hid (AtL (fun b => b < w3.heap.size) w8 L u0) := U5.out.same (Same.of_below C8.out (fun b hb => by omega))
      have R8 := (C8.out.block _ (by omega)).trans R5.out
      have d0 := (cell_row R8 0 (.slice o04 n04 x04) rfl).1
      have d1 := (cell_row R8 1 (.slice o14 n14 x14) rfl).1
      clear R8
      go_wp2_with fail
      refine (markShareBook_any _ (T, Bs) (cs [.slice o04 n04 x04, .slice o14 n14 x14]) 1 w8 X8.out (fun b hb => by omega) (by omega) (by have := HCB.out; omega)).mono ?_; rintro e w9 ⟨rfl, _, bu9⟩
      clear d0 d1
      have z9 := bu9.size
      have G9 : Hid (OnL (fun b => W4.heap.size ≤ b ∧ b < w5.heap.size) w9 L q5) := G8.out.same (fun b hb => bu9.block b (by omega) (by omega))
      have U9 : Hid (AtL (fun b => b < w3.heap.size) w9 L u0) := U8.out.same (fun b hb => bu9.block b (by omega) (by omega))
      have k9 : Hid (Below (w.heap.size + 1) (w.alloc (.cells #[c 0, c 1] 25)) w9) := k8.out.trans (bu9.below (B := w.heap.size + 1) (fun b hb => by omega) (by omega))
      clear bu9 G8 U8 X8
      have dk : decide (1 + (Own.cnt (α := DShareBook) (T, Bs) : Int) < 0) = false := by simp; omega
      go_wp2_with fail
      refine (eqStringS_any _ _ L q5 u0 w9 G9.out.at_ U9.out (fun b hb => by omega) (fun b hb => by omega)).mono ?_; rintro e w10 ⟨rfl, hb10⟩
      have z10 := hb10.size
      have G10 : Hid (OnL (fun b => W4.heap.size ≤ b ∧ b < w5.heap.size) w10 L q5) := G9.out.same (fun b hb => hb10.block b (by omega))
      have U10 : Hid (AtL (fun b => b < w3.heap.size) w10 L u0) := U9.out.same (Same.of_below hb10 (fun b hb => by omega))
      have k10 : Hid (Below (w.heap.size + 1) (w.alloc (.cells #[c 0, c 1] 25)) w10) := below_of k9.out hb10
      clear hb10 G9 U9 dk
      go_wp2_with fail
      refine (markStringS_any _ L q5 1 w10 G10.out (fun b hb => by omega) (by omega) (by have := HCL.out; omega)).mono ?_; rintro e w11 ⟨rfl, m11, bu11⟩
      have z11 := bu11.size
      have M11 : Hid (AtL (fun b => W4.heap.size ≤ b ∧ b < w5.heap.size) w11 (mkL 1 L) q5) := m11.at_
      have U11 : Hid (AtL (fun b => b < w3.heap.size) w11 L u0) := U10.out.same (fun b hb => bu11.block b (by omega) (by omega))
      have k11 : Hid (Below (w.heap.size + 1) (w.alloc (.cells #[c 0, c 1] 25)) w11) := k10.out.trans (bu11.below (B := w.heap.size + 1) (fun b hb => by omega) (by omega))
      clear m11 bu11 G10 U10
      have HE : Hid (∀ u, Below w11.heap.size w11 u → Calls Try.prog 12 #[q5, .int .i64 1] u fun e w' => e = .returned (.int .i64 (1 + (cntL L : Int))) ∧ Below u.heap.size u w') := fun u hu => heldStringS_any _ L q5 1 u (M11.out.same (Same.of_below hu (fun b hb => by omega))) (fun b hb => by have := hu.size; omega) (by omega) (by have := HCL.out; omega)
      have hcl : (cntL L : Int) ≤ 5 := by have := HCL.out; omega
      go_wp2_with fail
      refine (HE.out w11 (Below.refl _ _)).mono ?_; rintro e w12 ⟨rfl, hb12⟩
      have C12 : Hid (Below w11.heap.size w11 w12) := hb12
      have z12 := hb12.size
      have k12 : Hid (Below (w.heap.size + 1) (w.alloc (.cells #[c 0, c 1] 25)) w12) := below_of k11.out hb12
      clear hb12
      have s12 : w.heap.size + 1 ≤ w12.heap.size := by have := k12.out.size; simpa using this
      have a0 := box_at _ _ k12.out 0 (c 0) rfl
      have a1 := box_at _ _ k12.out 1 (c 1) rfl
      go_wp2_with fail
      refine (toShareBook_any S (T, Bs) c _ (H.out _ (below_end k12.out)) (fun b hb => by have := hS b hb; omega) HM.out).mono ?_; rintro e w13 ⟨g13, rfl, a13, hb13⟩
      clear a0 a1
      have k13 : Hid (Below (w.heap.size + 1) (w.alloc (.cells #[c 0, c 1] 25)) w13) := below_of k12.out hb13
      have C13 : Hid (Below w11.heap.size w11 w13) := C12.out.trans (hb13.mono z12)
      have z13 := hb13.size
      have A13 : Hid _ := at_DShareBook.1 a13
      clear a13 hb13
      go_wp2_with fail
      refine (PP.out _ _ _ w13 A13.out.1 A13.out.2 (fun b hb => hb.2) HM.out).mono ?_; rintro e w14 ⟨h0, rfl, a14, hb14⟩
      have A14 : Hid (AtL (fun b => w13.heap.size ≤ b ∧ b < w14.heap.size) w14 L h0) := a14.at_
      have C14 : Hid (Below w11.heap.size w11 w14) := C13.out.trans (hb14.mono (by omega))
      have z14 := hb14.size
      have U14 : Hid (AtL (fun b => b < w3.heap.size) w14 L u0) := U11.out.same (Same.of_below C14.out (fun b hb => by omega))
      clear a14 hb14 A13
      go_wp2_with fail
      refine (eqStringS_any _ _ L h0 u0 w14 A14.out U14.out (fun b hb => hb.2) (fun b hb => by omega)).mono ?_; rintro e w15 ⟨rfl, hb15⟩
      have C15 : Hid (Below w11.heap.size w11 w15) := C14.out.trans (hb15.mono (by omega))
      clear hb15
      go_wp2_with fail
      refine (HE.out w15 C15.out).mono ?_; rintro e w16 ⟨rfl, hb16⟩
      have k16 : Hid (Below (w.heap.size + 1) (w.alloc (.cells #[c 0, c 1] 25)) w16) := below_of k11.out (C15.out.trans (hb16.mono C15.out.size))
      clear hb16
      go_wp2_with fail
      go_ret
      exact ⟨rfl, below_end k16.out⟩

end Go.Proofs.Ytomfooddehddhad
