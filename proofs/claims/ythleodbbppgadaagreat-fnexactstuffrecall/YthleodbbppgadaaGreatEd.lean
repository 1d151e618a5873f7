/-
  The law FnExactStuffRecall, walked: whatever the book and the lot, the call returns true, and nothing that was there before has turned.
-/
import Derived.Test.YthleodbbppgadaaGreatEc
import Derived.Test.YthleodbbppgadaaGreatLe
import Derived.Test.YthleodbbppgadaaGreatLk
import Derived.Test.YthleodbbppgadaaGreatLhs
import Derived.Deep.RegionWith
namespace Go.Proofs.YthleodbbppgadaaGreat
open Go.RowKit

theorem book_cs {S : Nat → Prop} {w : World} {a : DStuffBook} {v0 v1 v2 v3 : Value} (h0 : AtL S w a.1 v0) (h1 : AtL S w a.2.1 v1) (h2 : AtL S w a.2.2.1 v2) (h3 : AtL S w a.2.2.2 v3) : Lay.At S w a (cs [v0, v1, v2, v3]) := at_DStuffBook.2 ⟨h0, h1, h2, h3⟩

/-- How many marks a list takes, at most. -/
theorem cntL_le {α : Type} [Own α] (K : Nat) : ∀ l : List α, (∀ x ∈ l, Own.cnt x ≤ K * (Lay.tot x + 1)) → cntL l ≤ K * totL l
  | [], _ => by simp [cntL, cntTo]
  | x :: l, h => by
    have h1 := h x List.mem_cons_self
    have h2 := cntL_le K l (fun y hy => h y (List.mem_cons_of_mem _ hy))
    have e1 : cntL (x :: l) = Own.cnt x + cntL l := by simp [cntL, cntTo]
    have e2 : totL (x :: l) = (Lay.tot x + 1) + totL l := by simp [totL, sumTo]; omega
    rw [e1, e2, Nat.mul_add]
    omega
theorem cntL_strs (l : List ByteArray) : cntL l ≤ totL l := by
  have := cntL_le 1 l (fun x _ => by show 1 ≤ 1 * (x.size + 1); omega)
  omega
theorem cntL_len : ∀ l : List ByteArray, cntL l = l.length
  | [] => rfl
  | x :: l => by
    have e1 : cntL (x :: l) = 1 + cntL l := by simp [cntL, cntTo]; rfl
    rw [e1, cntL_len l, List.length_cons]; omega
theorem cntL_parts (l : List DStuffPart) : cntL l ≤ 2 * totL l := cntL_le 2 l (fun x _ => by rw [cnt_DStuffPart]; omega)
theorem cnt_book {a : DStuffBook} (h : Lay.tot a ≤ 1048576) : Own.cnt a ≤ 2097152 := by
  have h0 : cntL a.1 ≤ 2 * totL a.1 := cntL_le 2 a.1 (fun x _ => by rw [cnt_DStuffFoe]; omega)
  have h1 : cntL a.2.1 ≤ 2 * totL a.2.1 := cntL_le 2 a.2.1 (fun x _ => by rw [cnt_DStuffLot]; omega)
  have h2 : cntL a.2.2.1 ≤ 2 * totL a.2.2.1 := cntL_le 2 a.2.2.1 (fun x _ => by
    rw [cnt_DStuffVessel]
    have q1 := cntL_parts x.2.2.1
    have q2 := cntL_strs x.2.2.2
    have e : Lay.tot x = x.1.size + (0 + (totL x.2.2.1 + totL x.2.2.2)) := rfl
    omega)
  have h3 : cntL a.2.2.2 ≤ 2 * totL a.2.2.2 := cntL_le 2 a.2.2.2 (fun x _ => by
    rw [cnt_DStuffOut]
    have q1 := cntL_parts x.2.1
    have q2 := cntL_strs x.2.2
    have e : Lay.tot x = x.1.size + (totL x.2.1 + totL x.2.2) := rfl
    omega)
  have e0 : Own.cnt a = cntL a.1 + (cntL a.2.1 + (cntL a.2.2.1 + cntL a.2.2.2)) := rfl
  have e1 : Lay.tot a = totL a.1 + (totL a.2.1 + (totL a.2.2.1 + totL a.2.2.2)) := rfl
  omega
theorem rec_len {a : DStuffBook} {x : ByteArray} (h : Lay.tot a ≤ 1048576) : (recL a x).length ≤ 2097152 := by
  have := tot_lens h
  unfold recL
  cases bookB a
  · simp
  · have q1 := recF_len (fun v : DStuffVessel => v.1) (fun v => v.2.2.2) x a.2.2.1
    have q2 := recF_len (fun v : DStuffOut => v.1) (fun v => v.2.2) x a.2.2.2
    simp only [cond_true, List.length_append, recV, recO]
    omega
theorem rec_ok {a : DStuffBook} {x : ByteArray} (h : Lay.tot a ≤ 1048576) : ∀ y ∈ recL a x, OkS y := fun y hy => by
  have e0 : Lay.tot a = Lay.tot a.1 + (Lay.tot a.2.1 + (Lay.tot a.2.2.1 + Lay.tot a.2.2.2)) := rfl
  unfold recL at hy
  cases hB : bookB a
  · rw [hB] at hy; simp at hy
  · rw [hB] at hy
    show y.size ≤ maxLen
    unfold maxLen
    rcases List.mem_append.1 hy with hy | hy
    · obtain ⟨v, hv, rfl⟩ := recF_mem hy
      obtain ⟨i, hi, rfl⟩ := List.getElem_of_mem hv
      have h1 := totL_el a.2.2.1 i hi
      have e1 : Lay.tot a.2.2.1 = totL a.2.2.1 := rfl
      have e2 : Lay.tot a.2.2.1[i] = a.2.2.1[i].1.size + Lay.tot a.2.2.1[i].2 := rfl
      omega
    · obtain ⟨v, hv, rfl⟩ := recF_mem hy
      obtain ⟨i, hi, rfl⟩ := List.getElem_of_mem hv
      have h1 := totL_el a.2.2.2 i hi
      have e1 : Lay.tot a.2.2.2 = totL a.2.2.2 := rfl
      have e2 : Lay.tot a.2.2.2[i] = a.2.2.2[i].1.size + Lay.tot a.2.2.2[i].2 := rfl
      omega

set_option maxRecDepth 100000 in
set_option maxHeartbeats 8000000 in
theorem law_any (S : Nat → Prop) (a : DStuffBook) (c : Nat → Value) (tx : ByteArray) (w : World) (h : Lay.At S w a c) (hS : ∀ b, S b → b < w.heap.size) (htx : tx.size ≤ maxLen) :
    Calls Tryz.prog 3 #[.agg #[c 0, c 1, c 2, c 3], .string tx] w fun e w' => e = .returned (.bool true) ∧ Below w.heap.size w w' := by
  have H : Hid (∀ w', Below w.heap.size w w' → Lay.At S w' a c) := fun w' hb => Lay.same h (Same.of_below hb hS)
  clear h
  have k0 : Hid (Below (w.heap.size + 1) (w.alloc (.cells #[c 0, c 1, c 2, c 3] 27)) (w.alloc (.cells #[c 0, c 1, c 2, c 3] 27))) := Below.refl _ _
  unfold maxLen at htx
  by_cases gtx : 1048576 < tx.size
  · go_enter Tryz.func3, Tryz.ntmps3
    go_wp2_with fail
    go_ret
    exact ⟨rfl, below_end k0.out⟩
  go_enter Tryz.func3, Tryz.ntmps3
  go_wp2_with fail
  refine (szStuffBook_any S a c 1048576 _ (H.out _ (below_end k0.out)) (fun b hb => by have := hS b hb; simp; omega) (by omega) (by omega)).mono ?_
  rintro e w1 ⟨y, rfl, hy, hb1⟩
  have k1 : Hid (Below (w.heap.size + 1) (w.alloc (.cells #[c 0, c 1, c 2, c 3] 27)) w1) := below_of k0.out hb1
  have HY : Hid _ := hy
  clear hy hb1 k0
  by_cases hneg : y < 0
  · go_wp2_with fail
    go_ret
    exact ⟨rfl, below_end k1.out⟩
  have s1 : w.heap.size + 1 ≤ w1.heap.size := by have := k1.out.size; simpa using this
  have HM : Hid (Lay.tot a ≤ 1048576) := by have := HY.out; show _ ≤ _; omega
  have a0 := box_at _ _ k1.out 0 (c 0) rfl
  have a1 := box_at _ _ k1.out 1 (c 1) rfl
  have a2 := box_at _ _ k1.out 2 (c 2) rfl
  have a3 := box_at _ _ k1.out 3 (c 3) rfl
  go_wp2_with fail
  refine (toStuffBook_any S a c _ (H.out _ (below_end k1.out)) (fun b hb => by have := hS b hb; omega) HM.out).mono ?_
  rintro e w2 ⟨g, rfl, G, hb2⟩
  have k2 : Hid (Below (w.heap.size + 1) (w.alloc (.cells #[c 0, c 1, c 2, c 3] 27)) w2) := below_of k1.out hb2
  have s2 : w1.heap.size ≤ w2.heap.size := hb2.size
  have HG : Hid (Lay.At (fun b => w1.heap.size ≤ b ∧ b < w2.heap.size) w2 a g) := G
  clear G a0 a1 a2 a3 hb2
  go_wp2_with fail
  refine (recS_any (fun b => w1.heap.size ≤ b ∧ b < w2.heap.size) a g tx _ HG.out (fun b hb => hb.2) HM.out).mono ?_
  rintro e w3 ⟨r0, rfl, hr0, hb3⟩
  have k3 : Hid (Below (w.heap.size + 1) (w.alloc (.cells #[c 0, c 1, c 2, c 3] 27)) w3) := below_of k2.out hb3
  have s3 : w2.heap.size ≤ w3.heap.size := hb3.size
  have A0 : Hid (∀ w', Below w3.heap.size w3 w' → AtL (fun b => b < w3.heap.size) w' (recL a tx) r0) := fun w' hb => (flatS.row_at hr0 (S := fun b => b < w3.heap.size) (fun g hg => (World.ownsRow.lt hr0 g hg).2) (rec_ok HM.out)).same (Same.of_below hb (fun b hb => hb))
  clear hb3 HG hr0 k1 k2
  have a0 := box_at _ _ k3.out 0 (c 0) rfl
  have a1 := box_at _ _ k3.out 1 (c 1) rfl
  have a2 := box_at _ _ k3.out 2 (c 2) rfl
  have a3 := box_at _ _ k3.out 3 (c 3) rfl
  go_wp2_with fail
  refine (toStuffBook_own S a c _ (H.out _ (below_end k3.out)) (fun b hb => by have := hS b hb; omega) HM.out).mono ?_
  rintro e w4 ⟨g4, rfl, G4, hb4⟩
  have k4 : Hid (Below (w.heap.size + 1) (w.alloc (.cells #[c 0, c 1, c 2, c 3] 27)) w4) := below_of k3.out hb4
  have s4 : w3.heap.size ≤ w4.heap.size := hb4.size
  have b34 : Hid (Below w3.heap.size w3 w4) := hb4
  have O4 : Hid (Own.On (fun b => w3.heap.size ≤ b ∧ b < w4.heap.size) w4 a g4) := G4
  have G4' := Own.on_at G4
  rw [at_DStuffBook] at G4'
  obtain ⟨l0, l1, l2, l3⟩ := G4'
  clear G4 hb4 a0 a1 a2 a3 k3
  obtain ⟨o0, x0, e0, _⟩ := id l0
  obtain ⟨o1, x1, e1, _⟩ := id l1
  obtain ⟨o2, x2, e2, _⟩ := id l2
  obtain ⟨o3, x3, e3, _⟩ := id l3
  clear l0 l1 l2 l3
  obtain ⟨n0, en0⟩ : ∃ n, a.1.length = n := ⟨_, rfl⟩
  obtain ⟨n1, en1⟩ : ∃ n, a.2.1.length = n := ⟨_, rfl⟩
  obtain ⟨n2, en2⟩ : ∃ n, a.2.2.1.length = n := ⟨_, rfl⟩
  obtain ⟨n3, en3⟩ : ∃ n, a.2.2.2.length = n := ⟨_, rfl⟩
  rw [en0] at e0
  rw [en1] at e1
  rw [en2] at e2
  rw [en3] at e3
  have U0 : Hid (g4 0 = _) := e0
  have U1 : Hid (g4 1 = _) := e1
  have U2 : Hid (g4 2 = _) := e2
  have U3 : Hid (g4 3 = _) := e3
  rw [e0, e1, e2, e3]
  clear e0 e1 e2 e3 en0 en1 en2 en3
  have O5 : Hid (Own.On (fun b => w3.heap.size ≤ b ∧ b < w4.heap.size) (w4.alloc (.cells #[.slice o0 n0 x0, .slice o1 n1 x1, .slice o2 n2 x2, .slice o3 n3 x3] 36)) a g4) := Own.on_same O4.out (Same.of_alloc w4 _ (fun b hb => hb.2))
  have RI : Hid (Calls Tryz.prog 8 #[.agg #[g4 0, g4 1, g4 2, g4 3], .string tx] (w4.alloc (.cells #[.slice o0 n0 x0, .slice o1 n1 x1, .slice o2 n2 x2, .slice o3 n3 x3] 36)) _) := recI_any _ a g4 tx _ (Own.on_at O5.out) (fun b hb => by have := hb.2; simp; omega) HM.out
  have RI2 := RI.out
  rw [U0.out, U1.out, U2.out, U3.out] at RI2
  have RI3 : Hid _ := RI2
  clear RI RI2 O4
  go_wp2_with fail
  refine Calls.mono RI3.out ?_
  rintro e w5 ⟨r1, rfl, hr1, hb5⟩
  have s5 : w4.heap.size + 1 ≤ w5.heap.size := by have := hb5.size; simpa using this
  have hr1' : Row w5 (w4.heap.size + 1) 9 1 eS r1 (recL a tx) := by have := hr1; rw [World.size_alloc] at this; exact this
  have R1 : Hid (Row w5 (w4.heap.size + 1) 9 1 eS r1 (recL a tx)) := hr1'
  have bk5 : Hid (Below (w4.heap.size + 1) (w4.alloc (.cells #[.slice o0 n0 x0, .slice o1 n1 x1, .slice o2 n2 x2, .slice o3 n3 x3] 36)) w5) := by have := hb5; rw [World.size_alloc] at this; exact this
  have k5 : Hid (Below (w.heap.size + 1) (w.alloc (.cells #[c 0, c 1, c 2, c 3] 27)) w5) := below_of k4.out (below_end bk5.out)
  have b35 : Hid (Below w3.heap.size w3 w5) := b34.out.trans ((below_end bk5.out).mono s4)
  clear hr1 hr1' hb5 RI3 k4 b34
  have A1 : Hid (AtL (fun b => w4.heap.size + 1 ≤ b ∧ b < w5.heap.size) w5 (recL a tx) r1) := flatS.row_at R1.out (fun g hg => World.ownsRow.lt R1.out g hg) (rec_ok HM.out)
  go_wp2_with fail
  refine (eqStringS_any _ _ _ _ _ _ A1.out (A0.out _ b35.out) (fun b hb => hb.2) (fun b hb => by omega)).mono ?_
  rintro e w6 ⟨rfl, hb6⟩
  have bk6 : Hid (Below (w4.heap.size + 1) (w4.alloc (.cells #[.slice o0 n0 x0, .slice o1 n1 x1, .slice o2 n2 x2, .slice o3 n3 x3] 36)) w6) := below_of bk5.out hb6
  have k6 : Hid (Below (w.heap.size + 1) (w.alloc (.cells #[c 0, c 1, c 2, c 3] 27)) w6) := below_of k5.out hb6
  have b56 : Hid (Below w5.heap.size w5 w6) := hb6
  have s6 : w5.heap.size ≤ w6.heap.size := hb6.size
  clear hb6 k5 bk5
  have d0 := box_at _ _ bk6.out 0 (.slice o0 n0 x0) rfl
  have d1 := box_at _ _ bk6.out 1 (.slice o1 n1 x1) rfl
  have d2 := box_at _ _ bk6.out 2 (.slice o2 n2 x2) rfl
  have d3 := box_at _ _ bk6.out 3 (.slice o3 n3 x3) rfl
  have e0 := box_at _ _ k6.out 0 (c 0) rfl
  have e1 := box_at _ _ k6.out 1 (c 1) rfl
  have e2 := box_at _ _ k6.out 2 (c 2) rfl
  have e3 := box_at _ _ k6.out 3 (c 3) rfl
  have EQB : Hid (∀ (w7 : World) (r : Nat → Value), Below w6.heap.size w6 w7 → Lay.At (fun b => w6.heap.size ≤ b ∧ b < w7.heap.size) w7 a r → Calls Tryz.prog 10 #[.agg #[g4 0, g4 1, g4 2, g4 3], .agg #[r 0, r 1, r 2, r 3]] w7 fun e w' => e = .returned (.bool true) ∧ Below w7.heap.size w7 w') := fun w7 r hb hr =>
    eqStuffBook_any (fun b => w3.heap.size ≤ b ∧ b < w4.heap.size) (fun b => w6.heap.size ≤ b ∧ b < w7.heap.size) a g4 r w7 (Lay.same (Own.on_at O5.out) (Same.of_below (bk6.out.trans (hb.mono (by omega))) (fun b hb => by omega))) hr (fun b hb' => by have := hb.size; omega) (fun b hb => hb.2)
  have EQ2 : Hid (∀ (w7 : World) (r : Nat → Value), Below w6.heap.size w6 w7 → Lay.At (fun b => w6.heap.size ≤ b ∧ b < w7.heap.size) w7 a r → Calls Tryz.prog 10 #[.agg #[.slice o0 n0 x0, .slice o1 n1 x1, .slice o2 n2 x2, .slice o3 n3 x3], .agg #[r 0, r 1, r 2, r 3]] w7 fun e w' => e = .returned (.bool true) ∧ Below w7.heap.size w7 w') := by
    have := EQB.out; rw [U0.out, U1.out, U2.out, U3.out] at this; exact this
  clear EQB
  go_wp2_with fail
  go_region_with (first
    | (go_at_call 7; refine (toStuffBook_any S a c _ (by exact H.out _ (below_end k6.out).drew) (fun b hb => by show b < w6.heap.size; have := hS b hb; omega) HM.out).mono ?_; rintro e w7 ⟨r, rfl, G7, hb7⟩; have b67 : Below w6.heap.size w6 w7 := ((Below.refl _ _).drew).trans hb7; have HG7 : Hid (Lay.At (fun b => w6.heap.size ≤ b ∧ b < w7.heap.size) w7 a r) := G7; clear G7; have s7 : w6.heap.size ≤ w7.heap.size := b67.size; have q0 := (b67.cell (p := ⟨w4.heap.size, 0, none⟩) (by show w4.heap.size < w6.heap.size; omega)).trans d0; have q1 := (b67.cell (p := ⟨w4.heap.size, 1, none⟩) (by show w4.heap.size < w6.heap.size; omega)).trans d1; have q2 := (b67.cell (p := ⟨w4.heap.size, 2, none⟩) (by show w4.heap.size < w6.heap.size; omega)).trans d2; have q3 := (b67.cell (p := ⟨w4.heap.size, 3, none⟩) (by show w4.heap.size < w6.heap.size; omega)).trans d3)
    | (go_at_call 10; refine (EQ2.out w7 r b67 HG7.out).mono ?_; rintro e w8 ⟨rfl, hb8⟩))
  all_goals
    have b68 : Hid (Below w6.heap.size w6 w8) := b67.trans (hb8.mono s7)
    have s8 : w6.heap.size ≤ w8.heap.size := b68.out.size
    have k8 : Hid (Below (w.heap.size + 1) (w.alloc (.cells #[c 0, c 1, c 2, c 3] 27)) w8) := below_of k6.out b68.out
    have bk8 : Hid (Below (w4.heap.size + 1) (w4.alloc (.cells #[.slice o0 n0 x0, .slice o1 n1 x1, .slice o2 n2 x2, .slice o3 n3 x3] 36)) w8) := below_of bk6.out b68.out
    have O8 : Hid (Own.On (fun b => w3.heap.size ≤ b ∧ b < w4.heap.size) w8 a g4) := Own.on_same O5.out (Same.of_below bk8.out (fun b hb => by omega))
    have R8 : Hid (Row w8 (w4.heap.size + 1) 9 1 eS r1 (recL a tx)) := Row.below R1.out (b56.out.trans (b68.out.mono s6))
    have b38 : Hid (Below w3.heap.size w3 w8) := b35.out.trans ((b56.out.trans (b68.out.mono s6)).mono (by omega))
    have CB : Hid (Own.cnt a ≤ 2097152) := cnt_book HM.out
    have MK : Hid (Calls Tryz.prog 11 #[.agg #[g4 0, g4 1, g4 2, g4 3], .int .i64 1] w8 fun e w' => e = .returned (.int .i64 (1 + (Own.cnt a : Int))) ∧ Own.On (fun b => w3.heap.size ≤ b ∧ b < w4.heap.size) w' (Own.mkD 1 a) g4 ∧ But (fun b => w3.heap.size ≤ b ∧ b < w4.heap.size) w8 w') := markStuffBook_any _ a g4 1 w8 O8.out (fun b hb => by omega) (by omega) (by have := CB.out; omega)
    have MK2 := MK.out
    rw [U0.out, U1.out, U2.out, U3.out] at MK2
    obtain ⟨ca, hca⟩ : ∃ n, Own.cnt a = n := ⟨_, rfl⟩
    have MK3 : Hid (Calls Tryz.prog 11 #[.agg #[.slice o0 n0 x0, .slice o1 n1 x1, .slice o2 n2 x2, .slice o3 n3 x3], .int .i64 1] w8 fun e w' => e = .returned (.int .i64 (1 + (ca : Int))) ∧ But (fun b => w3.heap.size ≤ b ∧ b < w4.heap.size) w8 w') := Calls.mono MK2 (fun e w' q => ⟨by rw [← hca]; exact q.1, q.2.2⟩)
    have hk9 : ¬ ((1 : Int) + (ca : Int) < 0) := by omega
    have t0 := box_at _ _ bk8.out 0 (.slice o0 n0 x0) rfl
    have t1 := box_at _ _ bk8.out 1 (.slice o1 n1 x1) rfl
    have t2 := box_at _ _ bk8.out 2 (.slice o2 n2 x2) rfl
    have t3 := box_at _ _ bk8.out 3 (.slice o3 n3 x3) rfl
    have CL : Hid (cntL (recL a tx) ≤ 2097152) := by show _ ≤ _; rw [cntL_len]; exact rec_len HM.out
    clear MK MK2 hca CB q0 q1 q2 q3 b67 hb7 hb8 d0 d1 d2 d3 e0 e1 e2 e3 HG7 EQ2 k6 bk6 b35 b56 b68 R1 A1 O5 O8 U0 U1 U2 U3
    go_wp2_with fail
    refine Calls.mono MK3.out ?_
    rintro e w9 ⟨rfl, hbut⟩
    have s9 := hbut.size
    have k9 : Hid (Below (w.heap.size + 1) (w.alloc (.cells #[c 0, c 1, c 2, c 3] 27)) w9) := k8.out.trans (hbut.below (B := w.heap.size + 1) (fun b hb => by omega) (by omega))
    have b39 : Hid (Below w3.heap.size w3 w9) := b38.out.trans (hbut.below (B := w3.heap.size) (fun b hb => hb.1) (by omega))
    have R9 : Hid (Row w9 (w4.heap.size + 1) 9 1 eS r1 (recL a tx)) := Row.block R8.out (fun g hg => hbut.block g (World.ownsRow.lt R8.out g hg).2 (fun hb => by have := (World.ownsRow.lt R8.out g hg).1; omega))
    have A9 : Hid (AtL (fun b => w4.heap.size + 1 ≤ b ∧ b < w9.heap.size) w9 (recL a tx) r1) := flatS.row_at R9.out (fun g hg => World.ownsRow.lt R9.out g hg) (rec_ok HM.out)
    clear hbut MK3 k8 bk8 b38 R8 t0 t1 t2 t3
    go_wp2_with fail
    refine (eqStringS_any _ _ _ _ _ _ A9.out (A0.out _ b39.out) (fun b hb => hb.2) (fun b hb => by omega)).mono ?_
    rintro e w10 ⟨rfl, hb10⟩
    have s10 := hb10.size
    have k10 : Hid (Below (w.heap.size + 1) (w.alloc (.cells #[c 0, c 1, c 2, c 3] 27)) w10) := below_of k9.out hb10
    have b310 : Hid (Below w3.heap.size w3 w10) := b39.out.trans (hb10.mono (by omega))
    have R10 : Hid (Row w10 (w4.heap.size + 1) 9 1 eS r1 (recL a tx)) := Row.below R9.out hb10
    have MS : Hid (Calls Tryz.prog 12 #[r1, .int .i64 1] w10 fun e w' => e = .returned (.int .i64 (1 + (cntL (recL a tx) : Int))) ∧ OnL (fun b => r1.ownBlock = some b) w' (mkL 1 (recL a tx)) r1 ∧ But (fun b => r1.ownBlock = some b) w10 w') := markStringS_any _ (recL a tx) r1 1 w10 (onS R10.out (fun g hg => hg) (rec_ok HM.out)) (fun b hb => (World.ownsRow.lt R10.out b hb).2) (by omega) (by have := CL.out; omega)
    clear hb10 k9 b39 R9 A9
    go_wp2_with fail
    refine Calls.mono MS.out ?_
    rintro e w11 ⟨rfl, hon, hbut⟩
    have s11 := hbut.size
    have lo : ∀ b, r1.ownBlock = some b → w4.heap.size + 1 ≤ b ∧ b < w10.heap.size := fun b hb => World.ownsRow.lt R10.out b hb
    have LO : Hid (∀ b, r1.ownBlock = some b → w4.heap.size + 1 ≤ b ∧ b < w10.heap.size) := lo
    have k11 : Hid (Below (w.heap.size + 1) (w.alloc (.cells #[c 0, c 1, c 2, c 3] 27)) w11) := k10.out.trans (hbut.below (B := w.heap.size + 1) (fun b hb => by have := lo b hb; omega) (by omega))
    have b311 : Hid (Below w3.heap.size w3 w11) := b310.out.trans (hbut.below (B := w3.heap.size) (fun b hb => by have := lo b hb; omega) (by omega))
    have ON : Hid (AtL (fun b => r1.ownBlock = some b) w11 (mkL 1 (recL a tx)) r1) := hon.at_
    have HE : Hid (∀ w', Below w11.heap.size w11 w' → Calls Tryz.prog 13 #[r1, .int .i64 1] w' fun e w'' => e = .returned (.int .i64 (1 + (cntL (recL a tx) : Int))) ∧ Below w'.heap.size w' w'') := fun w' hb => heldStringS_any _ (recL a tx) r1 1 w' (ON.out.same (Same.of_below hb (fun b hb => by have := LO.out b hb; omega))) (fun b hb' => by have := LO.out b hb'; have := hb.size; omega) (by omega) (by have := CL.out; omega)
    clear hon hbut lo MS k10 b310 R10 ON
    obtain ⟨cl, hcl⟩ : ∃ n, cntL (recL a tx) = n := ⟨_, rfl⟩
    rw [hcl] at HE
    rw [hcl]
    clear hcl CL
    have hk11 : ¬ ((1 : Int) + (cl : Int) < 0) := by omega
    go_wp2_with fail
    refine (HE.out w11 (Below.refl _ _)).mono ?_
    rintro e w12 ⟨rfl, hb12⟩
    have b1112 : Hid (Below w11.heap.size w11 w12) := hb12
    have s12 := hb12.size
    have k12 : Hid (Below (w.heap.size + 1) (w.alloc (.cells #[c 0, c 1, c 2, c 3] 27)) w12) := below_of k11.out hb12
    have b312 : Hid (Below w3.heap.size w3 w12) := b311.out.trans (hb12.mono (by omega))
    clear hb12 k11 b311
    have e0 := box_at _ _ k12.out 0 (c 0) rfl
    have e1 := box_at _ _ k12.out 1 (c 1) rfl
    have e2 := box_at _ _ k12.out 2 (c 2) rfl
    have e3 := box_at _ _ k12.out 3 (c 3) rfl
    go_wp2_with fail
    refine (toStuffBook_any S a c _ (H.out _ (below_end k12.out)) (fun b hb => by have := hS b hb; omega) HM.out).mono ?_
    rintro e w13 ⟨g13, rfl, G13, hb13⟩
    have HG13 : Hid (Lay.At (fun b => w12.heap.size ≤ b ∧ b < w13.heap.size) w13 a g13) := G13
    have s13 := hb13.size
    have b1213 : Hid (Below w12.heap.size w12 w13) := hb13
    clear G13 hb13 e0 e1 e2 e3
    go_wp2_with fail
    refine (recI_any _ a g13 tx _ HG13.out (fun b hb => hb.2) HM.out).mono ?_
    rintro e w14 ⟨r2, rfl, hr2, hb14⟩
    have s14 := hb14.size
    have b1214 : Hid (Below w12.heap.size w12 w14) := b1213.out.trans (hb14.mono s13)
    have A14 : Hid (AtL (fun b => w13.heap.size ≤ b ∧ b < w14.heap.size) w14 (recL a tx) r2) := flatS.row_at hr2 (fun g hg => World.ownsRow.lt hr2 g hg) (rec_ok HM.out)
    clear hr2 hb14 HG13 b1213
    go_wp2_with fail
    refine (eqStringS_any _ _ _ _ _ _ A14.out (A0.out _ (b312.out.trans (b1214.out.mono (by omega)))) (fun b hb => hb.2) (fun b hb => by omega)).mono ?_
    rintro e w15 ⟨rfl, hb15⟩
    have b1215 : Hid (Below w12.heap.size w12 w15) := b1214.out.trans (hb15.mono (by omega))
    clear hb15 A14 b1214
    go_wp2_with fail
    refine (HE.out w15 (b1112.out.trans (b1215.out.mono s12))).mono ?_
    rintro e w16 ⟨rfl, hb16⟩
    have s15 := b1215.out.size
    have k16 : Hid (Below (w.heap.size + 1) (w.alloc (.cells #[c 0, c 1, c 2, c 3] 27)) w16) := below_of (below_of k12.out b1215.out) hb16
    go_wp2_with fail
    go_ret
    exact ⟨rfl, below_end k16.out⟩

end Go.Proofs.YthleodbbppgadaaGreat
