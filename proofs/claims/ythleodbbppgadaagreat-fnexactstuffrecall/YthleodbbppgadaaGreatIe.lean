/-
  Contracts of the program's test of a list: not too long, each as it is to be, ascending; at each kind of list of the book.
-/
import Derived.Test.YthleodbbppgadaaGreatIc
import Derived.Test.YthleodbbppgadaaGreatId
namespace Go.Proofs.YthleodbbppgadaaGreat
open Go.RowKit


set_option maxRecDepth 100000 in
set_option maxHeartbeats 4000000 in
theorem listStuffFoe_any (S : Nat → Prop) (v : Value) (l : List DStuffFoe) (lim : Nat) (w : World) (h : AtL S w l v) (hS : ∀ b, S b → b < w.heap.size) :
    Calls Tryz.prog 79 #[v, .int .i64 lim, .func (.func 80) #[] #[], .func (.func 81) #[] #[]] w fun e w' => e = .returned (.bool (okB lim (tst (fun f : DStuffFoe => nameB f.1 && nameB f.2 && ltB f.1 f.2) (fun p f : DStuffFoe => befB p f)) l)) ∧ Below w.heap.size w w' := by
  have H : Hid (AtL S w l v) := h
  obtain ⟨oa, cap, hv, hn, hc⟩ := h
  rw [hv] at H
  subst hv
  obtain ⟨n, en⟩ : ∃ n, l.length = n := ⟨_, rfl⟩
  rw [en] at hn H
  rw [en]
  unfold maxLen at hn
  have HC : Hid _ := hc
  clear hc
  by_cases hl : n ≤ lim
  · have dl : decide (lim < n) = false := by simp; omega
    go_enter Tryz.func79, Tryz.ntmps79
    go_wp2
    go_loopw [17] (fun i wr => ∃ k : Nat, k ≤ n ∧ i = .int .i64 k ∧ Hid (∀ j (hj : j < l.length), j < k → (fun f : DStuffFoe => nameB f.1 && nameB f.2 && ltB f.1 f.2) l[j] = true) ∧ Hid (Below w.heap.size w wr)) (fun i _ => n - (intOf i).toNat)
    case atStart => exact ⟨0, Nat.zero_le _, rfl, fun _ _ h => by omega, Below.refl _ _⟩
    case round =>
      obtain ⟨k, hk, rfl, hall, hbel⟩ := hrel
      have hs := hbel.out.size
      have hSr : ∀ b, S b → b < wr.heap.size := fun b hb => by have := hS b hb; omega
      by_cases hlt : k < n
      · obtain ⟨b, off, rfl, hbS, ce, hcelle, hate⟩ := HC.out k (by omega)
        have hbb := hS b hbS
        have hbw := hbel.out
        rw [width_DStuffFoe] at hcelle
        have e0 : wr.cell? ⟨b, off + k * 2, none⟩ = some (ce 0) := (hbw.cell (p := ⟨b, off + k * 2, none⟩) (by show b < _; omega)).trans (by simpa using hcelle 0 (by omega))
        have e1 : wr.cell? ⟨b, off + k * 2 + 1, none⟩ = some (ce 1) := (hbw.cell (p := ⟨b, off + k * 2 + 1, none⟩) (by show b < _; omega)).trans (by simpa using hcelle 1 (by omega))
        clear hcelle
        have hate := Lay.same hate (Same.of_below hbw hS)
        rw [at_DStuffFoe] at hate
        obtain ⟨ef, eef⟩ : ∃ f, l[k]'(by omega) = f := ⟨_, rfl⟩
        rw [eef] at hate
        obtain ⟨⟨te0, ze0⟩, ⟨te1, ze1⟩⟩ := hate
        rw [te0] at e0
        rw [te1] at e1
        clear te0 te1
        clear hbw
        have hB1 : Hid (Below w.heap.size w (wr.alloc (.cells #[.string ef.1, .string ef.2] 93))) := hbel.out.alloc hs _
        have hP : (fun f : DStuffFoe => nameB f.1 && nameB f.2 && ltB f.1 f.2) (l[k]'(by omega)) = (nameB ef.1 && nameB ef.2 && ltB ef.1 ef.2) := by rw [eef]
        cases hy : (nameB ef.1 && nameB ef.2 && ltB ef.1 ef.2)
        · rw [hy] at hP
          go_wp2_with (go_at_call 81; refine (foeOk_any _ _ _ ze0 ze1).mono ?_; rintro e w1 ⟨rfl, hb1⟩; rw [hy])
          rw [tst_no (k := k) (by omega) hP]
          go_ret
          exact ⟨rfl, hB1.out.trans (hb1.mono hB1.out.size)⟩
        · rw [hy] at hP
          go_wp2_with (go_at_call 81; refine (foeOk_any _ _ _ ze0 ze1).mono ?_; rintro e w1 ⟨rfl, hb1⟩; rw [hy])
          go_roundw
          case rel => exact ⟨k + 1, by omega, by go_num, fun j hj hjk => by
            by_cases e : j = k
            · subst e; exact hP
            · exact hall.out j hj (by omega), hB1.out.trans (hb1.mono hB1.out.size)⟩
          case measure => simp [intOf]; omega
      · go_wp2_with (go_at_call 120; refine (ascStuffFoe_any S _ l _ (H.out.same (Same.of_below hbel.out hS)) hSr).mono ?_; rintro e w1 ⟨rfl, hb1⟩)
        rw [tst_asc (by omega) (fun j hj => hall.out j hj (by omega))]
        go_ret
        exact ⟨rfl, hbel.out.trans (hb1.mono hs)⟩
  · have dl : decide (lim < n) = true := by simp; omega
    rw [ok_long (by omega)]
    go_enter Tryz.func79, Tryz.ntmps79
    go_wp2
    go_ret
    exact ⟨rfl, Below.refl _ _⟩


set_option maxRecDepth 100000 in
set_option maxHeartbeats 4000000 in
theorem listStuffLot_any (S : Nat → Prop) (v : Value) (l : List DStuffLot) (lim : Nat) (w : World) (h : AtL S w l v) (hS : ∀ b, S b → b < w.heap.size) :
    Calls Tryz.prog 83 #[v, .int .i64 lim, .func (.func 84) #[] #[], .func (.func 85) #[] #[]] w fun e w' => e = .returned (.bool (okB lim (tst (fun f : DStuffLot => nameB f.1 && nameB f.2) (fun p f : DStuffLot => ltB p.1 f.1)) l)) ∧ Below w.heap.size w w' := by
  have H : Hid (AtL S w l v) := h
  obtain ⟨oa, cap, hv, hn, hc⟩ := h
  rw [hv] at H
  subst hv
  obtain ⟨n, en⟩ : ∃ n, l.length = n := ⟨_, rfl⟩
  rw [en] at hn H
  rw [en]
  unfold maxLen at hn
  have HC : Hid _ := hc
  clear hc
  by_cases hl : n ≤ lim
  · have dl : decide (lim < n) = false := by simp; omega
    go_enter Tryz.func83, Tryz.ntmps83
    go_wp2
    go_loopw [17] (fun i wr => ∃ k : Nat, k ≤ n ∧ i = .int .i64 k ∧ Hid (∀ j (hj : j < l.length), j < k → (fun f : DStuffLot => nameB f.1 && nameB f.2) l[j] = true) ∧ Hid (Below w.heap.size w wr)) (fun i _ => n - (intOf i).toNat)
    case atStart => exact ⟨0, Nat.zero_le _, rfl, fun _ _ h => by omega, Below.refl _ _⟩
    case round =>
      obtain ⟨k, hk, rfl, hall, hbel⟩ := hrel
      have hs := hbel.out.size
      have hSr : ∀ b, S b → b < wr.heap.size := fun b hb => by have := hS b hb; omega
      by_cases hlt : k < n
      · obtain ⟨b, off, rfl, hbS, ce, hcelle, hate⟩ := HC.out k (by omega)
        have hbb := hS b hbS
        have hbw := hbel.out
        rw [width_DStuffLot] at hcelle
        have e0 : wr.cell? ⟨b, off + k * 2, none⟩ = some (ce 0) := (hbw.cell (p := ⟨b, off + k * 2, none⟩) (by show b < _; omega)).trans (by simpa using hcelle 0 (by omega))
        have e1 : wr.cell? ⟨b, off + k * 2 + 1, none⟩ = some (ce 1) := (hbw.cell (p := ⟨b, off + k * 2 + 1, none⟩) (by show b < _; omega)).trans (by simpa using hcelle 1 (by omega))
        clear hcelle
        have hate := Lay.same hate (Same.of_below hbw hS)
        rw [at_DStuffLot] at hate
        obtain ⟨ef, eef⟩ : ∃ f, l[k]'(by omega) = f := ⟨_, rfl⟩
        rw [eef] at hate
        obtain ⟨⟨te0, ze0⟩, ⟨te1, ze1⟩⟩ := hate
        rw [te0] at e0
        rw [te1] at e1
        clear te0 te1
        clear hbw
        have hB1 : Hid (Below w.heap.size w (wr.alloc (.cells #[.string ef.1, .string ef.2] 95))) := hbel.out.alloc hs _
        have hP : (fun f : DStuffLot => nameB f.1 && nameB f.2) (l[k]'(by omega)) = (nameB ef.1 && nameB ef.2) := by rw [eef]
        cases hy : (nameB ef.1 && nameB ef.2)
        · rw [hy] at hP
          go_wp2_with (go_at_call 85; refine (lotOk_any _ _ _ ze0 ze1).mono ?_; rintro e w1 ⟨rfl, hb1⟩; rw [hy])
          rw [tst_no (k := k) (by omega) hP]
          go_ret
          exact ⟨rfl, hB1.out.trans (hb1.mono hB1.out.size)⟩
        · rw [hy] at hP
          go_wp2_with (go_at_call 85; refine (lotOk_any _ _ _ ze0 ze1).mono ?_; rintro e w1 ⟨rfl, hb1⟩; rw [hy])
          go_roundw
          case rel => exact ⟨k + 1, by omega, by go_num, fun j hj hjk => by
            by_cases e : j = k
            · subst e; exact hP
            · exact hall.out j hj (by omega), hB1.out.trans (hb1.mono hB1.out.size)⟩
          case measure => simp [intOf]; omega
      · go_wp2_with (go_at_call 124; refine (ascStuffLot_any S _ l _ (H.out.same (Same.of_below hbel.out hS)) hSr).mono ?_; rintro e w1 ⟨rfl, hb1⟩)
        rw [tst_asc (by omega) (fun j hj => hall.out j hj (by omega))]
        go_ret
        exact ⟨rfl, hbel.out.trans (hb1.mono hs)⟩
  · have dl : decide (lim < n) = true := by simp; omega
    rw [ok_long (by omega)]
    go_enter Tryz.func83, Tryz.ntmps83
    go_wp2
    go_ret
    exact ⟨rfl, Below.refl _ _⟩


set_option maxRecDepth 100000 in
set_option maxHeartbeats 4000000 in
theorem listStuffVessel_any (S : Nat → Prop) (v : Value) (l : List DStuffVessel) (lim : Nat) (w : World) (h : AtL S w l v) (hS : ∀ b, S b → b < w.heap.size) :
    Calls Tryz.prog 86 #[v, .int .i64 lim, .func (.func 87) #[] #[], .func (.func 88) #[] #[]] w fun e w' => e = .returned (.bool (okB lim (tst (fun f : DStuffVessel => nameB f.1 && inB f.2.1 1 1000) (fun p f : DStuffVessel => ltB p.1 f.1)) l)) ∧ Below w.heap.size w w' := by
  have H : Hid (AtL S w l v) := h
  obtain ⟨oa, cap, hv, hn, hc⟩ := h
  rw [hv] at H
  subst hv
  obtain ⟨n, en⟩ : ∃ n, l.length = n := ⟨_, rfl⟩
  rw [en] at hn H
  rw [en]
  unfold maxLen at hn
  have HC : Hid _ := hc
  clear hc
  by_cases hl : n ≤ lim
  · have dl : decide (lim < n) = false := by simp; omega
    go_enter Tryz.func86, Tryz.ntmps86
    go_wp2
    go_loopw [17] (fun i wr => ∃ k : Nat, k ≤ n ∧ i = .int .i64 k ∧ Hid (∀ j (hj : j < l.length), j < k → (fun f : DStuffVessel => nameB f.1 && inB f.2.1 1 1000) l[j] = true) ∧ Hid (Below w.heap.size w wr)) (fun i _ => n - (intOf i).toNat)
    case atStart => exact ⟨0, Nat.zero_le _, rfl, fun _ _ h => by omega, Below.refl _ _⟩
    case round =>
      obtain ⟨k, hk, rfl, hall, hbel⟩ := hrel
      have hs := hbel.out.size
      have hSr : ∀ b, S b → b < wr.heap.size := fun b hb => by have := hS b hb; omega
      by_cases hlt : k < n
      · obtain ⟨b, off, rfl, hbS, ce, hcelle, hate⟩ := HC.out k (by omega)
        have hbb := hS b hbS
        have hbw := hbel.out
        rw [width_DStuffVessel] at hcelle
        have e0 : wr.cell? ⟨b, off + k * 4, none⟩ = some (ce 0) := (hbw.cell (p := ⟨b, off + k * 4, none⟩) (by show b < _; omega)).trans (by simpa using hcelle 0 (by omega))
        have e1 : wr.cell? ⟨b, off + k * 4 + 1, none⟩ = some (ce 1) := (hbw.cell (p := ⟨b, off + k * 4 + 1, none⟩) (by show b < _; omega)).trans (by simpa using hcelle 1 (by omega))
        have e2 : wr.cell? ⟨b, off + k * 4 + 2, none⟩ = some (ce 2) := (hbw.cell (p := ⟨b, off + k * 4 + 2, none⟩) (by show b < _; omega)).trans (by simpa using hcelle 2 (by omega))
        have e3 : wr.cell? ⟨b, off + k * 4 + 3, none⟩ = some (ce 3) := (hbw.cell (p := ⟨b, off + k * 4 + 3, none⟩) (by show b < _; omega)).trans (by simpa using hcelle 3 (by omega))
        clear hcelle
        have hate := Lay.same hate (Same.of_below hbw hS)
        rw [at_DStuffVessel] at hate
        obtain ⟨ef, eef⟩ : ∃ f, l[k]'(by omega) = f := ⟨_, rfl⟩
        rw [eef] at hate
        obtain ⟨⟨te0, ze0⟩, ⟨te1, zle1, zhe1⟩, le2, le3⟩ := hate
        obtain ⟨soe2, sce2, te2, _⟩ := id le2
        clear le2
        obtain ⟨soe3, sce3, te3, _⟩ := id le3
        clear le3
        rw [te0] at e0
        rw [te1] at e1
        rw [te2] at e2
        rw [te3] at e3
        clear te0 te1 te2 te3
        clear hbw
        have hB1 : Hid (Below w.heap.size w (wr.alloc (.cells #[.string ef.1, .int .i64 ef.2.1, .slice soe2 ef.2.2.1.length sce2, .slice soe3 ef.2.2.2.length sce3] 53))) := hbel.out.alloc hs _
        have hP : (fun f : DStuffVessel => nameB f.1 && inB f.2.1 1 1000) (l[k]'(by omega)) = (nameB ef.1 && inB ef.2.1 1 1000) := by rw [eef]
        cases hy : (nameB ef.1 && inB ef.2.1 1 1000)
        · rw [hy] at hP
          go_wp2_with (go_at_call 88; refine (vesOk_any _ _ _ _ _ ze0).mono ?_; rintro e w1 ⟨rfl, hb1⟩; rw [hy])
          rw [tst_no (k := k) (by omega) hP]
          go_ret
          exact ⟨rfl, hB1.out.trans (hb1.mono hB1.out.size)⟩
        · rw [hy] at hP
          go_wp2_with (go_at_call 88; refine (vesOk_any _ _ _ _ _ ze0).mono ?_; rintro e w1 ⟨rfl, hb1⟩; rw [hy])
          go_roundw
          case rel => exact ⟨k + 1, by omega, by go_num, fun j hj hjk => by
            by_cases e : j = k
            · subst e; exact hP
            · exact hall.out j hj (by omega), hB1.out.trans (hb1.mono hB1.out.size)⟩
          case measure => simp [intOf]; omega
      · go_wp2_with (go_at_call 125; refine (ascStuffVessel_any S _ l _ (H.out.same (Same.of_below hbel.out hS)) hSr).mono ?_; rintro e w1 ⟨rfl, hb1⟩)
        rw [tst_asc (by omega) (fun j hj => hall.out j hj (by omega))]
        go_ret
        exact ⟨rfl, hbel.out.trans (hb1.mono hs)⟩
  · have dl : decide (lim < n) = true := by simp; omega
    rw [ok_long (by omega)]
    go_enter Tryz.func86, Tryz.ntmps86
    go_wp2
    go_ret
    exact ⟨rfl, Below.refl _ _⟩


set_option maxRecDepth 100000 in
set_option maxHeartbeats 4000000 in
theorem listStuffOut_any (S : Nat → Prop) (nb : Nat) (v0 v1 v2 v3 : Value) (lots : List DStuffLot) (ves : List DStuffVessel) (v : Value) (l : List DStuffOut) (lim : Nat) (w : World) (h : AtL S w l v) (hS : ∀ b, S b → b < w.heap.size) (hK : CapBook S w nb v0 v1 v2 v3 lots ves) :
    Calls Tryz.prog 89 #[v, .int .i64 lim, .func (.func 90) #[] #[], .func (.func 91) #[] #[.pointer (some ⟨nb, 0, none⟩)]] w fun e w' => e = .returned (.bool (okB lim (tst (fun f : DStuffOut => nameB f.1 && !decide (0 ≤ idxI ves (fun p : DStuffVessel => eqB p.1 f.1))) (fun p f : DStuffOut => ltB p.1 f.1)) l)) ∧ Below w.heap.size w w' := by
  have H : Hid (AtL S w l v) := h
  obtain ⟨oa, cap, hv, hn, hc⟩ := h
  rw [hv] at H
  subst hv
  obtain ⟨n, en⟩ : ∃ n, l.length = n := ⟨_, rfl⟩
  rw [en] at hn H
  rw [en]
  unfold maxLen at hn
  have HC : Hid _ := hc
  clear hc
  have HK : Hid (CapBook S w nb v0 v1 v2 v3 lots ves) := hK
  clear hK
  by_cases hl : n ≤ lim
  · have dl : decide (lim < n) = false := by simp; omega
    go_enter Tryz.func89, Tryz.ntmps89
    go_wp2
    go_loopw [17] (fun i wr => ∃ k : Nat, k ≤ n ∧ i = .int .i64 k ∧ Hid (∀ j (hj : j < l.length), j < k → (fun f : DStuffOut => nameB f.1 && !decide (0 ≤ idxI ves (fun p : DStuffVessel => eqB p.1 f.1))) l[j] = true) ∧ Hid (Below w.heap.size w wr)) (fun i _ => n - (intOf i).toNat)
    case atStart => exact ⟨0, Nat.zero_le _, rfl, fun _ _ h => by omega, Below.refl _ _⟩
    case round =>
      obtain ⟨k, hk, rfl, hall, hbel⟩ := hrel
      have hs := hbel.out.size
      have hSr : ∀ b, S b → b < wr.heap.size := fun b hb => by have := hS b hb; omega
      by_cases hlt : k < n
      · obtain ⟨b, off, rfl, hbS, ce, hcelle, hate⟩ := HC.out k (by omega)
        have hbb := hS b hbS
        have hbw := hbel.out
        rw [width_DStuffOut] at hcelle
        have e0 : wr.cell? ⟨b, off + k * 3, none⟩ = some (ce 0) := (hbw.cell (p := ⟨b, off + k * 3, none⟩) (by show b < _; omega)).trans (by simpa using hcelle 0 (by omega))
        have e1 : wr.cell? ⟨b, off + k * 3 + 1, none⟩ = some (ce 1) := (hbw.cell (p := ⟨b, off + k * 3 + 1, none⟩) (by show b < _; omega)).trans (by simpa using hcelle 1 (by omega))
        have e2 : wr.cell? ⟨b, off + k * 3 + 2, none⟩ = some (ce 2) := (hbw.cell (p := ⟨b, off + k * 3 + 2, none⟩) (by show b < _; omega)).trans (by simpa using hcelle 2 (by omega))
        clear hcelle
        have hate := Lay.same hate (Same.of_below hbw hS)
        rw [at_DStuffOut] at hate
        obtain ⟨ef, eef⟩ : ∃ f, l[k]'(by omega) = f := ⟨_, rfl⟩
        rw [eef] at hate
        obtain ⟨⟨te0, ze0⟩, le1, le2⟩ := hate
        obtain ⟨soe1, sce1, te1, _⟩ := id le1
        clear le1
        obtain ⟨soe2, sce2, te2, _⟩ := id le2
        clear le2
        rw [te0] at e0
        rw [te1] at e1
        rw [te2] at e2
        clear te0 te1 te2
        clear hbw
        have hB1 : Hid (Below w.heap.size w (wr.alloc (.cells #[.string ef.1, .slice soe1 ef.2.1.length sce1, .slice soe2 ef.2.2.length sce2] 55))) := hbel.out.alloc hs _
        have KA : Hid (CapBook S (wr.alloc (.cells #[.string ef.1, .slice soe1 ef.2.1.length sce1, .slice soe2 ef.2.2.length sce2] 55)) nb v0 v1 v2 v3 lots ves) := HK.out.below hB1.out (Nat.le_refl _)
        have hP : (fun f : DStuffOut => nameB f.1 && !decide (0 ≤ idxI ves (fun p : DStuffVessel => eqB p.1 f.1))) (l[k]'(by omega)) = (nameB ef.1 && !decide (0 ≤ idxI ves (fun p : DStuffVessel => eqB p.1 ef.1))) := by rw [eef]
        cases hy : (nameB ef.1 && !decide (0 ≤ idxI ves (fun p : DStuffVessel => eqB p.1 ef.1)))
        · rw [hy] at hP
          go_wp2_with (go_at_call 91; refine (outOk_any S _ _ _ nb v0 v1 v2 v3 lots ves _ KA.out ze0).mono ?_; rintro e w1 ⟨rfl, hb1⟩; rw [hy])
          rw [tst_no (k := k) (by omega) hP]
          go_ret
          exact ⟨rfl, hB1.out.trans (hb1.mono hB1.out.size)⟩
        · rw [hy] at hP
          go_wp2_with (go_at_call 91; refine (outOk_any S _ _ _ nb v0 v1 v2 v3 lots ves _ KA.out ze0).mono ?_; rintro e w1 ⟨rfl, hb1⟩; rw [hy])
          go_roundw
          case rel => exact ⟨k + 1, by omega, by go_num, fun j hj hjk => by
            by_cases e : j = k
            · subst e; exact hP
            · exact hall.out j hj (by omega), hB1.out.trans (hb1.mono hB1.out.size)⟩
          case measure => simp [intOf]; omega
      · go_wp2_with (go_at_call 126; refine (ascStuffOut_any S _ l _ (H.out.same (Same.of_below hbel.out hS)) hSr).mono ?_; rintro e w1 ⟨rfl, hb1⟩)
        rw [tst_asc (by omega) (fun j hj => hall.out j hj (by omega))]
        go_ret
        exact ⟨rfl, hbel.out.trans (hb1.mono hs)⟩
  · have dl : decide (lim < n) = true := by simp; omega
    rw [ok_long (by omega)]
    go_enter Tryz.func89, Tryz.ntmps89
    go_wp2
    go_ret
    exact ⟨rfl, Below.refl _ _⟩


set_option maxRecDepth 100000 in
set_option maxHeartbeats 4000000 in
theorem listStuffPart_any (S : Nat → Prop) (nb : Nat) (vm : Value) (may : List ByteArray) (v : Value) (l : List DStuffPart) (lim : Nat) (w : World) (h : AtL S w l v) (hS : ∀ b, S b → b < w.heap.size) (hK : CapMay S w nb vm may) :
    Calls Tryz.prog 134 #[v, .int .i64 lim, .func (.func 112) #[] #[], .func (.func 135) #[] #[.pointer (some ⟨nb, 0, none⟩)]] w fun e w' => e = .returned (.bool (okB lim (tst (fun f : DStuffPart => inB f.2 1 1000 && hasB may f.1) (fun p f : DStuffPart => ltB p.1 f.1)) l)) ∧ Below w.heap.size w w' := by
  have H : Hid (AtL S w l v) := h
  obtain ⟨oa, cap, hv, hn, hc⟩ := h
  rw [hv] at H
  subst hv
  obtain ⟨n, en⟩ : ∃ n, l.length = n := ⟨_, rfl⟩
  rw [en] at hn H
  rw [en]
  unfold maxLen at hn
  have HC : Hid _ := hc
  clear hc
  have HK : Hid (CapMay S w nb vm may) := hK
  clear hK
  by_cases hl : n ≤ lim
  · have dl : decide (lim < n) = false := by simp; omega
    go_enter Tryz.func134, Tryz.ntmps134
    go_wp2
    go_loopw [17] (fun i wr => ∃ k : Nat, k ≤ n ∧ i = .int .i64 k ∧ Hid (∀ j (hj : j < l.length), j < k → (fun f : DStuffPart => inB f.2 1 1000 && hasB may f.1) l[j] = true) ∧ Hid (Below w.heap.size w wr)) (fun i _ => n - (intOf i).toNat)
    case atStart => exact ⟨0, Nat.zero_le _, rfl, fun _ _ h => by omega, Below.refl _ _⟩
    case round =>
      obtain ⟨k, hk, rfl, hall, hbel⟩ := hrel
      have hs := hbel.out.size
      have hSr : ∀ b, S b → b < wr.heap.size := fun b hb => by have := hS b hb; omega
      by_cases hlt : k < n
      · obtain ⟨b, off, rfl, hbS, ce, hcelle, hate⟩ := HC.out k (by omega)
        have hbb := hS b hbS
        have hbw := hbel.out
        rw [width_DStuffPart] at hcelle
        have e0 : wr.cell? ⟨b, off + k * 2, none⟩ = some (ce 0) := (hbw.cell (p := ⟨b, off + k * 2, none⟩) (by show b < _; omega)).trans (by simpa using hcelle 0 (by omega))
        have e1 : wr.cell? ⟨b, off + k * 2 + 1, none⟩ = some (ce 1) := (hbw.cell (p := ⟨b, off + k * 2 + 1, none⟩) (by show b < _; omega)).trans (by simpa using hcelle 1 (by omega))
        clear hcelle
        have hate := Lay.same hate (Same.of_below hbw hS)
        rw [at_DStuffPart] at hate
        obtain ⟨ef, eef⟩ : ∃ f, l[k]'(by omega) = f := ⟨_, rfl⟩
        rw [eef] at hate
        obtain ⟨⟨te0, ze0⟩, ⟨te1, zle1, zhe1⟩⟩ := hate
        rw [te0] at e0
        rw [te1] at e1
        clear te0 te1
        clear hbw
        have hB1 : Hid (Below w.heap.size w (wr.alloc (.cells #[.string ef.1, .int .i64 ef.2] 107))) := hbel.out.alloc hs _
        have KA : Hid (CapMay S (wr.alloc (.cells #[.string ef.1, .int .i64 ef.2] 107)) nb vm may) := HK.out.below hB1.out (Nat.le_refl _)
        have hP : (fun f : DStuffPart => inB f.2 1 1000 && hasB may f.1) (l[k]'(by omega)) = (inB ef.2 1 1000 && hasB may ef.1) := by rw [eef]
        cases hy : (inB ef.2 1 1000 && hasB may ef.1)
        · rw [hy] at hP
          go_wp2_with (go_at_call 135; refine (partOk_any S _ _ nb vm may _ KA.out).mono ?_; rintro e w1 ⟨rfl, hb1⟩; rw [hy])
          rw [tst_no (k := k) (by omega) hP]
          go_ret
          exact ⟨rfl, hB1.out.trans (hb1.mono hB1.out.size)⟩
        · rw [hy] at hP
          go_wp2_with (go_at_call 135; refine (partOk_any S _ _ nb vm may _ KA.out).mono ?_; rintro e w1 ⟨rfl, hb1⟩; rw [hy])
          go_roundw
          case rel => exact ⟨k + 1, by omega, by go_num, fun j hj hjk => by
            by_cases e : j = k
            · subst e; exact hP
            · exact hall.out j hj (by omega), hB1.out.trans (hb1.mono hB1.out.size)⟩
          case measure => simp [intOf]; omega
      · go_wp2_with (go_at_call 148; refine (ascStuffPart_any S _ l _ (H.out.same (Same.of_below hbel.out hS)) hSr).mono ?_; rintro e w1 ⟨rfl, hb1⟩)
        rw [tst_asc (by omega) (fun j hj => hall.out j hj (by omega))]
        go_ret
        exact ⟨rfl, hbel.out.trans (hb1.mono hs)⟩
  · have dl : decide (lim < n) = true := by simp; omega
    rw [ok_long (by omega)]
    go_enter Tryz.func134, Tryz.ntmps134
    go_wp2
    go_ret
    exact ⟨rfl, Below.refl _ _⟩


set_option maxRecDepth 100000 in
set_option maxHeartbeats 4000000 in
theorem liststring_any (S : Nat → Prop) (nb : Nat) (v0 v1 v2 v3 : Value) (lots : List DStuffLot) (ves : List DStuffVessel) (v : Value) (l : List ByteArray) (lim : Nat) (w : World) (h : AtL S w l v) (hS : ∀ b, S b → b < w.heap.size) (hK : CapBook S w nb v0 v1 v2 v3 lots ves) :
    Calls Tryz.prog 132 #[v, .int .i64 lim, .func (.func 122) #[] #[], .func (.func 130) #[] #[.pointer (some ⟨nb, 0, none⟩)]] w fun e w' => e = .returned (.bool (okB lim (tst (fun f : ByteArray => decide (0 ≤ idxI lots (fun p : DStuffLot => eqB p.1 f))) (fun p f : ByteArray => ltB p f)) l)) ∧ Below w.heap.size w w' := by
  have H : Hid (AtL S w l v) := h
  obtain ⟨oa, cap, hv, hn, hc⟩ := h
  rw [hv] at H
  subst hv
  obtain ⟨n, en⟩ : ∃ n, l.length = n := ⟨_, rfl⟩
  rw [en] at hn H
  rw [en]
  unfold maxLen at hn
  have HC : Hid _ := hc
  clear hc
  have HK : Hid (CapBook S w nb v0 v1 v2 v3 lots ves) := hK
  clear hK
  by_cases hl : n ≤ lim
  · have dl : decide (lim < n) = false := by simp; omega
    go_enter Tryz.func132, Tryz.ntmps132
    go_wp2
    go_loopw [17] (fun i wr => ∃ k : Nat, k ≤ n ∧ i = .int .i64 k ∧ Hid (∀ j (hj : j < l.length), j < k → (fun f : ByteArray => decide (0 ≤ idxI lots (fun p : DStuffLot => eqB p.1 f))) l[j] = true) ∧ Hid (Below w.heap.size w wr)) (fun i _ => n - (intOf i).toNat)
    case atStart => exact ⟨0, Nat.zero_le _, rfl, fun _ _ h => by omega, Below.refl _ _⟩
    case round =>
      obtain ⟨k, hk, rfl, hall, hbel⟩ := hrel
      have hs := hbel.out.size
      have hSr : ∀ b, S b → b < wr.heap.size := fun b hb => by have := hS b hb; omega
      by_cases hlt : k < n
      · obtain ⟨b, off, rfl, hbS, ce, hcelle, hate⟩ := HC.out k (by omega)
        have hbb := hS b hbS
        have hbw := hbel.out
        rw [width_str] at hcelle
        have e0 : wr.cell? ⟨b, off + k, none⟩ = some (ce 0) := (hbw.cell (p := ⟨b, off + k, none⟩) (by show b < _; omega)).trans (by simpa using hcelle 0 (by omega))
        clear hcelle
        have hate := Lay.same hate (Same.of_below hbw hS)
        rw [at_str] at hate
        obtain ⟨ef, eef⟩ : ∃ f, l[k]'(by omega) = f := ⟨_, rfl⟩
        rw [eef] at hate
        obtain ⟨te0, ze0⟩ := hate
        rw [te0] at e0
        clear te0
        clear hbw
        have hB1 : Hid (Below w.heap.size w wr) := hbel
        have KA : Hid (CapBook S wr nb v0 v1 v2 v3 lots ves) := HK.out.below hB1.out (Nat.le_refl _)
        have hP : (fun f : ByteArray => decide (0 ≤ idxI lots (fun p : DStuffLot => eqB p.1 f))) (l[k]'(by omega)) = (decide (0 ≤ idxI lots (fun p : DStuffLot => eqB p.1 ef))) := by rw [eef]
        cases hy : (decide (0 ≤ idxI lots (fun p : DStuffLot => eqB p.1 ef)))
        · rw [hy] at hP
          go_wp2_with (go_at_call 130; refine (isLot_any S _ nb v0 v1 v2 v3 lots ves _ KA.out).mono ?_; rintro e w1 ⟨rfl, hb1⟩; rw [hy])
          rw [tst_no (k := k) (by omega) hP]
          go_ret
          exact ⟨rfl, hB1.out.trans (hb1.mono hB1.out.size)⟩
        · rw [hy] at hP
          go_wp2_with (go_at_call 130; refine (isLot_any S _ nb v0 v1 v2 v3 lots ves _ KA.out).mono ?_; rintro e w1 ⟨rfl, hb1⟩; rw [hy])
          go_roundw
          case rel => exact ⟨k + 1, by omega, by go_num, fun j hj hjk => by
            by_cases e : j = k
            · subst e; exact hP
            · exact hall.out j hj (by omega), hB1.out.trans (hb1.mono hB1.out.size)⟩
          case measure => simp [intOf]; omega
      · go_wp2_with (go_at_call 145; refine (ascstring_any S _ l _ (H.out.same (Same.of_below hbel.out hS)) hSr).mono ?_; rintro e w1 ⟨rfl, hb1⟩)
        rw [tst_asc (by omega) (fun j hj => hall.out j hj (by omega))]
        go_ret
        exact ⟨rfl, hbel.out.trans (hb1.mono hs)⟩
  · have dl : decide (lim < n) = true := by simp; omega
    rw [ok_long (by omega)]
    go_enter Tryz.func132, Tryz.ntmps132
    go_wp2
    go_ret
    exact ⟨rfl, Below.refl _ _⟩


end Go.Proofs.YthleodbbppgadaaGreat
