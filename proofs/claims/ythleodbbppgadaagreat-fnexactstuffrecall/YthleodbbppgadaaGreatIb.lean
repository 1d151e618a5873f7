/-
  Contracts of the program's searches in the lists of the book: where a vessel or a lot stands, whether a text is among some.
-/
import Derived.Test.YthleodbbppgadaaGreatIa
namespace Go.Proofs.YthleodbbppgadaaGreat
open Go.RowKit

theorem eqB_comm (a b : ByteArray) : eqB a b = eqB b a := by
  simp only [eqB]; rw [Bool.eq_iff_iff, beq_iff_eq, beq_iff_eq]; exact eq_comm
theorem idx_has (l : List ByteArray) (x : ByteArray) : decide (0 ≤ idxI l (fun f => eqB f x)) = hasB l x := by
  cases h : hasB l x
  · have hn : ∀ j (hj : j < l.length), eqB l[j] x = false := fun j hj => by
      have := (List.any_eq_false.1 h) _ (List.getElem_mem hj)
      simpa using this
    rw [idx_no hn]; decide
  · obtain ⟨y, hy, hp⟩ := List.any_eq_true.1 h
    have : l.findIdx? (fun f => eqB f x) ≠ none := by
      rw [ne_eq, List.findIdx?_eq_none_iff]
      intro h'
      have := h' y hy
      rw [hp] at this; cases this
    unfold idxI
    cases e : l.findIdx? (fun f => eqB f x) with
    | none => exact absurd e this
    | some i => simp

set_option maxRecDepth 100000 in
set_option maxHeartbeats 4000000 in
theorem index_any (S : Nat → Prop) (v : Value) (l : List ByteArray) (x : ByteArray) (w : World) (h : AtL S w l v) :
    Calls Tryz.prog 96 #[v, .string x] w fun e w' => e = .returned (.int .i64 (idxI l (fun f => eqB f x))) ∧ w' = w := by
  obtain ⟨oa, cap, rfl, hn, hc⟩ := h
  obtain ⟨n, en⟩ : ∃ n, l.length = n := ⟨_, rfl⟩
  rw [en] at hn
  rw [en]
  unfold maxLen at hn
  have HC : Hid _ := hc
  clear hc
  go_enter Tryz.func96, Tryz.ntmps96
  go_wp2
  go_loop [8] (fun i => ∃ k : Nat, k ≤ n ∧ i = .int .i64 k ∧ Hid (∀ j (hj : j < l.length), j < k → eqB l[j] x = false)) (fun i => n - (intOf i).toNat)
  case atStart => exact ⟨0, Nat.zero_le _, rfl, fun _ _ h => by omega⟩
  case round =>
    obtain ⟨k, hk, rfl, hno⟩ := hrel
    by_cases hlt : k < n
    · obtain ⟨b, off, rfl, _, cc, hcell, hat⟩ := HC.out k (by omega)
      rw [width_str] at hcell
      have hcell := hcell 0 (by omega)
      rw [Nat.mul_one, Nat.add_zero] at hcell
      rw [at_str] at hat
      rw [hat.1] at hcell
      go_wp2
      · have hy : (x.toList == (l[k]'(by omega)).toList) = true := by assumption
        rw [idx_yes (k := k) (by omega) (by rw [eqB_comm]; exact hy) hno.out]
        go_ret
        exact ⟨rfl, rfl⟩
      · have hy : (x.toList == (l[k]'(by omega)).toList) = false := by assumption
        go_round
        case rel => exact ⟨k + 1, by omega, by go_num, fun j hj hjk => by
          by_cases e : j = k
          · subst e; rw [eqB_comm]; exact hy
          · exact hno.out j hj (by omega)⟩
        case measure => simp [intOf]; omega
    · go_wp2
      go_ret
      rw [idx_no (fun j hj => hno.out j hj (by omega))]
      exact ⟨rfl, rfl⟩

set_option maxRecDepth 100000 in
set_option maxHeartbeats 4000000 in
theorem hasI_any (S : Nat → Prop) (v : Value) (l : List ByteArray) (x : ByteArray) (w : World) (h : AtL S w l v) :
    Calls Tryz.prog 60 #[v, .string x] w fun e w' => e = .returned (.bool (hasB l x)) ∧ w' = w := by
  rw [← idx_has]
  go_enter Tryz.func60, Tryz.ntmps60
  go_wp2_with (go_at_call 96; refine (index_any S v l x _ h).mono ?_; rintro e w1 ⟨rfl, rfl⟩)
  go_ret
  exact ⟨rfl, rfl⟩

set_option maxRecDepth 100000 in
set_option maxHeartbeats 4000000 in
theorem lotAtIs_any (a x : ByteArray) (a1 : Value) (nb : Nat) (w : World) (hx : w.cell? ⟨nb, 0, none⟩ = some (.string x)) (hnb : nb < w.heap.size) :
    Calls Tryz.prog 144 #[.agg #[.string a, a1], .pointer (some ⟨nb, 0, none⟩)] w fun e w' => e = .returned (.bool (eqB a x)) ∧ Below w.heap.size w w' := by
  have hx' := fun o => cell_past hx hnb o
  go_enter Tryz.func144, Tryz.ntmps144
  go_wp2
  go_ret
  exact ⟨rfl, (Below.refl _ _).alloc (Nat.le_refl _) _⟩

set_option maxRecDepth 100000 in
set_option maxHeartbeats 4000000 in
theorem lotAtIdx_any (S : Nat → Prop) (v : Value) (l : List DStuffLot) (x : ByteArray) (nb : Nat) (w : World) (h : AtL S w l v) (hS : ∀ b, S b → b < w.heap.size) (hx : w.cell? ⟨nb, 0, none⟩ = some (.string x)) (hnb : nb < w.heap.size) :
    Calls Tryz.prog 143 #[v, .func (.func 144) #[] #[.pointer (some ⟨nb, 0, none⟩)]] w fun e w' => e = .returned (.int .i64 (idxI l (fun p : DStuffLot => eqB p.1 x))) ∧ Below w.heap.size w w' := by
  obtain ⟨oa, cap, rfl, hn, hc⟩ := h
  obtain ⟨n, en⟩ : ∃ n, l.length = n := ⟨_, rfl⟩
  rw [en] at hn
  rw [en]
  unfold maxLen at hn
  have HC : Hid _ := hc
  have HX : Hid _ := hx
  clear hc hx
  go_enter Tryz.func143, Tryz.ntmps143
  go_wp2
  go_loopw [8] (fun i wr => ∃ k : Nat, k ≤ n ∧ i = .int .i64 k ∧ Hid (∀ j (hj : j < l.length), j < k → eqB l[j].1 x = false) ∧ Hid (Below w.heap.size w wr)) (fun i _ => n - (intOf i).toNat)
  case atStart => exact ⟨0, Nat.zero_le _, rfl, fun _ _ h => by omega, Below.refl _ _⟩
  case round =>
    obtain ⟨k, hk, rfl, hno, hbel⟩ := hrel
    have hs := hbel.out.size
    by_cases hlt : k < n
    · obtain ⟨b, off, rfl, hbS, ce, hcelle, hate⟩ := HC.out k (by omega)
      have hbb := hS b hbS
      have hbw := hbel.out
      rw [width_DStuffLot] at hcelle
      have e0 : wr.cell? ⟨b, off + k * 2, none⟩ = some (ce 0) := (hbw.cell (p := ⟨b, off + k * 2, none⟩) (by show b < _; omega)).trans (by simpa using hcelle 0 (by omega))
      have e1 : wr.cell? ⟨b, off + k * 2 + 1, none⟩ = some (ce 1) := (hbw.cell (p := ⟨b, off + k * 2 + 1, none⟩) (by show b < _; omega)).trans (by simpa using hcelle 1 (by omega))
      clear hcelle
      have hate := Lay.same hate (Same.of_below hbw hS)
      rw [at_DStuffLot] at hate
      obtain ⟨ef, eef⟩ : ∃ f, l[k]'(by omega) = f := ⟨_, rfl⟩
      rw [eef] at hate
      obtain ⟨⟨te0, ze0⟩, ⟨te1, ze1⟩⟩ := hate
      rw [te0] at e0
      rw [te1] at e1
      clear te0 te1
      clear hbw
      have HXR : Hid (wr.cell? ⟨nb, 0, none⟩ = some (.string x)) := (hbel.out.cell (p := ⟨nb, 0, none⟩) hnb).trans HX.out
      cases hy : eqB ef.1 x
      · go_wp2_with (go_at_call 144; refine (lotAtIs_any _ x _ nb _ HXR.out (by omega)).mono ?_; rintro e w1 ⟨rfl, hb1⟩; rw [hy])
        go_roundw
        case rel => exact ⟨k + 1, by omega, by go_num, fun j hj hjk => by
          by_cases e : j = k
          · subst e; rw [eef]; exact hy
          · exact hno.out j hj (by omega), hbel.out.trans (hb1.mono hs)⟩
        case measure => simp [intOf]; omega
      · go_wp2_with (go_at_call 144; refine (lotAtIs_any _ x _ nb _ HXR.out (by omega)).mono ?_; rintro e w1 ⟨rfl, hb1⟩; rw [hy])
        rw [idx_yes (k := k) (by omega) (by rw [eef]; exact hy) hno.out]
        go_ret
        exact ⟨rfl, hbel.out.trans (hb1.mono hs)⟩
    · go_wp2
      go_ret
      rw [idx_no (fun j hj => hno.out j hj (by omega))]
      exact ⟨rfl, hbel.out⟩

set_option maxRecDepth 100000 in
set_option maxHeartbeats 4000000 in
theorem lotAtI_any (S : Nat → Prop) (v0 v1 v2 v3 : Value) (l : List DStuffLot) (x : ByteArray) (w : World) (h : AtL S w l v1) (hS : ∀ b, S b → b < w.heap.size) :
    Calls Tryz.prog 131 #[.agg #[v0, v1, v2, v3], .string x] w fun e w' => e = .returned (.int .i64 (idxI l (fun p : DStuffLot => eqB p.1 x))) ∧ Below w.heap.size w w' := by
  have hmf : ∀ (fn : Fn) (first cap : Array Value) (w : World), (Instr.makeFunc fn first cap).run Tryz.prog w = .ok (.func fn first cap) w := fun _ _ _ _ => rfl
  have H : Hid (∀ o1 o2, AtL S ((w.alloc o1).alloc o2) l v1) := fun o1 o2 => h.same (Same.of_below (((Below.refl _ _).alloc (Nat.le_refl _) o1).alloc (by simp) o2) hS)
  have HS : Hid (∀ o1 o2 b, S b → b < ((w.alloc o1).alloc o2).heap.size) := fun o1 o2 b hb => by have := hS b hb; simp; omega
  clear h
  go_enter Tryz.func131, Tryz.ntmps131
  go_wp2_with (go_at_call 143; refine (lotAtIdx_any S v1 l x (w.heap.size + 1) _ (H.out _ _) (HS.out _ _) (by simp) (by simp)).mono ?_; rintro e w1 ⟨rfl, hb1⟩)
  go_ret
  exact ⟨rfl, (((Below.refl _ _).alloc (Nat.le_refl _) _).alloc (by simp) _).trans (hb1.mono (by simp; omega))⟩

set_option maxRecDepth 100000 in
set_option maxHeartbeats 4000000 in
theorem vesselAtIs_any (a x : ByteArray) (a1 a2 a3 : Value) (nb : Nat) (w : World) (hx : w.cell? ⟨nb, 0, none⟩ = some (.string x)) (hnb : nb < w.heap.size) :
    Calls Tryz.prog 128 #[.agg #[.string a, a1, a2, a3], .pointer (some ⟨nb, 0, none⟩)] w fun e w' => e = .returned (.bool (eqB a x)) ∧ Below w.heap.size w w' := by
  have hx' := fun o => cell_past hx hnb o
  go_enter Tryz.func128, Tryz.ntmps128
  go_wp2
  go_ret
  exact ⟨rfl, (Below.refl _ _).alloc (Nat.le_refl _) _⟩

set_option maxRecDepth 100000 in
set_option maxHeartbeats 4000000 in
theorem vesselAtIdx_any (S : Nat → Prop) (v : Value) (l : List DStuffVessel) (x : ByteArray) (nb : Nat) (w : World) (h : AtL S w l v) (hS : ∀ b, S b → b < w.heap.size) (hx : w.cell? ⟨nb, 0, none⟩ = some (.string x)) (hnb : nb < w.heap.size) :
    Calls Tryz.prog 127 #[v, .func (.func 128) #[] #[.pointer (some ⟨nb, 0, none⟩)]] w fun e w' => e = .returned (.int .i64 (idxI l (fun p : DStuffVessel => eqB p.1 x))) ∧ Below w.heap.size w w' := by
  obtain ⟨oa, cap, rfl, hn, hc⟩ := h
  obtain ⟨n, en⟩ : ∃ n, l.length = n := ⟨_, rfl⟩
  rw [en] at hn
  rw [en]
  unfold maxLen at hn
  have HC : Hid _ := hc
  have HX : Hid _ := hx
  clear hc hx
  go_enter Tryz.func127, Tryz.ntmps127
  go_wp2
  go_loopw [8] (fun i wr => ∃ k : Nat, k ≤ n ∧ i = .int .i64 k ∧ Hid (∀ j (hj : j < l.length), j < k → eqB l[j].1 x = false) ∧ Hid (Below w.heap.size w wr)) (fun i _ => n - (intOf i).toNat)
  case atStart => exact ⟨0, Nat.zero_le _, rfl, fun _ _ h => by omega, Below.refl _ _⟩
  case round =>
    obtain ⟨k, hk, rfl, hno, hbel⟩ := hrel
    have hs := hbel.out.size
    by_cases hlt : k < n
    · obtain ⟨b, off, rfl, hbS, ce, hcelle, hate⟩ := HC.out k (by omega)
      have hbb := hS b hbS
      have hbw := hbel.out
      rw [width_DStuffVessel] at hcelle
      have e0 : wr.cell? ⟨b, off + k * 4, none⟩ = some (ce 0) := (hbw.cell (p := ⟨b, off + k * 4, none⟩) (by show b < _; omega)).trans (by simpa using hcelle 0 (by omega))
      have e1 : wr.cell? ⟨b, off + k * 4 + 1, none⟩ = some (ce 1) := (hbw.cell (p := ⟨b, off + k * 4 + 1, none⟩) (by show b < _; omega)).trans (by simpa using hcelle 1 (by omega))
      have e2 : wr.cell? ⟨b, off + k * 4 + 2, none⟩ = some (ce 2) := (hbw.cell (p := ⟨b, off + k * 4 + 2, none⟩) (by show b < _; omega)).trans (by simpa using hcelle 2 (by omega))
      have e3 : wr.cell? ⟨b, off + k * 4 + 3, none⟩ = some (ce 3) := (hbw.cell (p := ⟨b, off + k * 4 + 3, none⟩) (by show b < _; omega)).trans (by simpa using hcelle 3 (by omega))
      clear hcelle
      have hate := Lay.same hate (Same.of_below hbw hS)
      rw [at_DStuffVessel] at hate
      obtain ⟨ef, eef⟩ : ∃ f, l[k]'(by omega) = f := ⟨_, rfl⟩
      rw [eef] at hate
      obtain ⟨⟨te0, ze0⟩, ⟨te1, zle1, zhe1⟩, le2, le3⟩ := hate
      obtain ⟨soe2, sce2, te2, _⟩ := id le2
      clear le2
      obtain ⟨soe3, sce3, te3, _⟩ := id le3
      clear le3
      rw [te0] at e0
      rw [te1] at e1
      rw [te2] at e2
      rw [te3] at e3
      clear te0 te1 te2 te3
      clear hbw
      have HXR : Hid (wr.cell? ⟨nb, 0, none⟩ = some (.string x)) := (hbel.out.cell (p := ⟨nb, 0, none⟩) hnb).trans HX.out
      cases hy : eqB ef.1 x
      · go_wp2_with (go_at_call 128; refine (vesselAtIs_any _ x _ _ _ nb _ HXR.out (by omega)).mono ?_; rintro e w1 ⟨rfl, hb1⟩; rw [hy])
        go_roundw
        case rel => exact ⟨k + 1, by omega, by go_num, fun j hj hjk => by
          by_cases e : j = k
          · subst e; rw [eef]; exact hy
          · exact hno.out j hj (by omega), hbel.out.trans (hb1.mono hs)⟩
        case measure => simp [intOf]; omega
      · go_wp2_with (go_at_call 128; refine (vesselAtIs_any _ x _ _ _ nb _ HXR.out (by omega)).mono ?_; rintro e w1 ⟨rfl, hb1⟩; rw [hy])
        rw [idx_yes (k := k) (by omega) (by rw [eef]; exact hy) hno.out]
        go_ret
        exact ⟨rfl, hbel.out.trans (hb1.mono hs)⟩
    · go_wp2
      go_ret
      rw [idx_no (fun j hj => hno.out j hj (by omega))]
      exact ⟨rfl, hbel.out⟩

set_option maxRecDepth 100000 in
set_option maxHeartbeats 4000000 in
theorem vesselAtI_any (S : Nat → Prop) (v0 v1 v2 v3 : Value) (l : List DStuffVessel) (x : ByteArray) (w : World) (h : AtL S w l v2) (hS : ∀ b, S b → b < w.heap.size) :
    Calls Tryz.prog 92 #[.agg #[v0, v1, v2, v3], .string x] w fun e w' => e = .returned (.int .i64 (idxI l (fun p : DStuffVessel => eqB p.1 x))) ∧ Below w.heap.size w w' := by
  have hmf : ∀ (fn : Fn) (first cap : Array Value) (w : World), (Instr.makeFunc fn first cap).run Tryz.prog w = .ok (.func fn first cap) w := fun _ _ _ _ => rfl
  have H : Hid (∀ o1 o2, AtL S ((w.alloc o1).alloc o2) l v2) := fun o1 o2 => h.same (Same.of_below (((Below.refl _ _).alloc (Nat.le_refl _) o1).alloc (by simp) o2) hS)
  have HS : Hid (∀ o1 o2 b, S b → b < ((w.alloc o1).alloc o2).heap.size) := fun o1 o2 b hb => by have := hS b hb; simp; omega
  clear h
  go_enter Tryz.func92, Tryz.ntmps92
  go_wp2_with (go_at_call 127; refine (vesselAtIdx_any S v2 l x (w.heap.size + 1) _ (H.out _ _) (HS.out _ _) (by simp) (by simp)).mono ?_; rintro e w1 ⟨rfl, hb1⟩)
  go_ret
  exact ⟨rfl, (((Below.refl _ _).alloc (Nat.le_refl _) _).alloc (by simp) _).trans (hb1.mono (by simp; omega))⟩

end Go.Proofs.YthleodbbppgadaaGreat
