/-
  The law FnExactRecSlots, walked: whatever the recipe and the text, the call returns true, and nothing that was there before has turned.
-/
import Derived.Test.YtjogdidccgnhfadXs
import Derived.Test.YtjogdidccgnhfadXws
import Derived.Test.YtjogdidccgnhfadXwt
import Derived.Test.YtjogdidccgnhfadXwe
import Derived.Test.YtjogdidccgnhfadXrm
import Derived.Test.YtjogdidccgnhfadXrh
import Derived.Test.YtjogdidccgnhfadXrk
import Derived.Test.YtjogdidccgnhfadXze
namespace Go.Proofs.Ytjogdidccgnhfad
open Go.RowKit

/-- The slots of a recipe, none if it is not ok. -/
noncomputable def slL (r : List DRecPhase) (x : ByteArray) : List ByteArray := if recB r = true then sltF 12 r x else []
theorem ins_memX : ∀ (l : List ByteArray) (x y : ByteArray), y ∈ insR l x → y = x ∨ y ∈ l
  | [], x, y, h => by simp [insR] at h; exact Or.inl h
  | z :: l, x, y, h => by
    unfold insR at h
    cases h1 : ltB z x
    · cases h2 : eqB z x
      · simp [h1, h2] at h
        rcases h with h | h | h
        · exact Or.inl h
        · exact Or.inr (by simp [h])
        · exact Or.inr (by simp [h])
      · simp [h1, h2] at h
        rcases h with h | h
        · exact Or.inr (by simp [h])
        · exact Or.inr (by simp [h])
    · simp [h1] at h
      rcases h with h | h
      · exact Or.inr (by simp [h])
      · rcases ins_memX l x y h with h | h
        · exact Or.inl h
        · exact Or.inr (by simp [h])
theorem both_mem : ∀ (b a : List ByteArray) (y : ByteArray), y ∈ bothL a b → y ∈ a ∨ y ∈ b
  | [], a, y, h => Or.inl h
  | x :: b, a, y, h => by
    rcases both_mem b (insR a x) y h with h | h
    · rcases ins_memX a x y h with h | h
      · exact Or.inr (by simp [h])
      · exact Or.inl h
    · exact Or.inr (by simp [h])
theorem name_le {s : ByteArray} (h : nameB s = true) : s.size ≤ 8 := by
  unfold nameB at h
  simp only [Bool.and_eq_true, decide_eq_true_eq] at h
  exact h.1.2
theorem ph_args {p : DRecPhase} (h : phaseB p = true) : nameB p.2.2.1 = true ∧ (p.2.1 = 2 → nameB p.2.2.2.1 = true) := by
  refine ⟨(ph_name h).2.2.2, fun e => ?_⟩
  simp only [phaseB, Bool.and_eq_true] at h
  have ha := h.1.1.2
  unfold argsB at ha
  rw [if_neg (by omega), if_pos e] at ha
  simp only [Bool.and_eq_true] at ha
  exact ha.1.1.2
theorem slt_names {r : List DRecPhase} (h : RecP r) : ∀ (n : Nat) (x y : ByteArray), y ∈ sltF n r x → y.size ≤ 8
  | 0, x, y, hy => by simp [sltF] at hy
  | n + 1, x, y, hy => by
    rcases at_cases r x with e | ⟨k, hk, e, _⟩
    · simp [sltF, e] at hy
    · have hx : ¬ (atI r x < 0) := by omega
      have hp := ph_args (step_of h hk).1
      rw [← ph_at hk e] at hp
      simp only [sltF, if_neg hx] at hy
      rcases both_mem _ _ y hy with hy | hy
      · rcases both_mem _ _ y hy with hy | hy
        · unfold ofL at hy
          split at hy
          case isTrue c =>
            rcases ins_memX _ _ y hy with hy | hy
            · rw [hy]; exact name_le (hp.2 c)
            · simp at hy; rw [hy]; exact name_le hp.1
          case isFalse c => simp at hy; rw [hy]; exact name_le hp.1
        · exact slt_names h n _ y hy
      · exact slt_names h n _ y hy
theorem sl_names (r : List DRecPhase) (x y : ByteArray) (hy : y ∈ slL r x) : y.size ≤ maxLen := by
  unfold slL at hy
  split at hy
  case isTrue c => exact Nat.le_trans (slt_names (rec_iff.1 c) 12 x y hy) (by decide)
  case isFalse => simp at hy
theorem sl_len (r : List DRecPhase) (x : ByteArray) : (slL r x).length ≤ 8192 := by
  unfold slL
  split
  · exact slt_small r (Nat.le_refl _) x
  · simp
theorem at_rowX {base : Nat} {w : World} {v : Value} {l : List ByteArray} (h : w.ownsRow base 9 1 v l.length (l.map .string)) (hz : ∀ x ∈ l, x.size ≤ maxLen) (hl : l.length ≤ 8192) : AtL (fun b => base ≤ b ∧ b < w.heap.size) w l v := by
  rcases id h.2 with ⟨e, hn⟩ | ⟨g, cap, cur, e, hb, hg, hc, hm, _, _⟩
  · have hl0 : l = [] := List.eq_nil_of_length_eq_zero hn
    subst hl0
    exact ⟨none, 0, e, ⟨by unfold maxLen; simp, Nat.le_refl _, fun _ => rfl⟩, fun i hi => by simp at hi⟩
  · subst e
    refine ⟨_, cap, rfl, ⟨by unfold maxLen; omega, hc, fun h => nomatch h⟩, fun i hi => ⟨g, 0, rfl, ⟨hb, (Array.getElem?_eq_some_iff.1 hg).1⟩, fun _ => .string l[i], fun j hj => ?_, ?_⟩⟩
    · rw [width_str] at hj ⊢
      have ej : j = 0 := by omega
      subst ej
      have := (own_cells h).2 i hi
      rw [Nat.zero_add, Nat.mul_one, Nat.add_zero, this]
      simp [nthB, hi]
    · rw [at_str]
      exact ⟨rfl, hz _ (List.getElem_mem hi)⟩
theorem cnt_le {α : Type} [Own α] (K : Nat) : ∀ l : List α, (∀ x ∈ l, Own.cnt x ≤ K) → cntL l ≤ K * l.length
  | [], _ => by simp [cntL, cntTo]
  | x :: l, h => by
    have h1 := h x List.mem_cons_self
    have h2 := cnt_le K l (fun y hy => h y (List.mem_cons_of_mem _ hy))
    have e1 : cntL (x :: l) = Own.cnt x + cntL l := by simp [cntL, cntTo]
    rw [e1, List.length_cons, Nat.mul_add]
    omega

set_option maxRecDepth 100000 in
set_option maxHeartbeats 8000000 in
theorem laws_any (PI : ∀ (S : Nat → Prop) (r : List DRecPhase) (v : Value) (x : ByteArray) (w : World), AtL S w r v → (∀ b, S b → b < w.heap.size) → totL r ≤ 1048576 → x.size ≤ 1048576 → Calls Try.prog 7 #[v, .string x] w fun e w' => ∃ q, e = .returned q ∧ OnL (fun b => w.heap.size ≤ b ∧ b < w'.heap.size) w' (slL r x) q ∧ Below w.heap.size w w') (S : Nat → Prop) (r : List DRecPhase) (v : Value) (x : ByteArray) (w : World) (h : AtL S w r v) (hS : ∀ b, S b → b < w.heap.size) (hx : x.size ≤ maxLen) :
    Calls Try.prog 3 #[v, .string x] w fun e w' => e = .returned (.bool true) ∧ Below w.heap.size w w' := by
  have H : Hid (∀ w', Below w.heap.size w w' → AtL S w' r v ∧ ∀ b, S b → b < w'.heap.size) := fun w' hb => ⟨h.same (Same.of_below hb hS), fun b hb' => Nat.lt_of_lt_of_le (hS b hb') hb.size⟩
  clear h hS
  unfold maxLen at hx
  by_cases hxx : (x.size : Int) ≤ 1048576
  case neg =>
    go_enter Try.func3, Try.ntmps3
    go_wp2_with fail
    go_ret
    exact ⟨rfl, Below.refl _ _⟩
  obtain ⟨L, hL⟩ : ∃ L, L = slL r x := ⟨_, rfl⟩
  have HZ : Hid (∀ y ∈ L, y.size ≤ maxLen) := fun y hy => sl_names r x y (by rw [← hL]; exact hy)
  have hll : L.length ≤ 8192 := by rw [hL]; exact sl_len r x
  have HCL : Hid (cntL L ≤ 8192) := by have := cnt_le 1 L (fun y _ => Nat.le_refl 1); show _ ≤ _; omega
  have PP : Hid (∀ (S : Nat → Prop) (v : Value) (w : World), AtL S w r v → (∀ b, S b → b < w.heap.size) → totL r ≤ 1048576 → Calls Try.prog 7 #[v, .string x] w fun e w' => ∃ q, e = .returned q ∧ OnL (fun b => w.heap.size ≤ b ∧ b < w'.heap.size) w' L q ∧ Below w.heap.size w w') := fun S v w h1 h2 h3 => by rw [hL]; exact PI S r v x w h1 h2 h3 (by omega)
  have MM : Hid (∀ (S : Nat → Prop) (v : Value) (w : World), AtL S w r v → (∀ b, S b → b < w.heap.size) → Calls Try.prog 5 #[v, .string x] w fun e w' => ∃ q, e = .returned q ∧ w'.ownsRow w.heap.size 9 1 q L.length (L.map .string) ∧ Below w.heap.size w w') := fun S v w h1 h2 => by rw [hL]; exact slotsX_any S r v x w h1 h2
  clear hL PI
  have B0 : Hid (Below w.heap.size w w) := Below.refl _ _
  go_enter Try.func3, Try.ntmps3
  go_wp2_with fail
  refine (szRecPhaseS_any S r v 1048576 _ (H.out _ B0.out).1 (H.out _ B0.out).2 (by omega) (by omega)).mono ?_; rintro e w1 ⟨y, rfl, hy, hb1⟩
  have B1 : Hid (Below w.heap.size w w1) := hb1
  have HY : Hid _ := hy
  clear hy hb1
  by_cases hneg : y < 0
  · go_wp2_with fail
    go_ret
    exact ⟨rfl, B1.out⟩
  have HM : Hid (totL r ≤ 1048576) := by have := HY.out; show _ ≤ _; omega
  have HCR : Hid (cntL r ≤ 8388608) := by
    have h1 := cnt_le 8 r (fun y _ => by rw [cnt_DRecPhase]; omega)
    have h2 := totL_len r
    have h3 := HM.out
    show _ ≤ _; omega
  have TO : Hid (∀ u, Below w.heap.size w u → Calls Try.prog 6 #[v] u fun e w' => ∃ q, e = .returned q ∧ OnL (fun b => u.heap.size ≤ b ∧ b < w'.heap.size) w' r q ∧ Below u.heap.size u w') := fun u hu => toRecPhaseS_own S r v u (H.out u hu).1 (H.out u hu).2 HM.out
  clear HY
  have s1 := B1.out.size
  go_wp2_with fail
  refine (TO.out w1 B1.out).mono ?_; rintro e w2 ⟨r1, rfl, a1, hb2⟩
  have A1 : Hid (OnL (fun b => w1.heap.size ≤ b ∧ b < w2.heap.size) w2 r r1) := a1
  have B2 : Hid (Below w.heap.size w w2) := B1.out.trans (hb2.mono s1)
  have s2 := B2.out.size
  clear a1 hb2
  go_wp2_with fail
  refine (MM.out _ r1 w2 A1.out.at_ (fun b hb => hb.2)).mono ?_; rintro e w3 ⟨u0, rfl, o3, hb3⟩
  have U3 : Hid (AtL (fun b => w2.heap.size ≤ b ∧ b < w3.heap.size) w3 L u0) := at_rowX o3 HZ.out hll
  have B3 : Hid (Below w.heap.size w w3) := B2.out.trans (hb3.mono s2)
  have s3 := B3.out.size
  have z3 := hb3.size
  clear o3 hb3 A1 MM
  go_wp2_with fail
  refine (TO.out w3 B3.out).mono ?_; rintro e w4 ⟨x0, rfl, a4, hb4⟩
  have X4 : Hid (OnL (fun b => w3.heap.size ≤ b ∧ b < w4.heap.size) w4 r x0) := a4
  have U4 : Hid (AtL (fun b => w2.heap.size ≤ b ∧ b < w3.heap.size) w4 L u0) := U3.out.same (Same.of_below hb4 (fun b hb => hb.2))
  have B4 : Hid (Below w.heap.size w w4) := B3.out.trans (hb4.mono s3)
  have s4 := B4.out.size
  have z4 := hb4.size
  clear a4 hb4 U3
  go_wp2_with fail
  refine (PP.out _ x0 w4 X4.out.at_ (fun b hb => hb.2) HM.out).mono ?_; rintro e w5 ⟨g0, rfl, a5, hb5⟩
  have G5 : Hid (OnL (fun b => w4.heap.size ≤ b ∧ b < w5.heap.size) w5 L g0) := a5
  have U5 : Hid (AtL (fun b => w2.heap.size ≤ b ∧ b < w3.heap.size) w5 L u0) := U4.out.same (Same.of_below hb5 (fun b hb => by omega))
  have X5 : Hid (OnL (fun b => w3.heap.size ≤ b ∧ b < w4.heap.size) w5 r x0) := X4.out.same (fun b hb => hb5.block b hb.2)
  have B5 : Hid (Below w.heap.size w w5) := B4.out.trans (hb5.mono s4)
  have s5 := B5.out.size
  have z5 := hb5.size
  clear a5 hb5 U4 X4
  go_wp2_with fail
  refine (eqStringS_any _ _ L g0 u0 w5 G5.out.at_ U5.out (fun b hb => hb.2) (fun b hb => by omega)).mono ?_; rintro e w6 ⟨rfl, hb6⟩
  have C6 : Hid (Below w5.heap.size w5 w6) := hb6
  have z6 := hb6.size
  have B6 : Hid (Below w.heap.size w w6) := B5.out.trans (hb6.mono s5)
  clear hb6
  go_wp2_with fail
  refine (TO.out w6 B6.out).mono ?_; rintro e w7 ⟨r3, rfl, a7, hb7⟩
  have A7 : Hid (AtL (fun b => w6.heap.size ≤ b ∧ b < w7.heap.size) w7 r r3) := a7.at_
  have C7 : Hid (Below w5.heap.size w5 w7) := C6.out.trans (hb7.mono z6)
  have z7 := hb7.size
  clear a7 hb7
  have X7 : Hid (OnL (fun b => w3.heap.size ≤ b ∧ b < w4.heap.size) w7 r x0) := X5.out.same (fun b hb => C7.out.block b (by omega))
  go_wp2_with fail
  refine (eqRecPhaseS_any _ _ r x0 r3 w7 X7.out.at_ A7.out (fun b hb => by omega) (fun b hb => hb.2)).mono ?_; rintro e w8 ⟨rfl, hb8⟩
  have C8 : Hid (Below w5.heap.size w5 w8) := C7.out.trans (hb8.mono (by omega))
  have z8 := hb8.size
  have X8 : Hid (OnL (fun b => w3.heap.size ≤ b ∧ b < w4.heap.size) w8 r x0) := X7.out.same (fun b hb => hb8.block b (by omega))
  have G8 : Hid (OnL (fun b => w4.heap.size ≤ b ∧ b < w5.heap.size) w8 L g0) := G5.out.same (fun b hb => C8.out.block b hb.2)
  have U8 : Hid (AtL (fun b => w2.heap.size ≤ b ∧ b < w3.heap.size) w8 L u0) := U5.out.same (Same.of_below C8.out (fun b hb => by omega))
  have B8 : Hid (Below w.heap.size w w8) := B5.out.trans (C8.out.mono s5)
  clear hb8 A7 X7 C6 C7 X5 G5 U5
  go_wp2_with fail
  refine (markRecPhaseS_any _ r x0 1 w8 X8.out (fun b hb => by omega) (by omega) (by have := HCR.out; omega)).mono ?_; rintro e w9 ⟨rfl, _, bu9⟩
  have z9 := bu9.size
  have G9 : Hid (OnL (fun b => w4.heap.size ≤ b ∧ b < w5.heap.size) w9 L g0) := G8.out.same (fun b hb => bu9.block b (by omega) (by omega))
  have U9 : Hid (AtL (fun b => w2.heap.size ≤ b ∧ b < w3.heap.size) w9 L u0) := U8.out.same (fun b hb => bu9.block b (by omega) (by omega))
  have B9 : Hid (Below w.heap.size w w9) := B8.out.trans (bu9.below (B := w.heap.size) (fun b hb => by omega) (by omega))
  clear bu9 G8 U8 X8
  have dk : decide (1 + (cntL r : Int) < 0) = false := by simp; omega
  go_wp2_with fail
  refine (eqStringS_any _ _ L g0 u0 w9 G9.out.at_ U9.out (fun b hb => by omega) (fun b hb => by omega)).mono ?_; rintro e w10 ⟨rfl, hb10⟩
  have z10 := hb10.size
  have G10 : Hid (OnL (fun b => w4.heap.size ≤ b ∧ b < w5.heap.size) w10 L g0) := G9.out.same (fun b hb => hb10.block b (by omega))
  have U10 : Hid (AtL (fun b => w2.heap.size ≤ b ∧ b < w3.heap.size) w10 L u0) := U9.out.same (Same.of_below hb10 (fun b hb => by omega))
  have B10 : Hid (Below w.heap.size w w10) := B9.out.trans (hb10.mono (by omega))
  clear hb10 G9 U9 dk
  go_wp2_with fail
  refine (markStringS_any _ L g0 1 w10 G10.out (fun b hb => by omega) (by omega) (by have := HCL.out; omega)).mono ?_; rintro e w11 ⟨rfl, m11, bu11⟩
  have z11 := bu11.size
  have M11 : Hid (AtL (fun b => w4.heap.size ≤ b ∧ b < w5.heap.size) w11 (mkL 1 L) g0) := m11.at_
  have U11 : Hid (AtL (fun b => w2.heap.size ≤ b ∧ b < w3.heap.size) w11 L u0) := U10.out.same (fun b hb => bu11.block b (by omega) (by omega))
  have B11 : Hid (Below w.heap.size w w11) := B10.out.trans (bu11.below (B := w.heap.size) (fun b hb => by omega) (by omega))
  clear m11 bu11 G10 U10
  have HE : Hid (∀ u, Below w11.heap.size w11 u → Calls Try.prog 12 #[g0, .int .i64 1] u fun e w' => e = .returned (.int .i64 (1 + (cntL L : Int))) ∧ Below u.heap.size u w') := fun u hu => heldStringS_any _ L g0 1 u (M11.out.same (Same.of_below hu (fun b hb => by omega))) (fun b hb => by have := hu.size; omega) (by omega) (by have := HCL.out; omega)
  have hcl : (cntL L : Int) ≤ 8192 := by have := HCL.out; omega
  go_wp2_with fail
  refine (HE.out w11 (Below.refl _ _)).mono ?_; rintro e w12 ⟨rfl, hb12⟩
  have C12 : Hid (Below w11.heap.size w11 w12) := hb12
  have z12 := hb12.size
  have B12 : Hid (Below w.heap.size w w12) := B11.out.trans (hb12.mono (by omega))
  clear hb12
  go_wp2_with fail
  refine (TO.out w12 B12.out).mono ?_; rintro e w13 ⟨r4, rfl, a13, hb13⟩
  have A13 : Hid (AtL (fun b => w12.heap.size ≤ b ∧ b < w13.heap.size) w13 r r4) := a13.at_
  have C13 : Hid (Below w11.heap.size w11 w13) := C12.out.trans (hb13.mono z12)
  have z13 := hb13.size
  clear a13 hb13
  go_wp2_with fail
  refine (PP.out _ r4 w13 A13.out (fun b hb => hb.2) HM.out).mono ?_; rintro e w14 ⟨h0, rfl, a14, hb14⟩
  have A14 : Hid (AtL (fun b => w13.heap.size ≤ b ∧ b < w14.heap.size) w14 L h0) := a14.at_
  have C14 : Hid (Below w11.heap.size w11 w14) := C13.out.trans (hb14.mono (by omega))
  have z14 := hb14.size
  have U14 : Hid (AtL (fun b => w2.heap.size ≤ b ∧ b < w3.heap.size) w14 L u0) := U11.out.same (Same.of_below C14.out (fun b hb => by omega))
  clear a14 hb14 A13
  go_wp2_with fail
  refine (eqStringS_any _ _ L h0 u0 w14 A14.out U14.out (fun b hb => hb.2) (fun b hb => by omega)).mono ?_; rintro e w15 ⟨rfl, hb15⟩
  have C15 : Hid (Below w11.heap.size w11 w15) := C14.out.trans (hb15.mono (by omega))
  clear hb15
  go_wp2_with fail
  refine (HE.out w15 C15.out).mono ?_; rintro e w16 ⟨rfl, hb16⟩
  have B16 : Hid (Below w.heap.size w w16) := B11.out.trans ((C15.out.trans (hb16.mono C15.out.size)).mono (by omega))
  clear hb16
  go_wp2_with fail
  go_ret
  exact ⟨rfl, B16.out⟩

end Go.Proofs.Ytjogdidccgnhfad
