/-
  The program's search for a part of a book by its number; a part stopped in a book's memory.
-/
import Derived.Test.YticojnepejboaacGreatGt
import Derived.Test.YticojnepejboaacGreatHhD
import Derived.Test.YticojnepejboaacGreatCpn
import Derived.Test.YticojnepejboaacGreatCl
namespace Go.Proofs.YticojnepejboaacGreat
open Go.RowKit

set_option maxRecDepth 100000 in
set_option maxHeartbeats 4000000 in
theorem partAtIs_any (a x : Int) (a1 a2 a3 a4 a5 a6 : Value) (nb : Nat) (w : World) (hx : w.cell? ⟨nb, 0, none⟩ = some (.int .i64 x)) (hnb : nb < w.heap.size) :
    Calls Tryz.prog 76 #[.agg #[.int .i64 a, a1, a2, a3, a4, a5, a6], .pointer (some ⟨nb, 0, none⟩)] w fun e w' => e = .returned (.bool (a == x)) ∧ Below w.heap.size w w' := by
  have hx' := fun o => cell_past hx hnb o
  go_enter Tryz.func76, Tryz.ntmps76
  go_wp2
  go_ret
  exact ⟨rfl, (Below.refl _ _).alloc (Nat.le_refl _) _⟩

set_option maxRecDepth 100000 in
set_option maxHeartbeats 4000000 in
theorem partAtIdx_any (S : Nat → Prop) (v : Value) (l : List DClaimPart) (x : Int) (nb : Nat) (w : World) (h : AtL S w l v) (hS : ∀ b, S b → b < w.heap.size) (hx : w.cell? ⟨nb, 0, none⟩ = some (.int .i64 x)) (hnb : nb < w.heap.size) :
    Calls Tryz.prog 75 #[v, .func (.func 76) #[] #[.pointer (some ⟨nb, 0, none⟩)]] w fun e w' => e = .returned (.int .i64 (idxI l (fun p : DClaimPart => p.1 == x))) ∧ Below w.heap.size w w' := by
  obtain ⟨oa, cap, rfl, hn, hc⟩ := h
  obtain ⟨n, en⟩ : ∃ n, l.length = n := ⟨_, rfl⟩
  rw [en] at hn
  rw [en]
  unfold maxLen at hn
  have HC : Hid _ := hc
  have HX : Hid _ := hx
  clear hc hx
  go_enter Tryz.func75, Tryz.ntmps75
  go_wp2
  go_loopw [8] (fun i wr => ∃ k : Nat, k ≤ n ∧ i = .int .i64 k ∧ Hid (∀ j (hj : j < l.length), j < k → (l[j].1 == x) = false) ∧ Hid (Below w.heap.size w wr)) (fun i _ => n - (intOf i).toNat)
  case atStart => exact ⟨0, Nat.zero_le _, rfl, fun _ _ h => by omega, Below.refl _ _⟩
  case round =>
    obtain ⟨k, hk, rfl, hno, hbel⟩ := hrel
    have hs := hbel.out.size
    by_cases hlt : k < n
    · obtain ⟨b, off, rfl, hbS, ce, hcelle, hate⟩ := HC.out k (by omega)
      have hbb := hS b hbS
      have hbw := hbel.out
      rw [width_DClaimPart] at hcelle
      have e0 : wr.cell? ⟨b, off + k * 7, none⟩ = some (ce 0) := (hbw.cell (p := ⟨b, off + k * 7, none⟩) (by show b < _; omega)).trans (by simpa using hcelle 0 (by omega))
      have e1 : wr.cell? ⟨b, off + k * 7 + 1, none⟩ = some (ce 1) := (hbw.cell (p := ⟨b, off + k * 7 + 1, none⟩) (by show b < _; omega)).trans (by simpa using hcelle 1 (by omega))
      have e2 : wr.cell? ⟨b, off + k * 7 + 2, none⟩ = some (ce 2) := (hbw.cell (p := ⟨b, off + k * 7 + 2, none⟩) (by show b < _; omega)).trans (by simpa using hcelle 2 (by omega))
      have e3 : wr.cell? ⟨b, off + k * 7 + 3, none⟩ = some (ce 3) := (hbw.cell (p := ⟨b, off + k * 7 + 3, none⟩) (by show b < _; omega)).trans (by simpa using hcelle 3 (by omega))
      have e4 : wr.cell? ⟨b, off + k * 7 + 4, none⟩ = some (ce 4) := (hbw.cell (p := ⟨b, off + k * 7 + 4, none⟩) (by show b < _; omega)).trans (by simpa using hcelle 4 (by omega))
      have e5 : wr.cell? ⟨b, off + k * 7 + 5, none⟩ = some (ce 5) := (hbw.cell (p := ⟨b, off + k * 7 + 5, none⟩) (by show b < _; omega)).trans (by simpa using hcelle 5 (by omega))
      have e6 : wr.cell? ⟨b, off + k * 7 + 6, none⟩ = some (ce 6) := (hbw.cell (p := ⟨b, off + k * 7 + 6, none⟩) (by show b < _; omega)).trans (by simpa using hcelle 6 (by omega))
      clear hcelle
      rw [at_DClaimPart] at hate
      obtain ⟨ef, eef⟩ : ∃ f, l[k]'(by omega) = f := ⟨_, rfl⟩
      rw [eef] at hate
      obtain ⟨⟨te0, _, _⟩, ⟨te1, _, _⟩, l2, l3, l4, l5, te6⟩ := hate
      obtain ⟨soe2, sce2, te2, _⟩ := l2
      obtain ⟨soe3, sce3, te3, _⟩ := l3
      obtain ⟨soe4, sce4, te4, _⟩ := l4
      obtain ⟨soe5, sce5, te5, _⟩ := l5
      rw [te0] at e0
      rw [te1] at e1
      rw [te2] at e2
      rw [te3] at e3
      rw [te4] at e4
      rw [te5] at e5
      rw [te6] at e6
      clear te0 te1 te2 te3 te4 te5 te6
      clear hbw
      have HXR : Hid (wr.cell? ⟨nb, 0, none⟩ = some (.int .i64 x)) := (hbel.out.cell (p := ⟨nb, 0, none⟩) hnb).trans HX.out
      cases hy : (ef.1 == x)
      · go_wp2_with (go_at_call 76; refine (partAtIs_any _ x _ _ _ _ _ _ nb _ HXR.out (by omega)).mono ?_; rintro e w1 ⟨rfl, hb1⟩; rw [hy])
        go_roundw
        case rel => exact ⟨k + 1, by omega, by go_num, fun j hj hjk => by
          by_cases e : j = k
          · subst e; rw [eef]; exact hy
          · exact hno.out j hj (by omega), hbel.out.trans (hb1.mono hs)⟩
        case measure => simp [intOf]; omega
      · go_wp2_with (go_at_call 76; refine (partAtIs_any _ x _ _ _ _ _ _ nb _ HXR.out (by omega)).mono ?_; rintro e w1 ⟨rfl, hb1⟩; rw [hy])
        rw [idx_yes (k := k) (by omega) (by rw [eef]; exact hy) hno.out]
        go_ret
        exact ⟨rfl, hbel.out.trans (hb1.mono hs)⟩
    · go_wp2
      go_ret
      rw [idx_no (fun j hj => hno.out j hj (by omega))]
      exact ⟨rfl, hbel.out⟩

set_option maxRecDepth 100000 in
set_option maxHeartbeats 4000000 in
theorem partAtI_any (S : Nat → Prop) (v0 v1 v2 v3 v4 : Value) (l : List DClaimPart) (x : Int) (w : World) (h : AtL S w l v3) (hS : ∀ b, S b → b < w.heap.size) :
    Calls Tryz.prog 51 #[.agg #[v0, v1, v2, v3, v4], .int .i64 x] w fun e w' => e = .returned (.int .i64 (idxI l (fun p : DClaimPart => p.1 == x))) ∧ Below w.heap.size w w' := by
  have hmf : ∀ (fn : Fn) (first cap : Array Value) (w : World), (Instr.makeFunc fn first cap).run Tryz.prog w = .ok (.func fn first cap) w := fun _ _ _ _ => rfl
  have H : Hid (∀ o1 o2, AtL S ((w.alloc o1).alloc o2) l v3) := fun o1 o2 => h.same (Same.of_below (((Below.refl _ _).alloc (Nat.le_refl _) o1).alloc (by simp) o2) hS)
  have HS : Hid (∀ o1 o2 b, S b → b < ((w.alloc o1).alloc o2).heap.size) := fun o1 o2 b hb => by have := hS b hb; simp; omega
  clear h
  go_enter Tryz.func51, Tryz.ntmps51
  go_wp2_with (go_at_call 75; refine (partAtIdx_any S v3 l x (w.heap.size + 1) _ (H.out _ _) (HS.out _ _) (by simp) (by simp)).mono ?_; rintro e w1 ⟨rfl, hb1⟩)
  go_ret
  exact ⟨rfl, (((Below.refl _ _).alloc (Nat.le_refl _) _).alloc (by simp) _).trans (hb1.mono (by simp; omega))⟩

/-- A book with a part stopped. -/
def stopAt (a : DClaimBook) (k : Nat) : DClaimBook := (a.1, a.2.1, a.2.2.1, a.2.2.2.1.modify k (fun y => (y.1, y.2.1, y.2.2.1, y.2.2.2.1, y.2.2.2.2.1, y.2.2.2.2.2.1, true)), a.2.2.2.2)
theorem stop_store {S : Nat → Prop} {w : World} {a : DClaimBook} {g : Nat → Value} (h : Own.On S w a g) (hS : ∀ b, S b → b < w.heap.size) {k : Nat} (hk : k < a.2.2.2.1.length) :
    ∃ gp off cap x, g 3 = .slice (some ⟨gp, off, none⟩) a.2.2.2.1.length cap ∧ S gp ∧ w.cell? ⟨gp, off + k * 7 + 6, none⟩ = some (.bool x) ∧ w.frozen? ⟨gp, off + k * 7 + 6, none⟩ = false ∧ Own.On S (w.setCell ⟨gp, off + k * 7 + 6, none⟩ (.bool true)) (stopAt a k) g := by
  obtain ⟨A0, B0, p0, q0, H0, A1, B1, p1, q1, H1, A2, B2, p2, q2, H2, A3, B3, p3, q3, H3, H4⟩ := on_DClaimBook.1 h
  obtain ⟨oa, cap, ev, hn, hl⟩ := H3
  rcases hl with hl | ⟨gp, off, Ss, cur, t, rfl, f, hf, E⟩
  · rw [hl] at hk; exact absurd hk (Nat.not_lt_zero _)
  · obtain ⟨c, hc, hon⟩ := E.el k hk
    rw [width_DClaimPart] at hc
    have c6 := hc 6 (by omega)
    obtain ⟨C0, D0, u0, v0, K0, C1, D1, u1, v1, K1, C2, D2, u2, v2, K2, C3, D3, u3, v3, K3, C4, D4, u4, v4, K4, C5, D5, u5, v5, K5, K6⟩ := on_DClaimPart.1 hon
    have cr := cell_row E.row _ _ c6
    rw [K6] at cr
    have hA3 : A3 gp := E.own
    have n2 : ¬ A2 gp := fun h => (p2 gp h).2 (p3 gp hA3).1
    have n1 : ¬ A1 gp := fun h => (p1 gp h).2 (q2 gp (p3 gp hA3).1)
    have n0 : ¬ A0 gp := fun h => (p0 gp h).2 (q1 gp (q2 gp (p3 gp hA3).1))
    have hSg : S gp := q0 gp (q1 gp (q2 gp (p3 gp hA3).1))
    have hA3S : ∀ b, A3 b → b < w.heap.size := fun b hb => hS b (q0 b (q1 b (q2 b (p3 b hb).1)))
    have sm : ∀ {T : Nat → Prop}, ¬ T gp → Same T w (w.setCell ⟨gp, off + k * 7 + 6, none⟩ (.bool true)) := fun h => Same.of_set _ _ _ h
    have nk : ¬ Ss k gp := fun h => (E.sub k gp h).2 rfl
    refine ⟨gp, off, cap, _, ev, hSg, cr.1, cr.2, on_DClaimBook.2 ⟨A0, B0, p0, q0, H0.same (sm n0), A1, B1, p1, q1, H1.same (sm n1), A2, B2, p2, q2, H2.same (sm n2), A3, B3, p3, q3, ?_, H4⟩⟩
    have hml : (stopAt a k).2.2.2.1.length = a.2.2.2.1.length := by simp [stopAt]
    refine ⟨some ⟨gp, off, none⟩, cap, by rw [hml]; exact ev, by rw [hml]; exact hn, .inr ⟨gp, off, Ss, cur.setIfInBounds (off + k * 7 + 6) (.bool true), t, rfl, fun i => if i = k then (fun y : DClaimPart => (y.1, y.2.1, y.2.2.1, y.2.2.2.1, y.2.2.2.2.1, y.2.2.2.2.2.1, true)) (f k) else f i, fun i hi => ?_, ?_⟩⟩
    · have hi' : i < a.2.2.2.1.length := by rw [hml] at hi; exact hi
      have hm : ∀ (l : List DClaimPart) (u : DClaimPart → DClaimPart) (h : i < (l.modify k u).length) (h' : i < l.length), (l.modify k u)[i] = if k = i then u l[i] else l[i] := fun l u h h' => by rw [List.getElem_modify]
      refine Eq.trans ?_ (hm a.2.2.2.1 _ hi hi').symm
      show (if i = k then _ else _) = _
      by_cases e : k = i
      · subst e; rw [if_pos rfl, if_pos rfl, hf k hi']
      · rw [if_neg (fun h => e h.symm), if_neg e, hf i hi']
    · rw [hml]
      have E' : Els A3 w gp off Ss cur t a.2.2.2.1.length f := E
      have lt6 : off + k * 7 + 6 < cur.size := (Array.getElem?_eq_some_iff.1 c6).1
      refine E'.step k (set_row E.row _ _) (fun q j hq hj => ?_) ⟨cs [c 0, c 1, c 2, c 3, c 4, c 5, .bool true], fun j hj => ?_, ?_⟩ (fun q hq => if_neg hq) ?_ hA3S
      · rw [width_DClaimPart] at hj ⊢
        rw [Array.getElem?_setIfInBounds, if_neg (by omega)]
      · rw [width_DClaimPart] at hj ⊢
        rw [Array.getElem?_setIfInBounds]
        rcases (show j = 0 ∨ j = 1 ∨ j = 2 ∨ j = 3 ∨ j = 4 ∨ j = 5 ∨ j = 6 by omega) with rfl | rfl | rfl | rfl | rfl | rfl | rfl
        · rw [if_neg (by omega)]; exact hc 0 (by omega)
        · rw [if_neg (by omega)]; exact hc 1 (by omega)
        · rw [if_neg (by omega)]; exact hc 2 (by omega)
        · rw [if_neg (by omega)]; exact hc 3 (by omega)
        · rw [if_neg (by omega)]; exact hc 4 (by omega)
        · rw [if_neg (by omega)]; exact hc 5 (by omega)
        · rw [if_pos rfl, if_pos lt6]; rfl
      · rw [if_pos rfl]
        have sk : ∀ {T : Nat → Prop}, (∀ b, T b → Ss k b) → Same T w (w.setCell ⟨gp, off + k * 7 + 6, none⟩ (.bool true)) := fun h => Same.of_set _ _ _ (fun h2 => nk (h _ h2))
        refine on_DClaimPart.2 ⟨C0, D0, u0, v0, K0, C1, D1, u1, v1, K1, C2, D2, u2, v2, K2.same (sk fun b hb => v0 b (v1 b (u2 b hb).1)), C3, D3, u3, v3, K3.same (sk fun b hb => v0 b (v1 b (v2 b (u3 b hb).1))), C4, D4, u4, v4, K4.same (sk fun b hb => v0 b (v1 b (v2 b (v3 b (u4 b hb).1)))), C5, D5, u5, v5, K5.same (sk fun b hb => v0 b (v1 b (v2 b (v3 b (v4 b (u5 b hb).1))))), rfl⟩
      · exact (But.refl _ w).set (.inl rfl) _ _

end Go.Proofs.YticojnepejboaacGreat
