/-
  Contracts of the program's map of what is claimed: whether a want uses a place, or opens a valve, that is in it; a want more.
-/
import Derived.Test.YticojnepejboaacGreatCpm
import Derived.Test.YticojnepejboaacGreatCpb
import Derived.Test.YticojnepejboaacGreatCwa
namespace Go.Proofs.YticojnepejboaacGreat
open Go.RowKit

/-- No text. -/
abbrev noT : ByteArray := ⟨#[]⟩
theorem noT_size : noT.size ≤ maxLen := by decide

set_option maxRecDepth 100000 in
set_option maxHeartbeats 4000000 in
theorem placeIs_any (x : ByteArray) (a1 a2 : Value) (m : Nat) (M : ByteArray → ByteArray → Int) (nb : Nat) (w : World) (h : Mc w m M) (hz : x.size ≤ maxLen) (hx : w.cell? ⟨nb, 0, none⟩ = some (.map (some m))) (hnb : nb < w.heap.size) :
    Calls Tryz.prog 130 #[.agg #[.string x, a1, a2], .pointer (some ⟨nb, 0, none⟩)] w fun e w' => e = .returned (.bool (decide (0 < M x noT))) ∧ Below w.heap.size w w' := by
  have qx := fun o => cell_past hx hnb o
  have l0 := fun o => (h.of_block (Below.heap_alloc w o m h.lt)).look hz noT_size
  clear h
  generalize M x noT = c at *
  go_enter Tryz.func130, Tryz.ntmps130
  go_wp2
  go_ret
  exact ⟨rfl, (Below.refl _ _).alloc (Nat.le_refl _) _⟩

set_option maxRecDepth 100000 in
set_option maxHeartbeats 4000000 in
theorem valveIs_any (x : ByteArray) (m : Nat) (M : ByteArray → ByteArray → Int) (nb : Nat) (w : World) (h : Mc w m M) (hz : x.size ≤ maxLen) (hx : w.cell? ⟨nb, 0, none⟩ = some (.map (some m))) :
    Calls Tryz.prog 132 #[.string x, .pointer (some ⟨nb, 0, none⟩)] w fun e w' => e = .returned (.bool (decide (0 < M noT x))) ∧ w' = w := by
  have l0 := h.look noT_size hz
  clear h
  generalize M noT x = c at *
  go_enter Tryz.func132, Tryz.ntmps132
  go_wp2
  go_ret
  exact ⟨rfl, rfl⟩

set_option maxRecDepth 100000 in
set_option maxHeartbeats 4000000 in
theorem placeIdx_any (S : Nat → Prop) (v : Value) (l : List DClaimUse) (m : Nat) (M : ByteArray → ByteArray → Int) (nb : Nat) (w : World) (h : AtL S w l v) (hS : ∀ b, S b → b < w.heap.size) (hm : Mc w m M) (hx : w.cell? ⟨nb, 0, none⟩ = some (.map (some m))) (hnb : nb < w.heap.size) :
    Calls Tryz.prog 147 #[v, .func (.func 130) #[] #[.pointer (some ⟨nb, 0, none⟩)]] w fun e w' => e = .returned (.int .i64 (idxI l (fun p : DClaimUse => decide (0 < M p.1 noT)))) ∧ Below w.heap.size w w' := by
  obtain ⟨oa, cap, rfl, hn, hc⟩ := h
  obtain ⟨n, en⟩ : ∃ n, l.length = n := ⟨_, rfl⟩
  rw [en] at hn
  rw [en]
  unfold maxLen at hn
  have HC : Hid _ := hc
  have HX : Hid _ := hx
  have HM : Hid _ := hm
  have hml := hm.lt
  clear hc hx hm
  go_enter Tryz.func147, Tryz.ntmps147
  go_wp2
  go_loopw [8] (fun i wr => ∃ k : Nat, k ≤ n ∧ i = .int .i64 k ∧ Hid (∀ j (hj : j < l.length), j < k → decide (0 < M l[j].1 noT) = false) ∧ Hid (Below w.heap.size w wr)) (fun i _ => n - (intOf i).toNat)
  case atStart => exact ⟨0, Nat.zero_le _, rfl, fun _ _ h => by omega, Below.refl _ _⟩
  case round =>
    obtain ⟨k, hk, rfl, hno, hbel⟩ := hrel
    have hs := hbel.out.size
    by_cases hlt : k < n
    · obtain ⟨b, off, rfl, hbS, ce, hcelle, hate⟩ := HC.out k (by omega)
      have hbb := hS b hbS
      have hbw := hbel.out
      rw [width_DClaimUse] at hcelle
      have e0 : wr.cell? ⟨b, off + k * 3, none⟩ = some (ce 0) := (hbw.cell (p := ⟨b, off + k * 3, none⟩) (by show b < _; omega)).trans (by simpa using hcelle 0 (by omega))
      have e1 : wr.cell? ⟨b, off + k * 3 + 1, none⟩ = some (ce 1) := (hbw.cell (p := ⟨b, off + k * 3 + 1, none⟩) (by show b < _; omega)).trans (by simpa using hcelle 1 (by omega))
      have e2 : wr.cell? ⟨b, off + k * 3 + 2, none⟩ = some (ce 2) := (hbw.cell (p := ⟨b, off + k * 3 + 2, none⟩) (by show b < _; omega)).trans (by simpa using hcelle 2 (by omega))
      clear hcelle
      have hate := Lay.same hate (Same.of_below hbw hS)
      rw [at_DClaimUse] at hate
      obtain ⟨ef, eef⟩ : ∃ f, l[k]'(by omega) = f := ⟨_, rfl⟩
      rw [eef] at hate
      obtain ⟨⟨te0, ze0⟩, ⟨te1, zle1, zhe1⟩, ⟨te2, zle2, zhe2⟩⟩ := hate
      rw [te0] at e0
      rw [te1] at e1
      rw [te2] at e2
      clear te0 te1 te2
      clear hbw
      have HXR : Hid (wr.cell? ⟨nb, 0, none⟩ = some (.map (some m))) := (hbel.out.cell (p := ⟨nb, 0, none⟩) hnb).trans HX.out
      have HMR : Hid (Mc wr m M) := Mc.below HM.out hbel.out hml
      cases hy : decide (0 < M ef.1 noT)
      · go_wp2_with (go_at_call 130; refine (placeIs_any _ _ _ m M nb _ HMR.out ze0 HXR.out (by omega)).mono ?_; rintro e w1 ⟨rfl, hb1⟩; rw [hy])
        go_roundw
        case rel => exact ⟨k + 1, by omega, by go_num, fun j hj hjk => by
          by_cases e : j = k
          · subst e; rw [eef]; exact hy
          · exact hno.out j hj (by omega), hbel.out.trans (hb1.mono hs)⟩
        case measure => simp [intOf]; omega
      · go_wp2_with (go_at_call 130; refine (placeIs_any _ _ _ m M nb _ HMR.out ze0 HXR.out (by omega)).mono ?_; rintro e w1 ⟨rfl, hb1⟩; rw [hy])
        rw [idx_yes (k := k) (by omega) (by rw [eef]; exact hy) hno.out]
        go_ret
        exact ⟨rfl, hbel.out.trans (hb1.mono hs)⟩
    · go_wp2
      go_ret
      rw [idx_no (fun j hj => hno.out j hj (by omega))]
      exact ⟨rfl, hbel.out⟩
theorem placeCF_any (S : Nat → Prop) (v : Value) (l : List DClaimUse) (m : Nat) (M : ByteArray → ByteArray → Int) (nb : Nat) (w : World) (h : AtL S w l v) (hS : ∀ b, S b → b < w.heap.size) (hm : Mc w m M) (hx : w.cell? ⟨nb, 0, none⟩ = some (.map (some m))) (hnb : nb < w.heap.size) :
    Calls Tryz.prog 129 #[v, .func (.func 130) #[] #[.pointer (some ⟨nb, 0, none⟩)]] w fun e w' => e = .returned (.bool (l.any fun p : DClaimUse => decide (0 < M p.1 noT))) ∧ Below w.heap.size w w' := by
  rw [show (l.any fun p : DClaimUse => decide (0 < M p.1 noT)) = decide (0 ≤ idxI l (fun p : DClaimUse => decide (0 < M p.1 noT))) from (idx_any l _).symm]
  have H : Hid _ := placeIdx_any S v l m M nb w h hS hm hx hnb
  clear h hm hx
  go_enter Tryz.func129, Tryz.ntmps129
  go_wp2_with fail
  refine Calls.mono H.out ?_
  rintro e w1 ⟨rfl, hb1⟩
  go_wp2_with fail
  go_ret
  exact ⟨rfl, hb1⟩
set_option maxRecDepth 100000 in
set_option maxHeartbeats 4000000 in
theorem valveIdx_any (S : Nat → Prop) (va : Value) (a : List ByteArray) (m : Nat) (M : ByteArray → ByteArray → Int) (nb : Nat) (w : World) (ha : AtL S w a va) (hb : Mc w m M) (hx : w.cell? ⟨nb, 0, none⟩ = some (.map (some m))) :
    Calls Tryz.prog 148 #[va, .func (.func 132) #[] #[.pointer (some ⟨nb, 0, none⟩)]] w fun e w' => e = .returned (.int .i64 (idxI a (fun x => decide (0 < M noT x)))) ∧ w' = w := by
  obtain ⟨oa, cap, rfl, hn, hc⟩ := ha
  obtain ⟨n, en⟩ : ∃ n, a.length = n := ⟨_, rfl⟩
  rw [en] at hn
  rw [en]
  unfold maxLen at hn
  have HC : Hid _ := hc
  have HI : Hid (∀ x : ByteArray, x.size ≤ maxLen → Calls Tryz.prog 132 #[.string x, .pointer (some ⟨nb, 0, none⟩)] w fun e w' => e = .returned (.bool (decide (0 < M noT x))) ∧ w' = w) := fun x hz => valveIs_any x m M nb w hb hz hx
  clear hc hb hx
  go_enter Tryz.func148, Tryz.ntmps148
  go_wp2
  go_loop [8] (fun i => ∃ k : Nat, k ≤ n ∧ i = .int .i64 k ∧ Hid (∀ j (hj : j < a.length), j < k → decide (0 < M noT a[j]) = false)) (fun i => n - (intOf i).toNat)
  case atStart => exact ⟨0, Nat.zero_le _, rfl, fun _ _ h => by omega⟩
  case round =>
    obtain ⟨k, hk, rfl, hno⟩ := hrel
    by_cases hlt : k < n
    · obtain ⟨q, off, rfl, _, cc, hcell, hat⟩ := HC.out k (by omega)
      rw [width_str] at hcell
      have hcell := hcell 0 (by omega)
      rw [Nat.mul_one, Nat.add_zero] at hcell
      rw [at_str] at hat
      rw [hat.1] at hcell
      have hz := hat.2
      clear hat
      obtain ⟨f, ef⟩ : ∃ f, a[k]'(by omega) = f := ⟨_, rfl⟩
      rw [ef] at hcell hz
      cases hy : decide (0 < M noT f)
      all_goals
        go_wp2_with (go_at_call 132; refine Calls.mono (HI.out f hz) ?_; rintro e w1 ⟨rfl, rfl⟩; rw [hy])
      · go_round
        case rel => exact ⟨k + 1, by omega, by go_num, fun j hj hjk => by
          by_cases e : j = k
          · subst e; rw [ef]; exact hy
          · exact hno.out j hj (by omega)⟩
        case measure => simp [intOf]; omega
      · rw [idx_yes (k := k) (by omega) (by rw [ef]; exact hy) hno.out]
        go_ret
        exact ⟨rfl, rfl⟩
    · go_wp2
      go_ret
      rw [idx_no (fun j hj => hno.out j hj (by omega))]
      exact ⟨rfl, rfl⟩

theorem valveCF_any (S : Nat → Prop) (va : Value) (a : List ByteArray) (m : Nat) (M : ByteArray → ByteArray → Int) (nb : Nat) (w : World) (ha : AtL S w a va) (hb : Mc w m M) (hx : w.cell? ⟨nb, 0, none⟩ = some (.map (some m))) :
    Calls Tryz.prog 131 #[va, .func (.func 132) #[] #[.pointer (some ⟨nb, 0, none⟩)]] w fun e w' => e = .returned (.bool (a.any fun x => decide (0 < M noT x))) ∧ w' = w := by
  rw [show (a.any fun x => decide (0 < M noT x)) = decide (0 ≤ idxI a (fun x => decide (0 < M noT x))) from (idx_any a _).symm]
  have H : Hid _ := valveIdx_any S va a m M nb w ha hb hx
  clear ha hb hx
  go_enter Tryz.func131, Tryz.ntmps131
  go_wp2_with fail
  refine Calls.mono H.out ?_
  rintro e w1 ⟨rfl, rfl⟩
  go_wp2_with fail
  go_ret
  exact ⟨rfl, rfl⟩

set_option maxRecDepth 100000 in
set_option maxHeartbeats 4000000 in
theorem usesPlace_any (S : Nat → Prop) (x0 x1 x2 x3 x4 x5 : Value) (us : List DClaimUse) (m : Nat) (M : ByteArray → ByteArray → Int) (w : World) (h : Mc w m M) (ha : AtL S w us x3) (hS : ∀ b, S b → b < w.heap.size) :
    Calls Tryz.prog 103 #[.map (some m), .agg #[x0, x1, x2, x3, x4, x5]] w fun e w' => e = .returned (.bool (us.any fun p : DClaimUse => decide (0 < M p.1 noT))) ∧ Below w.heap.size w w' := by
  have hmf : ∀ (fn : Fn) (first cap : Array Value) (w : World), (Instr.makeFunc fn first cap).run Tryz.prog w = .ok (.func fn first cap) w := fun _ _ _ _ => rfl
  have HB : Hid (Below w.heap.size w ((w.alloc (.cells #[.map (some m)] 130)).alloc (.cells #[x0, x1, x2, x3, x4, x5] 48))) := ((Below.refl _ _).alloc (Nat.le_refl _) _).alloc (by simp) _
  have hx : ((w.alloc (.cells #[.map (some m)] 130)).alloc (.cells #[x0, x1, x2, x3, x4, x5] 48)).cell? ⟨w.heap.size, 0, none⟩ = some (.map (some m)) := cell_past (new_cell w _ _ 0 _ rfl) (by simp) _
  have H : Hid _ := placeCF_any S _ us m M w.heap.size _ (ha.same (Same.of_below HB.out hS)) (fun b hb => Nat.lt_of_lt_of_le (hS b hb) HB.out.size) (h.below HB.out h.lt) hx (by simp; omega)
  obtain ⟨oa, ca, rfl, _⟩ := id ha
  clear h ha hx
  go_enter Tryz.func103, Tryz.ntmps103
  go_wp2_with fail
  refine Calls.mono H.out ?_
  rintro e w1 ⟨rfl, hb1⟩
  go_wp2_with fail
  go_ret
  exact ⟨rfl, HB.out.trans (hb1.mono HB.out.size)⟩

set_option maxRecDepth 100000 in
set_option maxHeartbeats 4000000 in
theorem opensValve_any (S : Nat → Prop) (x0 x1 x2 x3 x4 x5 : Value) (os : List ByteArray) (m : Nat) (M : ByteArray → ByteArray → Int) (w : World) (h : Mc w m M) (ha : AtL S w os x4) (hS : ∀ b, S b → b < w.heap.size) :
    Calls Tryz.prog 104 #[.map (some m), .agg #[x0, x1, x2, x3, x4, x5]] w fun e w' => e = .returned (.bool (os.any fun x => decide (0 < M noT x))) ∧ Below w.heap.size w w' := by
  have hmf : ∀ (fn : Fn) (first cap : Array Value) (w : World), (Instr.makeFunc fn first cap).run Tryz.prog w = .ok (.func fn first cap) w := fun _ _ _ _ => rfl
  have HB : Hid (Below w.heap.size w ((w.alloc (.cells #[.map (some m)] 130)).alloc (.cells #[x0, x1, x2, x3, x4, x5] 48))) := ((Below.refl _ _).alloc (Nat.le_refl _) _).alloc (by simp) _
  have hx : ((w.alloc (.cells #[.map (some m)] 130)).alloc (.cells #[x0, x1, x2, x3, x4, x5] 48)).cell? ⟨w.heap.size, 0, none⟩ = some (.map (some m)) := cell_past (new_cell w _ _ 0 _ rfl) (by simp) _
  have H : Hid _ := valveCF_any S _ os m M w.heap.size _ (ha.same (Same.of_below HB.out hS)) (h.below HB.out h.lt) hx
  obtain ⟨oa, ca, rfl, _⟩ := id ha
  clear h ha hx
  go_enter Tryz.func104, Tryz.ntmps104
  go_wp2_with fail
  refine Calls.mono H.out ?_
  rintro e w1 ⟨rfl, rfl⟩
  go_wp2_with fail
  go_ret
  exact ⟨rfl, HB.out⟩

end Go.Proofs.YticojnepejboaacGreat
