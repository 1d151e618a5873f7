/-
  Contracts of the program's searches in a book of claims: whether all texts are among some, where a spot stands, the map of the foes.
-/
import Derived.Test.YticojnepejboaacGreatCpa
import Derived.Test.YticojnepejboaacGreatCq
import Derived.Test.YticojnepejboaacGreatCc
import Derived.Test.YticojnepejboaacGreatFq
import Derived.Maps.AppendAt
namespace Go.Proofs.YticojnepejboaacGreat
open Go.RowKit

set_option maxRecDepth 100000 in
set_option maxHeartbeats 4000000 in
theorem allIs_any (S : Nat → Prop) (vb : Value) (b : List ByteArray) (x : ByteArray) (nb : Nat) (w : World) (h : AtL S w b vb) (hx : w.cell? ⟨nb, 0, none⟩ = some vb) :
    Calls Tryz.prog 145 #[.string x, .pointer (some ⟨nb, 0, none⟩)] w fun e w' => e = .returned (.bool (!hasB b x)) ∧ w' = w := by
  have H : Hid _ := hasI_any S vb b x w h
  clear h
  go_enter Tryz.func145, Tryz.ntmps145
  go_wp2_with fail
  refine Calls.mono H.out ?_
  rintro e w1 ⟨rfl, rfl⟩
  go_wp2_with fail
  go_ret
  exact ⟨rfl, rfl⟩

set_option maxRecDepth 100000 in
set_option maxHeartbeats 4000000 in
theorem allIdx_any (S : Nat → Prop) (va vb : Value) (a b : List ByteArray) (nb : Nat) (w : World) (ha : AtL S w a va) (hb : AtL S w b vb) (hx : w.cell? ⟨nb, 0, none⟩ = some vb) :
    Calls Tryz.prog 148 #[va, .func (.func 145) #[] #[.pointer (some ⟨nb, 0, none⟩)]] w fun e w' => e = .returned (.int .i64 (idxI a (fun x => !hasB b x))) ∧ w' = w := by
  obtain ⟨oa, cap, rfl, hn, hc⟩ := ha
  obtain ⟨n, en⟩ : ∃ n, a.length = n := ⟨_, rfl⟩
  rw [en] at hn
  rw [en]
  unfold maxLen at hn
  have HC : Hid _ := hc
  have HI : Hid (∀ x, Calls Tryz.prog 145 #[.string x, .pointer (some ⟨nb, 0, none⟩)] w fun e w' => e = .returned (.bool (!hasB b x)) ∧ w' = w) := fun x => allIs_any S vb b x nb w hb hx
  clear hc hb hx
  go_enter Tryz.func148, Tryz.ntmps148
  go_wp2
  go_loop [8] (fun i => ∃ k : Nat, k ≤ n ∧ i = .int .i64 k ∧ Hid (∀ j (hj : j < a.length), j < k → (!hasB b a[j]) = false)) (fun i => n - (intOf i).toNat)
  case atStart => exact ⟨0, Nat.zero_le _, rfl, fun _ _ h => by omega⟩
  case round =>
    obtain ⟨k, hk, rfl, hno⟩ := hrel
    by_cases hlt : k < n
    · obtain ⟨q, off, rfl, _, cc, hcell, hat⟩ := HC.out k (by omega)
      rw [width_str] at hcell
      have hcell := hcell 0 (by omega)
      rw [Nat.mul_one, Nat.add_zero] at hcell
      rw [at_str] at hat
      rw [hat.1] at hcell
      clear hat
      obtain ⟨f, ef⟩ : ∃ f, a[k]'(by omega) = f := ⟨_, rfl⟩
      rw [ef] at hcell
      cases hy : (!hasB b f)
      all_goals
        go_wp2_with (go_at_call 145; refine Calls.mono (HI.out f) ?_; rintro e w1 ⟨rfl, rfl⟩; rw [hy])
      · go_round
        case rel => exact ⟨k + 1, by omega, by go_num, fun j hj hjk => by
          by_cases e : j = k
          · subst e; rw [ef]; exact hy
          · exact hno.out j hj (by omega)⟩
        case measure => simp [intOf]; omega
      · rw [idx_yes (k := k) (by omega) (by rw [ef]; exact hy) hno.out]
        go_ret
        exact ⟨rfl, rfl⟩
    · go_wp2
      go_ret
      rw [idx_no (fun j hj => hno.out j hj (by omega))]
      exact ⟨rfl, rfl⟩

theorem allCF_any (S : Nat → Prop) (va vb : Value) (a b : List ByteArray) (nb : Nat) (w : World) (ha : AtL S w a va) (hb : AtL S w b vb) (hx : w.cell? ⟨nb, 0, none⟩ = some vb) :
    Calls Tryz.prog 131 #[va, .func (.func 145) #[] #[.pointer (some ⟨nb, 0, none⟩)]] w fun e w' => e = .returned (.bool (a.any fun x => !hasB b x)) ∧ w' = w := by
  rw [show (a.any fun x => !hasB b x) = decide (0 ≤ idxI a (fun x => !hasB b x)) from (idx_any a _).symm]
  have H : Hid _ := allIdx_any S va vb a b nb w ha hb hx
  clear ha hb hx
  go_enter Tryz.func131, Tryz.ntmps131
  go_wp2_with fail
  refine Calls.mono H.out ?_
  rintro e w1 ⟨rfl, rfl⟩
  go_wp2_with fail
  go_ret
  exact ⟨rfl, rfl⟩
theorem all_not (a b : List ByteArray) : (!(a.any fun x => !hasB b x)) = allC' a b := by
  simp [allC', List.not_any_eq_all_not]
set_option maxRecDepth 100000 in
set_option maxHeartbeats 4000000 in
theorem all_any (S : Nat → Prop) (va vb : Value) (a b : List ByteArray) (w : World) (ha : AtL S w a va) (hb : AtL S w b vb) (hS : ∀ b, S b → b < w.heap.size) :
    Calls Tryz.prog 128 #[va, vb] w fun e w' => e = .returned (.bool (allC' a b)) ∧ Below w.heap.size w w' := by
  rw [← all_not a b]
  obtain ⟨oa, ca, rfl, _⟩ := id ha
  obtain ⟨ob, cb, rfl, _⟩ := id hb
  have hmf : ∀ (fn : Fn) (first cap : Array Value) (w : World), (Instr.makeFunc fn first cap).run Tryz.prog w = .ok (.func fn first cap) w := fun _ _ _ _ => rfl
  have B1 : Below w.heap.size w (w.alloc (.cells #[.slice ob b.length cb] 24)) := (Below.refl _ _).alloc (Nat.le_refl _) _
  have H : Hid _ := allCF_any S _ _ a b w.heap.size (w.alloc (.cells #[.slice ob b.length cb] 24)) (ha.same (Same.of_below B1 hS)) (hb.same (Same.of_below B1 hS)) (new_cell w _ _ 0 _ rfl)
  have HB : Hid _ := B1
  clear ha hb B1
  go_enter Tryz.func128, Tryz.ntmps128
  go_wp2_with fail
  refine Calls.mono H.out ?_
  rintro e w1 ⟨rfl, rfl⟩
  go_wp2_with fail
  go_ret
  exact ⟨rfl, HB.out⟩

set_option maxRecDepth 100000 in
set_option maxHeartbeats 4000000 in
theorem spotAtIs_any (a x : ByteArray) (a1 a2 a3 a4 : Value) (nb : Nat) (w : World) (hx : w.cell? ⟨nb, 0, none⟩ = some (.string x)) (hnb : nb < w.heap.size) :
    Calls Tryz.prog 137 #[.agg #[.string a, a1, a2, a3, a4], .pointer (some ⟨nb, 0, none⟩)] w fun e w' => e = .returned (.bool (eqB a x)) ∧ Below w.heap.size w w' := by
  have hx' := fun o => cell_past hx hnb o
  go_enter Tryz.func137, Tryz.ntmps137
  go_wp2
  go_ret
  exact ⟨rfl, (Below.refl _ _).alloc (Nat.le_refl _) _⟩

set_option maxRecDepth 100000 in
set_option maxHeartbeats 4000000 in
theorem spotAtIdx_any (S : Nat → Prop) (v : Value) (l : List DClaimSpot) (x : ByteArray) (nb : Nat) (w : World) (h : AtL S w l v) (hS : ∀ b, S b → b < w.heap.size) (hx : w.cell? ⟨nb, 0, none⟩ = some (.string x)) (hnb : nb < w.heap.size) :
    Calls Tryz.prog 136 #[v, .func (.func 137) #[] #[.pointer (some ⟨nb, 0, none⟩)]] w fun e w' => e = .returned (.int .i64 (idxI l (fun p : DClaimSpot => eqB p.1 x))) ∧ Below w.heap.size w w' := by
  obtain ⟨oa, cap, rfl, hn, hc⟩ := h
  obtain ⟨n, en⟩ : ∃ n, l.length = n := ⟨_, rfl⟩
  rw [en] at hn
  rw [en]
  unfold maxLen at hn
  have HC : Hid _ := hc
  have HX : Hid _ := hx
  clear hc hx
  go_enter Tryz.func136, Tryz.ntmps136
  go_wp2
  go_loopw [8] (fun i wr => ∃ k : Nat, k ≤ n ∧ i = .int .i64 k ∧ Hid (∀ j (hj : j < l.length), j < k → eqB l[j].1 x = false) ∧ Hid (Below w.heap.size w wr)) (fun i _ => n - (intOf i).toNat)
  case atStart => exact ⟨0, Nat.zero_le _, rfl, fun _ _ h => by omega, Below.refl _ _⟩
  case round =>
    obtain ⟨k, hk, rfl, hno, hbel⟩ := hrel
    have hs := hbel.out.size
    by_cases hlt : k < n
    · obtain ⟨b, off, rfl, hbS, ce, hcelle, hate⟩ := HC.out k (by omega)
      have hbb := hS b hbS
      have hbw := hbel.out
      rw [width_DClaimSpot] at hcelle
      have e0 : wr.cell? ⟨b, off + k * 5, none⟩ = some (ce 0) := (hbw.cell (p := ⟨b, off + k * 5, none⟩) (by show b < _; omega)).trans (by simpa using hcelle 0 (by omega))
      have e1 : wr.cell? ⟨b, off + k * 5 + 1, none⟩ = some (ce 1) := (hbw.cell (p := ⟨b, off + k * 5 + 1, none⟩) (by show b < _; omega)).trans (by simpa using hcelle 1 (by omega))
      have e2 : wr.cell? ⟨b, off + k * 5 + 2, none⟩ = some (ce 2) := (hbw.cell (p := ⟨b, off + k * 5 + 2, none⟩) (by show b < _; omega)).trans (by simpa using hcelle 2 (by omega))
      have e3 : wr.cell? ⟨b, off + k * 5 + 3, none⟩ = some (ce 3) := (hbw.cell (p := ⟨b, off + k * 5 + 3, none⟩) (by show b < _; omega)).trans (by simpa using hcelle 3 (by omega))
      have e4 : wr.cell? ⟨b, off + k * 5 + 4, none⟩ = some (ce 4) := (hbw.cell (p := ⟨b, off + k * 5 + 4, none⟩) (by show b < _; omega)).trans (by simpa using hcelle 4 (by omega))
      clear hcelle
      have hate := Lay.same hate (Same.of_below hbw hS)
      rw [at_DClaimSpot] at hate
      obtain ⟨ef, eef⟩ : ∃ f, l[k]'(by omega) = f := ⟨_, rfl⟩
      rw [eef] at hate
      obtain ⟨⟨te0, ze0⟩, ⟨te1, zle1, zhe1⟩, ⟨te2, zle2, zhe2⟩, ⟨te3, zle3, zhe3⟩, le4⟩ := hate
      obtain ⟨soe4, sce4, te4, _⟩ := id le4
      rw [te4] at le4
      have Ke4 : Hid _ := le4
      clear le4
      rw [te0] at e0
      rw [te1] at e1
      rw [te2] at e2
      rw [te3] at e3
      rw [te4] at e4
      clear te0 te1 te2 te3 te4
      clear hbw
      have HXR : Hid (wr.cell? ⟨nb, 0, none⟩ = some (.string x)) := (hbel.out.cell (p := ⟨nb, 0, none⟩) hnb).trans HX.out
      cases hy : eqB ef.1 x
      · go_wp2_with (go_at_call 137; refine (spotAtIs_any _ x _ _ _ _ nb _ HXR.out (by omega)).mono ?_; rintro e w1 ⟨rfl, hb1⟩; rw [hy])
        go_roundw
        case rel => exact ⟨k + 1, by omega, by go_num, fun j hj hjk => by
          by_cases e : j = k
          · subst e; rw [eef]; exact hy
          · exact hno.out j hj (by omega), hbel.out.trans (hb1.mono hs)⟩
        case measure => simp [intOf]; omega
      · go_wp2_with (go_at_call 137; refine (spotAtIs_any _ x _ _ _ _ nb _ HXR.out (by omega)).mono ?_; rintro e w1 ⟨rfl, hb1⟩; rw [hy])
        rw [idx_yes (k := k) (by omega) (by rw [eef]; exact hy) hno.out]
        go_ret
        exact ⟨rfl, hbel.out.trans (hb1.mono hs)⟩
    · go_wp2
      go_ret
      rw [idx_no (fun j hj => hno.out j hj (by omega))]
      exact ⟨rfl, hbel.out⟩

set_option maxRecDepth 100000 in
set_option maxHeartbeats 4000000 in
theorem spotAtI_any (S : Nat → Prop) (v0 v1 v2 v3 v4 : Value) (l : List DClaimSpot) (x : ByteArray) (w : World) (h : AtL S w l v1) (hS : ∀ b, S b → b < w.heap.size) :
    Calls Tryz.prog 109 #[.agg #[v0, v1, v2, v3, v4], .string x] w fun e w' => e = .returned (.int .i64 (idxI l (fun p : DClaimSpot => eqB p.1 x))) ∧ Below w.heap.size w w' := by
  have hmf : ∀ (fn : Fn) (first cap : Array Value) (w : World), (Instr.makeFunc fn first cap).run Tryz.prog w = .ok (.func fn first cap) w := fun _ _ _ _ => rfl
  have H : Hid (∀ o1 o2, AtL S ((w.alloc o1).alloc o2) l v1) := fun o1 o2 => h.same (Same.of_below (((Below.refl _ _).alloc (Nat.le_refl _) o1).alloc (by simp) o2) hS)
  have HS : Hid (∀ o1 o2 b, S b → b < ((w.alloc o1).alloc o2).heap.size) := fun o1 o2 b hb => by have := hS b hb; simp; omega
  clear h
  go_enter Tryz.func109, Tryz.ntmps109
  go_wp2_with (go_at_call 136; refine (spotAtIdx_any S v1 l x (w.heap.size + 1) _ (H.out _ _) (HS.out _ _) (by simp) (by simp)).mono ?_; rintro e w1 ⟨rfl, hb1⟩)
  go_ret
  exact ⟨rfl, (((Below.refl _ _).alloc (Nat.le_refl _) _).alloc (by simp) _).trans (hb1.mono (by simp; omega))⟩

theorem eqB_iff (a b : ByteArray) : eqB a b = true ↔ a = b := by
  constructor
  · intro h
    simp only [eqB, beq_iff_eq, ByteArray.toList_eq] at h
    exact ByteArray.ext (Array.toList_inj.1 h)
  · rintro rfl
    exact eqB_refl a
/-- Pair i of a list of foes. -/
def nthF (l : List DClaimFoe) (i : Nat) : ByteArray × ByteArray := l.getD i (⟨#[]⟩, ⟨#[]⟩)
theorem nthF_at (l : List DClaimFoe) (i : Nat) (h : i < l.length) : nthF l i = l[i] := by simp [nthF, h]
theorem cnt_foe (l : List DClaimFoe) (a b : ByteArray) : decide (0 < cntF (nthF l) l.length a b) = foeC l a b := by
  rw [Bool.eq_iff_iff, decide_eq_true_iff, cnt_iff, foeC, List.any_eq_true]
  constructor
  · rintro ⟨i, hi, h⟩
    rw [nthF_at l i hi] at h
    refine ⟨l[i], List.getElem_mem hi, ?_⟩
    rw [Bool.or_eq_true, Bool.and_eq_true, Bool.and_eq_true, eqB_iff, eqB_iff, eqB_iff, eqB_iff]
    rcases h with ⟨h1, h2⟩ | ⟨h1, h2⟩
    · exact Or.inl ⟨h1.symm, h2.symm⟩
    · exact Or.inr ⟨h2.symm, h1.symm⟩
  · rintro ⟨f, hf, h⟩
    obtain ⟨i, hi, rfl⟩ := List.getElem_of_mem hf
    refine ⟨i, hi, ?_⟩
    rw [nthF_at l i hi]
    rw [Bool.or_eq_true, Bool.and_eq_true, Bool.and_eq_true, eqB_iff, eqB_iff, eqB_iff, eqB_iff] at h
    rcases h with ⟨h1, h2⟩ | ⟨h1, h2⟩
    · exact Or.inl ⟨h1.symm, h2.symm⟩
    · exact Or.inr ⟨h2.symm, h1.symm⟩

set_option maxRecDepth 100000 in
set_option maxHeartbeats 4000000 in
theorem bothWays_any (S : Nat → Prop) (v0 v1 v2 v3 v4 : Value) (l : List DClaimFoe) (w : World) (h : AtL S w l v0) (hS : ∀ b, S b → b < w.heap.size) (hm : l.length ≤ 1048576) :
    Calls Tryz.prog 91 #[.agg #[v0, v1, v2, v3, v4]] w fun e w' => ∃ b, e = .returned (.map (some b)) ∧ Mp w' b (cntF (nthF l) l.length) ∧ Below w.heap.size w w' := by
  obtain ⟨oa, cap, rfl, hn, hc⟩ := h
  obtain ⟨n, en⟩ : ∃ n, l.length = n := ⟨_, rfl⟩
  rw [en] at hn hm
  rw [en]
  unfold maxLen at hn
  have HC : Hid _ := hc
  clear hc
  have hmm := @run_makeMap Tryz.prog
  go_enter Tryz.func91, Tryz.ntmps91
  go_wp2
  go_loopw [10] (fun i wr => ∃ k : Nat, k ≤ n ∧ i = .int .i64 k ∧ Hid (Mp wr (w.heap.size + 1) (cntF (nthF l) k)) ∧ Hid (Below (w.heap.size + 1) (w.alloc (.cells #[.slice oa n cap, v1, v2, v3, v4] 33)) wr)) (fun i _ => n - (intOf i).toNat)
  case atStart =>
    refine ⟨0, Nat.zero_le _, rfl, ?_, (Below.refl _ _).alloc (by simp) _⟩
    have hmade := Mp.made (w.alloc (.cells #[.slice oa n cap, v1, v2, v3, v4] 33))
    have hsz : (w.alloc (.cells #[.slice oa n cap, v1, v2, v3, v4] 33)).heap.size = w.heap.size + 1 := by simp
    rw [hsz] at hmade
    exact hmade
  case round =>
    obtain ⟨k, hk, rfl, hmp, hbl⟩ := hrel
    have hbw := below_end hbl.out
    by_cases hlt : k < n
    · obtain ⟨b, off, rfl, hbS, ce, hcelle, hate⟩ := HC.out k (by omega)
      have hbb := hS b hbS
      rw [width_DClaimFoe] at hcelle
      have e0 : wr.cell? ⟨b, off + k * 2, none⟩ = some (ce 0) := (hbw.cell (p := ⟨b, off + k * 2, none⟩) (by show b < _; omega)).trans (by simpa using hcelle 0 (by omega))
      have e1 : wr.cell? ⟨b, off + k * 2 + 1, none⟩ = some (ce 1) := (hbw.cell (p := ⟨b, off + k * 2 + 1, none⟩) (by show b < _; omega)).trans (by simpa using hcelle 1 (by omega))
      clear hcelle
      have hate := Lay.same hate (Same.of_below hbw hS)
      rw [at_DClaimFoe] at hate
      obtain ⟨ef, eef⟩ : ∃ f, l[k]'(by omega) = f := ⟨_, rfl⟩
      rw [eef] at hate
      obtain ⟨⟨te0, ze0⟩, ⟨te1, ze1⟩⟩ := hate
      rw [te0] at e0
      rw [te1] at e1
      clear te0 te1
      clear hbw
      have hlt1 : w.heap.size + 1 < wr.heap.size := hmp.out.lt
      have mA : Hid (Mp (wr.alloc (.cells #[.string ef.1, .string ef.2] 83)) (w.heap.size + 1) (cntF (nthF l) k)) := hmp.out.of_block (Below.heap_alloc wr _ _ hmp.out.lt)
      have BA : Hid (Below (w.heap.size + 1) (w.alloc (.cells #[.slice (some ⟨b, off, none⟩) n cap, v1, v2, v3, v4] 33)) (wr.alloc (.cells #[.string ef.1, .string ef.2] 83))) := hbl.out.alloc (by omega) _
      have hM : Hid (∀ p q, 0 ≤ cntF (nthF l) k p q ∧ cntF (nthF l) k p q ≤ 4611686018427387904) := fun p q => by have := cnt_bound (nthF l) k p q; omega
      have hst : Hid (addN (cntF (nthF l) k) ef.1 ef.2 = cntF (nthF l) (k + 1)) := by
        show _ = addN _ (nthF l k).1 (nthF l k).2
        rw [nthF_at l k (by omega), eef]
      go_wp2_with (go_at_call 119; refine (add_any (w.heap.size + 1) (cntF (nthF l) k) _ _ _ mA.out ze0 ze1 hM.out).mono ?_; rintro e w1 ⟨rfl, hm1, hb1⟩)
      rw [hst.out] at hm1
      go_roundw
      case rel => exact ⟨k + 1, by omega, by go_num, hm1, BA.out.trans hb1⟩
      case measure => simp [intOf]; omega
    · go_wp2
      go_ret
      have hkn : k = n := by omega
      subst hkn
      exact ⟨_, rfl, hmp.out, hbw⟩

end Go.Proofs.YticojnepejboaacGreat
