/-
  The model's list of the spots that a want uses.
-/
import Derived.Test.YticojnepejboaacGreatCi
import Derived.Test.YticojnepejboaacGreatCbo
import Derived.Maps.AppendAt
namespace Go.Proofs.YticojnepejboaacGreat
open Go.RowKit

/-- The names of some uses. -/
def usN (us : List DClaimUse) : List ByteArray := us.map fun u => u.1

theorem usN_take {us : List DClaimUse} {k : Nat} (h : k < us.length) : usN (us.take (k + 1)) = usN (us.take k) ++ [us[k].1] := by
  unfold usN
  rw [List.take_add_one, List.getElem?_eq_getElem h, List.map_append]; rfl

theorem own_atC {B : Nat} {w : World} {v : Value} {l : List ByteArray} (h : w.ownsRow B 9 1 v l.length (l.map .string)) (hm : l.length ≤ 1048576) (hz : ∀ x ∈ l, x.size ≤ maxLen) : AtL (fun b => B ≤ b ∧ b < w.heap.size) w l v := by
  rcases h.2 with ⟨rfl, hn⟩ | ⟨g, cap, cur, rfl, hb, hg, hc, hm', hs, ht⟩
  · exact ⟨none, 0, by rw [hn], ⟨by omega, by omega, fun _ => rfl⟩, fun i hi => by omega⟩
  · refine ⟨_, _, rfl, ⟨by unfold maxLen; omega, hc, fun h => nomatch h⟩, fun i hi => ⟨g, 0, rfl, ⟨hb, (Array.getElem?_eq_some_iff.1 hg).1⟩, cs [.string l[i]], fun j hj => ?_, ⟨rfl, hz _ (List.getElem_mem hi)⟩⟩⟩
    rw [width_str] at hj ⊢
    have ej : j = 0 := by omega
    subst ej
    have e1 : cur.toList[i]? = (l.map Value.string)[i]? := by
      rw [← ht, Nat.mul_one, List.getElem?_take_of_lt hi]
    have e2 : cur[0 + i * 1 + 0]? = some (.string l[i]) := by
      rw [Nat.zero_add, Nat.mul_one, Nat.add_zero, ← Array.getElem?_toList, e1]
      simp [hi]
    exact (cell_row hg _ _ e2).1

set_option maxRecDepth 100000 in
set_option maxHeartbeats 8000000 in
theorem usnC_any (S : Nat → Prop) (x0 x1 x2 x3 x4 x5 : Value) (us : List DClaimUse) (w : World) (h : AtL S w us x3) (hS : ∀ b, S b → b < w.heap.size) (hl : us.length ≤ 1048576) :
    Calls Tryz.prog 66 #[.agg #[x0, x1, x2, x3, x4, x5]] w fun e w' => ∃ v', e = .returned v' ∧ AtL (fun b => w.heap.size ≤ b ∧ b < w'.heap.size) w' (usN us) v' ∧ Below w.heap.size w w' := by
  obtain ⟨i0, hi, hz0, hz1, hz2⟩ := info_parts infoStringS
  obtain ⟨oa, cap, rfl, hn, hc⟩ := h
  have hzz : Hid (∀ x ∈ usN us, x.size ≤ maxLen) := by
    intro x hx
    obtain ⟨u, hu, rfl⟩ := List.mem_map.1 hx
    obtain ⟨k, hk, rfl⟩ := List.getElem_of_mem hu
    obtain ⟨_, _, _, _, _, _, hat⟩ := hc k hk
    exact hat.1.2
  obtain ⟨n, en⟩ : ∃ n, us.length = n := ⟨_, rfl⟩
  rw [en] at hn hl
  rw [en]
  have HC : Hid _ := hc
  clear hc hn
  go_enter Tryz.func66, Tryz.ntmps66
  go_wp2
  go_loopw [3, 4] (fun v i wr => ∃ k : Nat, k ≤ n ∧ i = .int .i64 k ∧ Hid (wr.ownsRow (w.heap.size + 1) 9 1 v k ((usN (us.take k)).map .string)) ∧ Hid (Below (w.heap.size + 1) (w.alloc (.cells #[x0, x1, x2, .slice oa n cap, x4, x5] 48)) wr)) (fun _ i _ => n - (intOf i).toNat)
  case atStart => exact ⟨0, Nat.zero_le _, rfl, by
    have := World.ownsRow_made (e := 9) (size := 1) (base := w.heap.size + 1) (w.alloc (.cells #[x0, x1, x2, .slice oa n cap, x4, x5] 48)) #[] 0 (by simp) (by simp) rfl
    simpa [Hid, usN] using this, (Below.refl _ _).alloc (by simp) _⟩
  case round =>
    obtain ⟨k, hk, rfl, hown, hbel⟩ := hrel
    have hbw := below_end hbel.out
    have hs := hbw.size
    have hs1 : w.heap.size + 1 ≤ wr.heap.size := by have := hbel.out.size; simpa using this
    have y3 := box_at _ _ hbel.out 3 (.slice oa n cap) rfl
    by_cases hlt : k < n
    · obtain ⟨q, off, rfl, hqS, cc, hcell, hat⟩ := HC.out k (by omega)
      have hq := hS q hqS
      rw [width_DClaimUse] at hcell
      rw [at_DClaimUse] at hat
      have e0 : wr.cell? ⟨q, off + k * 3, none⟩ = some (cc 0) := (hbw.cell (p := ⟨q, off + k * 3, none⟩) hq).trans (by simpa using hcell 0 (by omega))
      rw [hat.1.1] at e0
      clear hcell hat
      have R : Hid (∀ (v' : Value) (w3 : World), w3.ownsRow (w.heap.size + 1) 9 1 v' (k + 1) ((usN (us.take k)).map .string ++ [.string (us[k]'(by omega)).1]) → w3.ownsRow (w.heap.size + 1) 9 1 v' (k + 1) ((usN (us.take (k + 1))).map .string)) := fun v' w3 h => by
        rw [usN_take (by omega), List.map_append]; exact h
      obtain ⟨f, ef⟩ : ∃ f, us[k]'(by omega) = f := ⟨_, rfl⟩
      rw [ef] at e0 R
      go_wp2_with (first
        | (at_builtin; refine wpList_append_own _ rfl _ _ 24 rfl (w.heap.size + 1) 9 i0 (.string ByteArray.empty) 1 16 underStringS hi hz0 hz1 hz2 rfl (by decide) _ _ _ rfl (hown.out.alloc _) ⟨wr.heap.size, 0, none⟩ 1 1 [.string f.1] rfl rfl (cell_one_new _ _ _) (fun x hx => by simp at hx; subst hx; rfl) (by unfold maxLen; omega) (by omega) (by simp; omega) ?_; intro v' w3 hown' hgrow3 hnil3))
      go_roundw
      case rel =>
        have RR : ∃ q' : Nat, q' ≤ n ∧ Value.int .i64 ((k : Int) + 1) = .int .i64 (q' : Int) ∧ Hid (w3.ownsRow (w.heap.size + 1) 9 1 v' q' ((usN (us.take q')).map .string)) ∧ Hid (Below (w.heap.size + 1) (w.alloc (.cells #[x0, x1, x2, .slice (some ⟨q, off, none⟩) n cap, x4, x5] 48)) w3) :=
          ⟨k + 1, by omega, by go_num, R.out v' w3 hown', (hbel.out.alloc (by omega) _).grown hgrow3 (by simp; omega) (fun p hp => (hown.out.lt p hp).1)⟩
        first
          | exact RR
          | ((repeat apply Exists.intro); exact ⟨RR, rfl⟩)
      case measure => simp [intOf]; omega
    · have hkn : k = n := by omega
      subst hkn
      have TL : Hid (us.take k = us) := by show _ = _; rw [← en, List.take_length]
      go_wp2
      go_ret
      refine ⟨_, rfl, ?_, hbw⟩
      have h1 := hown.out
      rw [TL.out] at h1
      have h2 : (usN us).length = k := by unfold usN; rw [List.length_map, en]
      refine AtL.up (own_atC (B := w.heap.size + 1) (by rw [h2]; exact h1) (by omega) hzz.out) (fun b hb => ⟨by omega, hb.2⟩)

end Go.Proofs.YticojnepejboaacGreat
