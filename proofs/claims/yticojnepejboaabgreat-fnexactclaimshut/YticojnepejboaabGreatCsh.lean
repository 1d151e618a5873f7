/-
  Under which numbers a valve is kept shut: contracts of ClaimShut, of the model and of the program.
-/
import Derived.Test.YticojnepejboaabGreatCl
import Derived.Test.YticojnepejboaabGreatCpn
import Derived.Test.YticojnepejboaabGreatCbi
import Derived.Maps.AppendAt
namespace Go.Proofs.YticojnepejboaabGreat
open Go.RowKit

/-- The numbers of the parts that keep a valve shut. -/
def shutK (x : ByteArray) (ps : List DClaimPart) : List Int := (ps.filter fun p => hasB p.2.2.2.2.2.1 x).map fun p => p.1
noncomputable def shutL (foes : List DClaimFoe) (sp : List DClaimSpot) (va : List ByteArray) (ps : List DClaimPart) (seen : Int) (x : ByteArray) : List Int :=
  if bookS foes sp va ps seen then shutK x ps else []
theorem shutL_bad {foes sp va ps seen} (x : ByteArray) (h : bookS foes sp va ps seen = false) : shutL foes sp va ps seen x = [] := by
  unfold shutL; rw [h]; rfl
theorem shutL_ok {foes sp va ps seen} (x : ByteArray) (h : bookS foes sp va ps seen = true) : shutL foes sp va ps seen x = shutK x ps := by
  unfold shutL; rw [h]; rfl
theorem shutK_no {x : ByteArray} {ps : List DClaimPart} {k : Nat} (h : k < ps.length) (hn : hasB ps[k].2.2.2.2.2.1 x = false) : shutK x (ps.take (k + 1)) = shutK x (ps.take k) := by
  unfold shutK
  rw [List.take_add_one, List.getElem?_eq_getElem h, List.filter_append, List.map_append]
  simp [hn]
theorem shutK_yes {x : ByteArray} {ps : List DClaimPart} {k : Nat} (h : k < ps.length) (hn : hasB ps[k].2.2.2.2.2.1 x = true) : shutK x (ps.take (k + 1)) = shutK x (ps.take k) ++ [ps[k].1] := by
  unfold shutK
  rw [List.take_add_one, List.getElem?_eq_getElem h, List.filter_append, List.map_append]
  simp [hn]
theorem shutK_len (x : ByteArray) (ps : List DClaimPart) (k : Nat) (h : k ≤ ps.length) : (shutK x (ps.take k)).length ≤ k := by
  unfold shutK
  have := List.length_filter_le (fun p : DClaimPart => hasB p.2.2.2.2.2.1 x) (ps.take k)
  rw [List.length_take] at this
  rw [List.length_map]; omega
theorem own_lowC {w w' : World} {base e size : Nat} {v : Value} {k : Nat} {xs : List Value} (h : w.ownsRow base e size v k xs) (hb : Below w.heap.size w w') : w'.ownsRow base e size v k xs := by
  refine ⟨h.1, ?_⟩
  rcases h.2 with hn | ⟨g, cap, cur, rfl, h1, hg, rest⟩
  · exact .inl hn
  · exact .inr ⟨g, cap, cur, rfl, h1, (hb.block g (Array.getElem?_eq_some_iff.1 hg).1).trans hg, rest⟩
theorem own_onI {B : Nat} {w : World} {v : Value} {l : List Int} (h : w.ownsRow B 3 1 v l.length (l.map (Value.int .i64))) (hm : l.length ≤ 1048576) (hz : ∀ x ∈ l, -9223372036854775808 ≤ x ∧ x ≤ 9223372036854775807) : OnL (fun b => B ≤ b ∧ b < w.heap.size) w l v := by
  rcases h.2 with ⟨rfl, hn⟩ | ⟨g, cap, cur, rfl, hb, hg, hc, hm', hs, ht⟩
  · exact ⟨none, 0, by rw [hn], ⟨by omega, by omega, fun _ => rfl⟩, .inl (List.eq_nil_of_length_eq_zero hn)⟩
  · refine ⟨_, _, rfl, ⟨by unfold maxLen; omega, hc, fun h => nomatch h⟩, .inr ⟨g, 0, fun _ _ => False, cur, _, rfl, fun i => l.getD i 0, fun i hi => by simp [hi], ⟨hg, ⟨hb, (Array.getElem?_eq_some_iff.1 hg).1⟩, fun _ _ h => h.elim, fun _ _ _ h => h.elim, fun i hi => ⟨cs [.int .i64 l[i]], fun j hj => ?_, ?_⟩⟩⟩⟩
    · rw [width_int] at hj ⊢
      have ej : j = 0 := by omega
      subst ej
      have e1 : cur.toList[i]? = (l.map (Value.int .i64))[i]? := by
        rw [← ht, Nat.mul_one, List.getElem?_take_of_lt hi]
      rw [Nat.zero_add, Nat.mul_one, Nat.add_zero, ← Array.getElem?_toList, e1]
      simp [hi]
      rfl
    · have e : l.getD i 0 = l[i] := by simp [hi]
      rw [e]
      exact at_int.2 ⟨rfl, hz _ (List.getElem_mem hi)⟩
theorem underIntS : Tryz.prog.underlying 29 = some (.slice 3) := by kernel_rfl
theorem infoIntS : (Tryz.prog.info? 3).map (fun i => (i.zero, i.size, i.bytes)) = some (some (.int .i64 0), 1, 8) := by kernel_rfl

set_option maxRecDepth 100000 in
set_option maxHeartbeats 8000000 in
theorem shutC_any (S : Nat → Prop) (v0 v1 v2 v3 : Value) (seen : Int) (foes : List DClaimFoe) (sp : List DClaimSpot) (va : List ByteArray) (ps : List DClaimPart) (x : ByteArray) (w : World) (h0 : AtL S w foes v0) (h1 : AtL S w sp v1) (h2 : AtL S w va v2) (h3 : AtL S w ps v3) (hS : ∀ b, S b → b < w.heap.size) (hl : ps.length ≤ 1048576) :
    Calls Tryz.prog 5 #[.agg #[v0, v1, v2, v3, .int .i64 seen], .string x] w fun e w' => ∃ r, e = .returned r ∧ OnL (fun b => w.heap.size ≤ b ∧ b < w'.heap.size) w' (shutL foes sp va ps seen x) r ∧ Below w.heap.size w w' := by
  obtain ⟨i0, hi, hz0, hz1, hz2⟩ := info_parts infoIntS
  have sA : Same S w ((w.alloc (.cells #[v0, v1, v2, v3, .int .i64 seen] 35)).alloc (.cells #[] 3)) := (Same.of_alloc w _ hS).trans (Same.of_alloc _ _ (fun b hb => by have := hS b hb; simp; omega))
  have CB : Hid _ := bookC_any S v0 v1 v2 v3 seen foes sp va ps ((w.alloc (.cells #[v0, v1, v2, v3, .int .i64 seen] 35)).alloc (.cells #[] 3)) (h0.same sA) (h1.same sA) (h2.same sA) (h3.same sA) (fun b hb => by have := hS b hb; simp; omega)
  clear h0 h1 h2 sA
  obtain ⟨o3, k3, rfl, hn, hc⟩ := h3
  have hzz : Hid (∀ y ∈ shutK x ps, -9223372036854775808 ≤ y ∧ y ≤ 9223372036854775807) := by
    intro y hy
    obtain ⟨p, hp, rfl⟩ := List.mem_map.1 hy
    obtain ⟨k, hk, rfl⟩ := List.getElem_of_mem (List.mem_filter.1 hp).1
    obtain ⟨_, _, _, _, _, _, hat⟩ := hc k hk
    exact hat.1.2
  have HLN : Hid (∀ k, k ≤ ps.length → (shutK x (ps.take k)).length ≤ k) := shutK_len x ps
  obtain ⟨n, en⟩ : ∃ n, ps.length = n := ⟨_, rfl⟩
  rw [en] at hn CB hl HLN
  rw [en]
  have HC : Hid _ := hc
  clear hc hn
  go_enter Tryz.func5, Tryz.ntmps5
  go_wp2_with fail
  refine Calls.mono CB.out ?_
  rintro e w1 ⟨rfl, hb1⟩
  have E1 : Hid (Below (w.heap.size + 1) (w.alloc (.cells #[v0, v1, v2, .slice o3 n k3, .int .i64 seen] 35)) w1) := ((Below.refl _ _).alloc (by simp) _).trans (hb1.mono (by simp))
  have R1 : Hid (w1.ownsRow (w.heap.size + 1) 3 1 (.slice (some ⟨w.heap.size + 1, 0, none⟩) 0 0) 0 []) := by
    have := World.ownsRow_made (e := 3) (size := 1) (base := w.heap.size + 1) (w.alloc (.cells #[v0, v1, v2, .slice o3 n k3, .int .i64 seen] 35)) #[] 0 (by simp) (by simp) rfl
    exact own_lowC (by simpa [Hid] using this) hb1
  clear hb1 CB
  cases hbk : bookS foes sp va ps seen
  · go_wp2_with fail
    go_ret
    refine ⟨_, rfl, ?_, below_end E1.out⟩
    rw [shutL_bad x hbk]
    exact (own_onI (l := []) (by simpa using R1.out) (by simp) (by simp)).up (fun b hb => ⟨by omega, hb.2⟩)
  · have y3 := box_at _ _ E1.out 3 (.slice o3 n k3) rfl
    go_wp2_with fail
    go_loopw [5, 6] (fun v i wr => ∃ k : Nat, k ≤ n ∧ i = .int .i64 k ∧ Hid (wr.ownsRow (w.heap.size + 1) 3 1 v (shutK x (ps.take k)).length ((shutK x (ps.take k)).map (Value.int .i64))) ∧ Hid (Below (w.heap.size + 1) (w.alloc (.cells #[v0, v1, v2, .slice o3 n k3, .int .i64 seen] 35)) wr)) (fun _ i _ => n - (intOf i).toNat)
    case atStart => exact ⟨0, Nat.zero_le _, rfl, by simpa [Hid, shutK] using R1.out, E1.out⟩
    case round =>
      obtain ⟨k, hk, rfl, hown, E⟩ := hrel
      clear y3
      have B := below_end E.out
      have hs := B.size
      have hsE : w.heap.size + 1 ≤ wr.heap.size := by have := E.out.size; simpa using this
      have SR : ∀ b, S b → b < wr.heap.size := fun b hb => by have := hS b hb; omega
      have y3 := box_at _ _ E.out 3 (.slice o3 n k3) rfl
      by_cases hlt : k < n
      · obtain ⟨b, off, rfl, hbS, cc, hcell, hat⟩ := HC.out k (by omega)
        have hb := hS b hbS
        rw [width_DClaimPart] at hcell
        rw [at_DClaimPart] at hat
        have e0 : wr.cell? ⟨b, off + k * 7, none⟩ = some (cc 0) := (B.cell (p := ⟨b, off + k * 7, none⟩) hb).trans (by have := hcell 0 (by omega); simpa [Nat.add_mul, Nat.add_assoc] using this)
        rw [hat.1.1] at e0
        have e1 : wr.cell? ⟨b, off + k * 7 + 1, none⟩ = some (cc 1) := (B.cell (p := ⟨b, off + k * 7 + 1, none⟩) hb).trans (by have := hcell 1 (by omega); simpa [Nat.add_mul, Nat.add_assoc] using this)
        rw [hat.2.1.1] at e1
        have e2 : wr.cell? ⟨b, off + k * 7 + 2, none⟩ = some (cc 2) := (B.cell (p := ⟨b, off + k * 7 + 2, none⟩) hb).trans (by have := hcell 2 (by omega); simpa [Nat.add_mul, Nat.add_assoc] using this)
        have e3 : wr.cell? ⟨b, off + k * 7 + 3, none⟩ = some (cc 3) := (B.cell (p := ⟨b, off + k * 7 + 3, none⟩) hb).trans (by have := hcell 3 (by omega); simpa [Nat.add_mul, Nat.add_assoc] using this)
        have e4 : wr.cell? ⟨b, off + k * 7 + 4, none⟩ = some (cc 4) := (B.cell (p := ⟨b, off + k * 7 + 4, none⟩) hb).trans (by have := hcell 4 (by omega); simpa [Nat.add_mul, Nat.add_assoc] using this)
        have e5 : wr.cell? ⟨b, off + k * 7 + 5, none⟩ = some (cc 5) := (B.cell (p := ⟨b, off + k * 7 + 5, none⟩) hb).trans (by have := hcell 5 (by omega); simpa [Nat.add_mul, Nat.add_assoc] using this)
        have e6 : wr.cell? ⟨b, off + k * 7 + 6, none⟩ = some (cc 6) := (B.cell (p := ⟨b, off + k * 7 + 6, none⟩) hb).trans (by have := hcell 6 (by omega); simpa [Nat.add_mul, Nat.add_assoc] using this)
        have eg2 := hat.2.2.1.same (Same.of_below B hS)
        have eg3 := hat.2.2.2.1.same (Same.of_below B hS)
        have eg4 := hat.2.2.2.2.1.same (Same.of_below B hS)
        have eg5 := hat.2.2.2.2.2.1.same (Same.of_below B hS)
        obtain ⟨f, ef⟩ : ∃ f, ps[k]'(by omega) = f := ⟨_, rfl⟩
        rw [ef] at e0 e1 eg2 eg3 eg4 eg5
        obtain ⟨eo2, ek2, ex2, hx2, _⟩ := id eg2
        obtain ⟨en2, ez2⟩ : ∃ n, List.length f.2.2.1 = n := ⟨_, rfl⟩
        rw [ez2] at ex2 hx2
        rw [ex2] at e2 eg2
        clear ex2 hx2
        obtain ⟨eo3, ek3, ex3, hx3, _⟩ := id eg3
        obtain ⟨en3, ez3⟩ : ∃ n, List.length f.2.2.2.1 = n := ⟨_, rfl⟩
        rw [ez3] at ex3 hx3
        rw [ex3] at e3 eg3
        clear ex3 hx3
        obtain ⟨eo4, ek4, ex4, hx4, _⟩ := id eg4
        obtain ⟨en4, ez4⟩ : ∃ n, List.length f.2.2.2.2.1 = n := ⟨_, rfl⟩
        rw [ez4] at ex4 hx4
        rw [ex4] at e4 eg4
        clear ex4 hx4
        obtain ⟨eo5, ek5, ex5, hx5, _⟩ := id eg5
        obtain ⟨en5, ez5⟩ : ∃ n, List.length f.2.2.2.2.2.1 = n := ⟨_, rfl⟩
        rw [ez5] at ex5 hx5
        rw [ex5] at e5 eg5
        clear ex5 hx5
        rw [hat.2.2.2.2.2.2, ef] at e6
        clear hcell hat
        have hlk := HLN.out k (by omega)
        obtain ⟨m, em⟩ : ∃ m, (shutK x (ps.take k)).length = m := ⟨_, rfl⟩
        obtain ⟨X, eX⟩ : ∃ X, (shutK x (ps.take k)).map (Value.int .i64) = X := ⟨_, rfl⟩
        have NO : Hid (hasB f.2.2.2.2.2.1 x = false → ∀ (v' : Value) (w3 : World), w3.ownsRow (w.heap.size + 1) 3 1 v' m X → w3.ownsRow (w.heap.size + 1) 3 1 v' (shutK x (ps.take (k + 1))).length ((shutK x (ps.take (k + 1))).map (Value.int .i64))) := fun hh v' w3 h => by
          rw [shutK_no (by omega) (by rw [ef]; exact hh), em, eX]; exact h
        have YES : Hid (hasB f.2.2.2.2.2.1 x = true → ∀ (v' : Value) (w3 : World), w3.ownsRow (w.heap.size + 1) 3 1 v' (m + 1) (X ++ [.int .i64 f.1]) → w3.ownsRow (w.heap.size + 1) 3 1 v' (shutK x (ps.take (k + 1))).length ((shutK x (ps.take (k + 1))).map (Value.int .i64))) := fun hh v' w3 h => by
          rw [shutK_yes (by omega) (by rw [ef]; exact hh), List.map_append, List.length_append, em, eX, ef]; exact h
        rw [em] at hlk
        rw [em, eX] at hown
        clear em eX
        have CA : Hid _ := hasC_any S (.slice eo5 en5 ek5) f.2.2.2.2.2.1 x wr eg5
        obtain ⟨v, ev⟩ : ∃ v, v = v := ⟨Value.bool true, rfl⟩
        clear ev v
        cases c5 : hasB f.2.2.2.2.2.1 x
        · go_wp2_with fail
          refine Calls.mono CA.out ?_
          rintro e w2 ⟨rfl, hb2⟩
          rw [c5]
          have E2 : Hid (Below (w.heap.size + 1) (w.alloc (.cells #[v0, v1, v2, .slice (some ⟨b, off, none⟩) n k3, .int .i64 seen] 35)) w2) := E.out.trans (hb2.mono hsE)
          have hown2 := own_lowC hown.out hb2
          have hs2 : wr.heap.size ≤ w2.heap.size := hb2.size
          go_wp2_with fail
          go_roundw
          case rel =>
            have RR : ∃ q' : Nat, q' ≤ n ∧ Value.int .i64 ((k : Int) + 1) = .int .i64 (q' : Int) ∧ Hid (w2.ownsRow (w.heap.size + 1) 3 1 _ (shutK x (ps.take q')).length ((shutK x (ps.take q')).map (Value.int .i64))) ∧ Hid (Below (w.heap.size + 1) (w.alloc (.cells #[v0, v1, v2, .slice (some ⟨b, off, none⟩) n k3, .int .i64 seen] 35)) w2) :=
              ⟨k + 1, by omega, by go_num, NO.out c5 _ _ hown2, E2.out⟩
            first
              | exact RR
              | ((repeat apply Exists.intro); exact ⟨RR, rfl⟩)
          case measure => simp [intOf]; omega
        · go_wp2_with fail
          refine Calls.mono CA.out ?_
          rintro e w2 ⟨rfl, hb2⟩
          rw [c5]
          have E2 : Hid (Below (w.heap.size + 1) (w.alloc (.cells #[v0, v1, v2, .slice (some ⟨b, off, none⟩) n k3, .int .i64 seen] 35)) w2) := E.out.trans (hb2.mono hsE)
          have hown2 := own_lowC hown.out hb2
          have hs2 : wr.heap.size ≤ w2.heap.size := hb2.size
          have z3 := box_at _ _ E2.out 3 (.slice (some ⟨b, off, none⟩) n k3) rfl
          have d0 := (hb2.cell (p := ⟨b, off + k * 7, none⟩) (SR b hbS)).trans e0
          go_wp2_with (first | (at_builtin; refine wpList_append_own _ rfl _ _ 29 rfl (w.heap.size + 1) 3 i0 (.int .i64 0) 1 8 underIntS hi hz0 hz1 hz2 rfl (by decide) _ _ _ rfl (hown2.alloc _) ⟨w2.heap.size, 0, none⟩ 1 1 [.int .i64 f.1] rfl rfl (cell_one_new _ _ _) (fun x hx => by simp at hx; subst hx; rfl) (by unfold maxLen; omega) (by omega) (by simp; omega) ?_; intro v' w3 hown' hgrow3 hnil3))
          go_roundw
          case rel =>
            have RR : ∃ q' : Nat, q' ≤ n ∧ Value.int .i64 ((k : Int) + 1) = .int .i64 (q' : Int) ∧ Hid (w3.ownsRow (w.heap.size + 1) 3 1 v' (shutK x (ps.take q')).length ((shutK x (ps.take q')).map (Value.int .i64))) ∧ Hid (Below (w.heap.size + 1) (w.alloc (.cells #[v0, v1, v2, .slice (some ⟨b, off, none⟩) n k3, .int .i64 seen] 35)) w3) :=
              ⟨k + 1, by omega, by go_num, YES.out c5 _ _ hown', (E2.out.alloc (by omega) _).grown hgrow3 (by simp; omega) (fun p hp => (hown2.lt p hp).1)⟩
            first
              | exact RR
              | ((repeat apply Exists.intro); exact ⟨RR, rfl⟩)
          case measure => simp [intOf]; omega
      · have hkn : k = n := by omega
        subst hkn
        have TL : Hid (ps.take k = ps) := by show _ = _; rw [← en, List.take_length]
        have hlk := HLN.out k (Nat.le_refl _)
        rw [TL.out] at hown hlk
        go_wp2_with fail
        go_ret
        refine ⟨_, rfl, ?_, B⟩
        rw [shutL_ok x hbk]
        exact (own_onI hown.out (by omega) hzz.out).up (fun b hb => ⟨by omega, hb.2⟩)

set_option maxRecDepth 100000 in
set_option maxHeartbeats 8000000 in
theorem shutI_any (S : Nat → Prop) (v0 v1 v2 v3 : Value) (seen : Int) (foes : List DClaimFoe) (sp : List DClaimSpot) (va : List ByteArray) (ps : List DClaimPart) (x : ByteArray) (w : World) (h0 : AtL S w foes v0) (h1 : AtL S w sp v1) (h2 : AtL S w va v2) (h3 : AtL S w ps v3) (hS : ∀ b, S b → b < w.heap.size) (hl : ps.length ≤ 1048576) :
    Calls Tryz.prog 7 #[.agg #[v0, v1, v2, v3, .int .i64 seen], .string x] w fun e w' => ∃ r, e = .returned r ∧ OnL (fun b => w.heap.size ≤ b ∧ b < w'.heap.size) w' (shutL foes sp va ps seen x) r ∧ Below w.heap.size w w' := by
  obtain ⟨i0, hi, hz0, hz1, hz2⟩ := info_parts infoIntS
  have sA : Same S w (w.alloc (.cells #[v0, v1, v2, v3, .int .i64 seen] 35)) := Same.of_alloc w _ hS
  have CB : Hid _ := bookIC_any S v0 v1 v2 v3 seen foes sp va ps (w.alloc (.cells #[v0, v1, v2, v3, .int .i64 seen] 35)) (h0.same sA) (h1.same sA) (h2.same sA) (h3.same sA) (fun b hb => by have := hS b hb; simp; omega)
  clear h0 h1 h2 sA
  obtain ⟨o3, k3, rfl, hn, hc⟩ := h3
  have hzz : Hid (∀ y ∈ shutK x ps, -9223372036854775808 ≤ y ∧ y ≤ 9223372036854775807) := by
    intro y hy
    obtain ⟨p, hp, rfl⟩ := List.mem_map.1 hy
    obtain ⟨k, hk, rfl⟩ := List.getElem_of_mem (List.mem_filter.1 hp).1
    obtain ⟨_, _, _, _, _, _, hat⟩ := hc k hk
    exact hat.1.2
  have HLN : Hid (∀ k, k ≤ ps.length → (shutK x (ps.take k)).length ≤ k) := shutK_len x ps
  obtain ⟨n, en⟩ : ∃ n, ps.length = n := ⟨_, rfl⟩
  rw [en] at hn CB hl HLN
  rw [en]
  have HC : Hid _ := hc
  clear hc hn
  go_enter Tryz.func7, Tryz.ntmps7
  go_wp2_with fail
  refine Calls.mono CB.out ?_
  rintro e w1 ⟨rfl, hb1⟩
  have E1 : Hid (Below (w.heap.size + 1) (w.alloc (.cells #[v0, v1, v2, .slice o3 n k3, .int .i64 seen] 35)) w1) := by simpa [Hid] using hb1
  have R1 : Hid (w1.ownsRow (w.heap.size + 1) 3 1 (.slice none 0 0) 0 []) := World.ownsRow_nil _ _ _ _
  clear hb1 CB
  cases hbk : bookS foes sp va ps seen
  · go_wp2_with fail
    go_ret
    refine ⟨_, rfl, ?_, below_end E1.out⟩
    rw [shutL_bad x hbk]
    exact (own_onI (l := []) (World.ownsRow_nil _ (w.heap.size + 1) _ _) (by simp) (by simp)).up (fun b hb => ⟨by omega, hb.2⟩)
  · have y3 := box_at _ _ E1.out 3 (.slice o3 n k3) rfl
    go_wp2_with fail
    go_loopw [5, 14] (fun v i wr => ∃ k : Nat, k ≤ n ∧ i = .int .i64 k ∧ Hid (wr.ownsRow (w.heap.size + 1) 3 1 v (shutK x (ps.take k)).length ((shutK x (ps.take k)).map (Value.int .i64))) ∧ Hid (Below (w.heap.size + 1) (w.alloc (.cells #[v0, v1, v2, .slice o3 n k3, .int .i64 seen] 35)) wr)) (fun _ i _ => n - (intOf i).toNat)
    case atStart => exact ⟨0, Nat.zero_le _, rfl, by simpa [Hid, shutK] using R1.out, E1.out⟩
    case round =>
      obtain ⟨k, hk, rfl, hown, E⟩ := hrel
      clear y3
      have B := below_end E.out
      have hs := B.size
      have hsE : w.heap.size + 1 ≤ wr.heap.size := by have := E.out.size; simpa using this
      have SR : ∀ b, S b → b < wr.heap.size := fun b hb => by have := hS b hb; omega
      have y3 := box_at _ _ E.out 3 (.slice o3 n k3) rfl
      by_cases hlt : k < n
      · obtain ⟨b, off, rfl, hbS, cc, hcell, hat⟩ := HC.out k (by omega)
        have hb := hS b hbS
        rw [width_DClaimPart] at hcell
        rw [at_DClaimPart] at hat
        have e0 : wr.cell? ⟨b, off + k * 7, none⟩ = some (cc 0) := (B.cell (p := ⟨b, off + k * 7, none⟩) hb).trans (by have := hcell 0 (by omega); simpa [Nat.add_mul, Nat.add_assoc] using this)
        rw [hat.1.1] at e0
        have e1 : wr.cell? ⟨b, off + k * 7 + 1, none⟩ = some (cc 1) := (B.cell (p := ⟨b, off + k * 7 + 1, none⟩) hb).trans (by have := hcell 1 (by omega); simpa [Nat.add_mul, Nat.add_assoc] using this)
        rw [hat.2.1.1] at e1
        have e2 : wr.cell? ⟨b, off + k * 7 + 2, none⟩ = some (cc 2) := (B.cell (p := ⟨b, off + k * 7 + 2, none⟩) hb).trans (by have := hcell 2 (by omega); simpa [Nat.add_mul, Nat.add_assoc] using this)
        have e3 : wr.cell? ⟨b, off + k * 7 + 3, none⟩ = some (cc 3) := (B.cell (p := ⟨b, off + k * 7 + 3, none⟩) hb).trans (by have := hcell 3 (by omega); simpa [Nat.add_mul, Nat.add_assoc] using this)
        have e4 : wr.cell? ⟨b, off + k * 7 + 4, none⟩ = some (cc 4) := (B.cell (p := ⟨b, off + k * 7 + 4, none⟩) hb).trans (by have := hcell 4 (by omega); simpa [Nat.add_mul, Nat.add_assoc] using this)
        have e5 : wr.cell? ⟨b, off + k * 7 + 5, none⟩ = some (cc 5) := (B.cell (p := ⟨b, off + k * 7 + 5, none⟩) hb).trans (by have := hcell 5 (by omega); simpa [Nat.add_mul, Nat.add_assoc] using this)
        have e6 : wr.cell? ⟨b, off + k * 7 + 6, none⟩ = some (cc 6) := (B.cell (p := ⟨b, off + k * 7 + 6, none⟩) hb).trans (by have := hcell 6 (by omega); simpa [Nat.add_mul, Nat.add_assoc] using this)
        have eg2 := hat.2.2.1.same (Same.of_below B hS)
        have eg3 := hat.2.2.2.1.same (Same.of_below B hS)
        have eg4 := hat.2.2.2.2.1.same (Same.of_below B hS)
        have eg5 := hat.2.2.2.2.2.1.same (Same.of_below B hS)
        obtain ⟨f, ef⟩ : ∃ f, ps[k]'(by omega) = f := ⟨_, rfl⟩
        rw [ef] at e0 e1 eg2 eg3 eg4 eg5
        obtain ⟨eo2, ek2, ex2, hx2, _⟩ := id eg2
        obtain ⟨en2, ez2⟩ : ∃ n, List.length f.2.2.1 = n := ⟨_, rfl⟩
        rw [ez2] at ex2 hx2
        rw [ex2] at e2 eg2
        clear ex2 hx2
        obtain ⟨eo3, ek3, ex3, hx3, _⟩ := id eg3
        obtain ⟨en3, ez3⟩ : ∃ n, List.length f.2.2.2.1 = n := ⟨_, rfl⟩
        rw [ez3] at ex3 hx3
        rw [ex3] at e3 eg3
        clear ex3 hx3
        obtain ⟨eo4, ek4, ex4, hx4, _⟩ := id eg4
        obtain ⟨en4, ez4⟩ : ∃ n, List.length f.2.2.2.2.1 = n := ⟨_, rfl⟩
        rw [ez4] at ex4 hx4
        rw [ex4] at e4 eg4
        clear ex4 hx4
        obtain ⟨eo5, ek5, ex5, hx5, _⟩ := id eg5
        obtain ⟨en5, ez5⟩ : ∃ n, List.length f.2.2.2.2.2.1 = n := ⟨_, rfl⟩
        rw [ez5] at ex5 hx5
        rw [ex5] at e5 eg5
        clear ex5 hx5
        rw [hat.2.2.2.2.2.2, ef] at e6
        clear hcell hat
        have hlk := HLN.out k (by omega)
        obtain ⟨m, em⟩ : ∃ m, (shutK x (ps.take k)).length = m := ⟨_, rfl⟩
        obtain ⟨X, eX⟩ : ∃ X, (shutK x (ps.take k)).map (Value.int .i64) = X := ⟨_, rfl⟩
        have NO : Hid (hasB f.2.2.2.2.2.1 x = false → ∀ (v' : Value) (w3 : World), w3.ownsRow (w.heap.size + 1) 3 1 v' m X → w3.ownsRow (w.heap.size + 1) 3 1 v' (shutK x (ps.take (k + 1))).length ((shutK x (ps.take (k + 1))).map (Value.int .i64))) := fun hh v' w3 h => by
          rw [shutK_no (by omega) (by rw [ef]; exact hh), em, eX]; exact h
        have YES : Hid (hasB f.2.2.2.2.2.1 x = true → ∀ (v' : Value) (w3 : World), w3.ownsRow (w.heap.size + 1) 3 1 v' (m + 1) (X ++ [.int .i64 f.1]) → w3.ownsRow (w.heap.size + 1) 3 1 v' (shutK x (ps.take (k + 1))).length ((shutK x (ps.take (k + 1))).map (Value.int .i64))) := fun hh v' w3 h => by
          rw [shutK_yes (by omega) (by rw [ef]; exact hh), List.map_append, List.length_append, em, eX, ef]; exact h
        rw [em] at hlk
        rw [em, eX] at hown
        clear em eX
        have EA : Hid (Below (w.heap.size + 1) (w.alloc (.cells #[v0, v1, v2, .slice (some ⟨b, off, none⟩) n k3, .int .i64 seen] 35)) (wr.alloc (.cells #[.int .i64 f.1, .int .i64 f.2.1, .slice eo2 en2 ek2, .slice eo3 en3 ek3, .slice eo4 en4 ek4, .slice eo5 en5 ek5, .bool f.2.2.2.2.2.2] 52))) := E.out.alloc hsE _
        have hown2 := hown.out.alloc (.cells #[.int .i64 f.1, .int .i64 f.2.1, .slice eo2 en2 ek2, .slice eo3 en3 ek3, .slice eo4 en4 ek4, .slice eo5 en5 ek5, .bool f.2.2.2.2.2.2] 52)
        have CA : Hid _ := hasI_any S (.slice eo5 en5 ek5) f.2.2.2.2.2.1 x (wr.alloc (.cells #[.int .i64 f.1, .int .i64 f.2.1, .slice eo2 en2 ek2, .slice eo3 en3 ek3, .slice eo4 en4 ek4, .slice eo5 en5 ek5, .bool f.2.2.2.2.2.2] 52)) (eg5.same (Same.of_alloc wr _ SR))
        have hsA : (wr.alloc (.cells #[.int .i64 f.1, .int .i64 f.2.1, .slice eo2 en2 ek2, .slice eo3 en3 ek3, .slice eo4 en4 ek4, .slice eo5 en5 ek5, .bool f.2.2.2.2.2.2] 52)).heap.size = wr.heap.size + 1 := by simp
        cases c5 : hasB f.2.2.2.2.2.1 x
        · go_wp2_with fail
          refine Calls.mono CA.out ?_
          rintro e w2 ⟨rfl, rfl⟩
          rw [c5]
          go_wp2_with fail
          go_roundw
          case rel =>
            have RR : ∃ q' : Nat, q' ≤ n ∧ Value.int .i64 ((k : Int) + 1) = .int .i64 (q' : Int) ∧ Hid ((wr.alloc (.cells #[.int .i64 f.1, .int .i64 f.2.1, .slice eo2 en2 ek2, .slice eo3 en3 ek3, .slice eo4 en4 ek4, .slice eo5 en5 ek5, .bool f.2.2.2.2.2.2] 52)).ownsRow (w.heap.size + 1) 3 1 _ (shutK x (ps.take q')).length ((shutK x (ps.take q')).map (Value.int .i64))) ∧ Hid (Below (w.heap.size + 1) (w.alloc (.cells #[v0, v1, v2, .slice (some ⟨b, off, none⟩) n k3, .int .i64 seen] 35)) (wr.alloc (.cells #[.int .i64 f.1, .int .i64 f.2.1, .slice eo2 en2 ek2, .slice eo3 en3 ek3, .slice eo4 en4 ek4, .slice eo5 en5 ek5, .bool f.2.2.2.2.2.2] 52))) :=
              ⟨k + 1, by omega, by go_num, NO.out c5 _ _ hown2, EA.out⟩
            first
              | exact RR
              | ((repeat apply Exists.intro); exact ⟨RR, rfl⟩)
          case measure => simp [intOf]; omega
        · go_wp2_with fail
          refine Calls.mono CA.out ?_
          rintro e w2 ⟨rfl, rfl⟩
          rw [c5]
          go_wp2_with (first | (at_builtin; refine wpList_append_own _ rfl _ _ 29 rfl (w.heap.size + 1) 3 i0 (.int .i64 0) 1 8 underIntS hi hz0 hz1 hz2 rfl (by decide) _ _ _ rfl (hown2.alloc _) ⟨wr.heap.size + 1, 0, none⟩ 1 1 [.int .i64 f.1] rfl rfl (by have := cell_one_new (wr.alloc (.cells #[.int .i64 f.1, .int .i64 f.2.1, .slice eo2 en2 ek2, .slice eo3 en3 ek3, .slice eo4 en4 ek4, .slice eo5 en5 ek5, .bool f.2.2.2.2.2.2] 52)) (.int .i64 f.1) 3; rw [hsA] at this; exact this) (fun x hx => by simp at hx; subst hx; rfl) (by unfold maxLen; omega) (by omega) (by simp; omega) ?_; intro v' w3 hown' hgrow3 hnil3))
          go_roundw
          case rel =>
            have RR : ∃ q' : Nat, q' ≤ n ∧ Value.int .i64 ((k : Int) + 1) = .int .i64 (q' : Int) ∧ Hid (w3.ownsRow (w.heap.size + 1) 3 1 v' (shutK x (ps.take q')).length ((shutK x (ps.take q')).map (Value.int .i64))) ∧ Hid (Below (w.heap.size + 1) (w.alloc (.cells #[v0, v1, v2, .slice (some ⟨b, off, none⟩) n k3, .int .i64 seen] 35)) w3) :=
              ⟨k + 1, by omega, by go_num, YES.out c5 _ _ hown', (EA.out.alloc (by omega) _).grown hgrow3 (by simp; omega) (fun p hp => (hown2.lt p hp).1)⟩
            first
              | exact RR
              | ((repeat apply Exists.intro); exact ⟨RR, rfl⟩)
          case measure => simp [intOf]; omega
      · have hkn : k = n := by omega
        subst hkn
        have TL : Hid (ps.take k = ps) := by show _ = _; rw [← en, List.take_length]
        have hlk := HLN.out k (Nat.le_refl _)
        rw [TL.out] at hown hlk
        go_wp2_with fail
        go_ret
        refine ⟨_, rfl, ?_, B⟩
        rw [shutL_ok x hbk]
        exact (own_onI hown.out (by omega) hzz.out).up (fun b hb => ⟨by omega, hb.2⟩)

end Go.Proofs.YticojnepejboaabGreat
