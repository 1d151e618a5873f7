/-
  Several texts in one.
-/
import Derived.Test.YtigkkelaadbhcabGreatM44
import Derived.Test.YtigkkelaadbhcabGreatM42
import Derived.Test.YtigkkelaadbhcabGreatM31
import Derived.Maps.AppendAt
namespace Go.Proofs.YtigkkelaadbhcabGreat
open Go.RowKit
def Apart (Bs : List DShareBatch) : Prop := ∀ i (hi : i < Bs.length) k (hk : k < i), shareB Bs[i].2.1 (Bs[k]'(by omega)).2.1 = false
def WhoU (Bs : List DShareBatch) (k j : Nat) (M : ByteArray → Option Nat) : Prop :=
  ∀ x t, M x = some t ↔ ∃ h : t < Bs.length, (t < k ∧ x ∈ Bs[t].2.1) ∨ (t = k ∧ x ∈ Bs[t].2.1.take j)
def WhoP (Bs : List DShareBatch) (M : ByteArray → Option Nat) : Prop := ∀ x t, M x = some t ↔ ∃ h : t < Bs.length, x ∈ Bs[t].2.1
theorem share_iff (a b : List ByteArray) : shareB a b = true ↔ ∃ x, x ∈ a ∧ x ∈ b := by
  unfold shareB
  rw [List.any_eq_true]
  constructor
  · rintro ⟨x, h1, h2⟩; exact ⟨x, h1, (hasB_iff _ _).1 h2⟩
  · rintro ⟨x, h1, h2⟩; exact ⟨x, h1, (hasB_iff _ _).2 h2⟩
theorem WhoP.apart {Bs : List DShareBatch} {M : ByteArray → Option Nat} (h : WhoP Bs M) : Apart Bs := fun i hi k hk => by
  cases e : shareB Bs[i].2.1 (Bs[k]'(by omega)).2.1
  · rfl
  · obtain ⟨x, h1, h2⟩ := (share_iff _ _).1 e
    have a := (h x i).2 ⟨hi, h1⟩
    have b := (h x k).2 ⟨by omega, h2⟩
    rw [a] at b
    cases b
    omega
theorem who_zero (Bs : List DShareBatch) : WhoU Bs 0 0 (fun _ => none) := fun x t => by
  constructor
  · intro h; cases h
  · rintro ⟨_, ⟨h, _⟩ | ⟨_, h⟩⟩
    · omega
    · simp at h
theorem who_next {Bs : List DShareBatch} {k : Nat} {M : ByteArray → Option Nat} (hk : k < Bs.length) (h : WhoU Bs k Bs[k].2.1.length M) : WhoU Bs (k + 1) 0 M := fun x t => by
  rw [h x t]
  constructor
  · rintro ⟨ht, ⟨h1, h2⟩ | ⟨h1, h2⟩⟩
    · exact ⟨ht, .inl ⟨by omega, h2⟩⟩
    · subst h1; rw [List.take_length] at h2; exact ⟨ht, .inl ⟨by omega, h2⟩⟩
  · rintro ⟨ht, ⟨h1, h2⟩ | ⟨_, h2⟩⟩
    · by_cases e : t = k
      · subst e; exact ⟨ht, .inr ⟨rfl, by rw [List.take_length]; exact h2⟩⟩
      · exact ⟨ht, .inl ⟨by omega, h2⟩⟩
    · simp at h2
theorem who_all {Bs : List DShareBatch} {k : Nat} {M : ByteArray → Option Nat} (hk : Bs.length ≤ k) (h : WhoU Bs k 0 M) : WhoP Bs M := fun x t => by
  rw [h x t]
  constructor
  · rintro ⟨ht, ⟨_, h2⟩ | ⟨_, h2⟩⟩
    · exact ⟨ht, h2⟩
    · simp at h2
  · rintro ⟨ht, h2⟩; exact ⟨ht, .inl ⟨by omega, h2⟩⟩
theorem who_put {Bs : List DShareBatch} {k j : Nat} {M : ByteArray → Option Nat} (hk : k < Bs.length) (hj : j < Bs[k].2.1.length) (h : WhoU Bs k j M) (hn : M Bs[k].2.1[j] = none) : WhoU Bs k (j + 1) (putM M Bs[k].2.1[j] k) := fun x t => by
  unfold putM
  by_cases e : x = Bs[k].2.1[j]
  · rw [if_pos e]
    constructor
    · intro h1
      cases h1
      refine ⟨hk, .inr ⟨rfl, ?_⟩⟩
      rw [e, List.take_succ_eq_append_getElem hj]
      exact List.mem_append_right _ (List.mem_singleton.2 rfl)
    · rintro ⟨ht, ⟨h1, h2⟩ | ⟨h1, _⟩⟩
      · have := (h x t).2 ⟨ht, .inl ⟨h1, h2⟩⟩
        rw [e, hn] at this
        cases this
      · rw [h1]
  · rw [if_neg e, h x t]
    constructor
    · rintro ⟨ht, h1 | ⟨h1, h2⟩⟩
      · exact ⟨ht, .inl h1⟩
      · subst h1
        refine ⟨ht, .inr ⟨rfl, ?_⟩⟩
        rw [List.take_succ_eq_append_getElem hj]; exact List.mem_append_left _ h2
    · rintro ⟨ht, h1 | ⟨h1, h2⟩⟩
      · exact ⟨ht, .inl h1⟩
      · subst h1
        rw [List.take_succ_eq_append_getElem hj] at h2
        rcases List.mem_append.1 h2 with h2 | h2
        · exact ⟨ht, .inr ⟨rfl, h2⟩⟩
        · exact absurd (List.mem_singleton.1 h2) e
theorem who_twice {Bs : List DShareBatch} {k j t : Nat} {M : ByteArray → Option Nat} (hk : k < Bs.length) (hj : j < Bs[k].2.1.length) (hd : Bs[k].2.1.Nodup) (h : WhoU Bs k j M) (hn : M Bs[k].2.1[j] = some t) : ¬ Apart Bs := fun hA => by
  obtain ⟨ht, ⟨h1, h2⟩ | ⟨h1, h2⟩⟩ := (h _ t).1 hn
  · have := hA k hk t h1
    rw [(share_iff _ _).2 ⟨_, List.getElem_mem hj, h2⟩] at this
    cases this
  · subst h1
    obtain ⟨i, hi, e⟩ := List.getElem_of_mem h2
    rw [List.getElem_take] at e
    have hi' : i < j := by have := hi; simp at this; omega
    have := List.pairwise_iff_getElem.1 hd i j (by omega) hj hi'
    exact this e
set_option maxRecDepth 100000 in
set_option maxHeartbeats 16000000 in
theorem who_any (S : Nat → Prop) (Bs : List DShareBatch) (v0 v1 : Value) (w : World) (h1 : AtL S w Bs v1) (hS : ∀ b, S b → b < w.heap.size) (hd : ∀ x ∈ Bs, x.2.1.Nodup) :
    Calls Tryz.prog 169 #[.agg #[v0, v1]] w fun e w' => ((e = .returned (.tuple #[.map none, .bool false]) ∧ ¬ Apart Bs) ∨ (∃ m M, e = .returned (.tuple #[.map (some m), .bool true]) ∧ Ms w' m M ∧ WhoP Bs M)) ∧ Below w.heap.size w w' := by
  obtain ⟨oa, kb, rfl, hfit, hc⟩ := id h1
  have HC : Hid _ := hc
  have HD : Hid (∀ i (hi : i < Bs.length), Bs[i].2.1.Nodup) := fun i hi => hd _ (List.getElem_mem hi)
  have HS : Hid _ := lt_up hS
  obtain ⟨nb, enb⟩ : ∃ n, Bs.length = n := ⟨_, rfl⟩
  have ENB : Hid (Bs.length ≤ nb ∧ nb ≤ Bs.length) := ⟨by omega, by omega⟩
  rw [enb]
  have hmx : nb ≤ maxLen := by rw [← enb]; exact hfit.1
  unfold maxLen at hmx
  clear h1 hc hfit enb hd
  obtain ⟨W, hW⟩ : ∃ W, W = w.alloc (.cells #[v0, .slice oa nb kb] 34) := ⟨_, rfl⟩
  have EW : Hid (W = w.alloc (.cells #[v0, .slice oa nb kb] 34)) := hW
  have BW : Hid (Below w.heap.size w W) := by rw [hW]; exact (Below.refl _ _).alloc (Nat.le_refl _) _
  have sW : w.heap.size + 1 ≤ W.heap.size := by rw [hW]; simp
  have y1 := fun o => cell_past (show W.cell? ⟨w.heap.size, 1, none⟩ = some (.slice oa nb kb) by rw [hW]; exact box_at _ _ (Below.refl _ _) 1 _ rfl) (by omega) o
  obtain ⟨m, hm⟩ : ∃ m, m = W.heap.size := ⟨_, rfl⟩
  have EM : Hid (m = W.heap.size) := hm
  have hmw : w.heap.size ≤ m := by omega
  clear hW hm
  have hmm := @run_makeMap Tryz.prog
  go_enter Tryz.func169, Tryz.ntmps169
  go_upto_region 1 with fail
  rw [← EW.out]
  go_wp2_with fail
  rw [← EM.out]
  clear y1
  go_loopw [15] (fun i wr => ∃ q : Nat, q ≤ nb ∧ i = .int .i64 q ∧ Hid (∃ M, Ms wr m M ∧ WhoU Bs q 0 M) ∧ Hid (Below w.heap.size w wr)) (fun i _ => nb - (intOf i).toNat)
  case atStart =>
    refine ⟨0, Nat.zero_le _, rfl, ⟨_, ?_, who_zero Bs⟩, BW.out.alloc (by omega) _⟩
    rw [EM.out]
    exact Ms.made W
  case round =>
    obtain ⟨q, hq, rfl, hmp, hbel⟩ := hrel
    by_cases hlt : q < nb
    case neg =>
      go_wp2_with fail
      obtain ⟨M, hM, hw⟩ := hmp.out
      exact bodyPost_ret (v := .tuple #[.map (some m), .bool true]) (by simp [results, Tryz.results169, go_sem]) rfl ⟨.inr ⟨m, M, rfl, hM, who_all (by have := ENB.out; omega) hw⟩, hbel.out⟩
    have hqb : q < Bs.length := by have := ENB.out; omega
    obtain ⟨bb, off, rfl, hbS, cc, hcell, hat⟩ := HC.out q hqb
    have hbb := HS.out w (Below.refl _ _) bb hbS
    rw [width_DShareBatch] at hcell
    obtain ⟨f, ef⟩ : ∃ f, Bs[q] = f := ⟨_, rfl⟩
    rw [at_DShareBatch, ef] at hat
    obtain ⟨nm, has, needs⟩ := f
    have EF : Hid (Bs[q].2.1 = has) := by show _ = _; rw [ef]
    obtain ⟨⟨t0, z0⟩, a1, a2⟩ := hat
    simp only at t0 z0 a1 a2
    obtain ⟨o1, k1, t1, hf1, hc1⟩ := id a1
    obtain ⟨o2, k2, t2, _⟩ := id a2
    obtain ⟨n1, en1⟩ : ∃ n, has.length = n := ⟨_, rfl⟩
    obtain ⟨n2, en2⟩ : ∃ n, needs.length = n := ⟨_, rfl⟩
    have hx1 : n1 ≤ maxLen := by rw [← en1]; exact hf1.1
    unfold maxLen at hx1
    have EN1 : Hid (has.length ≤ n1 ∧ n1 ≤ has.length) := ⟨by omega, by omega⟩
    have HC1 : Hid _ := hc1
    rw [en1] at t1
    rw [en2] at t2
    have bwr := hbel.out
    have e0 : wr.cell? ⟨bb, off + q * 3, none⟩ = some (.string nm) := (bwr.cell (p := ⟨bb, off + q * 3, none⟩) hbb).trans ((hcell 0 (by omega) : w.cell? ⟨bb, off + q * 3, none⟩ = some (cc 0)).trans (by rw [t0]))
    have e1 : wr.cell? ⟨bb, off + q * 3 + 1, none⟩ = some (.slice o1 n1 k1) := (bwr.cell (p := ⟨bb, off + q * 3 + 1, none⟩) hbb).trans ((hcell 1 (by omega)).trans (by rw [t1]))
    have e2 : wr.cell? ⟨bb, off + q * 3 + 2, none⟩ = some (.slice o2 n2 k2) := (bwr.cell (p := ⟨bb, off + q * 3 + 2, none⟩) hbb).trans ((hcell 2 (by omega)).trans (by rw [t2]))
    clear hcell a1 a2 t0 t1 t2 en1 en2 hf1 hc1 ef bwr
    obtain ⟨X, hX⟩ : ∃ X, X = wr.alloc (.cells #[.string nm, .slice o1 n1 k1, .slice o2 n2 k2] 112) := ⟨_, rfl⟩
    have EX : Hid (X = wr.alloc (.cells #[.string nm, .slice o1 n1 k1, .slice o2 n2 k2] 112)) := hX
    have sw := hbel.out.size
    have BX : Hid (Below w.heap.size w X) := by rw [hX]; exact hbel.out.alloc (by omega) _
    have MX : Hid (∃ M, Ms X m M ∧ WhoU Bs q 0 M) := by
      obtain ⟨M, hM, hw⟩ := hmp.out
      exact ⟨M, by rw [hX]; exact hM.of_block (Below.heap_alloc wr _ _ hM.lt), hw⟩
    have r1 : X.cell? ⟨wr.heap.size, 1, none⟩ = some (.slice o1 n1 k1) := by rw [hX]; exact box_at _ _ (Below.refl _ _) 1 _ rfl
    clear hX
    go_upto_region 5 with fail
    rw [← EX.out]
    go_wp2_with fail
    clear e0 e1 e2 r1
    go_loopw [23] (fun i wr => ∃ j : Nat, j ≤ n1 ∧ i = .int .i64 j ∧ Hid (∃ M, Ms wr m M ∧ WhoU Bs q j M) ∧ Hid (Below w.heap.size w wr)) (fun i _ => n1 - (intOf i).toNat)
    case atStart => exact ⟨0, Nat.zero_le _, rfl, MX, BX⟩
    case round =>
      obtain ⟨j, hj, rfl, hmp2, hbel2⟩ := hrel
      by_cases hlj : j < n1
      case neg =>
        go_wp2_with fail
        go_roundw
        case rel =>
          obtain ⟨M, hM, hw⟩ := hmp2.out
          have hj' : j = Bs[q].2.1.length := by rw [EF.out]; have := EN1.out; omega
          rw [hj'] at hw
          exact ⟨q + 1, by omega, by go_num, ⟨M, hM, who_next hqb hw⟩, hbel2⟩
        case measure => simp [intOf]; omega
      have hjb : j < has.length := by have := EN1.out; omega
      have hjq : j < Bs[q].2.1.length := by rw [EF.out]; exact hjb
      obtain ⟨b1, off1, rfl, hbS1, c1, hcl1, hat1⟩ := HC1.out j hjb
      have hbb1 := HS.out w (Below.refl _ _) b1 hbS1
      rw [width_str] at hcl1
      rw [at_str] at hat1
      obtain ⟨x, ex⟩ : ∃ x, has[j] = x := ⟨_, rfl⟩
      rw [ex] at hat1
      obtain ⟨tx, zx⟩ := hat1
      have exq : Hid (Bs[q].2.1[j] = x) := by show _ = _; rw [← ex]; simp only [EF.out]
      have x0 : wr.cell? ⟨b1, off1 + j, none⟩ = some (.string x) := (hbel2.out.cell (p := ⟨b1, off1 + j, none⟩) hbb1).trans ((by simpa using hcl1 0 (by omega) : w.cell? ⟨b1, off1 + j, none⟩ = some (c1 0)).trans (by rw [tx]))
      clear hcl1 tx ex
      obtain ⟨M, hM, hw⟩ := hmp2.out
      have hML := hM.lt
      have HW : Hid (WhoU Bs q j M) := hw
      have HM : Hid (Ms wr m M) := hM
      clear hw hM
      cases eM : M x with
      | some t =>
        have l0 := HM.out.look_yes zx eM
        have HN : Hid (¬ Apart Bs) := who_twice hqb hjq (HD.out q hqb) HW.out (by rw [exq.out]; exact eM)
        clear eM
        go_wp2_with fail
        exact bodyPost_ret (v := .tuple #[.map none, .bool false]) (by simp [results, Tryz.results169, go_sem]) rfl ⟨.inl ⟨rfl, HN.out⟩, hbel2.out⟩
      | none =>
        have l0 := HM.out.look_no zx eM
        obtain ⟨u, hu, hMu, hg⟩ := HM.out.put zx eM q
        have HU : Hid (∃ M, Ms u m M ∧ WhoU Bs q (j + 1) M) := ⟨_, hMu, by
          have := who_put hqb hjq HW.out (by rw [exq.out]; exact eM)
          rw [exq.out] at this
          exact this⟩
        have BU : Hid (Below w.heap.size w u) := hbel2.out.grown hg (by have := hbel2.out.size; omega) (fun i hi => by cases hi; omega)
        clear eM hMu hg
        go_wp2_with fail
        go_roundw
        case rel => exact ⟨j + 1, by omega, by go_num, HU, BU⟩
        case measure => simp [intOf]; omega
end Go.Proofs.YtigkkelaadbhcabGreat

namespace Go.Proofs.YtigkkelaadbhcabGreat
open Go.RowKit
structure CapZ (S : Nat → Prop) (w : World) (nb : Nat) (v0 v1 : Value) (T : List ByteArray) : Prop where
  lt : nb < w.heap.size
  c0 : w.cell? ⟨nb, 0, none⟩ = some v0
  c1 : w.cell? ⟨nb, 1, none⟩ = some v1
  th : AtL S w T v0
  sub : ∀ b, S b → b < w.heap.size
theorem CapZ.below {S : Nat → Prop} {w w' : World} {nb B : Nat} {v0 v1 : Value} {T : List ByteArray} (h : CapZ S w nb v0 v1 T) (hb : Below B w w') (hB : w.heap.size ≤ B) : CapZ S w' nb v0 v1 T := by
  have hn := h.lt
  have hb' := hb.mono hB
  have hs' := hb'.size
  exact ⟨by omega, (hb'.cell (p := ⟨nb, 0, none⟩) hn).trans h.c0, (hb'.cell (p := ⟨nb, 1, none⟩) hn).trans h.c1, h.th.same (Same.of_below hb' h.sub), fun b hb => by have := h.sub b hb; omega⟩
noncomputable def baI (T : List ByteArray) (x : DShareBatch) : Bool := nameB x.1 && (subB T x.2.2 && subB x.2.2 x.2.1)
set_option maxRecDepth 100000 in
set_option maxHeartbeats 4000000 in
theorem cmpShareBatches_any (a b : ByteArray) (a1 b1 a2 b2 : Value) (w : World) : Calls Tryz.prog 196 #[.agg #[.string a, a1, a2], .agg #[.string b, b1, b2]] w fun e w' => e = .returned (.int .i64 (cmpB a b)) ∧ Below w.heap.size w w' := by
  go_enter Tryz.func196, Tryz.ntmps196
  go_wp2_with (go_at_call 164; refine (cmpS_any _ _ _).mono ?_; rintro e w1 ⟨rfl, rfl⟩)
  go_ret
  exact ⟨rfl, ((Below.refl _ _).alloc (Nat.le_refl _) _).alloc (by simp) _⟩
set_option maxRecDepth 100000 in
set_option maxHeartbeats 4000000 in
theorem batOk_any (S : Nat → Prop) (x : DShareBatch) (nm : ByteArray) (en : x.1 = nm) (o1 o2 : Option Addr) (n1 k1 n2 k2 : Nat) (nb : Nat) (v0 v1 : Value) (T : List ByteArray) (w : World) (hK : CapZ S w nb v0 v1 T) (hz : nm.size ≤ maxLen) (h1 : AtL S w x.2.1 (.slice o1 n1 k1)) (h2 : AtL S w x.2.2 (.slice o2 n2 k2)) :
    Calls Tryz.prog 197 #[.agg #[.string nm, .slice o1 n1 k1, .slice o2 n2 k2], .pointer (some ⟨nb, 0, none⟩)] w fun e w' => e = .returned (.bool (baI T x)) ∧ Below w.heap.size w w' := by
  have hS := hK.sub
  have H1 : Hid (∀ w', Below w.heap.size w w' → AtL S w' x.2.1 (.slice o1 n1 k1)) := fun w' h => h1.same (Same.of_below h hS)
  have H2 : Hid (∀ w', Below w.heap.size w w' → AtL S w' x.2.2 (.slice o2 n2 k2)) := fun w' h => h2.same (Same.of_below h hS)
  have HK : Hid (CapZ S w nb v0 v1 T) := hK
  have EB : Hid (baI T x = (nameB nm && (subB T x.2.2 && subB x.2.2 x.2.1))) := by show _ = _; rw [← en]; rfl
  clear hK h1 h2
  cases c0 : nameB nm
  · go_enter Tryz.func197, Tryz.ntmps197
    go_wp2_with fail
    refine (nameI_any _ _ hz).mono ?_
    rintro e w1 ⟨rfl, hb1⟩
    rw [c0]
    have hbel1 : Hid (Below (w.heap.size + 1) (w.alloc (.cells #[.string nm, .slice o1 n1 k1, .slice o2 n2 k2] 112)) w1) := by simpa [Hid] using hb1
    have y10 := box_at _ _ hbel1.out 0 (.string nm) rfl
    have y11 := box_at _ _ hbel1.out 1 (.slice o1 n1 k1) rfl
    have y12 := box_at _ _ hbel1.out 2 (.slice o2 n2 k2) rfl
    clear hb1
    go_wp2_with fail
    go_ret
    exact ⟨(by rw [EB.out, c0]; rfl), below_end hbel1.out⟩
  · cases c1 : subB T x.2.2
    · go_enter Tryz.func197, Tryz.ntmps197
      go_wp2_with fail
      refine (nameI_any _ _ hz).mono ?_
      rintro e w1 ⟨rfl, hb1⟩
      rw [c0]
      have hbel1 : Hid (Below (w.heap.size + 1) (w.alloc (.cells #[.string nm, .slice o1 n1 k1, .slice o2 n2 k2] 112)) w1) := by simpa [Hid] using hb1
      have y10 := box_at _ _ hbel1.out 0 (.string nm) rfl
      have y11 := box_at _ _ hbel1.out 1 (.slice o1 n1 k1) rfl
      have y12 := box_at _ _ hbel1.out 2 (.slice o2 n2 k2) rfl
      clear hb1
      have B1 := below_end hbel1.out
      have K1 := HK.out.below B1 (Nat.le_refl _)
      have p10 := K1.c0
      have p11 := K1.c1
      go_wp2_with fail
      refine (isOf_any S S _ _ x.2.2 T _ (H2.out _ B1) K1.th K1.sub K1.sub).mono ?_
      rintro e w2 ⟨rfl, hb2⟩
      rw [c1]
      have hbel2 : Hid (Below (w.heap.size + 1) (w.alloc (.cells #[.string nm, .slice o1 n1 k1, .slice o2 n2 k2] 112)) w2) := below_of hbel1.out hb2
      have y20 := box_at _ _ hbel2.out 0 (.string nm) rfl
      have y21 := box_at _ _ hbel2.out 1 (.slice o1 n1 k1) rfl
      have y22 := box_at _ _ hbel2.out 2 (.slice o2 n2 k2) rfl
      clear hb2
      go_wp2_with fail
      go_ret
      exact ⟨(by rw [EB.out, c0, c1]; rfl), below_end hbel2.out⟩
    · go_enter Tryz.func197, Tryz.ntmps197
      go_wp2_with fail
      refine (nameI_any _ _ hz).mono ?_
      rintro e w1 ⟨rfl, hb1⟩
      rw [c0]
      have hbel1 : Hid (Below (w.heap.size + 1) (w.alloc (.cells #[.string nm, .slice o1 n1 k1, .slice o2 n2 k2] 112)) w1) := by simpa [Hid] using hb1
      have y10 := box_at _ _ hbel1.out 0 (.string nm) rfl
      have y11 := box_at _ _ hbel1.out 1 (.slice o1 n1 k1) rfl
      have y12 := box_at _ _ hbel1.out 2 (.slice o2 n2 k2) rfl
      clear hb1
      have B1 := below_end hbel1.out
      have K1 := HK.out.below B1 (Nat.le_refl _)
      have p10 := K1.c0
      have p11 := K1.c1
      go_wp2_with fail
      refine (isOf_any S S _ _ x.2.2 T _ (H2.out _ B1) K1.th K1.sub K1.sub).mono ?_
      rintro e w2 ⟨rfl, hb2⟩
      rw [c1]
      have hbel2 : Hid (Below (w.heap.size + 1) (w.alloc (.cells #[.string nm, .slice o1 n1 k1, .slice o2 n2 k2] 112)) w2) := below_of hbel1.out hb2
      have y20 := box_at _ _ hbel2.out 0 (.string nm) rfl
      have y21 := box_at _ _ hbel2.out 1 (.slice o1 n1 k1) rfl
      have y22 := box_at _ _ hbel2.out 2 (.slice o2 n2 k2) rfl
      clear hb2
      have B2 := below_end hbel2.out
      have K2 := HK.out.below B2 (Nat.le_refl _)
      have p20 := K2.c0
      have p21 := K2.c1
      go_wp2_with fail
      refine (isOf_any S S _ _ x.2.1 x.2.2 _ (H1.out _ B2) (H2.out _ B2) K2.sub K2.sub).mono ?_
      rintro e w3 ⟨rfl, hb3⟩
      have hbel3 : Hid (Below (w.heap.size + 1) (w.alloc (.cells #[.string nm, .slice o1 n1 k1, .slice o2 n2 k2] 112)) w3) := below_of hbel2.out hb3
      have y30 := box_at _ _ hbel3.out 0 (.string nm) rfl
      have y31 := box_at _ _ hbel3.out 1 (.slice o1 n1 k1) rfl
      have y32 := box_at _ _ hbel3.out 2 (.slice o2 n2 k2) rfl
      clear hb3
      go_wp2_with fail
      go_ret
      exact ⟨(by rw [EB.out, c0, c1]; rfl), below_end hbel3.out⟩
open Go.Sort in
theorem cmpShareBatch_q (a b : ByteArray) (a1 b1 a2 b2 : Value) (wr : World) (r : Int) (hr : cmpB a b = r) (d : Nat) (os : Array Obj) : Calls Tryz.prog 196 #[.agg #[.string a, a1, a2], .agg #[.string b, b1, b2]] (grow (redrawn wr d) os) fun e w'' => e = .returned (.int .i64 r) ∧ ∃ p : Regrown, w'' = grow (redrawn wr p.d) p.os :=
  Calls.regrown_of (by subst hr; exact cmpShareBatches_any a b a1 b1 a2 b2 _)
set_option maxRecDepth 100000 in
set_option maxHeartbeats 4000000 in
theorem ascShareBatch_any (S : Nat → Prop) (v : Value) (l : List DShareBatch) (w : World) (h : AtL S w l v) (hS : ∀ b, S b → b < w.heap.size) :
    Calls Tryz.prog 206 #[v, .func (.func 196) #[] #[]] w fun e w' => e = .returned (.bool (ascB (fun p f : DShareBatch => ltB p.1 f.1) l)) ∧ Below w.heap.size w w' := by
  obtain ⟨oa, cap, rfl, hn, hc⟩ := h
  obtain ⟨n, en⟩ : ∃ n, l.length = n := ⟨_, rfl⟩
  rw [en] at hn
  rw [en]
  unfold maxLen at hn
  have HC : Hid _ := hc
  clear hc
  go_enter Tryz.func206, Tryz.ntmps206
  go_wp2
  go_loopw [5] (fun i wr => ∃ k : Nat, i = .int .i64 ((k : Int) + 1) ∧ (k + 1 ≤ n ∨ k = 0) ∧ Hid (∀ j (hj : j < l.length), j < k + 1 → asO (fun p f : DShareBatch => ltB p.1 f.1) (prevO l j) l[j] = true) ∧ Hid (Below w.heap.size w wr)) (fun i _ => n - (intOf i).toNat)
  case atStart => exact ⟨0, rfl, Or.inr rfl, fun j hj h => as_zero j hj (by omega), Below.refl _ _⟩
  case round =>
    obtain ⟨k, rfl, hk, hall, hbel⟩ := hrel
    have hs := hbel.out.size
    by_cases hlt : k + 1 < n
    · clear hk
      obtain ⟨b, off, rfl, hbS, ce, hcelle, hate⟩ := HC.out (k + 1) (by omega)
      obtain ⟨b', off', e', hbS', ca, hcella, hata⟩ := HC.out k (by omega)
      cases e'
      have hbb := hS b hbS
      have hbw := hbel.out
      rw [width_DShareBatch] at hcella
      have a0 : wr.cell? ⟨b, off + k * 3, none⟩ = some (ca 0) := (hbw.cell (p := ⟨b, off + k * 3, none⟩) (by show b < _; omega)).trans (by have hq := hcella 0 (by omega); first | exact hq | simpa using hq)
      have a1 : wr.cell? ⟨b, off + k * 3 + 1, none⟩ = some (ca 1) := (hbw.cell (p := ⟨b, off + k * 3 + 1, none⟩) (by show b < _; omega)).trans (by have hq := hcella 1 (by omega); first | exact hq | simpa using hq)
      have a2 : wr.cell? ⟨b, off + k * 3 + 2, none⟩ = some (ca 2) := (hbw.cell (p := ⟨b, off + k * 3 + 2, none⟩) (by show b < _; omega)).trans (by have hq := hcella 2 (by omega); first | exact hq | simpa using hq)
      clear hcella
      have hata := Lay.same hata (Same.of_below hbw hS)
      rw [at_DShareBatch] at hata
      obtain ⟨af, eaf⟩ : ∃ f, l[k]'(by omega) = f := ⟨_, rfl⟩
      rw [eaf] at hata
      obtain ⟨⟨ta0, za0⟩, la1, la2⟩ := hata
      obtain ⟨soa1, sca1, ta1, _⟩ := id la1
      rw [ta1] at la1
      have Ka1 : Hid _ := la1
      clear la1
      obtain ⟨soa2, sca2, ta2, _⟩ := id la2
      rw [ta2] at la2
      have Ka2 : Hid _ := la2
      clear la2
      rw [ta0] at a0
      rw [ta1] at a1
      rw [ta2] at a2
      clear ta0 ta1 ta2
      rw [width_DShareBatch] at hcelle
      have e0 : wr.cell? ⟨b, off + (k + 1) * 3, none⟩ = some (ce 0) := (hbw.cell (p := ⟨b, off + (k + 1) * 3, none⟩) (by show b < _; omega)).trans (by have hq := hcelle 0 (by omega); first | exact hq | simpa using hq)
      have e1 : wr.cell? ⟨b, off + (k + 1) * 3 + 1, none⟩ = some (ce 1) := (hbw.cell (p := ⟨b, off + (k + 1) * 3 + 1, none⟩) (by show b < _; omega)).trans (by have hq := hcelle 1 (by omega); first | exact hq | simpa using hq)
      have e2 : wr.cell? ⟨b, off + (k + 1) * 3 + 2, none⟩ = some (ce 2) := (hbw.cell (p := ⟨b, off + (k + 1) * 3 + 2, none⟩) (by show b < _; omega)).trans (by have hq := hcelle 2 (by omega); first | exact hq | simpa using hq)
      clear hcelle
      have hate := Lay.same hate (Same.of_below hbw hS)
      rw [at_DShareBatch] at hate
      obtain ⟨ef, eef⟩ : ∃ f, l[k + 1]'(by omega) = f := ⟨_, rfl⟩
      rw [eef] at hate
      obtain ⟨⟨te0, ze0⟩, le1, le2⟩ := hate
      obtain ⟨soe1, sce1, te1, _⟩ := id le1
      rw [te1] at le1
      have Ke1 : Hid _ := le1
      clear le1
      obtain ⟨soe2, sce2, te2, _⟩ := id le2
      rw [te2] at le2
      have Ke2 : Hid _ := le2
      clear le2
      rw [te0] at e0
      rw [te1] at e1
      rw [te2] at e2
      clear te0 te1 te2
      clear hbw
      have qa0 := fun d os => cell_regrown a0 d os
      have qa1 := fun d os => cell_regrown a1 d os
      have qa2 := fun d os => cell_regrown a2 d os
      have qe0 := fun d os => cell_regrown e0 d os
      have qe1 := fun d os => cell_regrown e1 d os
      have qe2 := fun d os => cell_regrown e2 d os
      have hrl : asO (fun p f : DShareBatch => ltB p.1 f.1) (prevO l (k + 1)) (l[k + 1]'(by omega)) = ltB af.1 ef.1 := by
        rw [prev_succ l k (by omega), eaf, eef]; rfl
      have hge : decide (0 ≤ cmpB af.1 ef.1) = !ltB af.1 ef.1 := cmpB_ge _ _
      cases hlb : ltB af.1 ef.1
      · rw [hlb] at hrl
        rw [hlb, Bool.not_false] at hge
        go_wp2
        refine wp_region_quiet_below (by kernel_rfl) (by kernel_rfl) ?_
        repeat (first | go_big_quiet_step (with_reducible exact cmpShareBatch_q _ _ _ _ _ _ _ _ rfl _ _) | quiet_step (with_reducible exact cmpShareBatch_q _ _ _ _ _ _ _ _ rfl _ _))
        refine wpQuiet_nil ?_
        intro _ hw'
        obtain ⟨⟨dq, osq⟩, hw''⟩ := hw'
        subst hw''
        go_wp2
        rw [show ascB (fun p f : DShareBatch => ltB p.1 f.1) l = false from ok_no (k := k + 1) (by omega) hrl]
        go_ret
        exact ⟨rfl, hbel.out.trans ((below_regrown _ dq osq).mono hs)⟩
      · rw [hlb] at hrl
        rw [hlb, Bool.not_true] at hge
        go_wp2
        refine wp_region_quiet_below (by kernel_rfl) (by kernel_rfl) ?_
        repeat (first | go_big_quiet_step (with_reducible exact cmpShareBatch_q _ _ _ _ _ _ _ _ rfl _ _) | quiet_step (with_reducible exact cmpShareBatch_q _ _ _ _ _ _ _ _ rfl _ _))
        refine wpQuiet_nil ?_
        intro _ hw'
        obtain ⟨⟨dq, osq⟩, hw''⟩ := hw'
        subst hw''
        go_wp2
        go_roundw
        case rel => exact ⟨k + 1, by go_num, Or.inl (by omega), fun j hj hjk => by
          by_cases e : j = k + 1
          · subst e; exact hrl
          · exact hall.out j hj (by omega), hbel.out.trans ((below_regrown _ dq osq).mono hs)⟩
        case measure => simp [intOf]; omega
    · go_wp2
      rw [show ascB (fun p f : DShareBatch => ltB p.1 f.1) l = true from ok_yes (Nat.le_refl _) (fun j hj => hall.out j hj (by omega))]
      go_ret
      exact ⟨rfl, hbel.out⟩
set_option maxRecDepth 100000 in
set_option maxHeartbeats 4000000 in
theorem listShareBatch_any (S : Nat → Prop) (nb : Nat) (v0 v1 : Value) (T : List ByteArray) (v : Value) (l : List DShareBatch) (lim : Nat) (w : World) (h : AtL S w l v) (hS : ∀ b, S b → b < w.heap.size) (hK : CapZ S w nb v0 v1 T) :
    Calls Tryz.prog 195 #[v, .int .i64 lim, .func (.func 196) #[] #[], .func (.func 197) #[] #[.pointer (some ⟨nb, 0, none⟩)]] w fun e w' => e = .returned (.bool (okB lim (tst (fun f : DShareBatch => baI T f) (fun p f : DShareBatch => ltB p.1 f.1)) l)) ∧ Below w.heap.size w w' := by
  have H : Hid (AtL S w l v) := h
  obtain ⟨oa, cap, hv, hn, hc⟩ := h
  rw [hv] at H
  subst hv
  obtain ⟨n, en⟩ : ∃ n, l.length = n := ⟨_, rfl⟩
  rw [en] at hn H
  rw [en]
  unfold maxLen at hn
  have HC : Hid _ := hc
  clear hc
  have HK : Hid (CapZ S w nb v0 v1 T) := hK
  clear hK
  by_cases hl : n ≤ lim
  · have dl : decide (lim < n) = false := by simp; omega
    go_enter Tryz.func195, Tryz.ntmps195
    go_wp2
    go_loopw [17] (fun i wr => ∃ k : Nat, k ≤ n ∧ i = .int .i64 k ∧ Hid (∀ j (hj : j < l.length), j < k → (fun f : DShareBatch => baI T f) l[j] = true) ∧ Hid (Below w.heap.size w wr)) (fun i _ => n - (intOf i).toNat)
    case atStart => exact ⟨0, Nat.zero_le _, rfl, fun _ _ h => by omega, Below.refl _ _⟩
    case round =>
      obtain ⟨k, hk, rfl, hall, hbel⟩ := hrel
      have hs := hbel.out.size
      have hSr : ∀ b, S b → b < wr.heap.size := fun b hb => by have := hS b hb; omega
      by_cases hlt : k < n
      · obtain ⟨b, off, rfl, hbS, ce, hcelle, hate⟩ := HC.out k (by omega)
        have hbb := hS b hbS
        have hbw := hbel.out
        rw [width_DShareBatch] at hcelle
        have e0 : wr.cell? ⟨b, off + k * 3, none⟩ = some (ce 0) := (hbw.cell (p := ⟨b, off + k * 3, none⟩) (by show b < _; omega)).trans (by have hq := hcelle 0 (by omega); first | exact hq | simpa using hq)
        have e1 : wr.cell? ⟨b, off + k * 3 + 1, none⟩ = some (ce 1) := (hbw.cell (p := ⟨b, off + k * 3 + 1, none⟩) (by show b < _; omega)).trans (by have hq := hcelle 1 (by omega); first | exact hq | simpa using hq)
        have e2 : wr.cell? ⟨b, off + k * 3 + 2, none⟩ = some (ce 2) := (hbw.cell (p := ⟨b, off + k * 3 + 2, none⟩) (by show b < _; omega)).trans (by have hq := hcelle 2 (by omega); first | exact hq | simpa using hq)
        clear hcelle
        have hate := Lay.same hate (Same.of_below hbw hS)
        rw [at_DShareBatch] at hate
        obtain ⟨ef, eef⟩ : ∃ f, l[k]'(by omega) = f := ⟨_, rfl⟩
        rw [eef] at hate
        obtain ⟨⟨te0, ze0⟩, le1, le2⟩ := hate
        obtain ⟨soe1, sce1, te1, _⟩ := id le1
        rw [te1] at le1
        have Ke1 : Hid _ := le1
        clear le1
        obtain ⟨soe2, sce2, te2, _⟩ := id le2
        rw [te2] at le2
        have Ke2 : Hid _ := le2
        clear le2
        rw [te0] at e0
        rw [te1] at e1
        rw [te2] at e2
        clear te0 te1 te2
        clear hbw
        have hB1 : Hid (Below w.heap.size w (wr.alloc (.cells #[.string ef.1, .slice soe1 ef.2.1.length sce1, .slice soe2 ef.2.2.length sce2] 112))) := hbel.out.alloc hs _
        have KA : Hid (CapZ S (wr.alloc (.cells #[.string ef.1, .slice soe1 ef.2.1.length sce1, .slice soe2 ef.2.2.length sce2] 112)) nb v0 v1 T) := HK.out.below hB1.out (Nat.le_refl _)
        have hP : (fun f : DShareBatch => baI T f) (l[k]'(by omega)) = (baI T ef) := by rw [eef]
        cases hy : (baI T ef)
        · rw [hy] at hP
          go_wp2_with fail
          refine Calls.mono (batOk_any S ef _ rfl _ _ _ _ _ _ nb v0 v1 T _ KA.out ze0 (AtL.same Ke1.out (Same.of_below ((Below.refl _ _).alloc (Nat.le_refl _) _) hSr)) (AtL.same Ke2.out (Same.of_below ((Below.refl _ _).alloc (Nat.le_refl _) _) hSr))) ?_
          rintro e w1 ⟨rfl, hb1⟩
          rw [hy]
          go_wp2_with fail
          rw [tst_no (k := k) (by omega) hP]
          go_ret
          exact ⟨rfl, hB1.out.trans (hb1.mono hB1.out.size)⟩
        · rw [hy] at hP
          go_wp2_with fail
          refine Calls.mono (batOk_any S ef _ rfl _ _ _ _ _ _ nb v0 v1 T _ KA.out ze0 (AtL.same Ke1.out (Same.of_below ((Below.refl _ _).alloc (Nat.le_refl _) _) hSr)) (AtL.same Ke2.out (Same.of_below ((Below.refl _ _).alloc (Nat.le_refl _) _) hSr))) ?_
          rintro e w1 ⟨rfl, hb1⟩
          rw [hy]
          go_wp2_with fail
          go_roundw
          case rel => exact ⟨k + 1, by omega, by go_num, fun j hj hjk => by
            by_cases e : j = k
            · subst e; exact hP
            · exact hall.out j hj (by omega), hB1.out.trans (hb1.mono hB1.out.size)⟩
          case measure => simp [intOf]; omega
      · go_wp2_with (go_at_call 206; refine (ascShareBatch_any S _ l _ (H.out.same (Same.of_below hbel.out hS)) hSr).mono ?_; rintro e w1 ⟨rfl, hb1⟩)
        rw [tst_asc (by omega) (fun j hj => hall.out j hj (by omega))]
        go_ret
        exact ⟨rfl, hbel.out.trans (hb1.mono hs)⟩
  · have dl : decide (lim < n) = true := by simp; omega
    rw [ok_long (by omega)]
    go_enter Tryz.func195, Tryz.ntmps195
    go_wp2
    go_ret
    exact ⟨rfl, Below.refl _ _⟩
set_option maxRecDepth 100000 in
set_option maxHeartbeats 4000000 in
theorem batches_any (S : Nat → Prop) (v0 v1 : Value) (T : List ByteArray) (Bs : List DShareBatch) (w : World) (h0 : AtL S w T v0) (h1 : AtL S w Bs v1) (hS : ∀ b, S b → b < w.heap.size) :
    Calls Tryz.prog 168 #[.agg #[v0, v1]] w fun e w' => e = .returned (.bool (okB 5 (tst (fun f : DShareBatch => baI T f) (fun p f : DShareBatch => ltB p.1 f.1)) Bs)) ∧ Below w.heap.size w w' := by
  have hmf : ∀ (fn : Fn) (first cap : Array Value) (w : World), (Instr.makeFunc fn first cap).run Tryz.prog w = .ok (.func fn first cap) w := fun _ _ _ _ => rfl
  have HB : Hid (Below w.heap.size w (w.alloc (.cells #[v0, v1] 34))) := (Below.refl _ _).alloc (Nat.le_refl _) _
  have HS : ∀ b, S b → b < (w.alloc (.cells #[v0, v1] 34)).heap.size := fun b hb => Nat.lt_of_lt_of_le (hS b hb) HB.out.size
  have HK : Hid (CapZ S (w.alloc (.cells #[v0, v1] 34)) w.heap.size v0 v1 T) := ⟨by simp, box_at _ _ (Below.refl _ _) 0 v0 rfl, box_at _ _ (Below.refl _ _) 1 v1 rfl, h0.same (Same.of_below HB.out hS), HS⟩
  have H1 : Hid (AtL S (w.alloc (.cells #[v0, v1] 34)) Bs v1) := h1.same (Same.of_below HB.out hS)
  clear h0 h1
  go_enter Tryz.func168, Tryz.ntmps168
  go_wp2_with fail
  refine Calls.mono (listShareBatch_any S w.heap.size v0 v1 T v1 Bs 5 _ H1.out HS HK.out) ?_
  rintro e w1 ⟨rfl, hb1⟩
  go_wp2_with fail
  go_ret
  exact ⟨rfl, HB.out.trans (hb1.mono HB.out.size)⟩
end Go.Proofs.YtigkkelaadbhcabGreat

namespace Go.Proofs.YtigkkelaadbhcabGreat
open Go.RowKit
theorem prev_map_bat {T : List ByteArray} (o : Option DShareBatch) (x : DShareBatch) : batB T o x = tst (fun f : DShareBatch => baI T f) (fun p f : DShareBatch => ltB p.1 f.1) o x := by
  unfold batB tst baI
  simp only
  cases nameB x.1 <;> cases asO (fun a b : DShareBatch => ltB a.1 b.1) o x <;> cases subB T x.2.2 <;> cases subB x.2.2 x.2.1 <;> rfl
theorem bok_parts (T : List ByteArray) (Bs : List DShareBatch) : BokP (T, Bs) ↔ okB 8 (tst nameB ltB) T = true ∧ okB 5 (tst (fun f : DShareBatch => baI T f) (fun p f : DShareBatch => ltB p.1 f.1)) Bs = true ∧ Apart Bs := by
  constructor
  · intro h
    refine ⟨h.things, ?_, fun i hi k hk => (h.row i hi).sha k hk⟩
    rw [ok_iff]
    exact ⟨h.len, fun i hi => by have := (h.row i hi).bat; rw [prev_map_bat] at this; exact this⟩
  · rintro ⟨h1, h2, h3⟩
    rw [ok_iff] at h2
    exact ⟨h1, h2.1, fun i hi => ⟨by rw [prev_map_bat]; exact h2.2 i hi, fun k hk => h3 i hi k hk⟩⟩
theorem bat_nodup {T : List ByteArray} {Bs : List DShareBatch} (h : okB 5 (tst (fun f : DShareBatch => baI T f) (fun p f : DShareBatch => ltB p.1 f.1)) Bs = true) : ∀ x ∈ Bs, x.2.1.Nodup := fun x hx => by
  rw [ok_iff] at h
  obtain ⟨i, hi, rfl⟩ := List.getElem_of_mem hx
  have := h.2 i hi
  rw [tst, Bool.and_eq_true, baI, Bool.and_eq_true, Bool.and_eq_true] at this
  exact (sub_parts this.1.2.2).1
set_option maxRecDepth 100000 in
set_option maxHeartbeats 8000000 in
theorem bookP_any (S : Nat → Prop) (T : List ByteArray) (Bs : List DShareBatch) (o0 oa : Option Addr) (n0 k0 nb kb : Nat) (w : World) (h0 : AtL S w T (.slice o0 n0 k0)) (h1 : AtL S w Bs (.slice oa nb kb)) (hS : ∀ b, S b → b < w.heap.size) :
    Calls Tryz.prog 136 #[.agg #[.slice o0 n0 k0, .slice oa nb kb]] w fun e w' => e = .returned (.bool (bokB (T, Bs))) ∧ Below w.heap.size w w' := by
  have H0 : Hid _ := h0.ups hS
  have H1 : Hid _ := h1.ups hS
  have HS : Hid _ := lt_up hS
  clear h0 h1
  obtain ⟨W, EW, BW, RW, sW⟩ := box_new w #[.slice o0 n0 k0, .slice oa nb kb] 34
  have BOX : Hid (∀ u, Below W.heap.size W u → u.heap[w.heap.size]? = some (.cells #[.slice o0 n0 k0, .slice oa nb kb] 34 (0, 0)) ∧ Below w.heap.size w u) := fun u hu => ⟨(hu.block _ (by omega)).trans RW.out, BW.out.trans (hu.mono (by omega))⟩
  have y0 := (cell_row (BOX.out W (Below.refl _ _)).1 0 (.slice o0 n0 k0) rfl).1
  have y1 := (cell_row (BOX.out W (Below.refl _ _)).1 1 (.slice oa nb kb) rfl).1
  go_enter Tryz.func136, Tryz.ntmps136
  go_upto_region 1 with fail
  rw [← EW.out]
  go_wp2_with fail
  refine (isOkN_any S _ T 8 W (H0.out W BW.out) (HS.out W BW.out)).mono ?_; rintro e u1 ⟨rfl, hb1⟩
  have B1 : Hid (Below W.heap.size W u1) := hb1
  clear hb1 y0 y1
  cases hT : okB 8 (tst (fun f : ByteArray => nameB f) (fun p f : ByteArray => ltB p f)) T
  · go_wp2_with fail
    go_ret
    rw [bok_no (fun h => by have := ((bok_parts T Bs).1 h).1; rw [show okB 8 (tst nameB ltB) T = false from hT] at this; cases this)]
    exact ⟨rfl, (BOX.out u1 B1.out).2⟩
  have y0 := (cell_row (BOX.out u1 B1.out).1 0 (.slice o0 n0 k0) rfl).1
  have y1 := (cell_row (BOX.out u1 B1.out).1 1 (.slice oa nb kb) rfl).1
  go_wp2_with fail
  refine (batches_any S _ _ T Bs u1 (H0.out u1 (BOX.out u1 B1.out).2) (H1.out u1 (BOX.out u1 B1.out).2) (HS.out u1 (BOX.out u1 B1.out).2)).mono ?_; rintro e u2 ⟨rfl, hb2⟩
  have B2 : Hid (Below W.heap.size W u2) := B1.out.trans (hb2.mono B1.out.size)
  clear hb2 y0 y1
  cases hB : okB 5 (tst (fun f : DShareBatch => baI T f) (fun p f : DShareBatch => ltB p.1 f.1)) Bs
  · go_wp2_with fail
    go_ret
    rw [bok_no (fun h => by have := ((bok_parts T Bs).1 h).2.1; rw [hB] at this; cases this)]
    exact ⟨rfl, (BOX.out u2 B2.out).2⟩
  have y0 := (cell_row (BOX.out u2 B2.out).1 0 (.slice o0 n0 k0) rfl).1
  have y1 := (cell_row (BOX.out u2 B2.out).1 1 (.slice oa nb kb) rfl).1
  go_wp2_with fail
  refine (who_any S Bs _ _ u2 (H1.out u2 (BOX.out u2 B2.out).2) (HS.out u2 (BOX.out u2 B2.out).2) (bat_nodup hB)).mono ?_; rintro e u3 ⟨hw3, hb3⟩
  have B3 : Hid (Below W.heap.size W u3) := B2.out.trans (hb3.mono B2.out.size)
  clear hb3 y0 y1
  rcases hw3 with ⟨rfl, hA⟩ | ⟨m, M, rfl, _, hM⟩
  · have EB : Hid (bokB (T, Bs) = false) := bok_no (fun h => hA ((bok_parts T Bs).1 h).2.2)
    clear hA
    go_wp2_with fail
    go_ret
    rw [EB.out]
    exact ⟨rfl, (BOX.out u3 B3.out).2⟩
  · have EB : Hid (bokB (T, Bs) = true) := bok_yes ((bok_parts T Bs).2 ⟨hT, hB, hM.apart⟩)
    clear hM
    go_wp2_with fail
    go_ret
    rw [EB.out]
    exact ⟨rfl, (BOX.out u3 B3.out).2⟩
end Go.Proofs.YtigkkelaadbhcabGreat
