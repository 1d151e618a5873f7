import Derived.Test.YtaejlcanccfmmaaGreatDoorM1
import Derived.Test.YtaejlcanccfmmaaGreatDoorZpa
import Derived.Test.YtaejlcanccfmmaaGreatDoorZmb
import Derived.Maps.AppendAt
namespace Go.Proofs.YtaejlcanccfmmaaGreatDoor
open Go.RowKit
def Apart (Bs : List DShareBatch) : Prop := ∀ i (hi : i < Bs.length) k (hk : k < i), shareB Bs[i].2.1 (Bs[k]'(by omega)).2.1 = false
def WhoU (Bs : List DShareBatch) (k j : Nat) (M : ByteArray → Option Nat) : Prop :=
  ∀ x t, M x = some t ↔ ∃ h : t < Bs.length, (t < k ∧ x ∈ Bs[t].2.1) ∨ (t = k ∧ x ∈ Bs[t].2.1.take j)
def WhoP (Bs : List DShareBatch) (M : ByteArray → Option Nat) : Prop := ∀ x t, M x = some t ↔ ∃ h : t < Bs.length, x ∈ Bs[t].2.1
theorem share_iff (a b : List ByteArray) : shareB a b = true ↔ ∃ x, x ∈ a ∧ x ∈ b := by
  unfold shareB
  rw [List.any_eq_true]
  constructor
  · rintro ⟨x, h1, h2⟩; exact ⟨x, h1, (hasB_iff _ _).1 h2⟩
  · rintro ⟨x, h1, h2⟩; exact ⟨x, h1, (hasB_iff _ _).2 h2⟩
theorem WhoP.apart {Bs : List DShareBatch} {M : ByteArray → Option Nat} (h : WhoP Bs M) : Apart Bs := fun i hi k hk => by
  cases e : shareB Bs[i].2.1 (Bs[k]'(by omega)).2.1
  · rfl
  · obtain ⟨x, h1, h2⟩ := (share_iff _ _).1 e
    have a := (h x i).2 ⟨hi, h1⟩
    have b := (h x k).2 ⟨by omega, h2⟩
    rw [a] at b
    cases b
    omega
theorem who_zero (Bs : List DShareBatch) : WhoU Bs 0 0 (fun _ => none) := fun x t => by
  constructor
  · intro h; cases h
  · rintro ⟨_, ⟨h, _⟩ | ⟨_, h⟩⟩
    · omega
    · simp at h
theorem who_next {Bs : List DShareBatch} {k : Nat} {M : ByteArray → Option Nat} (hk : k < Bs.length) (h : WhoU Bs k Bs[k].2.1.length M) : WhoU Bs (k + 1) 0 M := fun x t => by
  rw [h x t]
  constructor
  · rintro ⟨ht, ⟨h1, h2⟩ | ⟨h1, h2⟩⟩
    · exact ⟨ht, .inl ⟨by omega, h2⟩⟩
    · subst h1; rw [List.take_length] at h2; exact ⟨ht, .inl ⟨by omega, h2⟩⟩
  · rintro ⟨ht, ⟨h1, h2⟩ | ⟨_, h2⟩⟩
    · by_cases e : t = k
      · subst e; exact ⟨ht, .inr ⟨rfl, by rw [List.take_length]; exact h2⟩⟩
      · exact ⟨ht, .inl ⟨by omega, h2⟩⟩
    · simp at h2
theorem who_all {Bs : List DShareBatch} {k : Nat} {M : ByteArray → Option Nat} (hk : Bs.length ≤ k) (h : WhoU Bs k 0 M) : WhoP Bs M := fun x t => by
  rw [h x t]
  constructor
  · rintro ⟨ht, ⟨_, h2⟩ | ⟨_, h2⟩⟩
    · exact ⟨ht, h2⟩
    · simp at h2
  · rintro ⟨ht, h2⟩; exact ⟨ht, .inl ⟨by omega, h2⟩⟩
theorem who_put {Bs : List DShareBatch} {k j : Nat} {M : ByteArray → Option Nat} (hk : k < Bs.length) (hj : j < Bs[k].2.1.length) (h : WhoU Bs k j M) (hn : M Bs[k].2.1[j] = none) : WhoU Bs k (j + 1) (putM M Bs[k].2.1[j] k) := fun x t => by
  unfold putM
  by_cases e : x = Bs[k].2.1[j]
  · rw [if_pos e]
    constructor
    · intro h1
      cases h1
      refine ⟨hk, .inr ⟨rfl, ?_⟩⟩
      rw [e, List.take_succ_eq_append_getElem hj]
      exact List.mem_append_right _ (List.mem_singleton.2 rfl)
    · rintro ⟨ht, ⟨h1, h2⟩ | ⟨h1, _⟩⟩
      · have := (h x t).2 ⟨ht, .inl ⟨h1, h2⟩⟩
        rw [e, hn] at this
        cases this
      · rw [h1]
  · rw [if_neg e, h x t]
    constructor
    · rintro ⟨ht, h1 | ⟨h1, h2⟩⟩
      · exact ⟨ht, .inl h1⟩
      · subst h1
        refine ⟨ht, .inr ⟨rfl, ?_⟩⟩
        rw [List.take_succ_eq_append_getElem hj]; exact List.mem_append_left _ h2
    · rintro ⟨ht, h1 | ⟨h1, h2⟩⟩
      · exact ⟨ht, .inl h1⟩
      · subst h1
        rw [List.take_succ_eq_append_getElem hj] at h2
        rcases List.mem_append.1 h2 with h2 | h2
        · exact ⟨ht, .inr ⟨rfl, h2⟩⟩
        · exact absurd (List.mem_singleton.1 h2) e
theorem who_twice {Bs : List DShareBatch} {k j t : Nat} {M : ByteArray → Option Nat} (hk : k < Bs.length) (hj : j < Bs[k].2.1.length) (hd : Bs[k].2.1.Nodup) (h : WhoU Bs k j M) (hn : M Bs[k].2.1[j] = some t) : ¬ Apart Bs := fun hA => by
  obtain ⟨ht, ⟨h1, h2⟩ | ⟨h1, h2⟩⟩ := (h _ t).1 hn
  · have := hA k hk t h1
    rw [(share_iff _ _).2 ⟨_, List.getElem_mem hj, h2⟩] at this
    cases this
  · subst h1
    obtain ⟨i, hi, e⟩ := List.getElem_of_mem h2
    rw [List.getElem_take] at e
    have hi' : i < j := by have := hi; simp at this; omega
    have := List.pairwise_iff_getElem.1 hd i j (by omega) hj hi'
    exact this e
set_option maxRecDepth 100000 in
set_option maxHeartbeats 16000000 in
theorem who_any (S : Nat → Prop) (Bs : List DShareBatch) (v0 v1 : Value) (w : World) (h1 : AtL S w Bs v1) (hS : ∀ b, S b → b < w.heap.size) (hd : ∀ x ∈ Bs, x.2.1.Nodup) :
    Calls Tryz.prog 47 #[.agg #[v0, v1]] w fun e w' => ((e = .returned (.tuple #[.map none, .bool false]) ∧ ¬ Apart Bs) ∨ (∃ m M, e = .returned (.tuple #[.map (some m), .bool true]) ∧ Ms w' m M ∧ WhoP Bs M)) ∧ Below w.heap.size w w' := by
  obtain ⟨oa, kb, rfl, hfit, hc⟩ := id h1
  have HC : Hid _ := hc
  have HD : Hid (∀ i (hi : i < Bs.length), Bs[i].2.1.Nodup) := fun i hi => hd _ (List.getElem_mem hi)
  have HS : Hid _ := lt_up hS
  obtain ⟨nb, enb⟩ : ∃ n, Bs.length = n := ⟨_, rfl⟩
  have ENB : Hid (Bs.length ≤ nb ∧ nb ≤ Bs.length) := ⟨by omega, by omega⟩
  rw [enb]
  have hmx : nb ≤ maxLen := by rw [← enb]; exact hfit.1
  unfold maxLen at hmx
  clear h1 hc hfit enb hd
  obtain ⟨W, hW⟩ : ∃ W, W = w.alloc (.cells #[v0, .slice oa nb kb] 26) := ⟨_, rfl⟩
  have EW : Hid (W = w.alloc (.cells #[v0, .slice oa nb kb] 26)) := hW
  have BW : Hid (Below w.heap.size w W) := by rw [hW]; exact (Below.refl _ _).alloc (Nat.le_refl _) _
  have sW : w.heap.size + 1 ≤ W.heap.size := by rw [hW]; simp
  have y1 := fun o => cell_past (show W.cell? ⟨w.heap.size, 1, none⟩ = some (.slice oa nb kb) by rw [hW]; exact box_at _ _ (Below.refl _ _) 1 _ rfl) (by omega) o
  obtain ⟨m, hm⟩ : ∃ m, m = W.heap.size := ⟨_, rfl⟩
  have EM : Hid (m = W.heap.size) := hm
  have hmw : w.heap.size ≤ m := by omega
  clear hW hm
  have hmm := @run_makeMap Tryz.prog
  go_enter Tryz.func47, Tryz.ntmps47
  go_upto_region 1 with fail
  rw [← EW.out]
  go_wp2_with fail
  rw [← EM.out]
  clear y1
  go_loopw [15] (fun i wr => ∃ q : Nat, q ≤ nb ∧ i = .int .i64 q ∧ Hid (∃ M, Ms wr m M ∧ WhoU Bs q 0 M) ∧ Hid (Below w.heap.size w wr)) (fun i _ => nb - (intOf i).toNat)
  case atStart =>
    refine ⟨0, Nat.zero_le _, rfl, ⟨_, ?_, who_zero Bs⟩, BW.out.alloc (by omega) _⟩
    rw [EM.out]
    exact Ms.made W
  case round =>
    obtain ⟨q, hq, rfl, hmp, hbel⟩ := hrel
    by_cases hlt : q < nb
    case neg =>
      go_wp2_with fail
      obtain ⟨M, hM, hw⟩ := hmp.out
      exact bodyPost_ret (v := .tuple #[.map (some m), .bool true]) (by simp [results, Tryz.results47, go_sem]) rfl ⟨.inr ⟨m, M, rfl, hM, who_all (by have := ENB.out; omega) hw⟩, hbel.out⟩
    have hqb : q < Bs.length := by have := ENB.out; omega
    obtain ⟨bb, off, rfl, hbS, cc, hcell, hat⟩ := HC.out q hqb
    have hbb := HS.out w (Below.refl _ _) bb hbS
    rw [width_DShareBatch] at hcell
    obtain ⟨f, ef⟩ : ∃ f, Bs[q] = f := ⟨_, rfl⟩
    rw [at_DShareBatch, ef] at hat
    obtain ⟨nm, has, needs⟩ := f
    have EF : Hid (Bs[q].2.1 = has) := by show _ = _; rw [ef]
    obtain ⟨⟨t0, z0⟩, a1, a2⟩ := hat
    simp only at t0 z0 a1 a2
    obtain ⟨o1, k1, t1, hf1, hc1⟩ := id a1
    obtain ⟨o2, k2, t2, _⟩ := id a2
    obtain ⟨n1, en1⟩ : ∃ n, has.length = n := ⟨_, rfl⟩
    obtain ⟨n2, en2⟩ : ∃ n, needs.length = n := ⟨_, rfl⟩
    have hx1 : n1 ≤ maxLen := by rw [← en1]; exact hf1.1
    unfold maxLen at hx1
    have EN1 : Hid (has.length ≤ n1 ∧ n1 ≤ has.length) := ⟨by omega, by omega⟩
    have HC1 : Hid _ := hc1
    rw [en1] at t1
    rw [en2] at t2
    have bwr := hbel.out
    have e0 : wr.cell? ⟨bb, off + q * 3, none⟩ = some (.string nm) := (bwr.cell (p := ⟨bb, off + q * 3, none⟩) hbb).trans ((by have hq := hcell 0 (by omega); first | exact hq | simpa using hq : w.cell? ⟨bb, off + q * 3, none⟩ = some (cc 0)).trans (by rw [t0]))
    have e1 : wr.cell? ⟨bb, off + q * 3 + 1, none⟩ = some (.slice o1 n1 k1) := (bwr.cell (p := ⟨bb, off + q * 3 + 1, none⟩) hbb).trans ((hcell 1 (by omega)).trans (by rw [t1]))
    have e2 : wr.cell? ⟨bb, off + q * 3 + 2, none⟩ = some (.slice o2 n2 k2) := (bwr.cell (p := ⟨bb, off + q * 3 + 2, none⟩) hbb).trans ((hcell 2 (by omega)).trans (by rw [t2]))
    clear hcell a1 a2 t0 t1 t2 en1 en2 hf1 hc1 ef bwr
    obtain ⟨X, hX⟩ : ∃ X, X = wr.alloc (.cells #[.string nm, .slice o1 n1 k1, .slice o2 n2 k2] 43) := ⟨_, rfl⟩
    have EX : Hid (X = wr.alloc (.cells #[.string nm, .slice o1 n1 k1, .slice o2 n2 k2] 43)) := hX
    have sw := hbel.out.size
    have BX : Hid (Below w.heap.size w X) := by rw [hX]; exact hbel.out.alloc (by omega) _
    have MX : Hid (∃ M, Ms X m M ∧ WhoU Bs q 0 M) := by
      obtain ⟨M, hM, hw⟩ := hmp.out
      exact ⟨M, by rw [hX]; exact hM.of_block (Below.heap_alloc wr _ _ hM.lt), hw⟩
    have r1 : X.cell? ⟨wr.heap.size, 1, none⟩ = some (.slice o1 n1 k1) := by rw [hX]; exact box_at _ _ (Below.refl _ _) 1 _ rfl
    clear hX
    go_upto_region 5 with fail
    rw [← EX.out]
    go_wp2_with fail
    clear e0 e1 e2 r1
    go_loopw [23] (fun i wr => ∃ j : Nat, j ≤ n1 ∧ i = .int .i64 j ∧ Hid (∃ M, Ms wr m M ∧ WhoU Bs q j M) ∧ Hid (Below w.heap.size w wr)) (fun i _ => n1 - (intOf i).toNat)
    case atStart => exact ⟨0, Nat.zero_le _, rfl, MX, BX⟩
    case round =>
      obtain ⟨j, hj, rfl, hmp2, hbel2⟩ := hrel
      by_cases hlj : j < n1
      case neg =>
        go_wp2_with fail
        go_roundw
        case rel =>
          obtain ⟨M, hM, hw⟩ := hmp2.out
          have hj' : j = Bs[q].2.1.length := by rw [EF.out]; have := EN1.out; omega
          rw [hj'] at hw
          exact ⟨q + 1, by omega, by go_num, ⟨M, hM, who_next hqb hw⟩, hbel2⟩
        case measure => simp [intOf]; omega
      have hjb : j < has.length := by have := EN1.out; omega
      have hjq : j < Bs[q].2.1.length := by rw [EF.out]; exact hjb
      obtain ⟨b1, off1, rfl, hbS1, c1, hcl1, hat1⟩ := HC1.out j hjb
      have hbb1 := HS.out w (Below.refl _ _) b1 hbS1
      rw [width_str] at hcl1
      rw [at_str] at hat1
      obtain ⟨x, ex⟩ : ∃ x, has[j] = x := ⟨_, rfl⟩
      rw [ex] at hat1
      obtain ⟨tx, zx⟩ := hat1
      have exq : Hid (Bs[q].2.1[j] = x) := by show _ = _; rw [← ex]; simp only [EF.out]
      have x0 : wr.cell? ⟨b1, off1 + j, none⟩ = some (.string x) := (hbel2.out.cell (p := ⟨b1, off1 + j, none⟩) hbb1).trans ((by have hq := hcl1 0 (by omega); first | exact hq | simpa using hq : w.cell? ⟨b1, off1 + j, none⟩ = some (c1 0)).trans (by rw [tx]))
      clear hcl1 tx ex
      obtain ⟨M, hM, hw⟩ := hmp2.out
      have hML := hM.lt
      have HW : Hid (WhoU Bs q j M) := hw
      have HM : Hid (Ms wr m M) := hM
      clear hw hM
      cases eM : M x with
      | some t =>
        have l0 := HM.out.look_yes zx eM
        have HN : Hid (¬ Apart Bs) := who_twice hqb hjq (HD.out q hqb) HW.out (by rw [exq.out]; exact eM)
        clear eM
        go_wp2_with fail
        exact bodyPost_ret (v := .tuple #[.map none, .bool false]) (by simp [results, Tryz.results47, go_sem]) rfl ⟨.inl ⟨rfl, HN.out⟩, hbel2.out⟩
      | none =>
        have l0 := HM.out.look_no zx eM
        obtain ⟨u, hu, hMu, hg⟩ := HM.out.put zx eM q
        have HU : Hid (∃ M, Ms u m M ∧ WhoU Bs q (j + 1) M) := ⟨_, hMu, by
          have := who_put hqb hjq HW.out (by rw [exq.out]; exact eM)
          rw [exq.out] at this
          exact this⟩
        have BU : Hid (Below w.heap.size w u) := hbel2.out.grown hg (by have := hbel2.out.size; omega) (fun i hi => by cases hi; omega)
        clear eM hMu hg
        go_wp2_with fail
        go_roundw
        case rel => exact ⟨j + 1, by omega, by go_num, HU, BU⟩
        case measure => simp [intOf]; omega
end Go.Proofs.YtaejlcanccfmmaaGreatDoor
