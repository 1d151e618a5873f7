/-
  Several texts in one.
-/
import Derived.Test.YthgnhjkkfhfgmabM47
import Derived.Test.YthgnhjkkfhfgmabZpa
import Derived.Test.YthgnhjkkfhfgmabZmb
import Derived.Maps.AppendAt
import Derived.Test.YthgnhjkkfhfgmabZmg
import Derived.Test.YthgnhjkkfhfgmabNa
import Derived.Test.YthgnhjkkfhfgmabHq
import Derived.Laws.BitsAllLaws
import Derived.Test.YthgnhjkkfhfgmabZmf
import Derived.Test.YthgnhjkkfhfgmabHi
import Derived.Test.YthgnhjkkfhfgmabHj
/-
  Who has what, as the program keeps it in a map: the contract of whoHas.
-/
namespace Go.Proofs.Ythgnhjkkfhfgmab
open Go.RowKit

/-- No two have one thing. -/
def Apart (Bs : List DShareBatch) : Prop := ∀ i (hi : i < Bs.length) k (hk : k < i), shareB Bs[i].2.1 (Bs[k]'(by omega)).2.1 = false
/-- What the map has behind k batches, and j things of the next. -/
def WhoU (Bs : List DShareBatch) (k j : Nat) (M : ByteArray → Option Nat) : Prop :=
  ∀ x t, M x = some t ↔ ∃ h : t < Bs.length, (t < k ∧ x ∈ Bs[t].2.1) ∨ (t = k ∧ x ∈ Bs[t].2.1.take j)
/-- What the map has of all. -/
def WhoP (Bs : List DShareBatch) (M : ByteArray → Option Nat) : Prop := ∀ x t, M x = some t ↔ ∃ h : t < Bs.length, x ∈ Bs[t].2.1

theorem share_iff (a b : List ByteArray) : shareB a b = true ↔ ∃ x, x ∈ a ∧ x ∈ b := by
  unfold shareB
  rw [List.any_eq_true]
  constructor
  · rintro ⟨x, h1, h2⟩; exact ⟨x, h1, (hasB_iff _ _).1 h2⟩
  · rintro ⟨x, h1, h2⟩; exact ⟨x, h1, (hasB_iff _ _).2 h2⟩
theorem WhoP.apart {Bs : List DShareBatch} {M : ByteArray → Option Nat} (h : WhoP Bs M) : Apart Bs := fun i hi k hk => by
  cases e : shareB Bs[i].2.1 (Bs[k]'(by omega)).2.1
  · rfl
  · obtain ⟨x, h1, h2⟩ := (share_iff _ _).1 e
    have a := (h x i).2 ⟨hi, h1⟩
    have b := (h x k).2 ⟨by omega, h2⟩
    rw [a] at b
    cases b
    omega
theorem who_zero (Bs : List DShareBatch) : WhoU Bs 0 0 (fun _ => none) := fun x t => by
  constructor
  · intro h; cases h
  · rintro ⟨_, ⟨h, _⟩ | ⟨_, h⟩⟩
    · omega
    · simp at h
theorem who_next {Bs : List DShareBatch} {k : Nat} {M : ByteArray → Option Nat} (hk : k < Bs.length) (h : WhoU Bs k Bs[k].2.1.length M) : WhoU Bs (k + 1) 0 M := fun x t => by
  rw [h x t]
  constructor
  · rintro ⟨ht, ⟨h1, h2⟩ | ⟨h1, h2⟩⟩
    · exact ⟨ht, .inl ⟨by omega, h2⟩⟩
    · subst h1; rw [List.take_length] at h2; exact ⟨ht, .inl ⟨by omega, h2⟩⟩
  · rintro ⟨ht, ⟨h1, h2⟩ | ⟨_, h2⟩⟩
    · by_cases e : t = k
      · subst e; exact ⟨ht, .inr ⟨rfl, by rw [List.take_length]; exact h2⟩⟩
      · exact ⟨ht, .inl ⟨by omega, h2⟩⟩
    · simp at h2
theorem who_all {Bs : List DShareBatch} {k : Nat} {M : ByteArray → Option Nat} (hk : Bs.length ≤ k) (h : WhoU Bs k 0 M) : WhoP Bs M := fun x t => by
  rw [h x t]
  constructor
  · rintro ⟨ht, ⟨_, h2⟩ | ⟨_, h2⟩⟩
    · exact ⟨ht, h2⟩
    · simp at h2
  · rintro ⟨ht, h2⟩; exact ⟨ht, .inl ⟨by omega, h2⟩⟩
theorem who_put {Bs : List DShareBatch} {k j : Nat} {M : ByteArray → Option Nat} (hk : k < Bs.length) (hj : j < Bs[k].2.1.length) (h : WhoU Bs k j M) (hn : M Bs[k].2.1[j] = none) : WhoU Bs k (j + 1) (putM M Bs[k].2.1[j] k) := fun x t => by
  unfold putM
  by_cases e : x = Bs[k].2.1[j]
  · rw [if_pos e]
    constructor
    · intro h1
      cases h1
      refine ⟨hk, .inr ⟨rfl, ?_⟩⟩
      rw [e, List.take_succ_eq_append_getElem hj]
      exact List.mem_append_right _ (List.mem_singleton.2 rfl)
    · rintro ⟨ht, ⟨h1, h2⟩ | ⟨h1, _⟩⟩
      · have := (h x t).2 ⟨ht, .inl ⟨h1, h2⟩⟩
        rw [e, hn] at this
        cases this
      · rw [h1]
  · rw [if_neg e, h x t]
    constructor
    · rintro ⟨ht, h1 | ⟨h1, h2⟩⟩
      · exact ⟨ht, .inl h1⟩
      · subst h1
        refine ⟨ht, .inr ⟨rfl, ?_⟩⟩
        rw [List.take_succ_eq_append_getElem hj]; exact List.mem_append_left _ h2
    · rintro ⟨ht, h1 | ⟨h1, h2⟩⟩
      · exact ⟨ht, .inl h1⟩
      · subst h1
        rw [List.take_succ_eq_append_getElem hj] at h2
        rcases List.mem_append.1 h2 with h2 | h2
        · exact ⟨ht, .inr ⟨rfl, h2⟩⟩
        · exact absurd (List.mem_singleton.1 h2) e
theorem who_twice {Bs : List DShareBatch} {k j t : Nat} {M : ByteArray → Option Nat} (hk : k < Bs.length) (hj : j < Bs[k].2.1.length) (hd : Bs[k].2.1.Nodup) (h : WhoU Bs k j M) (hn : M Bs[k].2.1[j] = some t) : ¬ Apart Bs := fun hA => by
  obtain ⟨ht, ⟨h1, h2⟩ | ⟨h1, h2⟩⟩ := (h _ t).1 hn
  · have := hA k hk t h1
    rw [(share_iff _ _).2 ⟨_, List.getElem_mem hj, h2⟩] at this
    cases this
  · subst h1
    obtain ⟨i, hi, e⟩ := List.getElem_of_mem h2
    rw [List.getElem_take] at e
    have hi' : i < j := by have := hi; simp at this; omega
    have := List.pairwise_iff_getElem.1 hd i j (by omega) hj hi'
    exact this e

set_option maxRecDepth 100000 in
set_option maxHeartbeats 16000000 in
theorem who_any (S : Nat → Prop) (Bs : List DShareBatch) (v0 v1 : Value) (w : World) (h1 : AtL S w Bs v1) (hS : ∀ b, S b → b < w.heap.size) (hd : ∀ x ∈ Bs, x.2.1.Nodup) :
    Calls Try.prog 24 #[.agg #[v0, v1]] w fun e w' => ((e = .returned (.tuple #[.map none, .bool false]) ∧ ¬ Apart Bs) ∨ (∃ m M, e = .returned (.tuple #[.map (some m), .bool true]) ∧ Ms w' m M ∧ WhoP Bs M)) ∧ Below w.heap.size w w' := by
  obtain ⟨oa, kb, rfl, hfit, hc⟩ := id h1
  have HC : Hid _ := hc
  have HD : Hid (∀ i (hi : i < Bs.length), Bs[i].2.1.Nodup) := fun i hi => hd _ (List.getElem_mem hi)
  have HS : Hid (∀ u, Below w.heap.size w u → ∀ b, S b → b < u.heap.size) := fun u hu b hb => Nat.lt_of_lt_of_le (hS b hb) hu.size
  obtain ⟨nb, enb⟩ : ∃ n, Bs.length = n := ⟨_, rfl⟩
  have ENB : Hid (Bs.length ≤ nb ∧ nb ≤ Bs.length) := ⟨by omega, by omega⟩
  rw [enb]
  have hmx : nb ≤ maxLen := by rw [← enb]; exact hfit.1
  unfold maxLen at hmx
  clear h1 hc hfit enb hd
  obtain ⟨W, hW⟩ : ∃ W, W = w.alloc (.cells #[v0, .slice oa nb kb] 26) := ⟨_, rfl⟩
  have EW : Hid (W = w.alloc (.cells #[v0, .slice oa nb kb] 26)) := hW
  have BW : Hid (Below w.heap.size w W) := by rw [hW]; exact (Below.refl _ _).alloc (Nat.le_refl _) _
  have sW : w.heap.size + 1 ≤ W.heap.size := by rw [hW]; simp
  have y1 := fun o => cell_past (show W.cell? ⟨w.heap.size, 1, none⟩ = some (.slice oa nb kb) by rw [hW]; exact box_at _ _ (Below.refl _ _) 1 _ rfl) (by omega) o
  obtain ⟨m, hm⟩ : ∃ m, m = W.heap.size := ⟨_, rfl⟩
  have EM : Hid (m = W.heap.size) := hm
  have hmw : w.heap.size ≤ m := by omega
  clear hW hm
  have hmm := @run_makeMap Try.prog
  go_enter Try.func24, Try.ntmps24
  go_upto_region 1 with fail
  rw [← EW.out]
  go_wp2_with fail
  rw [← EM.out]
  clear y1
  go_loopw [15] (fun i wr => ∃ q : Nat, q ≤ nb ∧ i = .int .i64 q ∧ Hid (∃ M, Ms wr m M ∧ WhoU Bs q 0 M) ∧ Hid (Below w.heap.size w wr)) (fun i _ => nb - (intOf i).toNat)
  case atStart =>
    refine ⟨0, Nat.zero_le _, rfl, ⟨_, ?_, who_zero Bs⟩, BW.out.alloc (by omega) _⟩
    rw [EM.out]
    exact Ms.made W
  case round =>
    obtain ⟨q, hq, rfl, hmp, hbel⟩ := hrel
    by_cases hlt : q < nb
    case neg =>
      go_wp2_with fail
      obtain ⟨M, hM, hw⟩ := hmp.out
      exact bodyPost_ret (v := .tuple #[.map (some m), .bool true]) (by simp [results, Try.results24, go_sem]) rfl ⟨.inr ⟨m, M, rfl, hM, who_all (by have := ENB.out; omega) hw⟩, hbel.out⟩
    have hqb : q < Bs.length := by have := ENB.out; omega
    obtain ⟨bb, off, rfl, hbS, cc, hcell, hat⟩ := HC.out q hqb
    have hbb := HS.out w (Below.refl _ _) bb hbS
    rw [width_DShareBatch] at hcell
    obtain ⟨f, ef⟩ : ∃ f, Bs[q] = f := ⟨_, rfl⟩
    rw [at_DShareBatch, ef] at hat
    obtain ⟨nm, has, needs⟩ := f
    have EF : Hid (Bs[q].2.1 = has) := by show _ = _; rw [ef]
    obtain ⟨⟨t0, z0⟩, a1, a2⟩ := hat
    simp only at t0 z0 a1 a2
    obtain ⟨o1, k1, t1, hf1, hc1⟩ := id a1
    obtain ⟨o2, k2, t2, _⟩ := id a2
    obtain ⟨n1, en1⟩ : ∃ n, has.length = n := ⟨_, rfl⟩
    obtain ⟨n2, en2⟩ : ∃ n, needs.length = n := ⟨_, rfl⟩
    have hx1 : n1 ≤ maxLen := by rw [← en1]; exact hf1.1
    unfold maxLen at hx1
    have EN1 : Hid (has.length ≤ n1 ∧ n1 ≤ has.length) := ⟨by omega, by omega⟩
    have HC1 : Hid _ := hc1
    rw [en1] at t1
    rw [en2] at t2
    have bwr := hbel.out
    have e0 : wr.cell? ⟨bb, off + q * 3, none⟩ = some (.string nm) := (bwr.cell (p := ⟨bb, off + q * 3, none⟩) hbb).trans ((by simpa using hcell 0 (by omega) : w.cell? ⟨bb, off + q * 3, none⟩ = some (cc 0)).trans (by rw [t0]))
    have e1 : wr.cell? ⟨bb, off + q * 3 + 1, none⟩ = some (.slice o1 n1 k1) := (bwr.cell (p := ⟨bb, off + q * 3 + 1, none⟩) hbb).trans ((hcell 1 (by omega)).trans (by rw [t1]))
    have e2 : wr.cell? ⟨bb, off + q * 3 + 2, none⟩ = some (.slice o2 n2 k2) := (bwr.cell (p := ⟨bb, off + q * 3 + 2, none⟩) hbb).trans ((hcell 2 (by omega)).trans (by rw [t2]))
    clear hcell a1 a2 t0 t1 t2 en1 en2 hf1 hc1 ef bwr
    obtain ⟨X, hX⟩ : ∃ X, X = wr.alloc (.cells #[.string nm, .slice o1 n1 k1, .slice o2 n2 k2] 46) := ⟨_, rfl⟩
    have EX : Hid (X = wr.alloc (.cells #[.string nm, .slice o1 n1 k1, .slice o2 n2 k2] 46)) := hX
    have sw := hbel.out.size
    have BX : Hid (Below w.heap.size w X) := by rw [hX]; exact hbel.out.alloc (by omega) _
    have MX : Hid (∃ M, Ms X m M ∧ WhoU Bs q 0 M) := by
      obtain ⟨M, hM, hw⟩ := hmp.out
      exact ⟨M, by rw [hX]; exact hM.of_block (Below.heap_alloc wr _ _ hM.lt), hw⟩
    have r1 : X.cell? ⟨wr.heap.size, 1, none⟩ = some (.slice o1 n1 k1) := by rw [hX]; exact box_at _ _ (Below.refl _ _) 1 _ rfl
    clear hX
    go_upto_region 5 with fail
    rw [← EX.out]
    go_wp2_with fail
    clear e0 e1 e2 r1
    go_loopw [23] (fun i wr => ∃ j : Nat, j ≤ n1 ∧ i = .int .i64 j ∧ Hid (∃ M, Ms wr m M ∧ WhoU Bs q j M) ∧ Hid (Below w.heap.size w wr)) (fun i _ => n1 - (intOf i).toNat)
    case atStart => exact ⟨0, Nat.zero_le _, rfl, MX, BX⟩
    case round =>
      obtain ⟨j, hj, rfl, hmp2, hbel2⟩ := hrel
      by_cases hlj : j < n1
      case neg =>
        go_wp2_with fail
        go_roundw
        case rel =>
          obtain ⟨M, hM, hw⟩ := hmp2.out
          have hj' : j = Bs[q].2.1.length := by rw [EF.out]; have := EN1.out; omega
          rw [hj'] at hw
          exact ⟨q + 1, by omega, by go_num, ⟨M, hM, who_next hqb hw⟩, hbel2⟩
        case measure => simp [intOf]; omega
      have hjb : j < has.length := by have := EN1.out; omega
      have hjq : j < Bs[q].2.1.length := by rw [EF.out]; exact hjb
      obtain ⟨b1, off1, rfl, hbS1, c1, hcl1, hat1⟩ := HC1.out j hjb
      have hbb1 := HS.out w (Below.refl _ _) b1 hbS1
      rw [width_str] at hcl1
      rw [at_str] at hat1
      obtain ⟨x, ex⟩ : ∃ x, has[j] = x := ⟨_, rfl⟩
      rw [ex] at hat1
      obtain ⟨tx, zx⟩ := hat1
      have exq : Hid (Bs[q].2.1[j] = x) := by show _ = _; rw [← ex]; simp only [EF.out]
      have x0 : wr.cell? ⟨b1, off1 + j, none⟩ = some (.string x) := (hbel2.out.cell (p := ⟨b1, off1 + j, none⟩) hbb1).trans ((by simpa using hcl1 0 (by omega) : w.cell? ⟨b1, off1 + j, none⟩ = some (c1 0)).trans (by rw [tx]))
      clear hcl1 tx ex
      obtain ⟨M, hM, hw⟩ := hmp2.out
      have hML := hM.lt
      have HW : Hid (WhoU Bs q j M) := hw
      have HM : Hid (Ms wr m M) := hM
      clear hw hM
      cases eM : M x with
      | some t =>
        have l0 := HM.out.look_yes zx eM
        have HN : Hid (¬ Apart Bs) := who_twice hqb hjq (HD.out q hqb) HW.out (by rw [exq.out]; exact eM)
        clear eM
        go_wp2_with fail
        exact bodyPost_ret (v := .tuple #[.map none, .bool false]) (by simp [results, Try.results24, go_sem]) rfl ⟨.inl ⟨rfl, HN.out⟩, hbel2.out⟩
      | none =>
        have l0 := HM.out.look_no zx eM
        obtain ⟨u, hu, hMu, hg⟩ := HM.out.put zx eM q
        have HU : Hid (∃ M, Ms u m M ∧ WhoU Bs q (j + 1) M) := ⟨_, hMu, by
          have := who_put hqb hjq HW.out (by rw [exq.out]; exact eM)
          rw [exq.out] at this
          exact this⟩
        have BU : Hid (Below w.heap.size w u) := hbel2.out.grown hg (by have := hbel2.out.size; omega) (fun i hi => by cases hi; omega)
        clear eM hMu hg
        go_wp2_with fail
        go_roundw
        case rel => exact ⟨j + 1, by omega, by go_num, HU, BU⟩
        case measure => simp [intOf]; omega

end Go.Proofs.Ythgnhjkkfhfgmab

/-
  Contracts of the program's tests of the batches of a book of shares.
-/
namespace Go.Proofs.Ythgnhjkkfhfgmab
open Go.RowKit

/-- A book in a box that a test has caught. -/
structure CapZ (S : Nat → Prop) (w : World) (nb : Nat) (v0 v1 : Value) (T : List ByteArray) : Prop where
  lt : nb < w.heap.size
  c0 : w.cell? ⟨nb, 0, none⟩ = some v0
  c1 : w.cell? ⟨nb, 1, none⟩ = some v1
  th : AtL S w T v0
  sub : ∀ b, S b → b < w.heap.size
theorem CapZ.below {S : Nat → Prop} {w w' : World} {nb B : Nat} {v0 v1 : Value} {T : List ByteArray} (h : CapZ S w nb v0 v1 T) (hb : Below B w w') (hB : w.heap.size ≤ B) : CapZ S w' nb v0 v1 T := by
  have hn := h.lt
  have hb' := hb.mono hB
  have hs' := hb'.size
  exact ⟨by omega, (hb'.cell (p := ⟨nb, 0, none⟩) hn).trans h.c0, (hb'.cell (p := ⟨nb, 1, none⟩) hn).trans h.c1, h.th.same (Same.of_below hb' h.sub), fun b hb => by have := h.sub b hb; omega⟩
/-- Is a batch as it is to be, by itself? -/
noncomputable def baI (T : List ByteArray) (x : DShareBatch) : Bool := nameB x.1 && (subB T x.2.2 && subB x.2.2 x.2.1)

set_option maxRecDepth 100000 in
set_option maxHeartbeats 4000000 in
theorem cmpShareBatches_any (a b : ByteArray) (a1 b1 a2 b2 : Value) (w : World) : Calls Try.prog 48 #[.agg #[.string a, a1, a2], .agg #[.string b, b1, b2]] w fun e w' => e = .returned (.int .i64 (cmpB a b)) ∧ Below w.heap.size w w' := by
  go_enter Try.func48, Try.ntmps48
  go_wp2_with (go_at_call 64; refine (cmpS_any _ _ _).mono ?_; rintro e w1 ⟨rfl, rfl⟩)
  go_ret
  exact ⟨rfl, ((Below.refl _ _).alloc (Nat.le_refl _) _).alloc (by simp) _⟩

set_option maxRecDepth 100000 in
set_option maxHeartbeats 4000000 in
theorem batOk_any (S : Nat → Prop) (x : DShareBatch) (nm : ByteArray) (en : x.1 = nm) (o1 o2 : Option Addr) (n1 k1 n2 k2 : Nat) (nb : Nat) (v0 v1 : Value) (T : List ByteArray) (w : World) (hK : CapZ S w nb v0 v1 T) (hz : nm.size ≤ maxLen) (h1 : AtL S w x.2.1 (.slice o1 n1 k1)) (h2 : AtL S w x.2.2 (.slice o2 n2 k2)) :
    Calls Try.prog 49 #[.agg #[.string nm, .slice o1 n1 k1, .slice o2 n2 k2], .pointer (some ⟨nb, 0, none⟩)] w fun e w' => e = .returned (.bool (baI T x)) ∧ Below w.heap.size w w' := by
  have hS := hK.sub
  have H1 : Hid (∀ w', Below w.heap.size w w' → AtL S w' x.2.1 (.slice o1 n1 k1)) := fun w' h => h1.same (Same.of_below h hS)
  have H2 : Hid (∀ w', Below w.heap.size w w' → AtL S w' x.2.2 (.slice o2 n2 k2)) := fun w' h => h2.same (Same.of_below h hS)
  have HK : Hid (CapZ S w nb v0 v1 T) := hK
  have EB : Hid (baI T x = (nameB nm && (subB T x.2.2 && subB x.2.2 x.2.1))) := by show _ = _; rw [← en]; rfl
  clear hK h1 h2
  cases c0 : nameB nm
  · go_enter Try.func49, Try.ntmps49
    go_wp2_with fail
    refine (nameI_any _ _ hz).mono ?_
    rintro e w1 ⟨rfl, hb1⟩
    rw [c0]
    have hbel1 : Hid (Below (w.heap.size + 1) (w.alloc (.cells #[.string nm, .slice o1 n1 k1, .slice o2 n2 k2] 46)) w1) := by simpa [Hid] using hb1
    have y10 := box_at _ _ hbel1.out 0 (.string nm) rfl
    have y11 := box_at _ _ hbel1.out 1 (.slice o1 n1 k1) rfl
    have y12 := box_at _ _ hbel1.out 2 (.slice o2 n2 k2) rfl
    clear hb1
    go_wp2_with fail
    go_ret
    exact ⟨(by rw [EB.out, c0]; rfl), below_end hbel1.out⟩
  · cases c1 : subB T x.2.2
    · go_enter Try.func49, Try.ntmps49
      go_wp2_with fail
      refine (nameI_any _ _ hz).mono ?_
      rintro e w1 ⟨rfl, hb1⟩
      rw [c0]
      have hbel1 : Hid (Below (w.heap.size + 1) (w.alloc (.cells #[.string nm, .slice o1 n1 k1, .slice o2 n2 k2] 46)) w1) := by simpa [Hid] using hb1
      have y10 := box_at _ _ hbel1.out 0 (.string nm) rfl
      have y11 := box_at _ _ hbel1.out 1 (.slice o1 n1 k1) rfl
      have y12 := box_at _ _ hbel1.out 2 (.slice o2 n2 k2) rfl
      clear hb1
      have B1 := below_end hbel1.out
      have K1 := HK.out.below B1 (Nat.le_refl _)
      have p10 := K1.c0
      have p11 := K1.c1
      go_wp2_with fail
      refine (isOf_any S S _ _ x.2.2 T _ (H2.out _ B1) K1.th K1.sub K1.sub).mono ?_
      rintro e w2 ⟨rfl, hb2⟩
      rw [c1]
      have hbel2 : Hid (Below (w.heap.size + 1) (w.alloc (.cells #[.string nm, .slice o1 n1 k1, .slice o2 n2 k2] 46)) w2) := below_of hbel1.out hb2
      have y20 := box_at _ _ hbel2.out 0 (.string nm) rfl
      have y21 := box_at _ _ hbel2.out 1 (.slice o1 n1 k1) rfl
      have y22 := box_at _ _ hbel2.out 2 (.slice o2 n2 k2) rfl
      clear hb2
      go_wp2_with fail
      go_ret
      exact ⟨(by rw [EB.out, c0, c1]; rfl), below_end hbel2.out⟩
    · go_enter Try.func49, Try.ntmps49
      go_wp2_with fail
      refine (nameI_any _ _ hz).mono ?_
      rintro e w1 ⟨rfl, hb1⟩
      rw [c0]
      have hbel1 : Hid (Below (w.heap.size + 1) (w.alloc (.cells #[.string nm, .slice o1 n1 k1, .slice o2 n2 k2] 46)) w1) := by simpa [Hid] using hb1
      have y10 := box_at _ _ hbel1.out 0 (.string nm) rfl
      have y11 := box_at _ _ hbel1.out 1 (.slice o1 n1 k1) rfl
      have y12 := box_at _ _ hbel1.out 2 (.slice o2 n2 k2) rfl
      clear hb1
      have B1 := below_end hbel1.out
      have K1 := HK.out.below B1 (Nat.le_refl _)
      have p10 := K1.c0
      have p11 := K1.c1
      go_wp2_with fail
      refine (isOf_any S S _ _ x.2.2 T _ (H2.out _ B1) K1.th K1.sub K1.sub).mono ?_
      rintro e w2 ⟨rfl, hb2⟩
      rw [c1]
      have hbel2 : Hid (Below (w.heap.size + 1) (w.alloc (.cells #[.string nm, .slice o1 n1 k1, .slice o2 n2 k2] 46)) w2) := below_of hbel1.out hb2
      have y20 := box_at _ _ hbel2.out 0 (.string nm) rfl
      have y21 := box_at _ _ hbel2.out 1 (.slice o1 n1 k1) rfl
      have y22 := box_at _ _ hbel2.out 2 (.slice o2 n2 k2) rfl
      clear hb2
      have B2 := below_end hbel2.out
      have K2 := HK.out.below B2 (Nat.le_refl _)
      have p20 := K2.c0
      have p21 := K2.c1
      go_wp2_with fail
      refine (isOf_any S S _ _ x.2.1 x.2.2 _ (H1.out _ B2) (H2.out _ B2) K2.sub K2.sub).mono ?_
      rintro e w3 ⟨rfl, hb3⟩
      have hbel3 : Hid (Below (w.heap.size + 1) (w.alloc (.cells #[.string nm, .slice o1 n1 k1, .slice o2 n2 k2] 46)) w3) := below_of hbel2.out hb3
      have y30 := box_at _ _ hbel3.out 0 (.string nm) rfl
      have y31 := box_at _ _ hbel3.out 1 (.slice o1 n1 k1) rfl
      have y32 := box_at _ _ hbel3.out 2 (.slice o2 n2 k2) rfl
      clear hb3
      go_wp2_with fail
      go_ret
      exact ⟨(by rw [EB.out, c0, c1]; rfl), below_end hbel3.out⟩
open Go.Sort in
theorem cmpShareBatch_q (a b : ByteArray) (a1 b1 a2 b2 : Value) (wr : World) (r : Int) (hr : cmpB a b = r) (d : Nat) (os : Array Obj) : Calls Try.prog 48 #[.agg #[.string a, a1, a2], .agg #[.string b, b1, b2]] (grow (redrawn wr d) os) fun e w'' => e = .returned (.int .i64 r) ∧ ∃ p : Regrown, w'' = grow (redrawn wr p.d) p.os :=
  Calls.regrown_of (by subst hr; exact cmpShareBatches_any a b a1 b1 a2 b2 _)

set_option maxRecDepth 100000 in
set_option maxHeartbeats 4000000 in
theorem ascShareBatch_any (S : Nat → Prop) (v : Value) (l : List DShareBatch) (w : World) (h : AtL S w l v) (hS : ∀ b, S b → b < w.heap.size) :
    Calls Try.prog 65 #[v, .func (.func 48) #[] #[]] w fun e w' => e = .returned (.bool (ascB (fun p f : DShareBatch => ltB p.1 f.1) l)) ∧ Below w.heap.size w w' := by
  obtain ⟨oa, cap, rfl, hn, hc⟩ := h
  obtain ⟨n, en⟩ : ∃ n, l.length = n := ⟨_, rfl⟩
  rw [en] at hn
  rw [en]
  unfold maxLen at hn
  have HC : Hid _ := hc
  clear hc
  go_enter Try.func65, Try.ntmps65
  go_wp2
  go_loopw [5] (fun i wr => ∃ k : Nat, i = .int .i64 ((k : Int) + 1) ∧ (k + 1 ≤ n ∨ k = 0) ∧ Hid (∀ j (hj : j < l.length), j < k + 1 → asO (fun p f : DShareBatch => ltB p.1 f.1) (prevO l j) l[j] = true) ∧ Hid (Below w.heap.size w wr)) (fun i _ => n - (intOf i).toNat)
  case atStart => exact ⟨0, rfl, Or.inr rfl, fun j hj h => as_zero j hj (by omega), Below.refl _ _⟩
  case round =>
    obtain ⟨k, rfl, hk, hall, hbel⟩ := hrel
    have hs := hbel.out.size
    by_cases hlt : k + 1 < n
    · clear hk
      obtain ⟨b, off, rfl, hbS, ce, hcelle, hate⟩ := HC.out (k + 1) (by omega)
      obtain ⟨b', off', e', hbS', ca, hcella, hata⟩ := HC.out k (by omega)
      cases e'
      have hbb := hS b hbS
      have hbw := hbel.out
      rw [width_DShareBatch] at hcella
      have a0 : wr.cell? ⟨b, off + k * 3, none⟩ = some (ca 0) := (hbw.cell (p := ⟨b, off + k * 3, none⟩) (by show b < _; omega)).trans (by simpa using hcella 0 (by omega))
      have a1 : wr.cell? ⟨b, off + k * 3 + 1, none⟩ = some (ca 1) := (hbw.cell (p := ⟨b, off + k * 3 + 1, none⟩) (by show b < _; omega)).trans (by simpa using hcella 1 (by omega))
      have a2 : wr.cell? ⟨b, off + k * 3 + 2, none⟩ = some (ca 2) := (hbw.cell (p := ⟨b, off + k * 3 + 2, none⟩) (by show b < _; omega)).trans (by simpa using hcella 2 (by omega))
      clear hcella
      have hata := Lay.same hata (Same.of_below hbw hS)
      rw [at_DShareBatch] at hata
      obtain ⟨af, eaf⟩ : ∃ f, l[k]'(by omega) = f := ⟨_, rfl⟩
      rw [eaf] at hata
      obtain ⟨⟨ta0, za0⟩, la1, la2⟩ := hata
      obtain ⟨soa1, sca1, ta1, _⟩ := id la1
      rw [ta1] at la1
      have Ka1 : Hid _ := la1
      clear la1
      obtain ⟨soa2, sca2, ta2, _⟩ := id la2
      rw [ta2] at la2
      have Ka2 : Hid _ := la2
      clear la2
      rw [ta0] at a0
      rw [ta1] at a1
      rw [ta2] at a2
      clear ta0 ta1 ta2
      rw [width_DShareBatch] at hcelle
      have e0 : wr.cell? ⟨b, off + (k + 1) * 3, none⟩ = some (ce 0) := (hbw.cell (p := ⟨b, off + (k + 1) * 3, none⟩) (by show b < _; omega)).trans (by simpa using hcelle 0 (by omega))
      have e1 : wr.cell? ⟨b, off + (k + 1) * 3 + 1, none⟩ = some (ce 1) := (hbw.cell (p := ⟨b, off + (k + 1) * 3 + 1, none⟩) (by show b < _; omega)).trans (by simpa using hcelle 1 (by omega))
      have e2 : wr.cell? ⟨b, off + (k + 1) * 3 + 2, none⟩ = some (ce 2) := (hbw.cell (p := ⟨b, off + (k + 1) * 3 + 2, none⟩) (by show b < _; omega)).trans (by simpa using hcelle 2 (by omega))
      clear hcelle
      have hate := Lay.same hate (Same.of_below hbw hS)
      rw [at_DShareBatch] at hate
      obtain ⟨ef, eef⟩ : ∃ f, l[k + 1]'(by omega) = f := ⟨_, rfl⟩
      rw [eef] at hate
      obtain ⟨⟨te0, ze0⟩, le1, le2⟩ := hate
      obtain ⟨soe1, sce1, te1, _⟩ := id le1
      rw [te1] at le1
      have Ke1 : Hid _ := le1
      clear le1
      obtain ⟨soe2, sce2, te2, _⟩ := id le2
      rw [te2] at le2
      have Ke2 : Hid _ := le2
      clear le2
      rw [te0] at e0
      rw [te1] at e1
      rw [te2] at e2
      clear te0 te1 te2
      clear hbw
      have qa0 := fun d os => cell_regrown a0 d os
      have qa1 := fun d os => cell_regrown a1 d os
      have qa2 := fun d os => cell_regrown a2 d os
      have qe0 := fun d os => cell_regrown e0 d os
      have qe1 := fun d os => cell_regrown e1 d os
      have qe2 := fun d os => cell_regrown e2 d os
      have hrl : asO (fun p f : DShareBatch => ltB p.1 f.1) (prevO l (k + 1)) (l[k + 1]'(by omega)) = ltB af.1 ef.1 := by
        rw [prev_succ l k (by omega), eaf, eef]; rfl
      have hge : decide (0 ≤ cmpB af.1 ef.1) = !ltB af.1 ef.1 := cmpB_ge _ _
      cases hlb : ltB af.1 ef.1
      · rw [hlb] at hrl
        rw [hlb, Bool.not_false] at hge
        go_wp2
        refine wp_region_quiet_below (by kernel_rfl) (by kernel_rfl) ?_
        repeat (first | go_big_quiet_step (with_reducible exact cmpShareBatch_q _ _ _ _ _ _ _ _ rfl _ _) | quiet_step (with_reducible exact cmpShareBatch_q _ _ _ _ _ _ _ _ rfl _ _))
        refine wpQuiet_nil ?_
        intro _ hw'
        obtain ⟨⟨dq, osq⟩, hw''⟩ := hw'
        subst hw''
        go_wp2
        rw [show ascB (fun p f : DShareBatch => ltB p.1 f.1) l = false from ok_no (k := k + 1) (by omega) hrl]
        go_ret
        exact ⟨rfl, hbel.out.trans ((below_regrown _ dq osq).mono hs)⟩
      · rw [hlb] at hrl
        rw [hlb, Bool.not_true] at hge
        go_wp2
        refine wp_region_quiet_below (by kernel_rfl) (by kernel_rfl) ?_
        repeat (first | go_big_quiet_step (with_reducible exact cmpShareBatch_q _ _ _ _ _ _ _ _ rfl _ _) | quiet_step (with_reducible exact cmpShareBatch_q _ _ _ _ _ _ _ _ rfl _ _))
        refine wpQuiet_nil ?_
        intro _ hw'
        obtain ⟨⟨dq, osq⟩, hw''⟩ := hw'
        subst hw''
        go_wp2
        go_roundw
        case rel => exact ⟨k + 1, by go_num, Or.inl (by omega), fun j hj hjk => by
          by_cases e : j = k + 1
          · subst e; exact hrl
          · exact hall.out j hj (by omega), hbel.out.trans ((below_regrown _ dq osq).mono hs)⟩
        case measure => simp [intOf]; omega
    · go_wp2
      rw [show ascB (fun p f : DShareBatch => ltB p.1 f.1) l = true from ok_yes (Nat.le_refl _) (fun j hj => hall.out j hj (by omega))]
      go_ret
      exact ⟨rfl, hbel.out⟩


set_option maxRecDepth 100000 in
set_option maxHeartbeats 4000000 in
theorem listShareBatch_any (S : Nat → Prop) (nb : Nat) (v0 v1 : Value) (T : List ByteArray) (v : Value) (l : List DShareBatch) (lim : Nat) (w : World) (h : AtL S w l v) (hS : ∀ b, S b → b < w.heap.size) (hK : CapZ S w nb v0 v1 T) :
    Calls Try.prog 47 #[v, .int .i64 lim, .func (.func 48) #[] #[], .func (.func 49) #[] #[.pointer (some ⟨nb, 0, none⟩)]] w fun e w' => e = .returned (.bool (okB lim (tst (fun f : DShareBatch => baI T f) (fun p f : DShareBatch => ltB p.1 f.1)) l)) ∧ Below w.heap.size w w' := by
  have H : Hid (AtL S w l v) := h
  obtain ⟨oa, cap, hv, hn, hc⟩ := h
  rw [hv] at H
  subst hv
  obtain ⟨n, en⟩ : ∃ n, l.length = n := ⟨_, rfl⟩
  rw [en] at hn H
  rw [en]
  unfold maxLen at hn
  have HC : Hid _ := hc
  clear hc
  have HK : Hid (CapZ S w nb v0 v1 T) := hK
  clear hK
  by_cases hl : n ≤ lim
  · have dl : decide (lim < n) = false := by simp; omega
    go_enter Try.func47, Try.ntmps47
    go_wp2
    go_loopw [17] (fun i wr => ∃ k : Nat, k ≤ n ∧ i = .int .i64 k ∧ Hid (∀ j (hj : j < l.length), j < k → (fun f : DShareBatch => baI T f) l[j] = true) ∧ Hid (Below w.heap.size w wr)) (fun i _ => n - (intOf i).toNat)
    case atStart => exact ⟨0, Nat.zero_le _, rfl, fun _ _ h => by omega, Below.refl _ _⟩
    case round =>
      obtain ⟨k, hk, rfl, hall, hbel⟩ := hrel
      have hs := hbel.out.size
      have hSr : ∀ b, S b → b < wr.heap.size := fun b hb => by have := hS b hb; omega
      by_cases hlt : k < n
      · obtain ⟨b, off, rfl, hbS, ce, hcelle, hate⟩ := HC.out k (by omega)
        have hbb := hS b hbS
        have hbw := hbel.out
        rw [width_DShareBatch] at hcelle
        have e0 : wr.cell? ⟨b, off + k * 3, none⟩ = some (ce 0) := (hbw.cell (p := ⟨b, off + k * 3, none⟩) (by show b < _; omega)).trans (by simpa using hcelle 0 (by omega))
        have e1 : wr.cell? ⟨b, off + k * 3 + 1, none⟩ = some (ce 1) := (hbw.cell (p := ⟨b, off + k * 3 + 1, none⟩) (by show b < _; omega)).trans (by simpa using hcelle 1 (by omega))
        have e2 : wr.cell? ⟨b, off + k * 3 + 2, none⟩ = some (ce 2) := (hbw.cell (p := ⟨b, off + k * 3 + 2, none⟩) (by show b < _; omega)).trans (by simpa using hcelle 2 (by omega))
        clear hcelle
        have hate := Lay.same hate (Same.of_below hbw hS)
        rw [at_DShareBatch] at hate
        obtain ⟨ef, eef⟩ : ∃ f, l[k]'(by omega) = f := ⟨_, rfl⟩
        rw [eef] at hate
        obtain ⟨⟨te0, ze0⟩, le1, le2⟩ := hate
        obtain ⟨soe1, sce1, te1, _⟩ := id le1
        rw [te1] at le1
        have Ke1 : Hid _ := le1
        clear le1
        obtain ⟨soe2, sce2, te2, _⟩ := id le2
        rw [te2] at le2
        have Ke2 : Hid _ := le2
        clear le2
        rw [te0] at e0
        rw [te1] at e1
        rw [te2] at e2
        clear te0 te1 te2
        clear hbw
        have hB1 : Hid (Below w.heap.size w (wr.alloc (.cells #[.string ef.1, .slice soe1 ef.2.1.length sce1, .slice soe2 ef.2.2.length sce2] 46))) := hbel.out.alloc hs _
        have KA : Hid (CapZ S (wr.alloc (.cells #[.string ef.1, .slice soe1 ef.2.1.length sce1, .slice soe2 ef.2.2.length sce2] 46)) nb v0 v1 T) := HK.out.below hB1.out (Nat.le_refl _)
        have hP : (fun f : DShareBatch => baI T f) (l[k]'(by omega)) = (baI T ef) := by rw [eef]
        cases hy : (baI T ef)
        · rw [hy] at hP
          go_wp2_with fail
          refine Calls.mono (batOk_any S ef _ rfl _ _ _ _ _ _ nb v0 v1 T _ KA.out ze0 (AtL.same Ke1.out (Same.of_below ((Below.refl _ _).alloc (Nat.le_refl _) _) hSr)) (AtL.same Ke2.out (Same.of_below ((Below.refl _ _).alloc (Nat.le_refl _) _) hSr))) ?_
          rintro e w1 ⟨rfl, hb1⟩
          rw [hy]
          go_wp2_with fail
          rw [tst_no (k := k) (by omega) hP]
          go_ret
          exact ⟨rfl, hB1.out.trans (hb1.mono hB1.out.size)⟩
        · rw [hy] at hP
          go_wp2_with fail
          refine Calls.mono (batOk_any S ef _ rfl _ _ _ _ _ _ nb v0 v1 T _ KA.out ze0 (AtL.same Ke1.out (Same.of_below ((Below.refl _ _).alloc (Nat.le_refl _) _) hSr)) (AtL.same Ke2.out (Same.of_below ((Below.refl _ _).alloc (Nat.le_refl _) _) hSr))) ?_
          rintro e w1 ⟨rfl, hb1⟩
          rw [hy]
          go_wp2_with fail
          go_roundw
          case rel => exact ⟨k + 1, by omega, by go_num, fun j hj hjk => by
            by_cases e : j = k
            · subst e; exact hP
            · exact hall.out j hj (by omega), hB1.out.trans (hb1.mono hB1.out.size)⟩
          case measure => simp [intOf]; omega
      · go_wp2_with (go_at_call 65; refine (ascShareBatch_any S _ l _ (H.out.same (Same.of_below hbel.out hS)) hSr).mono ?_; rintro e w1 ⟨rfl, hb1⟩)
        rw [tst_asc (by omega) (fun j hj => hall.out j hj (by omega))]
        go_ret
        exact ⟨rfl, hbel.out.trans (hb1.mono hs)⟩
  · have dl : decide (lim < n) = true := by simp; omega
    rw [ok_long (by omega)]
    go_enter Try.func47, Try.ntmps47
    go_wp2
    go_ret
    exact ⟨rfl, Below.refl _ _⟩


set_option maxRecDepth 100000 in
set_option maxHeartbeats 4000000 in
theorem batches_any (S : Nat → Prop) (v0 v1 : Value) (T : List ByteArray) (Bs : List DShareBatch) (w : World) (h0 : AtL S w T v0) (h1 : AtL S w Bs v1) (hS : ∀ b, S b → b < w.heap.size) :
    Calls Try.prog 23 #[.agg #[v0, v1]] w fun e w' => e = .returned (.bool (okB 5 (tst (fun f : DShareBatch => baI T f) (fun p f : DShareBatch => ltB p.1 f.1)) Bs)) ∧ Below w.heap.size w w' := by
  have hmf : ∀ (fn : Fn) (first cap : Array Value) (w : World), (Instr.makeFunc fn first cap).run Try.prog w = .ok (.func fn first cap) w := fun _ _ _ _ => rfl
  have HB : Hid (Below w.heap.size w (w.alloc (.cells #[v0, v1] 26))) := (Below.refl _ _).alloc (Nat.le_refl _) _
  have HS : ∀ b, S b → b < (w.alloc (.cells #[v0, v1] 26)).heap.size := fun b hb => Nat.lt_of_lt_of_le (hS b hb) HB.out.size
  have HK : Hid (CapZ S (w.alloc (.cells #[v0, v1] 26)) w.heap.size v0 v1 T) := ⟨by simp, box_at _ _ (Below.refl _ _) 0 v0 rfl, box_at _ _ (Below.refl _ _) 1 v1 rfl, h0.same (Same.of_below HB.out hS), HS⟩
  have H1 : Hid (AtL S (w.alloc (.cells #[v0, v1] 26)) Bs v1) := h1.same (Same.of_below HB.out hS)
  clear h0 h1
  go_enter Try.func23, Try.ntmps23
  go_wp2_with fail
  refine Calls.mono (listShareBatch_any S w.heap.size v0 v1 T v1 Bs 5 _ H1.out HS HK.out) ?_
  rintro e w1 ⟨rfl, hb1⟩
  go_wp2_with fail
  go_ret
  exact ⟨rfl, HB.out.trans (hb1.mono HB.out.size)⟩

end Go.Proofs.Ythgnhjkkfhfgmab

/-
  The program's ShareBookOk, whole: it answers as the model does.
-/
namespace Go.Proofs.Ythgnhjkkfhfgmab
open Go.RowKit

theorem prev_map_bat {T : List ByteArray} (o : Option DShareBatch) (x : DShareBatch) : batB T o x = tst (fun f : DShareBatch => baI T f) (fun p f : DShareBatch => ltB p.1 f.1) o x := by
  unfold batB tst baI
  simp only
  cases nameB x.1 <;> cases asO (fun a b : DShareBatch => ltB a.1 b.1) o x <;> cases subB T x.2.2 <;> cases subB x.2.2 x.2.1 <;> rfl
theorem bok_parts (T : List ByteArray) (Bs : List DShareBatch) : BokP (T, Bs) ↔ okB 8 (tst nameB ltB) T = true ∧ okB 5 (tst (fun f : DShareBatch => baI T f) (fun p f : DShareBatch => ltB p.1 f.1)) Bs = true ∧ Apart Bs := by
  constructor
  · intro h
    refine ⟨h.things, ?_, fun i hi k hk => (h.row i hi).sha k hk⟩
    rw [ok_iff]
    exact ⟨h.len, fun i hi => by have := (h.row i hi).bat; rw [prev_map_bat] at this; exact this⟩
  · rintro ⟨h1, h2, h3⟩
    rw [ok_iff] at h2
    exact ⟨h1, h2.1, fun i hi => ⟨by rw [prev_map_bat]; exact h2.2 i hi, fun k hk => h3 i hi k hk⟩⟩
theorem bat_nodup {T : List ByteArray} {Bs : List DShareBatch} (h : okB 5 (tst (fun f : DShareBatch => baI T f) (fun p f : DShareBatch => ltB p.1 f.1)) Bs = true) : ∀ x ∈ Bs, x.2.1.Nodup := fun x hx => by
  rw [ok_iff] at h
  obtain ⟨i, hi, rfl⟩ := List.getElem_of_mem hx
  have := h.2 i hi
  rw [tst, Bool.and_eq_true, baI, Bool.and_eq_true, Bool.and_eq_true] at this
  exact (sub_parts this.1.2.2).1

set_option maxRecDepth 100000 in
set_option maxHeartbeats 8000000 in
theorem bookP_any (S : Nat → Prop) (T : List ByteArray) (Bs : List DShareBatch) (o0 oa : Option Addr) (n0 k0 nb kb : Nat) (w : World) (h0 : AtL S w T (.slice o0 n0 k0)) (h1 : AtL S w Bs (.slice oa nb kb)) (hS : ∀ b, S b → b < w.heap.size) :
    Calls Try.prog 9 #[.agg #[.slice o0 n0 k0, .slice oa nb kb]] w fun e w' => e = .returned (.bool (bokB (T, Bs))) ∧ Below w.heap.size w w' := by
  have H0 : Hid (∀ u, Below w.heap.size w u → AtL S u T (.slice o0 n0 k0)) := fun u hu => h0.same (Same.of_below hu hS)
  have H1 : Hid (∀ u, Below w.heap.size w u → AtL S u Bs (.slice oa nb kb)) := fun u hu => h1.same (Same.of_below hu hS)
  have HS : Hid (∀ u, Below w.heap.size w u → ∀ b, S b → b < u.heap.size) := fun u hu b hb => Nat.lt_of_lt_of_le (hS b hb) hu.size
  clear h0 h1
  obtain ⟨W, hW⟩ : ∃ W, W = w.alloc (.cells #[.slice o0 n0 k0, .slice oa nb kb] 26) := ⟨_, rfl⟩
  have EW : Hid (W = w.alloc (.cells #[.slice o0 n0 k0, .slice oa nb kb] 26)) := hW
  have BW : Hid (Below w.heap.size w W) := by rw [hW]; exact (Below.refl _ _).alloc (Nat.le_refl _) _
  have RW : Hid (W.heap[w.heap.size]? = some (.cells #[.slice o0 n0 k0, .slice oa nb kb] 26 (0, 0))) := by rw [hW]; exact heap_alloc_new w _
  have sW : w.heap.size + 1 ≤ W.heap.size := by rw [hW]; simp
  clear hW
  have BOX : Hid (∀ u, Below W.heap.size W u → u.heap[w.heap.size]? = some (.cells #[.slice o0 n0 k0, .slice oa nb kb] 26 (0, 0)) ∧ Below w.heap.size w u) := fun u hu => ⟨(hu.block _ (by omega)).trans RW.out, BW.out.trans (hu.mono (by omega))⟩
  have y0 := (cell_row (BOX.out W (Below.refl _ _)).1 0 (.slice o0 n0 k0) rfl).1
  have y1 := (cell_row (BOX.out W (Below.refl _ _)).1 1 (.slice oa nb kb) rfl).1
  go_enter Try.func9, Try.ntmps9
  go_upto_region 1 with fail
  rw [← EW.out]
  go_wp2_with fail
  refine (isOkN_any S _ T 8 W (H0.out W BW.out) (HS.out W BW.out)).mono ?_; rintro e u1 ⟨rfl, hb1⟩
  have B1 : Hid (Below W.heap.size W u1) := hb1
  clear hb1 y0 y1
  cases hT : okB 8 (tst (fun f : ByteArray => nameB f) (fun p f : ByteArray => ltB p f)) T
  · go_wp2_with fail
    go_ret
    rw [bok_no (fun h => by have := ((bok_parts T Bs).1 h).1; rw [show okB 8 (tst nameB ltB) T = false from hT] at this; cases this)]
    exact ⟨rfl, (BOX.out u1 B1.out).2⟩
  have y0 := (cell_row (BOX.out u1 B1.out).1 0 (.slice o0 n0 k0) rfl).1
  have y1 := (cell_row (BOX.out u1 B1.out).1 1 (.slice oa nb kb) rfl).1
  go_wp2_with fail
  refine (batches_any S _ _ T Bs u1 (H0.out u1 (BOX.out u1 B1.out).2) (H1.out u1 (BOX.out u1 B1.out).2) (HS.out u1 (BOX.out u1 B1.out).2)).mono ?_; rintro e u2 ⟨rfl, hb2⟩
  have B2 : Hid (Below W.heap.size W u2) := B1.out.trans (hb2.mono B1.out.size)
  clear hb2 y0 y1
  cases hB : okB 5 (tst (fun f : DShareBatch => baI T f) (fun p f : DShareBatch => ltB p.1 f.1)) Bs
  · go_wp2_with fail
    go_ret
    rw [bok_no (fun h => by have := ((bok_parts T Bs).1 h).2.1; rw [hB] at this; cases this)]
    exact ⟨rfl, (BOX.out u2 B2.out).2⟩
  have y0 := (cell_row (BOX.out u2 B2.out).1 0 (.slice o0 n0 k0) rfl).1
  have y1 := (cell_row (BOX.out u2 B2.out).1 1 (.slice oa nb kb) rfl).1
  go_wp2_with fail
  refine (who_any S Bs _ _ u2 (H1.out u2 (BOX.out u2 B2.out).2) (HS.out u2 (BOX.out u2 B2.out).2) (bat_nodup hB)).mono ?_; rintro e u3 ⟨hw3, hb3⟩
  have B3 : Hid (Below W.heap.size W u3) := B2.out.trans (hb3.mono B2.out.size)
  clear hb3 y0 y1
  rcases hw3 with ⟨rfl, hA⟩ | ⟨m, M, rfl, _, hM⟩
  · have EB : Hid (bokB (T, Bs) = false) := bok_no (fun h => hA ((bok_parts T Bs).1 h).2.2)
    clear hA
    go_wp2_with fail
    go_ret
    rw [EB.out]
    exact ⟨rfl, (BOX.out u3 B3.out).2⟩
  · have EB : Hid (bokB (T, Bs) = true) := bok_yes ((bok_parts T Bs).2 ⟨hT, hB, hM.apart⟩)
    clear hM
    go_wp2_with fail
    go_ret
    rw [EB.out]
    exact ⟨rfl, (BOX.out u3 B3.out).2⟩

end Go.Proofs.Ythgnhjkkfhfgmab

/-
  Plain: some things of a book as the bits of a word; who is gone, and what is free.
-/
namespace Go.Proofs.Ythgnhjkkfhfgmab
open Go.RowKit

/-- The word of the things of a list that pass. -/
def msk : List ByteArray → (ByteArray → Bool) → Nat
  | [], _ => 0
  | y :: T, P => (if P y then 1 else 0) + 2 * msk T P
theorem msk_lt : ∀ (T : List ByteArray) (P : ByteArray → Bool), msk T P < 2 ^ T.length
  | [], _ => by simp [msk]
  | y :: T, P => by
    have := msk_lt T P
    rw [msk, List.length_cons, Nat.pow_succ]
    split <;> omega
theorem msk_congr : ∀ {T : List ByteArray} {P Q : ByteArray → Bool}, (∀ y ∈ T, P y = Q y) → msk T P = msk T Q
  | [], _, _, _ => rfl
  | y :: T, P, Q, h => by
    rw [msk, msk, h y (by simp), msk_congr (fun z hz => h z (by simp [hz]))]
theorem msk_or : ∀ {T : List ByteArray} {P Q : ByteArray → Bool}, (∀ y ∈ T, ¬ (P y = true ∧ Q y = true)) → msk T P + msk T Q = msk T (fun y => P y || Q y)
  | [], _, _, _ => rfl
  | y :: T, P, Q, h => by
    have ih := msk_or (T := T) (P := P) (Q := Q) (fun z hz => h z (by simp [hz]))
    have h0 := h y (by simp)
    rw [msk, msk, msk, ← ih]
    cases hp : P y <;> cases hq : Q y
    · simp; omega
    · simp; omega
    · simp; omega
    · exact absurd ⟨hp, hq⟩ h0
theorem msk_none {T : List ByteArray} {P : ByteArray → Bool} (h : ∀ y ∈ T, P y = false) : msk T P = 0 := by
  induction T with
  | nil => rfl
  | cons y T ih => rw [msk, h y (by simp), ih (fun z hz => h z (by simp [hz]))]; rfl
theorem msk_bit : ∀ {T : List ByteArray} (_ : T.Nodup) {t : Nat} (ht : t < T.length), msk T (fun y => eqB T[t] y) = 2 ^ t
  | [], _, t, ht => absurd ht (Nat.not_lt_zero _)
  | y :: T, nd, 0, _ => by
    obtain ⟨h1, _⟩ := List.nodup_cons.1 nd
    rw [msk, msk_none (fun z hz => ?_)]
    · simp [eqB_refl]
    · cases e : eqB (y :: T)[0] z
      · rfl
      · rw [eqB_iff] at e; exact absurd (show y ∈ T from (show y = z from e) ▸ hz) h1
  | y :: T, nd, t + 1, ht => by
    obtain ⟨h1, h2⟩ := List.nodup_cons.1 nd
    have ht' : t < T.length := by simpa using ht
    have ih := msk_bit h2 ht'
    have e0 : eqB (y :: T)[t + 1] y = false := by
      cases e : eqB (y :: T)[t + 1] y
      · rfl
      · rw [eqB_iff] at e; exact absurd (show y ∈ T from (show T[t] = y from e) ▸ List.getElem_mem ht') h1
    rw [msk, e0]
    have : msk T (fun y_1 => eqB (y :: T)[t + 1] y_1) = 2 ^ t := ih
    rw [this, Nat.pow_succ]
    simp; omega
theorem msk_test : ∀ (T : List ByteArray) (P : ByteArray → Bool) (i : Nat), (msk T P).testBit i = ((T[i]?).map P).getD false
  | [], P, i => by simp [msk]
  | y :: T, P, 0 => by
    rw [msk, Nat.testBit_zero]
    cases hp : P y <;> simp [hp]
  | y :: T, P, i + 1 => by
    rw [msk, Nat.testBit_succ]
    have : ((if P y = true then 1 else 0) + 2 * msk T P) / 2 = msk T P := by split <;> omega
    rw [this, msk_test T P i]
    simp
/-- Is a word within another? -/
theorem msk_clear {T : List ByteArray} (hT : T.length ≤ 8) (P Q : ByteArray → Bool) : (msk T P &&& (4294967295 - msk T Q) = 0) ↔ ∀ y ∈ T, P y = true → Q y = true := by
  have hq : msk T Q < 2 ^ 32 := Nat.lt_of_lt_of_le (msk_lt T Q) (Nat.pow_le_pow_right (by omega) (by omega))
  have e : 4294967295 - msk T Q = 2 ^ 32 - (msk T Q + 1) := by omega
  rw [e]
  constructor
  · intro h y hy hP
    obtain ⟨i, hi, rfl⟩ := List.getElem_of_mem hy
    have := congrArg (fun n => n.testBit i) h
    simp only [Nat.testBit_and, Nat.testBit_two_pow_sub_succ hq, msk_test, Nat.zero_testBit, List.getElem?_eq_getElem hi, Option.map_some, Option.getD_some, hP, Bool.true_and] at this
    have hi8 : i < 32 := by omega
    simpa [hi8] using this
  · intro h
    apply Nat.eq_of_testBit_eq
    intro i
    rw [Nat.testBit_and, Nat.testBit_two_pow_sub_succ hq, msk_test, msk_test, Nat.zero_testBit]
    by_cases hi : i < T.length
    · rw [List.getElem?_eq_getElem hi]
      simp only [Option.map_some, Option.getD_some]
      cases hP : P T[i]
      · rfl
      · rw [h _ (List.getElem_mem hi) hP]; simp
    · rw [List.getElem?_eq_none (by omega)]; rfl

/-- The word of a list of things. -/
def hasM (T l : List ByteArray) : Nat := msk T (fun y => hasB l y)
theorem hasM_lt {T : List ByteArray} (hT : T.length ≤ 8) (l : List ByteArray) : hasM T l < 256 :=
  Nat.lt_of_lt_of_le (msk_lt T _) (show 2 ^ T.length ≤ 2 ^ 8 from Nat.pow_le_pow_right (by omega) hT)
theorem hasM_nil (T : List ByteArray) : hasM T [] = 0 := msk_none (fun _ _ => rfl)
theorem hasB_snoc (l : List ByteArray) (x y : ByteArray) : hasB (l ++ [x]) y = (hasB l y || eqB x y) := by
  simp [hasB, List.any_append]
theorem hasM_snoc {T l : List ByteArray} (nd : T.Nodup) {t : Nat} (ht : t < T.length) (hn : T[t] ∉ l) : hasM T (l ++ [T[t]]) = hasM T l + 2 ^ t := by
  rw [← msk_bit nd ht, hasM, hasM, msk_or]
  · exact msk_congr (fun y _ => hasB_snoc l _ y)
  · rintro y _ ⟨h1, h2⟩
    rw [eqB_iff] at h2
    exact hn (h2 ▸ (hasB_iff l y).1 h1)

/-- Has nobody who is there a thing? -/
def freP (Bs : List DShareBatch) (gone : List ByteArray) (y : ByteArray) : Bool := Bs.all fun f => hasB gone f.1 || !(hasB f.2.1 y)
theorem fre_iff {Bs : List DShareBatch} {gone : List ByteArray} {y : ByteArray} : freP Bs gone y = true ↔ ∀ i (hi : i < Bs.length), hasB gone Bs[i].1 = false → y ∉ Bs[i].2.1 := by
  unfold freP
  rw [List.all_eq_true]
  constructor
  · intro h i hi hg hy
    have := h _ (List.getElem_mem hi)
    rw [hg, (hasB_iff _ _).2 hy] at this
    cases this
  · intro h f hf
    obtain ⟨i, hi, rfl⟩ := List.getElem_of_mem hf
    cases hg : hasB gone Bs[i].1
    · have := h i hi hg
      cases e : hasB Bs[i].2.1 y
      · rfl
      · exact absurd ((hasB_iff _ _).1 e) this
    · rfl
def freM (T : List ByteArray) (Bs : List DShareBatch) (gone : List ByteArray) : Nat := msk T (freP Bs gone)
theorem freM_lt {T : List ByteArray} (hT : T.length ≤ 8) (Bs : List DShareBatch) (gone : List ByteArray) : freM T Bs gone < 256 :=
  Nat.lt_of_lt_of_le (msk_lt T _) (show 2 ^ T.length ≤ 2 ^ 8 from Nat.pow_le_pow_right (by omega) hT)
/-- The sharers, when some are gone. -/
def lvL (T : List ByteArray) (Bs : List DShareBatch) (gone : List ByteArray) : List (Nat × Nat × Bool) := Bs.map fun f => (hasM T f.2.1, hasM T f.2.2, hasB gone f.1)
theorem lv_len (T : List ByteArray) (Bs : List DShareBatch) (gone : List ByteArray) : (lvL T Bs gone).length = Bs.length := by simp [lvL]
theorem lv_at (T : List ByteArray) {Bs : List DShareBatch} (gone : List ByteArray) {i : Nat} (hi : i < Bs.length) : (lvL T Bs gone)[i]'(by simp [lvL]; exact hi) = (hasM T Bs[i].2.1, hasM T Bs[i].2.2, hasB gone Bs[i].1) := by simp [lvL]

section
variable {T : List ByteArray} {Bs : List DShareBatch}
theorem bok_things (h : BokP (T, Bs)) : T.length ≤ 8 ∧ T.Nodup := by
  have h1 := h.things
  rw [ok_iff] at h1
  exact ⟨h1.1, asc_nodup fun i hi => by have := h1.2 i hi; rw [tst, Bool.and_eq_true] at this; exact this.2⟩
theorem bok_lists (h : BokP (T, Bs)) (i : Nat) (hi : i < Bs.length) : (Bs[i].2.1.Nodup ∧ ∀ x ∈ Bs[i].2.1, x ∈ T) ∧ (Bs[i].2.2.Nodup ∧ ∀ x ∈ Bs[i].2.2, x ∈ T) := by
  have := (h.row i hi).bat
  unfold batB at this
  simp only [Bool.and_eq_true] at this
  obtain ⟨n1, s1⟩ := sub_parts this.1.2
  obtain ⟨n2, s2⟩ := sub_parts this.2
  exact ⟨⟨n2, fun x hx => s1 x (s2 x hx)⟩, n1, s1⟩
theorem bok_names (h : BokP (T, Bs)) {i j : Nat} (hi : i < Bs.length) (hj : j < Bs.length) (e : Bs[i].1 = Bs[j].1) : i = j := by
  have asx : ∀ k (hk : k < Bs.length), asO (fun a b : DShareBatch => ltB a.1 b.1) (prevO Bs k) Bs[k] = true := fun k hk => by
    have := (h.row k hk).bat
    unfold batB at this
    simp only [Bool.and_eq_true] at this
    exact this.1.1.2
  have far := asc_far (R := fun a b : DShareBatch => ltB a.1 b.1) (fun h1 h2 => ltB_trans h1 h2) asx
  rcases Nat.lt_trichotomy i j with c | c | c
  · have := far j i hj c; rw [e, ltB_irrefl] at this; cases this
  · exact c
  · have := far i j hi c; rw [e, ltB_irrefl] at this; cases this
theorem bok_apart (h : BokP (T, Bs)) {i j : Nat} (hi : i < Bs.length) (hj : j < Bs.length) {y : ByteArray} (h1 : y ∈ Bs[i].2.1) (h2 : y ∈ Bs[j].2.1) : i = j := by
  rcases Nat.lt_trichotomy i j with c | c | c
  · have := (h.row j hj).sha i c; rw [(share_iff _ _).2 ⟨y, h2, h1⟩] at this; cases this
  · exact c
  · have := (h.row i hi).sha j c; rw [(share_iff _ _).2 ⟨y, h1, h2⟩] at this; cases this
/-- What the program asks of a batch that is there is what the model asks. -/
theorem can_same (h : BokP (T, Bs)) {gone : List ByteArray} {a : Nat} (ha : a < Bs.length) (hg : hasB gone Bs[a].1 = false) : (hasM T Bs[a].2.2 &&& (4294967295 - (freM T Bs gone + hasM T Bs[a].2.1)) = 0) ↔ canB Bs a gone = true := by
  have hT := (bok_things h).1
  have dis : ∀ y ∈ T, ¬ (freP Bs gone y = true ∧ hasB Bs[a].2.1 y = true) := fun y _ ⟨h1, h2⟩ => fre_iff.1 h1 a ha hg ((hasB_iff _ _).1 h2)
  unfold freM hasM
  rw [msk_or dis, msk_clear hT]
  constructor
  · intro hall
    refine can_yes fun i hi => ?_
    unfold inWay
    rw [btN_at hi, btN_at ha]
    by_cases e : i = a
    · simp [e]
    · cases hgi : hasB gone Bs[i].1
      · cases es : shareB Bs[i].2.1 Bs[a].2.2
        · simp
        · obtain ⟨y, y1, y2⟩ := (share_iff _ _).1 es
          have := hall y ((bok_lists h a ha).2.2 y y2) ((hasB_iff _ _).2 y2)
          rw [Bool.or_eq_true] at this
          rcases this with hf | hf
          · exact absurd y1 (fre_iff.1 hf i hi hgi)
          · exact absurd (bok_apart h hi ha y1 ((hasB_iff _ _).1 hf)) e
      · simp
  · intro hc y _ hy
    rw [Bool.or_eq_true]
    by_cases hm : y ∈ Bs[a].2.1
    · exact .inr ((hasB_iff _ _).2 hm)
    · refine .inl (fre_iff.2 fun i hi hgi hyi => ?_)
      have hia : i ≠ a := fun e => hm (by subst e; exact hyi)
      have : inWay Bs a gone i = true := by
        unfold inWay
        rw [btN_at hi, btN_at ha, hgi, (share_iff _ _).2 ⟨y, hyi, (hasB_iff _ _).1 hy⟩]
        simp [hia]
      rw [can_no hi this] at hc
      cases hc
/-- Somebody goes. -/
theorem go_free (h : BokP (T, Bs)) {gone : List ByteArray} {a : Nat} (ha : a < Bs.length) (hg : hasB gone Bs[a].1 = false) : freM T Bs gone + hasM T Bs[a].2.1 = freM T Bs (gone ++ [Bs[a].1]) := by
  have dis : ∀ y ∈ T, ¬ (freP Bs gone y = true ∧ hasB Bs[a].2.1 y = true) := fun y _ ⟨h1, h2⟩ => fre_iff.1 h1 a ha hg ((hasB_iff _ _).1 h2)
  unfold freM hasM
  rw [msk_or dis]
  refine msk_congr fun y _ => ?_
  rw [Bool.eq_iff_iff, Bool.or_eq_true, fre_iff, fre_iff, hasB_iff]
  constructor
  · rintro (h1 | h1) i hi hgi hy
    · rw [hasB_snoc, Bool.or_eq_false_iff] at hgi
      exact h1 i hi hgi.1 hy
    · have := bok_apart h hi ha hy h1
      subst this
      rw [hasB_snoc, eqB_refl, Bool.or_true] at hgi
      cases hgi
  · intro h1
    by_cases hm : y ∈ Bs[a].2.1
    · exact .inr hm
    · refine .inl fun i hi hgi hy => h1 i hi ?_ hy
      rw [hasB_snoc, hgi, Bool.false_or]
      cases e : eqB Bs[a].1 Bs[i].1
      · rfl
      · rw [eqB_iff] at e
        have := bok_names h ha hi e
        subst this
        exact absurd hy hm
theorem go_list (h : BokP (T, Bs)) {gone : List ByteArray} {a : Nat} (ha : a < Bs.length) : (lvL T Bs gone).set a (hasM T Bs[a].2.1, hasM T Bs[a].2.2, true) = lvL T Bs (gone ++ [Bs[a].1]) := by
  apply List.ext_getElem
  · simp [lvL]
  · intro i h1 h2
    have hi : i < Bs.length := by simpa [lvL] using h2
    rw [List.getElem_set]
    by_cases e : a = i
    · subst e
      rw [if_pos rfl, lv_at T _ hi, hasB_snoc, eqB_refl, Bool.or_true]
    · rw [if_neg e, lv_at T _ hi, lv_at T _ hi, hasB_snoc]
      have : eqB Bs[a].1 Bs[i].1 = false := by
        cases c : eqB Bs[a].1 Bs[i].1
        · rfl
        · rw [eqB_iff] at c; exact absurd (bok_names h ha hi c) e
      rw [this, Bool.or_false]
/-- What is free while the sharers are told. -/
theorem free_next (h : BokP (T, Bs)) {k : Nat} (hk : k < Bs.length) : freM T (Bs.take (k + 1)) [] + hasM T Bs[k].2.1 = freM T (Bs.take k) [] := by
  have e0 : ∀ y, freP (Bs.take (k + 1)) [] y = (freP (Bs.take k) [] y && !(hasB Bs[k].2.1 y)) := fun y => by
    unfold freP
    rw [List.take_succ_eq_append_getElem hk, List.all_append]
    simp [hasB]
  have dis : ∀ y ∈ T, ¬ (freP (Bs.take (k + 1)) [] y = true ∧ hasB Bs[k].2.1 y = true) := fun y _ ⟨h1, h2⟩ => by
    rw [e0, h2] at h1; simp at h1
  unfold freM hasM
  rw [msk_or dis]
  refine msk_congr fun y _ => ?_
  rw [e0]
  cases hy : hasB Bs[k].2.1 y
  · simp
  · rw [Bool.or_true]
    refine (fre_iff.2 fun i hi _ hyi => ?_).symm
    rw [List.length_take] at hi
    rw [List.getElem_take] at hyi
    have := bok_apart h (by omega) hk hyi ((hasB_iff _ _).1 hy)
    omega
theorem free_none : freM T (Bs.take 0) [] = hasM T T := by
  unfold freM hasM
  refine msk_congr fun y hy => ?_
  rw [(hasB_iff _ _).2 hy]
  rfl
theorem lv_snoc (k : Nat) (hk : k < Bs.length) : lvL T (Bs.take (k + 1)) [] = lvL T (Bs.take k) [] ++ [(hasM T Bs[k].2.1, hasM T Bs[k].2.2, false)] := by
  unfold lvL
  rw [List.take_succ_eq_append_getElem hk, List.map_append]
  simp [hasB]
end

end Go.Proofs.Ythgnhjkkfhfgmab

/-
  Some things of a book as the bits of a word: the program's bitsIn.
-/
namespace Go.Proofs.Ythgnhjkkfhfgmab
open Go.RowKit

theorem idx_at {T : List ByteArray} (nd : T.Nodup) {x : ByteArray} (hx : x ∈ T) : ∃ t : Nat, idxI T (fun f => eqB f x) = (t : Int) ∧ ∃ ht : t < T.length, T[t] = x := by
  obtain ⟨t, ht, rfl⟩ := List.getElem_of_mem hx
  refine ⟨t, idx_yes ht (eqB_refl _) fun j hj hjt => ?_, ht, rfl⟩
  cases e : eqB T[j] T[t]
  · rfl
  · rw [eqB_iff] at e
    exact absurd e (List.pairwise_iff_getElem.1 nd j t hj ht hjt)

set_option maxRecDepth 100000 in
set_option maxHeartbeats 8000000 in
theorem bits_any (S : Nat → Prop) (v va : Value) (l T : List ByteArray) (w : World) (h : AtL S w l v) (hT : AtL S w T va) (n8 : T.length ≤ 8) (nd : T.Nodup) (nl : l.Nodup) (sub : ∀ x ∈ l, x ∈ T) :
    Calls Try.prog 40 #[v, va] w fun e w' => e = .returned (.int .u32 (hasM T l : Nat)) ∧ w' = w := by
  obtain ⟨oa, cap, rfl, hn, hc⟩ := h
  obtain ⟨n, en⟩ : ∃ n, l.length = n := ⟨_, rfl⟩
  have EN : Hid (l.length ≤ n ∧ n ≤ l.length) := ⟨by omega, by omega⟩
  rw [en] at hn
  rw [en]
  unfold maxLen at hn
  have HC : Hid _ := hc
  have HI : Hid (∀ x, Calls Try.prog 61 #[va, .string x] w fun e w' => e = .returned (.int .i64 (idxI T (fun f => eqB f x))) ∧ w' = w) := fun x => index_any S va T x w hT
  obtain ⟨R, hR⟩ : ∃ R : Int, R = (hasM T l : Nat) := ⟨_, rfl⟩
  have HR : Hid (R = (hasM T l : Nat)) := hR
  rw [← hR]
  have ND : Hid T.Nodup := nd
  have NL : Hid l.Nodup := nl
  have SUB : Hid (∀ x ∈ l, x ∈ T) := sub
  have N8 : Hid (T.length ≤ 8) := n8
  clear hc hT hR en nd nl sub n8
  go_enter Try.func40, Try.ntmps40
  go_wp2
  go_loop [5, 10] (fun s i => ∃ (k : Nat) (m : Nat), k ≤ n ∧ i = .int .i64 k ∧ s = .int .u32 m ∧ m < 256 ∧ Hid (m = hasM T (l.take k))) (fun _ i => n - (intOf i).toNat)
  case atStart => exact ⟨0, 0, Nat.zero_le _, rfl, rfl, by omega, by show _ = _; rw [List.take_zero, hasM_nil]⟩
  case round =>
    obtain ⟨k, m, hk, rfl, rfl, hm, hsum⟩ := hrel
    by_cases hlt : k < n
    · have hkl : k < l.length := by have := EN.out; omega
      obtain ⟨b, off, rfl, _, cc, hcell, hat⟩ := HC.out k hkl
      rw [width_str] at hcell
      have hcell := hcell 0 (by omega)
      rw [Nat.mul_one, Nat.add_zero] at hcell
      rw [at_str] at hat
      rw [hat.1] at hcell
      obtain ⟨x, ex⟩ : ∃ x, l[k] = x := ⟨_, rfl⟩
      rw [ex] at hcell
      obtain ⟨t, hti, htl, htx⟩ := idx_at ND.out (SUB.out l[k] (List.getElem_mem hkl))
      have hnx : Hid (hasM T (l.take (k + 1)) = m + 2 ^ t ∧ hasM T (l.take (k + 1)) < 256) := by
        refine ⟨?_, hasM_lt N8.out _⟩
        rw [List.take_succ_eq_append_getElem hkl, ← htx, hasM_snoc ND.out htl, hsum.out]
        rw [htx]
        intro hmem
        obtain ⟨j, hj, e⟩ := List.getElem_of_mem hmem
        rw [List.length_take] at hj
        rw [List.getElem_take] at e
        exact absurd e (List.pairwise_iff_getElem.1 NL.out j k (by omega) hkl (by omega))
      rw [ex] at hti
      have HX : Hid (Calls Try.prog 61 #[va, .string x] w fun e w' => e = .returned (.int .i64 (t : Int)) ∧ w' = w) := by
        have := HI.out x; rw [hti] at this; exact this
      have ht8 : t < 8 := by have := N8.out; omega
      clear hti htx htl hat ex
      have h8 : t = 0 ∨ t = 1 ∨ t = 2 ∨ t = 3 ∨ t = 4 ∨ t = 5 ∨ t = 6 ∨ t = 7 := by omega
      rcases h8 with rfl | rfl | rfl | rfl | rfl | rfl | rfl | rfl
      all_goals
        obtain ⟨hnb, hnc⟩ := hnx.out
        rw [hnb] at hnc
        have HNB : Hid _ := hnb
        simp only [Nat.reducePow] at hnc
        clear hnb hnx
        go_wp2_with fail
        refine Calls.mono HX.out ?_
        rintro e w1 ⟨rfl, rfl⟩
        go_wp2_with fail
        go_round
        case rel => exact ⟨k + 1, hasM T (l.take (k + 1)), by omega, by go_num, by rw [HNB.out]; go_num, hasM_lt N8.out _, rfl⟩
        case measure => simp [intOf]; omega
    · go_wp2
      go_ret
      have : l.take k = l := List.take_of_length_le (by have := EN.out; omega)
      rw [HR.out, hsum.out, this]
      exact ⟨rfl, rfl⟩

end Go.Proofs.Ythgnhjkkfhfgmab

/-
  Those who go one after the other, as the program keeps them: canGo and letGo.
-/
namespace Go.Proofs.Ythgnhjkkfhfgmab
open Go.RowKit Go.Sort

/-- The cells of a sharer. -/
def eG (p : Nat × Nat × Bool) (j : Nat) : Value := cs [.int .u32 p.1, .int .u32 p.2.1, .bool p.2.2] j
theorem infG : (Try.prog.info? 74).map (fun i => (i.zero, i.size, i.bytes)) = some (some (.agg #[.int .u32 0, .int .u32 0, .bool false]), 3, 12) := by kernel_rfl
theorem elG : ElT Try.prog 70 74 3 12 := by
  obtain ⟨i0, hi, hz0, hz1, hz2⟩ := info_parts infG
  exact ⟨by kernel_rfl, ⟨i0, _, hi, hz0, hz1, hz2, rfl⟩, by decide⟩
/-- They lie in memory that the call has made: the list of them, and the struct. -/
structure Lv (B : Nat) (w : World) (g : Nat) (v : Value) (L : List (Nat × Nat × Bool)) (fr : Nat) : Prop where
  row : Row w B 74 3 eG v L
  box : w.heap[g]? = some (.cells #[v, .int .u32 fr] 72 (0, 0))
  low : B ≤ g
/-- The blocks of it. -/
def lvS (g : Nat) (v : Value) (k : Nat) : Prop := k = g ∨ v.ownBlock = some k
section
variable {B g : Nat} {w w' : World} {v : Value} {L : List (Nat × Nat × Bool)} {fr : Nat}
theorem Lv.lt (h : Lv B w g v L fr) : g < w.heap.size := (Array.getElem?_eq_some_iff.1 h.box).1
theorem Lv.below (h : Lv B w g v L fr) (hb : Below w.heap.size w w') : Lv B w' g v L fr := ⟨Row.below h.row hb, (hb.block g h.lt).trans h.box, h.low⟩
theorem Lv.but {S : Nat → Prop} (h : Lv B w g v L fr) (hb : But S w w') (hS : ∀ k, lvS g v k → ¬ S k) : Lv B w' g v L fr :=
  ⟨Row.block h.row fun k hk => hb.block k (World.ownsRow.lt h.row k hk).2 (hS k (.inr hk)), (hb.block g h.lt (hS g (.inl rfl))).trans h.box, h.low⟩
theorem Lv.set_low (h : Lv B w g v L fr) : ∀ k, lvS g v k → B ≤ k := fun k hk => by
  rcases hk with rfl | hk
  · exact h.low
  · exact (World.ownsRow.lt h.row k hk).1
theorem Lv.apart (h : Lv B w g v L fr) : v.ownBlock ≠ some g := fun e => by
  obtain ⟨c, hc⟩ := Row.typed h.row g e
  rw [h.box] at hc
  injection hc with h1
  injection h1 with _ h2
  revert h2
  decide
theorem Lv.cell (h : Lv B w g v L fr) {a : Nat} (ha : a < L.length) : ∃ r cap, v = .slice (some ⟨r, 0, none⟩) L.length cap ∧ L.length ≤ cap ∧ r ≠ g ∧ r < w.heap.size ∧ w.cell? ⟨r, a * 3, none⟩ = some (.int .u32 L[a].1) ∧ w.cell? ⟨r, a * 3 + 1, none⟩ = some (.int .u32 L[a].2.1) ∧ w.cell? ⟨r, a * 3 + 2, none⟩ = some (.bool L[a].2.2) ∧ w.frozen? ⟨r, a * 3 + 2, none⟩ = false := by
  obtain ⟨r, cap, hv, hb, hr, hc⟩ := Row.cell h.row ha
  have h0 := (hc 0 (by omega)).1
  rw [Nat.add_zero] at h0
  refine ⟨r, cap, hv, ?_, fun e => h.apart (by rw [hv, e]; rfl), hr, h0, (hc 1 (by omega)).1, (hc 2 (by omega)).1, (hc 2 (by omega)).2⟩
  rcases h.row.2 with ⟨h1, h2⟩ | ⟨g', cap', cur', h1, _, _, hle, _⟩
  · omega
  · rw [hv] at h1; cases h1; exact hle
end
/-- Can one go? -/
def goB (p : Nat × Nat × Bool) (fr : Nat) : Bool := !p.2.2 && decide (p.2.1 &&& (4294967295 - (fr + p.1)) = 0)

set_option maxRecDepth 100000 in
set_option maxHeartbeats 8000000 in
theorem canGo_any (B g : Nat) (v : Value) (L : List (Nat × Nat × Bool)) (fr a : Nat) (w : World) (h : Lv B w g v L fr) (ha : a < L.length) (h0 : L[a].1 < 256) (h1 : L[a].2.1 < 256) (hf : fr < 256) :
    Calls Try.prog 31 #[.pointer (some ⟨g, 0, none⟩), .int .i64 a] w fun e w' => e = .returned (.bool (goB L[a] fr)) ∧ Below w.heap.size w w' := by
  obtain ⟨r, cap, rfl, hcap, hrg, hr, c0, c1, c2, _⟩ := h.cell ha
  have hlen := Row.len h.row
  have hg := h.lt
  obtain ⟨y0, _⟩ := cell_row h.box 0 _ rfl
  obtain ⟨y1, _⟩ := cell_row h.box 1 _ rfl
  obtain ⟨n, en⟩ : ∃ n, L.length = n := ⟨_, rfl⟩
  obtain ⟨⟨hs, nd, gn⟩, ep⟩ : ∃ p, L[a] = p := ⟨_, rfl⟩
  rw [ep] at c0 c1 c2 h0 h1
  rw [en] at ha hcap hlen y0
  rw [ep]
  simp only at c0 c1 c2 h0 h1
  unfold maxLen at hlen
  clear h en ep
  obtain ⟨X, hX⟩ : ∃ X, X = w.alloc (.cells #[.int .u32 hs, .int .u32 nd, .bool gn] 74) := ⟨_, rfl⟩
  have EX : Hid (X = w.alloc (.cells #[.int .u32 hs, .int .u32 nd, .bool gn] 74)) := hX
  have BX : Hid (Below w.heap.size w X) := by rw [hX]; exact (Below.refl _ _).alloc (Nat.le_refl _) _
  have RX : Hid (X.heap[w.heap.size]? = some (.cells #[.int .u32 hs, .int .u32 nd, .bool gn] 74 (0, 0))) := by rw [hX]; exact heap_alloc_new w _
  clear hX
  go_enter Try.func31, Try.ntmps31
  go_upto_region 2 with fail
  rw [← EX.out]
  have q1 := fun d os => cell_regrown ((BX.out.cell (p := ⟨g, 1, none⟩) hg).trans y1) d os
  have k0 := fun d os => cell_regrown (cell_row RX.out 0 _ rfl).1 d os
  have k1 := fun d os => cell_regrown (cell_row RX.out 1 _ rfl).1 d os
  have k2 := fun d os => cell_regrown (cell_row RX.out 2 _ rfl).1 d os
  have hbits : bits .andNot .u32 (nd : Int) ((fr : Int) + (hs : Int)) = ((nd &&& (4294967295 - (fr + hs)) : Nat) : Int) := by
    have := u32_andNot_nat nd (fr + hs) (by omega) (by omega)
    rw [← this]; simp
  clear y0 y1 c0 c1 c2
  cases gn
  · go_wp2_with fail
    refine wp_region_quiet_below (by kernel_rfl) (by kernel_rfl) ?_
    repeat (first | go_big_quiet_step (fail) | quiet_step (fail))
    refine wpQuiet_nil ?_
    intro _ hw'
    obtain ⟨⟨dq, osq⟩, hw''⟩ := hw'
    subst hw''
    go_wp2_with fail
    go_ret
    refine ⟨?_, BX.out.trans ((below_regrown _ dq osq).mono BX.out.size)⟩
    show Ending.returned (.bool (((nd &&& (4294967295 - (fr + hs)) : Nat) : Int) == 0)) = Ending.returned (.bool (goB (hs, nd, false) fr))
    unfold goB
    simp only [Bool.not_false, Bool.true_and]
    generalize nd &&& (4294967295 - (fr + hs)) = x
    rw [show ((x : Int) == 0) = decide (x = 0) by rw [Bool.eq_iff_iff, beq_iff_eq, decide_eq_true_iff]; omega]
  · go_wp2_with fail
    refine wp_region_quiet_below (by kernel_rfl) (by kernel_rfl) ?_
    repeat (first | go_big_quiet_step (fail) | quiet_step (fail))
    refine wpQuiet_nil ?_
    intro _ hw'
    obtain ⟨⟨dq, osq⟩, hw''⟩ := hw'
    subst hw''
    go_wp2_with fail
    go_ret
    exact ⟨rfl, BX.out.trans ((below_regrown _ dq osq).mono BX.out.size)⟩

set_option maxRecDepth 100000 in
set_option maxHeartbeats 8000000 in
theorem letGo_any (B g : Nat) (v : Value) (L : List (Nat × Nat × Bool)) (fr a : Nat) (w : World) (h : Lv B w g v L fr) (ha : a < L.length) (h0 : L[a].1 < 256) (hf : fr < 256) :
    Calls Try.prog 32 #[.pointer (some ⟨g, 0, none⟩), .int .i64 a] w fun e w' => e = .returned (.tuple #[]) ∧ Lv B w' g v (L.set a (L[a].1, L[a].2.1, true)) (fr + L[a].1) ∧ But (lvS g v) w w' := by
  have H := h
  obtain ⟨r, cap, rfl, hcap, hrg, hr, c0, c1, c2, z2⟩ := h.cell ha
  have hlen := Row.len h.row
  have hg := h.lt
  obtain ⟨hs, ehs⟩ : ∃ p, L[a].1 = p := ⟨_, rfl⟩
  obtain ⟨Y, hY⟩ : ∃ Y, Y = w.setCell ⟨r, a * 3 + 2, none⟩ (.bool true) := ⟨_, rfl⟩
  have EY : Hid (Y = w.setCell ⟨r, a * 3 + 2, none⟩ (.bool true)) := hY
  have BY : Hid (But (lvS g (.slice (some ⟨r, 0, none⟩) L.length cap)) w Y) := by rw [hY]; exact (But.refl _ _).set (.inr rfl) _ _
  have LY : Hid (Lv B Y g (.slice (some ⟨r, 0, none⟩) L.length cap) (L.set a (hs, L[a].2.1, true)) fr) := by
    obtain ⟨p1, p2⟩ := Row.put H.row ha (j := 2) (by omega) (.bool true) (hs, L[a].2.1, true) (fun q hq => by
      rcases (show q = 0 ∨ q = 1 ∨ q = 2 by omega) with rfl | rfl | rfl
      · rw [← ehs]; rfl
      · rfl
      · rfl)
    rw [hY]
    exact ⟨p1, (p2.block g hg (fun e => by cases e; exact hrg rfl)).trans H.box, H.low⟩
  obtain ⟨y0, _⟩ := cell_row h.box 0 _ rfl
  obtain ⟨n, en⟩ : ∃ n, L.length = n := ⟨_, rfl⟩
  have hln : (L.set a (hs, L[a].2.1, true)).length = L.length := List.length_set
  obtain ⟨Z, hZ⟩ : ∃ Z, Z = L.set a (hs, L[a].2.1, true) := ⟨_, rfl⟩
  have eZ0 : ∃ hz : a < Z.length, Z[a] = (hs, L[a].2.1, true) := ⟨by rw [hZ, hln]; exact ha, by simp [hZ]⟩
  rw [← hZ] at LY hln
  rw [ehs] at c0 h0
  rw [ehs]
  rw [← hZ]
  rw [en] at hcap hlen y0 hln LY BY
  rw [en]
  rw [en] at ha
  unfold maxLen at hlen
  clear h H hY c0 c1 hZ
  obtain ⟨haZ, eZ⟩ := eZ0
  go_enter Try.func32, Try.ntmps32
  go_upto_region 1 with fail
  rw [← EY.out]
  clear y0 c2 z2
  obtain ⟨r', cap', e', hcap', hrg', hr', d0, _, _, _⟩ := LY.out.cell haZ
  cases e'
  simp only [eZ] at d0
  obtain ⟨y0, _⟩ := cell_row LY.out.box 0 _ rfl
  obtain ⟨y1, _⟩ := cell_row LY.out.box 1 _ rfl
  have hgY := LY.out.lt
  have q0 := fun d os => cell_regrown y0 d os
  have q1 := fun d os => cell_regrown y1 d os
  have q2 := fun d os => cell_regrown d0 d os
  clear y0 y1 d0 en ehs
  go_wp2_with fail
  refine wp_region_head_tail 13 (by kernel_rfl) (by kernel_rfl) ?_
  simp only [List.take_succ_cons, List.take_zero, List.drop_succ_cons, List.drop_zero]
  repeat (first | go_big_quiet_step (fail) | quiet_step (fail))
  refine wpQuiet_nil ?_
  intro _ hw'
  obtain ⟨⟨dq, osq⟩, hw''⟩ := hw'
  subst hw''
  have HBU : Hid (Below Y.heap.size Y (grow (redrawn Y dq) osq)) := below_regrown Y dq osq
  generalize grow (redrawn Y dq) osq = X at HBU ⊢
  have LX := LY.out.below HBU.out
  have hgX := LX.lt
  obtain ⟨x1, f1⟩ := cell_row LX.box 1 _ rfl
  have FIN : Hid (Lv B (X.setCell ⟨g, 1, none⟩ (.int .u32 ((fr : Int) + (hs : Int)))) g (.slice (some ⟨r, 0, none⟩) Z.length cap) Z (fr + hs)) := by
    refine ⟨Row.block LX.row fun k hk => ?_, ?_, LX.low⟩
    · exact Below.heap_setCell _ _ _ _ (fun e => LX.apart (by rw [hk]; exact congrArg some e))
    · have := set_row LX.box 1 (.int .u32 ((fr : Int) + (hs : Int)))
      rw [this]; rfl
  have BF : Hid (But (lvS g (.slice (some ⟨r, 0, none⟩) Z.length cap)) w (X.setCell ⟨g, 1, none⟩ (.int .u32 ((fr : Int) + (hs : Int))))) := (BY.out.trans (But.of_below HBU.out)).set (.inl rfl) _ _
  clear LX
  go_wp2_with fail
  go_end0
  exact ⟨rfl, FIN.out, BF.out⟩

end Go.Proofs.Ythgnhjkkfhfgmab

/-
  Plain: who can go is who can have all they need.
-/
namespace Go.Proofs.Ythgnhjkkfhfgmab
open Go.RowKit

theorem go_can {T : List ByteArray} {Bs : List DShareBatch} (h : BokP (T, Bs)) {gone : List ByteArray} {q : Nat} (hq : q < Bs.length) : goB (hasM T Bs[q].2.1, hasM T Bs[q].2.2, hasB gone Bs[q].1) (freM T Bs gone) = (!(hasB gone Bs[q].1) && canB Bs q gone) := by
  unfold goB
  cases e : hasB gone Bs[q].1
  · simp only [Bool.not_false, Bool.true_and]
    rw [Bool.eq_iff_iff, decide_eq_true_iff]
    exact can_same h hq e
  · rfl
/-- One goes: what the program keeps then. -/
theorem Lv.gone {T : List ByteArray} {Bs : List DShareBatch} (h : BokP (T, Bs)) {B g : Nat} {w : World} {v : Value} {gone : List ByteArray} {q : Nat} (hq : q < Bs.length) (hg : hasB gone Bs[q].1 = false) (hl : Lv B w g v ((lvL T Bs gone).set q (hasM T Bs[q].2.1, hasM T Bs[q].2.2, true)) (freM T Bs gone + hasM T Bs[q].2.1)) : Lv B w g v (lvL T Bs (gone ++ [Bs[q].1])) (freM T Bs (gone ++ [Bs[q].1])) := by
  rw [go_list h hq, go_free h hq hg] at hl
  exact hl

end Go.Proofs.Ythgnhjkkfhfgmab

/-
  Plain: who goes when, always the first that can; when all are gone.
-/
namespace Go.Proofs.Ythgnhjkkfhfgmab
open Go.RowKit

/-- Who is gone behind k rounds. -/
def gnS (Bs : List DShareBatch) : Nat → List ByteArray
  | 0 => []
  | k + 1 => gnS Bs k ++ [(btN Bs (nxtI Bs (gnS Bs k)).toNat).1]
/-- In each round ahead of k somebody could go. -/
def Vd (Bs : List DShareBatch) (k : Nat) : Prop := ∀ j, j < k → ¬ nxtI Bs (gnS Bs j) < 0
/-- Are all gone? -/
def allG (Bs : List DShareBatch) (g : List ByteArray) : Bool := !(Bs.any fun f => !(hasB g f.1))
theorem allG_iff {Bs : List DShareBatch} {g : List ByteArray} : allG Bs g = true ↔ ∀ x ∈ Bs.map (·.1), x ∈ g := by
  unfold allG
  rw [Bool.not_eq_true', List.any_eq_false]
  constructor
  · intro h x hx
    obtain ⟨f, hf, rfl⟩ := List.mem_map.1 hx
    have := h f hf
    simp only [Bool.not_eq_true', Bool.not_eq_false] at this
    exact (hasB_iff _ _).1 (by simpa using this)
  · intro h f hf
    rw [(hasB_iff _ _).2 (h f.1 (List.mem_map.2 ⟨f, hf, rfl⟩))]
    simp
theorem nxt_free {Bs : List DShareBatch} {g : List ByteArray} (h : ¬ nxtI Bs g < 0) : ∃ q : Nat, nxtI Bs g = (q : Int) ∧ ∃ hq : q < Bs.length, hasB g Bs[q].1 = false ∧ canB Bs q g = true := by
  unfold nxtI idxI at h ⊢
  cases e : (List.range Bs.length).findIdx? (freeB Bs g) with
  | none => rw [e] at h; simp at h
  | some i =>
    obtain ⟨hi, h1, _⟩ := List.findIdx?_eq_some_iff_getElem.1 e
    have hi' : i < Bs.length := by simpa using hi
    rw [List.getElem_range] at h1
    unfold freeB at h1
    rw [btN_at hi', Bool.and_eq_true, Bool.not_eq_true'] at h1
    exact ⟨i, rfl, hi', h1⟩
theorem gn_len (Bs : List DShareBatch) : ∀ k, (gnS Bs k).length = k
  | 0 => rfl
  | k + 1 => by rw [gnS, List.length_append, gn_len Bs k]; rfl
theorem Vd.down {Bs : List DShareBatch} {k : Nat} (h : Vd Bs (k + 1)) : Vd Bs k := fun j hj => h j (by omega)
theorem Vd.up {Bs : List DShareBatch} {k : Nat} (h : Vd Bs k) (hn : ¬ nxtI Bs (gnS Bs k) < 0) : Vd Bs (k + 1) := fun j hj => by
  by_cases e : j = k
  · subst e; exact hn
  · exact h j (by omega)
section
variable {T : List ByteArray} {Bs : List DShareBatch}
theorem names_nodup (h : BokP (T, Bs)) : (Bs.map (·.1)).Nodup := by
  refine List.pairwise_iff_getElem.2 fun i j hi hj hij e => ?_
  rw [List.getElem_map, List.getElem_map] at e
  have := bok_names h (by simpa using hi) (by simpa using hj) e
  omega
theorem gn_sub (h : BokP (T, Bs)) : ∀ {k : Nat}, Vd Bs k → (gnS Bs k).Nodup ∧ ∀ x ∈ gnS Bs k, x ∈ Bs.map (·.1)
  | 0, _ => ⟨List.nodup_nil, fun x hx => by cases hx⟩
  | k + 1, hv => by
    obtain ⟨h1, h2⟩ := gn_sub h hv.down
    obtain ⟨q, eq, hq, hg, _⟩ := nxt_free (hv k (by omega))
    rw [gnS, eq, Int.toNat_natCast, btN_at hq]
    constructor
    · refine List.nodup_append.2 ⟨h1, by simp, fun a ha b hb e => ?_⟩
      rw [List.mem_singleton] at hb
      rw [e, hb] at ha
      rw [(hasB_iff _ _).2 ha] at hg
      cases hg
    · intro x hx
      rcases List.mem_append.1 hx with hx | hx
      · exact h2 x hx
      · rw [List.mem_singleton] at hx
        rw [hx]
        exact List.mem_map.2 ⟨_, List.getElem_mem hq, rfl⟩
theorem vd_le (h : BokP (T, Bs)) {k : Nat} (hv : Vd Bs k) : k ≤ Bs.length := by
  obtain ⟨h1, h2⟩ := gn_sub h hv
  have := h1.length_le_of_subset h2
  rw [gn_len, List.length_map] at this
  exact this
theorem all_when (h : BokP (T, Bs)) {k : Nat} (hv : Vd Bs k) : allG Bs (gnS Bs k) = decide (k = Bs.length) := by
  obtain ⟨h1, h2⟩ := gn_sub h hv
  have hle := vd_le h hv
  rw [Bool.eq_iff_iff, allG_iff, decide_eq_true_iff]
  constructor
  · intro ha
    have := (names_nodup h).length_le_of_subset ha
    rw [gn_len, List.length_map] at this
    omega
  · intro e x hx
    refine Classical.byContradiction fun hn => ?_
    have nd : (x :: gnS Bs k).Nodup := List.nodup_cons.2 ⟨hn, h1⟩
    have := nd.length_le_of_subset (l₂ := Bs.map (·.1)) (fun y hy => by
      rcases List.mem_cons.1 hy with rfl | hy
      · exact hx
      · exact h2 y hy)
    rw [List.length_cons, gn_len, List.length_map] at this
    omega
theorem ord_at : ∀ {k : Nat}, Vd Bs k → k ≤ Bs.length → ordF Bs Bs.length [] = ordF Bs (Bs.length - k) (gnS Bs k)
  | 0, _, _ => rfl
  | k + 1, hv, hk => by
    rw [ord_at hv.down (by omega), show Bs.length - k = (Bs.length - (k + 1)) + 1 by omega, ordF, if_neg (hv k (by omega))]
    rfl
/-- What is told when no round comes any more. -/
theorem ord_end (hb : bokB (T, Bs) = true) {k : Nat} (hv : Vd Bs k) (hs : nxtI Bs (gnS Bs k) < 0 ∨ k = Bs.length) : ordS (T, Bs) = if k = Bs.length then (gnS Bs k, true) else ([], false) := by
  have h := bok_iff.1 hb
  have hle := vd_le h hv
  unfold ordS
  rw [if_pos hb]
  show ordF Bs Bs.length [] = _
  rw [ord_at hv hle]
  by_cases e : k = Bs.length
  · rw [if_pos e, show Bs.length - k = 0 by omega]; rfl
  · rw [if_neg e, show Bs.length - k = (Bs.length - k - 1) + 1 by omega, ordF, if_pos (hs.resolve_right e)]
theorem gn_short (h : BokP (T, Bs)) {k : Nat} (hv : Vd Bs k) : ∀ x ∈ gnS Bs k, x.size ≤ 8 := fun x hx => by
  obtain ⟨f, hf, rfl⟩ := List.mem_map.1 ((gn_sub h hv).2 x hx)
  obtain ⟨i, hi, rfl⟩ := List.getElem_of_mem hf
  have := (h.row i hi).bat
  unfold batB at this
  simp only [Bool.and_eq_true] at this
  have := this.1.1.1
  unfold nameB at this
  rw [Bool.and_eq_true, decide_eq_true_iff] at this
  exact this.1.2
end

end Go.Proofs.Ythgnhjkkfhfgmab

/-
  A law for a chain of calls beside a box that is made meanwhile, in a region that draws its order. No program is named here.
-/
namespace Go.Proofs.Ythgnhjkkfhfgmab
open Go.RowKit Go.Sort

section
variable {P : Program} {md : Region.Mode} {ops : Array Oper} {C : World → Prop} {n : Nat} {L : Array Bool → Act → World → Prop}

/-- The rest of a chain, the box made already. -/
theorem chain_done {g : Nat} (Φ : Nat → Act → World → Prop) :
    ∀ (is : List Nat) (k : Nat) (listed : Array Bool) (a : Act) (w : World), (∀ i ∈ is, i < n) → (∀ j (hj : j < is.length), Region.ready md ops (listAll (is.take j) listed) = [is[j]]) →
      (∀ j (hj : j < is.length) a w, Φ (k + j) a w → stepE P ops is[j] (fun a' w' => C w' ∧ Φ (k + j + 1) a' w') a w) →
      (∀ a w, Φ (k + is.length) a w → anyC P md ops C n L g (listAll is listed) a w) → Φ k a w → anyC P md ops C n L (is.length + g) listed a w
  | [], k, listed, a, w, _, _, _, he, h => by
    rw [List.length_nil, Nat.zero_add]
    exact he a w (by simpa using h)
  | i :: is, k, listed, a, w, hn, hr, hs, he, h => by
    rw [List.length_cons, show is.length + 1 + g = (is.length + g) + 1 by omega]
    have r0 : Region.ready md ops listed = [i] := hr 0 (Nat.succ_pos _)
    refine anyC_call i r0 (hn i (by simp)) ?_
    obtain ⟨o, ho, hg, fn, args, hrun, hc⟩ := hs 0 (by simp) a w (by simpa using h)
    refine ⟨o, ho, hg, fn, args, hrun, hc.mono fun e u ⟨v, hv, hC, hk⟩ => ⟨v, hv, hC, ?_⟩⟩
    refine chain_done Φ is (k + 1) _ _ _ (fun j hj => hn j (by simp [hj])) (fun j hj => ?_) (fun j hj a w h => ?_) (fun a w h => ?_) (by simpa using hk)
    · have := hr (j + 1) (by simpa using hj)
      simpa [listAll] using this
    · have := hs (j + 1) (by simpa using hj) a w (by rw [show k + (j + 1) = k + 1 + j by omega]; exact h)
      rw [show k + (j + 1) + 1 = k + 1 + j + 1 by omega] at this
      simpa using this
    · have := he a w (by rw [List.length_cons, show k + (is.length + 1) = k + 1 + is.length by omega]; exact h)
      simpa [listAll] using this

/-- The box that is made meanwhile. -/
theorem chain_box {g : Nat} (Φ : Option Nat → Nat → Act → World → Prop) (ia da : Nat) (oa : Oper) (z : Array Value) (t : TypeId) (ha : ops[ia]? = some oa ∧ oa.guard = none ∧ oa.dst = some da ∧ ia < n)
    (exa : ∀ (b : Act) (u : World), (execOp b.eval oa).run P u = .ok (.value (.pointer (some ⟨u.heap.size, 0, none⟩))) (u.alloc (.cells z t)))
    (hal : ∀ k a w, Φ none k a w → C (w.alloc (.cells z t)) ∧ Φ (some w.heap.size) k (a.put (some da) (.pointer (some ⟨w.heap.size, 0, none⟩))) (w.alloc (.cells z t))) :
    ∀ (is : List Nat) (k : Nat) (listed : Array Bool) (a : Act) (w : World), ia ∉ is → (∀ i ∈ is, i < n) →
      (∀ j (hj : j < is.length), Region.ready md ops (listAll (is.take j) listed) = [is[j], ia]) →
      (∀ j (hj : j < is.length), Region.ready md ops (listAll (is.take j) (listed.setIfInBounds ia true)) = [is[j]]) →
      (∀ o j (hj : j < is.length) a w, Φ o (k + j) a w → stepE P ops is[j] (fun a' w' => C w' ∧ Φ o (k + j + 1) a' w') a w) →
      (∀ a w, Φ none (k + is.length) a w → anyC P md ops C n L (g + 1) (listAll is listed) a w) →
      (∀ p a w, Φ (some p) (k + is.length) a w → anyC P md ops C n L g (listAll is (listed.setIfInBounds ia true)) a w) → Φ none k a w → anyC P md ops C n L (is.length + (g + 1)) listed a w
  | [], k, listed, a, w, _, _, _, _, _, he, _, h => by
    rw [List.length_nil, Nat.zero_add]
    exact he a w (by simpa using h)
  | i :: is, k, listed, a, w, hia, hn, hr, hr1, hs, he, he1, h => by
    rw [List.length_cons, show is.length + 1 + (g + 1) = (is.length + 1 + g) + 1 by omega]
    have r0 : Region.ready md ops listed = [i, ia] := hr 0 (Nat.succ_pos _)
    obtain ⟨ha1, ha2, ha3, ha4⟩ := ha
    refine ⟨by rw [r0]; simp, fun j hj => ?_⟩
    rw [r0] at hj
    simp only [List.mem_cons, List.not_mem_nil, or_false] at hj
    rcases hj with rfl | rfl
    · refine ⟨hn j (by simp), .inr ?_⟩
      obtain ⟨o, ho, hg, fn, args, hrun, hc⟩ := hs none 0 (by simp) a w (by simpa using h)
      refine ⟨o, ho, hg, fn, args, hrun, hc.mono fun e u ⟨v, hv, hC, hk⟩ => ⟨v, hv, hC, ?_⟩⟩
      rw [show is.length + 1 + g = is.length + (g + 1) by omega]
      simp only [List.mem_cons, not_or] at hia
      have cm : ∀ l : Array Bool, (l.setIfInBounds ia true).setIfInBounds j true = (l.setIfInBounds j true).setIfInBounds ia true := fun l => Array.setIfInBounds_comm _ _ hia.1
      refine chain_box Φ ia da oa z t ⟨ha1, ha2, ha3, ha4⟩ exa hal is (k + 1) _ _ _ hia.2 (fun j hj => hn j (by simp [hj])) (fun m hm => ?_) (fun m hm => ?_) (fun o m hm a w h => ?_) (fun a w h => ?_) (fun p a w h => ?_) (by simpa using hk)
      · have := hr (m + 1) (by simpa using hm)
        simpa [listAll] using this
      · have := hr1 (m + 1) (by simpa using hm)
        simpa [listAll, cm] using this
      · have := hs o (m + 1) (by simpa using hm) a w (by rw [show k + (m + 1) = k + 1 + m by omega]; exact h)
        rw [show k + (m + 1) + 1 = k + 1 + m + 1 by omega] at this
        simpa using this
      · have := he a w (by rw [List.length_cons, show k + (is.length + 1) = k + 1 + is.length by omega]; exact h)
        simpa [listAll] using this
      · have := he1 p a w (by rw [List.length_cons, show k + (is.length + 1) = k + 1 + is.length by omega]; exact h)
        simpa [listAll, cm] using this
    · obtain ⟨hC, hk⟩ := hal k a w h
      refine ⟨ha4, .inl ⟨oa, ha1, ha2, _, _, exa a w, hC, ?_⟩⟩
      rw [ha3]
      have := chain_done (g := g) (P := P) (md := md) (ops := ops) (C := C) (n := n) (L := L) (fun m => Φ (some w.heap.size) m) (i :: is) k (listed.setIfInBounds j true) _ _ hn hr1 (fun m hm a w h => hs _ m hm a w h) (fun a w h => he1 _ a w h) hk
      rwa [List.length_cons] at this

/-- A box that is made, or not yet. -/
def bx (d : Nat) (o : Option Nat) (a : Act) : Act := match o with
  | none => a
  | some p => a.put (some d) (.pointer (some ⟨p, 0, none⟩))
theorem bx_put {d e : Nat} (h : e ≠ d) (o : Option Nat) (a : Act) (v : Value) : (bx d o a).put (some e) v = bx d o (a.put (some e) v) := by
  cases o with
  | none => rfl
  | some p => exact Act.put_comm a (x := some d) (y := some e) _ v (fun x hx => by cases hx; simpa using h)

/-- The same, where the states are told from the first one on. -/
theorem chain_box0 {g : Nat} {listed : Array Bool} {a : Act} {w : World} (Φ : Act → Option Nat → Nat → Act → World → Prop) (is : List Nat) (ia da : Nat) (oa : Oper) (z : Array Value) (t : TypeId) (ha : ops[ia]? = some oa ∧ oa.guard = none ∧ oa.dst = some da ∧ ia < n) (hia : ia ∉ is) (hn : ∀ i ∈ is, i < n)
    (exa : ∀ (b : Act) (u : World), (execOp b.eval oa).run P u = .ok (.value (.pointer (some ⟨u.heap.size, 0, none⟩))) (u.alloc (.cells z t)))
    (hr : ∀ j (hj : j < is.length), Region.ready md ops (listAll (is.take j) listed) = [is[j], ia]) (hr1 : ∀ j (hj : j < is.length), Region.ready md ops (listAll (is.take j) (listed.setIfInBounds ia true)) = [is[j]])
    (hal : ∀ k b u, Φ a none k b u → C (u.alloc (.cells z t)) ∧ Φ a (some u.heap.size) k (b.put (some da) (.pointer (some ⟨u.heap.size, 0, none⟩))) (u.alloc (.cells z t)))
    (hs : ∀ o j (hj : j < is.length) b u, Φ a o j b u → stepE P ops is[j] (fun a' w' => C w' ∧ Φ a o (j + 1) a' w') b u)
    (h0 : Φ a none 0 a w)
    (he : ∀ b u, Φ a none is.length b u → anyC P md ops C n L (g + 1) (listAll is listed) b u)
    (he1 : ∀ p b u, Φ a (some p) is.length b u → anyC P md ops C n L g (listAll is (listed.setIfInBounds ia true)) b u) : anyC P md ops C n L (is.length + (g + 1)) listed a w :=
  chain_box (Φ a) ia da oa z t ha exa hal is 0 listed a w hia hn hr hr1 (fun o j hj b u h => by rw [Nat.zero_add] at h ⊢; exact hs o j hj b u h) (fun b u h => he b u (by rwa [Nat.zero_add] at h)) (fun p b u h => he1 p b u (by rwa [Nat.zero_add] at h)) h0

/-- Quiet ones may be taken first, behind calls too. -/
def lexB (l : List Oper) (n : Nat) (ks : List Nat) (listed : Array Bool) : Bool :=
  Region.noSelect l.toArray && decide (n < l.length) && Region.sinkB .any l.toArray n && Region.chainB .any l.toArray n && invB l.toArray n listed && mixB .any l.toArray n ks listed
theorem lexT {Q : Exit → Act → World → Prop} {l : List Oper} {listed : Array Bool} {a : Act} {w : World} (g : Nat) (ks : List Nat) (hB : lexB l n ks listed = true) (hw : C w)
    (h : wpQuiet P l.toArray C (fun a' => anyC P .any l.toArray C n (tailC P Q l n) g (listAll ks listed) a' w) (ks.filterMap fun k => l[k]?) a) : anyC P .any l.toArray C n (tailC P Q l n) (ks.length + g) listed a w := by
  simp only [lexB, Bool.and_eq_true, decide_eq_true_eq] at hB
  obtain ⟨⟨⟨⟨⟨hsel, hn⟩, hs⟩, hc⟩, hi⟩, hm⟩ := hB
  exact anyC_lex hsel hs hc (by simpa using hn) (fun listed a w hL => seqB_ready hL.1) g w hw ks _ listed a (mix_ops ks _ hm) (inv_of hi) hm h
end

end Go.Proofs.Ythgnhjkkfhfgmab

/-
  Laws for a chain of calls (or other steps) beside a box that is made meanwhile, in a region that draws its order and has stores. No program is named here.
-/
namespace Go.Proofs.Ythgnhjkkfhfgmab
open Go.RowKit Go.Sort

section
variable {P : Program} {md : Region.Mode} {ops : Array Oper} {C : World → Prop} {n : Nat} {L : Array Bool → Act → World → Prop}

/-- The rest of a chain, the box made already. -/
theorem chainH_done {g : Nat} (Φ : Nat → Act → World → Prop) :
    ∀ (is : List Nat) (k : Nat) (listed : Array Bool) (a : Act) (w : World), (∀ i ∈ is, i < n) → (∀ j (hj : j < is.length), Region.ready md ops (listAll (is.take j) listed) = [is[j]]) →
      (∀ j (hj : j < is.length) a w, Φ (k + j) a w → stepH P ops is[j] (fun a' w' => C w' ∧ Φ (k + j + 1) a' w') a w) →
      (∀ a w, Φ (k + is.length) a w → anyH P md ops C n L g (listAll is listed) a w) → Φ k a w → anyH P md ops C n L (is.length + g) listed a w
  | [], k, listed, a, w, _, _, _, he, h => by
    rw [List.length_nil, Nat.zero_add]
    exact he a w (by simpa using h)
  | i :: is, k, listed, a, w, hn, hr, hs, he, h => by
    rw [List.length_cons, show is.length + 1 + g = (is.length + g) + 1 by omega]
    have r0 : Region.ready md ops listed = [i] := hr 0 (Nat.succ_pos _)
    refine ⟨by rw [r0]; simp, fun j hj => ?_⟩
    rw [r0] at hj
    obtain rfl := List.mem_singleton.1 hj
    refine ⟨hn j (by simp), (hs 0 (by simp) a w (by simpa using h)).mono fun a w ⟨hC, hk⟩ => ⟨hC, ?_⟩⟩
    refine chainH_done Φ is (k + 1) _ _ _ (fun j hj => hn j (by simp [hj])) (fun j hj => ?_) (fun j hj a w h => ?_) (fun a w h => ?_) (by simpa using hk)
    · have := hr (j + 1) (by simpa using hj)
      simpa [listAll] using this
    · have := hs (j + 1) (by simpa using hj) a w (by rw [show k + (j + 1) = k + 1 + j by omega]; exact h)
      rw [show k + (j + 1) + 1 = k + 1 + j + 1 by omega] at this
      simpa using this
    · have := he a w (by rw [List.length_cons, show k + (is.length + 1) = k + 1 + is.length by omega]; exact h)
      simpa [listAll] using this

/-- The box that is made meanwhile. -/
theorem chainH_box {g : Nat} (Φ : Option Nat → Nat → Act → World → Prop) (ia da : Nat) (oa : Oper) (z : Array Value) (t : TypeId) (ha : ops[ia]? = some oa ∧ oa.guard = none ∧ oa.dst = some da ∧ ia < n)
    (exa : ∀ (b : Act) (u : World), (execOp b.eval oa).run P u = .ok (.value (.pointer (some ⟨u.heap.size, 0, none⟩))) (u.alloc (.cells z t)))
    (hal : ∀ k a w, Φ none k a w → C (w.alloc (.cells z t)) ∧ Φ (some w.heap.size) k (a.put (some da) (.pointer (some ⟨w.heap.size, 0, none⟩))) (w.alloc (.cells z t))) :
    ∀ (is : List Nat) (k : Nat) (listed : Array Bool) (a : Act) (w : World), ia ∉ is → (∀ i ∈ is, i < n) →
      (∀ j (hj : j < is.length), Region.ready md ops (listAll (is.take j) listed) = [is[j], ia]) →
      (∀ j (hj : j < is.length), Region.ready md ops (listAll (is.take j) (listed.setIfInBounds ia true)) = [is[j]]) →
      (∀ o j (hj : j < is.length) a w, Φ o (k + j) a w → stepH P ops is[j] (fun a' w' => C w' ∧ Φ o (k + j + 1) a' w') a w) →
      (∀ a w, Φ none (k + is.length) a w → anyH P md ops C n L (g + 1) (listAll is listed) a w) →
      (∀ p a w, Φ (some p) (k + is.length) a w → anyH P md ops C n L g (listAll is (listed.setIfInBounds ia true)) a w) → Φ none k a w → anyH P md ops C n L (is.length + (g + 1)) listed a w
  | [], k, listed, a, w, _, _, _, _, _, he, _, h => by
    rw [List.length_nil, Nat.zero_add]
    exact he a w (by simpa using h)
  | i :: is, k, listed, a, w, hia, hn, hr, hr1, hs, he, he1, h => by
    rw [List.length_cons, show is.length + 1 + (g + 1) = (is.length + 1 + g) + 1 by omega]
    have r0 : Region.ready md ops listed = [i, ia] := hr 0 (Nat.succ_pos _)
    obtain ⟨ha1, ha2, ha3, ha4⟩ := ha
    refine ⟨by rw [r0]; simp, fun j hj => ?_⟩
    rw [r0] at hj
    simp only [List.mem_cons, List.not_mem_nil, or_false] at hj
    rcases hj with rfl | rfl
    · refine ⟨hn j (by simp), (hs none 0 (by simp) a w (by simpa using h)).mono fun a w ⟨hC, hk⟩ => ⟨hC, ?_⟩⟩
      rw [show is.length + 1 + g = is.length + (g + 1) by omega]
      simp only [List.mem_cons, not_or] at hia
      have cm : ∀ l : Array Bool, (l.setIfInBounds ia true).setIfInBounds j true = (l.setIfInBounds j true).setIfInBounds ia true := fun l => Array.setIfInBounds_comm _ _ hia.1
      refine chainH_box Φ ia da oa z t ⟨ha1, ha2, ha3, ha4⟩ exa hal is (k + 1) _ _ _ hia.2 (fun j hj => hn j (by simp [hj])) (fun m hm => ?_) (fun m hm => ?_) (fun o m hm a w h => ?_) (fun a w h => ?_) (fun p a w h => ?_) (by simpa using hk)
      · have := hr (m + 1) (by simpa using hm)
        simpa [listAll] using this
      · have := hr1 (m + 1) (by simpa using hm)
        simpa [listAll, cm] using this
      · have := hs o (m + 1) (by simpa using hm) a w (by rw [show k + (m + 1) = k + 1 + m by omega]; exact h)
        rw [show k + (m + 1) + 1 = k + 1 + m + 1 by omega] at this
        simpa using this
      · have := he a w (by rw [List.length_cons, show k + (is.length + 1) = k + 1 + is.length by omega]; exact h)
        simpa [listAll] using this
      · have := he1 p a w (by rw [List.length_cons, show k + (is.length + 1) = k + 1 + is.length by omega]; exact h)
        simpa [listAll, cm] using this
    · obtain ⟨hC, hk⟩ := hal k a w h
      refine ⟨ha4, oa, ha1, .inl ⟨wanted_none ha2 _, _, _, exa a w, hC, ?_⟩⟩
      rw [ha3]
      have := chainH_done (g := g) (P := P) (md := md) (ops := ops) (C := C) (n := n) (L := L) (fun m => Φ (some w.heap.size) m) (i :: is) k (listed.setIfInBounds j true) _ _ hn hr1 (fun m hm a w h => hs _ m hm a w h) (fun a w h => he1 _ a w h) hk
      rwa [List.length_cons] at this

/-- The same, where the states are told from the first one on. -/
theorem chainH_box0 {g : Nat} {listed : Array Bool} {a : Act} {w : World} (Φ : Act → Option Nat → Nat → Act → World → Prop) (is : List Nat) (ia da : Nat) (oa : Oper) (z : Array Value) (t : TypeId) (ha : ops[ia]? = some oa ∧ oa.guard = none ∧ oa.dst = some da ∧ ia < n) (hia : ia ∉ is) (hn : ∀ i ∈ is, i < n)
    (exa : ∀ (b : Act) (u : World), (execOp b.eval oa).run P u = .ok (.value (.pointer (some ⟨u.heap.size, 0, none⟩))) (u.alloc (.cells z t)))
    (hr : ((List.range is.length).all fun j => Region.ready md ops (listAll (is.take j) listed) == [is.getD j 0, ia] && Region.ready md ops (listAll (is.take j) (listed.setIfInBounds ia true)) == [is.getD j 0]) = true)
    (hal : ∀ k b u, Φ a none k b u → C (u.alloc (.cells z t)) ∧ Φ a (some u.heap.size) k (b.put (some da) (.pointer (some ⟨u.heap.size, 0, none⟩))) (u.alloc (.cells z t)))
    (hs : ∀ o j (hj : j < is.length) b u, Φ a o j b u → stepH P ops is[j] (fun a' w' => C w' ∧ Φ a o (j + 1) a' w') b u)
    (h0 : Φ a none 0 a w)
    (he : ∀ b u, Φ a none is.length b u → anyH P md ops C n L (g + 1) (listAll is listed) b u)
    (he1 : ∀ p b u, Φ a (some p) is.length b u → anyH P md ops C n L g (listAll is (listed.setIfInBounds ia true)) b u) : anyH P md ops C n L (is.length + (g + 1)) listed a w := by
  have hr' : ∀ j (hj : j < is.length), Region.ready md ops (listAll (is.take j) listed) = [is[j], ia] ∧ Region.ready md ops (listAll (is.take j) (listed.setIfInBounds ia true)) = [is[j]] := fun j hj => by
    have h := List.all_eq_true.1 hr j (List.mem_range.2 hj)
    simp only [Bool.and_eq_true, beq_iff_eq] at h
    rw [show is.getD j 0 = is[j] by simp [hj]] at h
    exact h
  exact chainH_box (Φ a) ia da oa z t ha exa hal is 0 listed a w hia hn (fun j hj => (hr' j hj).1) (fun j hj => (hr' j hj).2) (fun o j hj b u h => by rw [Nat.zero_add] at h ⊢; exact hs o j hj b u h) (fun b u h => he b u (by rwa [Nat.zero_add] at h)) (fun p b u h => he1 p b u (by rwa [Nat.zero_add] at h)) h0

/-- Quiet ones may be taken first, behind calls too. -/
def lexHB (l : List Oper) (n : Nat) (ks : List Nat) (listed : Array Bool) : Bool :=
  Region.noSelect l.toArray && decide (n < l.length) && waitB .any l.toArray n (Array.replicate l.length false) && Region.chainB .any l.toArray n && invB l.toArray n listed && mixH .any l.toArray n ks listed
theorem lexH {Q : Exit → Act → World → Prop} {l : List Oper} {listed : Array Bool} {a : Act} {w : World} (g : Nat) (ks : List Nat) (hB : lexHB l n ks listed = true) (hw : C w)
    (h : wpQuiet P l.toArray C (fun a' => anyH P .any l.toArray C n (tailC P Q l n) g (listAll ks listed) a' w) (ks.filterMap fun k => l[k]?) a) : anyH P .any l.toArray C n (tailC P Q l n) (ks.length + g) listed a w := by
  simp only [lexHB, Bool.and_eq_true, decide_eq_true_eq] at hB
  obtain ⟨⟨⟨⟨⟨hsel, hn⟩, hs⟩, hc⟩, hi⟩, hm⟩ := hB
  exact anyH_lex hsel hs hc (by simpa using hn) (fun listed a w hL => seqB_ready hL.1) g w hw ks _ listed a (mixH_ops ks _ hm) (inv_of hi) (fun k hk => by rw [getD_replicate_false] at hk; cases hk) hm h
/-- A region whose head has stores too: quiet ones first. -/
def headB (l : List Oper) (n : Nat) (ks : List Nat) : Bool :=
  Region.noSelect l.toArray && decide (n < l.length) && decide (ks.length ≤ n) && waitB .any l.toArray n (Array.replicate l.length false) && Region.chainB .any l.toArray n && mixH .any l.toArray n ks (Array.replicate l.length false)
theorem wp_region_head {id : Nat} {Q : Exit → Act → World → Prop} {a : Act} {w : World} {l : List Oper} (n : Nat) (ks : List Nat) (hm : P.follows .mixedOrders = true) (hB : headB l n ks = true)
    (h : wpQuiet P l.toArray (fun w' => ∃ p : Regrown, w' = grow (redrawn w p.d) p.os) (fun a' => anyH P .any l.toArray (fun w' => ∃ p : Regrown, w' = grow (redrawn w p.d) p.os) n (tailC P Q l n) (n - ks.length) (listAll ks (Array.replicate l.length false)) a' w.drew) (ks.filterMap fun k => l[k]?) a) :
    (Code.region id l.toArray true).wp P Q a w := by
  simp only [headB, Bool.and_eq_true, decide_eq_true_eq] at hB
  obtain ⟨⟨⟨⟨⟨hsel, hn⟩, hkn⟩, hs⟩, hc⟩, hmix⟩ := hB
  have hn' : n < l.toArray.size := by simpa using hn
  have hdl : (l.drop n).length = l.length - n := by simp
  have inv0 : HeadInv .any l.toArray n (Array.replicate l.length false) :=
    ⟨by simp, fun j oj _ hl => (by rw [getD_replicate_false] at hl; cases hl), fun t _ ht => getD_in (by simpa using ht) (getD_replicate_false _ _)⟩
  have H := anyH_lex (P := P) (md := .any) (L := tailC P Q l n) hsel hs hc hn' (fun listed a w hL => seqB_ready hL.1) (n - ks.length) w.drew ⟨⟨w.drawn + 1, #[]⟩, by rw [grow_empty]; rfl⟩ ks _ _ a (mixH_ops ks _ hmix) inv0 (fun k hk => hk) hmix h
  have G := any_of_H (Q := Q) (g := l.length - n) (fun listed a' w' hL => by
    have := wpAny_of_seq (P := P) (md := .any) (ops := l.toArray) (Q' := Q) (l.drop n) n listed a' w' (fun j => by simp [List.getElem?_drop]) (by rw [hdl]; exact hL.1) hL.2
    rwa [hdl] at this) _ _ _ _ H
  rw [show ks.length + (n - ks.length) + (l.length - n) = l.toArray.size by simp; omega] at G
  refine wp_region_any hm ?_
  simpa using G
end

end Go.Proofs.Ythgnhjkkfhfgmab
