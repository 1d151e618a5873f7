/-
  Several texts in one.
-/
import Derived.Test.YtaejlcanccfmmaaGreatDoorZpa
import Derived.Laws.EntriesVeiled
import Derived.Test.YtaejlcanccfmmaaGreatDoorM9
import Derived.Test.YtaejlcanccfmmaaGreatDoorM12
import Derived.Test.YtaejlcanccfmmaaGreatDoorZpy
import Derived.Test.YtaejlcanccfmmaaGreatDoorM11
import Derived.Test.YtaejlcanccfmmaaGreatDoorM5
import Derived.Maps.AppendAt
namespace Go.Proofs.YtaejlcanccfmmaaGreatDoor
open Go.RowKit
set_option maxRecDepth 100000 in
set_option maxHeartbeats 4000000 in
theorem batchAtIs_any (a x : ByteArray) (a1 a2 : Value) (nb : Nat) (w : World) (hx : w.cell? ⟨nb, 0, none⟩ = some (.string x)) (hnb : nb < w.heap.size) :
    Calls Tryz.prog 97 #[.agg #[.string a, a1, a2], .pointer (some ⟨nb, 0, none⟩)] w fun e w' => e = .returned (.bool (eqB a x)) ∧ Below w.heap.size w w' := by
  have hx' := fun o => cell_past hx hnb o
  go_enter Tryz.func97, Tryz.ntmps97
  go_wp2
  go_ret
  exact ⟨rfl, (Below.refl _ _).alloc (Nat.le_refl _) _⟩
set_option maxRecDepth 100000 in
set_option maxHeartbeats 4000000 in
theorem batchAtIdx_any (S : Nat → Prop) (v : Value) (l : List DShareBatch) (x : ByteArray) (nb : Nat) (w : World) (h : AtL S w l v) (hS : ∀ b, S b → b < w.heap.size) (hx : w.cell? ⟨nb, 0, none⟩ = some (.string x)) (hnb : nb < w.heap.size) :
    Calls Tryz.prog 96 #[v, .func (.func 97) #[] #[.pointer (some ⟨nb, 0, none⟩)]] w fun e w' => e = .returned (.int .i64 (idxI l (fun p : DShareBatch => eqB p.1 x))) ∧ Below w.heap.size w w' := by
  obtain ⟨oa, cap, rfl, hn, hc⟩ := h
  obtain ⟨n, en⟩ : ∃ n, l.length = n := ⟨_, rfl⟩
  rw [en] at hn
  rw [en]
  unfold maxLen at hn
  have HC : Hid _ := hc
  have HX : Hid _ := hx
  clear hc hx
  go_enter Tryz.func96, Tryz.ntmps96
  go_wp2
  go_loopw [8] (fun i wr => ∃ k : Nat, k ≤ n ∧ i = .int .i64 k ∧ Hid (∀ j (hj : j < l.length), j < k → eqB l[j].1 x = false) ∧ Hid (Below w.heap.size w wr)) (fun i _ => n - (intOf i).toNat)
  case atStart => exact ⟨0, Nat.zero_le _, rfl, fun _ _ h => by omega, Below.refl _ _⟩
  case round =>
    obtain ⟨k, hk, rfl, hno, hbel⟩ := hrel
    have hs := hbel.out.size
    by_cases hlt : k < n
    · obtain ⟨b, off, rfl, hbS, ce, hcelle, hate⟩ := HC.out k (by omega)
      have hbb := hS b hbS
      have hbw := hbel.out
      rw [width_DShareBatch] at hcelle
      have e0 : wr.cell? ⟨b, off + k * 3, none⟩ = some (ce 0) := (hbw.cell (p := ⟨b, off + k * 3, none⟩) (by show b < _; omega)).trans (by have hq := hcelle 0 (by omega); first | exact hq | simpa using hq)
      have e1 : wr.cell? ⟨b, off + k * 3 + 1, none⟩ = some (ce 1) := (hbw.cell (p := ⟨b, off + k * 3 + 1, none⟩) (by show b < _; omega)).trans (by have hq := hcelle 1 (by omega); first | exact hq | simpa using hq)
      have e2 : wr.cell? ⟨b, off + k * 3 + 2, none⟩ = some (ce 2) := (hbw.cell (p := ⟨b, off + k * 3 + 2, none⟩) (by show b < _; omega)).trans (by have hq := hcelle 2 (by omega); first | exact hq | simpa using hq)
      clear hcelle
      have hate := Lay.same hate (Same.of_below hbw hS)
      rw [at_DShareBatch] at hate
      obtain ⟨ef, eef⟩ : ∃ f, l[k]'(by omega) = f := ⟨_, rfl⟩
      rw [eef] at hate
      obtain ⟨⟨te0, ze0⟩, le1, le2⟩ := hate
      obtain ⟨soe1, sce1, te1, _⟩ := id le1
      clear le1
      obtain ⟨soe2, sce2, te2, _⟩ := id le2
      clear le2
      rw [te0] at e0
      rw [te1] at e1
      rw [te2] at e2
      clear te0 te1 te2
      clear hbw
      have HXR : Hid (wr.cell? ⟨nb, 0, none⟩ = some (.string x)) := (hbel.out.cell (p := ⟨nb, 0, none⟩) hnb).trans HX.out
      cases hy : eqB ef.1 x
      · go_wp2_with (go_at_call 97; refine (batchAtIs_any _ x _ _ nb _ HXR.out (by omega)).mono ?_; rintro e w1 ⟨rfl, hb1⟩; rw [hy])
        go_roundw
        case rel => exact ⟨k + 1, by omega, by go_num, fun j hj hjk => by
          by_cases e : j = k
          · subst e; rw [eef]; exact hy
          · exact hno.out j hj (by omega), hbel.out.trans (hb1.mono hs)⟩
        case measure => simp [intOf]; omega
      · go_wp2_with (go_at_call 97; refine (batchAtIs_any _ x _ _ nb _ HXR.out (by omega)).mono ?_; rintro e w1 ⟨rfl, hb1⟩; rw [hy])
        rw [idx_yes (k := k) (by omega) (by rw [eef]; exact hy) hno.out]
        go_ret
        exact ⟨rfl, hbel.out.trans (hb1.mono hs)⟩
    · go_wp2
      go_ret
      rw [idx_no (fun j hj => hno.out j hj (by omega))]
      exact ⟨rfl, hbel.out⟩
set_option maxRecDepth 100000 in
set_option maxHeartbeats 4000000 in
theorem batchAtI_any (S : Nat → Prop) (v0 v1 : Value) (l : List DShareBatch) (x : ByteArray) (w : World) (h : AtL S w l v1) (hS : ∀ b, S b → b < w.heap.size) :
    Calls Tryz.prog 76 #[.agg #[v0, v1], .string x] w fun e w' => e = .returned (.int .i64 (idxI l (fun p : DShareBatch => eqB p.1 x))) ∧ Below w.heap.size w w' := by
  have hmf : ∀ (fn : Fn) (first cap : Array Value) (w : World), (Instr.makeFunc fn first cap).run Tryz.prog w = .ok (.func fn first cap) w := fun _ _ _ _ => rfl
  have H : Hid (∀ o1 o2, AtL S ((w.alloc o1).alloc o2) l v1) := fun o1 o2 => h.same (Same.of_below (((Below.refl _ _).alloc (Nat.le_refl _) o1).alloc (by simp) o2) hS)
  have HS : Hid (∀ o1 o2 b, S b → b < ((w.alloc o1).alloc o2).heap.size) := fun o1 o2 b hb => by have := hS b hb; simp; omega
  clear h
  go_enter Tryz.func76, Tryz.ntmps76
  go_wp2_with (go_at_call 96; refine (batchAtIdx_any S v1 l x (w.heap.size + 1) _ (H.out _ _) (HS.out _ _) (by simp) (by simp)).mono ?_; rintro e w1 ⟨rfl, hb1⟩)
  go_ret
  exact ⟨rfl, (((Below.refl _ _).alloc (Nat.le_refl _) _).alloc (by simp) _).trans (hb1.mono (by simp; omega))⟩
end Go.Proofs.YtaejlcanccfmmaaGreatDoor

namespace Go.Proofs.YtaejlcanccfmmaaGreatDoor
open Go.RowKit Go.Sort
def atZI (Bs : List DShareBatch) (x : ByteArray) : Int := idxI Bs (fun f => eqB f.1 x)
theorem at_lt {Bs : List DShareBatch} {x : ByteArray} (h : ¬ atZI Bs x < 0) : ∃ q : Nat, atZI Bs x = (q : Int) ∧ q < Bs.length := by
  unfold atZI idxI at h ⊢
  cases e : Bs.findIdx? (fun f => eqB f.1 x) with
  | none => rw [e] at h; simp at h
  | some i =>
    refine ⟨i, rfl, ?_⟩
    obtain ⟨h1, _⟩ := List.findIdx?_eq_some_iff_getElem.1 e
    exact h1
set_option maxRecDepth 100000 in
set_option maxHeartbeats 8000000 in
theorem atZ_any (S : Nat → Prop) (T : List ByteArray) (Bs : List DShareBatch) (o0 oa : Option Addr) (n0 k0 nb kb : Nat) (x : ByteArray) (w : World) (h0 : AtL S w T (.slice o0 n0 k0)) (h1 : AtL S w Bs (.slice oa nb kb)) (hS : ∀ b, S b → b < w.heap.size) :
    Calls Tryz.prog 18 #[.agg #[.slice o0 n0 k0, .slice oa nb kb], .string x] w fun e w' => e = .returned (.int .i64 (atZI Bs x)) ∧ Below w.heap.size w w' := by
  have enb : Bs.length = nb := by obtain ⟨_, _, e, _⟩ := h1; cases e; rfl
  have hmx : nb ≤ 9223372036854775807 := by obtain ⟨_, _, e, hf, _⟩ := id h1; cases e; have := hf.1; unfold maxLen at this; omega
  have ENB : Hid (Bs.length ≤ nb ∧ nb ≤ Bs.length) := ⟨by omega, by omega⟩
  have H0 : Hid _ := h0.ups hS
  have H1 : Hid _ := h1.ups hS
  have HS : Hid _ := lt_up hS
  obtain ⟨W, EW, BW, RW, sW⟩ := box_new w #[.slice o0 n0 k0, .slice oa nb kb] 26
  clear enb
  have BOX : Hid (∀ u, Below W.heap.size W u → u.heap[w.heap.size]? = some (.cells #[.slice o0 n0 k0, .slice oa nb kb] 26 (0, 0)) ∧ Below w.heap.size w u) := fun u hu => ⟨(hu.block _ (by omega)).trans RW.out, BW.out.trans (hu.mono (by omega))⟩
  go_enter Tryz.func18, Tryz.ntmps18
  go_wp2_with fail
  rw [← EW.out]
  go_loopw [5] (fun i wr => ∃ q : Nat, q ≤ nb ∧ i = .int .i64 q ∧ Hid (∀ j (hj : j < Bs.length), j < q → (fun f : DShareBatch => eqB f.1 x) Bs[j] = false) ∧ Hid (Below W.heap.size W wr)) (fun i _ => nb - (intOf i).toNat)
  case atStart => exact ⟨0, Nat.zero_le _, rfl, fun _ _ h => by omega, Below.refl _ _⟩
  case round =>
    obtain ⟨q, hq, rfl, hall, hbel⟩ := hrel
    have HB := hbel.out
    have bwr := (BOX.out wr HB).2
    have hsz := HB.size
    have y0 := (cell_row (BOX.out wr HB).1 0 (.slice o0 n0 k0) rfl).1
    have y1 := (cell_row (BOX.out wr HB).1 1 (.slice oa nb kb) rfl).1
    by_cases hlt : q < nb
    case neg =>
      go_wp2_with fail
      go_ret
      rw [show atZI Bs x = -1 from idx_no (fun i hi => hall.out i hi (by have := ENB.out; omega))]
      exact ⟨rfl, bwr⟩
    have hqb : q < Bs.length := by have := ENB.out; omega
    obtain ⟨bb, off, o1, n1, k1, o2, n2, k2, rfl, hbS, e0, _, _, _, _, _⟩ := bat_at (H1.out wr bwr) q hqb
    obtain ⟨f, ef⟩ : ∃ f, Bs[q] = f := ⟨_, rfl⟩
    rw [ef] at e0
    cases c0 : (f.1.toList == x.toList)
    · have hp : (fun f : DShareBatch => eqB f.1 x) Bs[q] = false := by rw [ef]; simp [eqB, c0]
      go_wp2_with fail
      go_roundw
      case rel => exact ⟨q + 1, by omega, by go_num, fun j hj hjq => by
        by_cases e : j = q
        · subst e; exact hp
        · exact hall.out j hj (by omega), HB⟩
      case measure => simp [intOf]; omega
    · have hp : (fun f : DShareBatch => eqB f.1 x) Bs[q] = true := by rw [ef]; simp [eqB, c0]
      go_wp2_with fail
      go_ret
      rw [show atZI Bs x = (q : Int) from idx_yes hqb hp (fun j hj hjq => hall.out j hj hjq)]
      exact ⟨rfl, bwr⟩
end Go.Proofs.YtaejlcanccfmmaaGreatDoor

namespace Go.Proofs.YtaejlcanccfmmaaGreatDoor
open Go.RowKit Go.Sort
def fitB (Bs : List DShareBatch) (O : List ByteArray) (i : Nat) : Bool := !(decide (atZI Bs (O[i]?.getD default) < 0)) && !(hasB (O.take i) (O[i]?.getD default)) && canB Bs (atZI Bs (O[i]?.getD default)).toNat (O.take i)
noncomputable def fitsB (D : DShareBook) (O : List ByteArray) : Bool := bokB D && decide (O.length = D.2.length) && (List.range O.length).all (fitB D.2 O)
theorem fits_yes {D : DShareBook} {O : List ByteArray} (h0 : bokB D = true) (h1 : O.length = D.2.length) (h : ∀ i, i < O.length → fitB D.2 O i = true) : fitsB D O = true := by
  unfold fitsB
  have : (List.range O.length).all (fitB D.2 O) = true := by
    rw [List.all_eq_true]
    intro i hi
    exact h i (List.mem_range.1 hi)
  rw [this, h0]; simp [h1]
end Go.Proofs.YtaejlcanccfmmaaGreatDoor

namespace Go.Proofs.YtaejlcanccfmmaaGreatDoor
open Go.RowKit Go.Sort
theorem at_name {Bs : List DShareBatch} {x : ByteArray} {q : Nat} (h : atZI Bs x = (q : Int)) (hq : q < Bs.length) : Bs[q].1 = x := by
  unfold atZI idxI at h
  cases e : Bs.findIdx? (fun f => eqB f.1 x) with
  | none => rw [e] at h; simp only at h; omega
  | some i =>
    rw [e] at h
    simp only at h
    have hi : i = q := by omega
    subst hi
    obtain ⟨_, h1, _⟩ := List.findIdx?_eq_some_iff_getElem.1 e
    exact (eqB_iff _ _).1 h1
end Go.Proofs.YtaejlcanccfmmaaGreatDoor

namespace Go.Proofs.YtaejlcanccfmmaaGreatDoor
open Go.RowKit
section
variable {T : List ByteArray} {Bs : List DShareBatch} {O : List ByteArray}
theorem can_more {a : Nat} {g g' : List ByteArray} (hs : ∀ x ∈ g, x ∈ g') (h : canB Bs a g = true) : canB Bs a g' = true := by
  refine can_yes fun i hi => ?_
  have h1 : inWay Bs a g i = false := by
    cases e : inWay Bs a g i with
    | false => rfl
    | true => rw [can_no hi e] at h; cases h
  unfold inWay at h1 ⊢
  cases e1 : hasB g' (btN Bs i).1 with
  | true => simp
  | false =>
    have e2 : hasB g (btN Bs i).1 = false := by
      cases e3 : hasB g (btN Bs i).1 with
      | false => rfl
      | true => rw [(hasB_iff _ _).2 (hs _ ((hasB_iff _ _).1 e3))] at e1; cases e1
    rw [e2] at h1
    exact h1
theorem at_of (h : BokP (T, Bs)) {q : Nat} (hq : q < Bs.length) : atZI Bs Bs[q].1 = (q : Int) := by
  unfold atZI
  refine idx_yes hq ((eqB_iff _ _).2 rfl) fun j hj hjq => ?_
  cases e : eqB Bs[j].1 Bs[q].1 with
  | false => rfl
  | true => have := bok_names h hj hq ((eqB_iff _ _).1 e); omega
theorem gn_take : ∀ (k i : Nat), i ≤ k → (gnS Bs k).take i = gnS Bs i
  | 0, i, hi => by obtain rfl : i = 0 := by omega
                   rfl
  | k + 1, i, hi => by
    by_cases e : i = k + 1
    · subst e; exact List.take_of_length_le (by rw [gn_len]; omega)
    · rw [gnS, List.take_append_of_le_length (by rw [gn_len]; omega), gn_take k i (by omega)]
theorem gn_at {k i : Nat} (hi : i < k) : (gnS Bs k)[i]? = some (btN Bs (nxtI Bs (gnS Bs i)).toNat).1 := by
  have h1 : ((gnS Bs k).take (i + 1))[i]? = (gnS Bs k)[i]? := by rw [List.getElem?_take]; simp
  rw [← h1, gn_take k (i + 1) (by omega), gnS, List.getElem?_append_right (by rw [gn_len]; exact Nat.le_refl _), gn_len]
  simp
theorem ord_fits (hb : bokB (T, Bs) = true) (hv : Vd Bs Bs.length) : fitsB (T, Bs) (gnS Bs Bs.length) = true := by
  have h := bok_iff.1 hb
  refine fits_yes hb (gn_len _ _) fun i hi => ?_
  rw [gn_len] at hi
  obtain ⟨q, eq, hq, hg, hc⟩ := nxt_free (hv i hi)
  show fitB Bs _ i = true
  unfold fitB
  rw [gn_at hi, gn_take _ _ (Nat.le_of_lt hi), eq, Int.toNat_natCast, btN_at hq]
  simp only [Option.getD_some]
  simp only [at_of h hq, hg, Int.toNat_natCast, hc]
  simp
theorem fit_parts (hf : fitsB (T, Bs) O = true) : bokB (T, Bs) = true ∧ O.length = Bs.length ∧ ∀ i (hi : i < O.length), ∃ q, ∃ hq : q < Bs.length, Bs[q].1 = O[i] ∧ hasB (O.take i) O[i] = false ∧ canB Bs q (O.take i) = true := by
  unfold fitsB at hf
  rw [Bool.and_eq_true, Bool.and_eq_true, decide_eq_true_iff] at hf
  refine ⟨hf.1.1, hf.1.2, fun i hi => ?_⟩
  have h1 := List.all_eq_true.1 hf.2 i (List.mem_range.2 hi)
  change fitB Bs O i = true at h1
  unfold fitB at h1
  rw [List.getElem?_eq_getElem hi] at h1
  simp only [Option.getD_some, Bool.and_eq_true, Bool.not_eq_true', decide_eq_false_iff_not] at h1
  obtain ⟨q, eq, hq⟩ := at_lt h1.1.1
  have h2 := h1.2
  rw [eq, Int.toNat_natCast] at h2
  exact ⟨q, hq, at_name eq hq, h1.1.2, h2⟩
theorem fit_nodup (hf : fitsB (T, Bs) O = true) : O.Nodup := by
  obtain ⟨_, _, h⟩ := fit_parts hf
  refine List.pairwise_iff_getElem.2 fun i j hi hj hij e => ?_
  obtain ⟨q, hq, h1, h2, _⟩ := h j hj
  have : hasB (O.take j) O[j] = true := (hasB_iff _ _).2 (by
    rw [← e]
    exact List.mem_iff_getElem.2 ⟨i, by rw [List.length_take]; omega, by rw [List.getElem_take]⟩)
  rw [this] at h2
  cases h2
theorem fits_go (hf : fitsB (T, Bs) O = true) {k : Nat} (hv : Vd Bs k) (hk : k < Bs.length) : ¬ nxtI Bs (gnS Bs k) < 0 := by
  intro hn
  obtain ⟨hb, hl, hp⟩ := fit_parts hf
  have h := bok_iff.1 hb
  have nd := fit_nodup hf
  obtain ⟨nd2, sub2⟩ := gn_sub h hv
  have ex : ∃ i, ∃ hi : i < O.length, O[i] ∉ gnS Bs k := by
    refine Classical.byContradiction fun hno => ?_
    have hall : ∀ x ∈ O, x ∈ gnS Bs k := fun x hx => by
      obtain ⟨i, hi, rfl⟩ := List.getElem_of_mem hx
      exact Classical.byContradiction fun hc => hno ⟨i, hi, hc⟩
    have := nd.length_le_of_subset (l₂ := gnS Bs k) hall
    rw [gn_len] at this
    omega
  have least : ∃ i, ∃ hi : i < O.length, O[i] ∉ gnS Bs k ∧ ∀ j (hj : j < O.length), j < i → O[j] ∈ gnS Bs k := by
    obtain ⟨i, hi, hx⟩ := ex
    induction i using Nat.strongRecOn with
    | ind i ih =>
      by_cases hh : ∃ j, ∃ hj : j < O.length, j < i ∧ O[j] ∉ gnS Bs k
      · obtain ⟨j, hj, hji, hjx⟩ := hh
        exact ih j hji hj hjx
      · exact ⟨i, hi, hx, fun j hj hji => Classical.byContradiction fun hc => hh ⟨j, hj, hji, hc⟩⟩
  obtain ⟨i, hi, hx, hlow⟩ := least
  obtain ⟨q, hq, h1, _, h3⟩ := hp i hi
  have hc := can_more (g' := gnS Bs k) (fun x hx => by
    obtain ⟨j, hj, rfl⟩ := List.getElem_of_mem hx
    rw [List.getElem_take]
    rw [List.length_take] at hj
    exact hlow j (by omega) (by omega)) h3
  have hfree : freeB Bs (gnS Bs k) q = true := by
    unfold freeB
    rw [btN_at hq, hc, h1]
    have : hasB (gnS Bs k) O[i] = false := by
      cases e : hasB (gnS Bs k) O[i] with
      | false => rfl
      | true => exact absurd ((hasB_iff _ _).1 e) hx
    rw [this]; rfl
  unfold nxtI idxI at hn
  cases e : (List.range Bs.length).findIdx? (freeB Bs (gnS Bs k)) with
  | none =>
    rw [List.findIdx?_eq_none_iff] at e
    have := e q (List.mem_range.2 hq)
    rw [hfree] at this
    cases this
  | some z => rw [e] at hn; simp only at hn; omega
theorem fits_vd (hf : fitsB (T, Bs) O = true) : ∀ k, k ≤ Bs.length → Vd Bs k
  | 0, _ => fun j hj => by omega
  | k + 1, hk => (fits_vd hf k (by omega)).up (fits_go hf (fits_vd hf k (by omega)) (by omega))
theorem fits_safe (hf : fitsB (T, Bs) O = true) : (ordS (T, Bs)).2 = true := by
  rw [ord_end (fit_parts hf).1 (fits_vd hf _ (Nat.le_refl _)) (.inr rfl), if_pos rfl]
theorem ord_stop : ∀ n k, Vd Bs k → k + n = Bs.length → ∃ m, Vd Bs m ∧ m ≤ Bs.length ∧ (nxtI Bs (gnS Bs m) < 0 ∨ m = Bs.length)
  | 0, k, hv, e => ⟨k, hv, by omega, .inr (by omega)⟩
  | n + 1, k, hv, e => by
    by_cases hn : nxtI Bs (gnS Bs k) < 0
    · exact ⟨k, hv, by omega, .inl hn⟩
    · exact ord_stop n (k + 1) (hv.up hn) (by omega)
theorem safe_fits (hs : (ordS (T, Bs)).2 = true) : fitsB (T, Bs) (ordS (T, Bs)).1 = true := by
  have hb : bokB (T, Bs) = true := by
    cases e : bokB (T, Bs) with
    | true => rfl
    | false => unfold ordS at hs; rw [e] at hs; simp at hs
  obtain ⟨m, hv, hm, hend⟩ := ord_stop (Bs := Bs) Bs.length 0 (fun j hj => by omega) (by omega)
  have he := ord_end hb hv hend
  by_cases e : m = Bs.length
  · subst e
    rw [he, if_pos rfl]
    exact ord_fits hb hv
  · rw [he, if_neg e] at hs
    cases hs
end
end Go.Proofs.YtaejlcanccfmmaaGreatDoor

namespace Go.Proofs.YtaejlcanccfmmaaGreatDoor
open Go.RowKit Go.Sort
theorem call1 {P : Program} {md : Region.Mode} {ops : Array Oper} {C : World → Prop} {n f : Nat} {L : Array Bool → Act → World → Prop} {listed : Array Bool} {i dc : Nat} {oc : Oper} {a : Act} {w : World} {fn : FuncId} {args : Array Value}
    (hc : ops[i]? = some oc ∧ oc.guard = none ∧ oc.dst = some dc ∧ i < n) (r0 : Region.ready md ops listed = [i])
    (run : (execOp a.eval oc).run P w = .ok (.enter fn args) w) (con : Calls P fn args w fun e w' => ∃ v, e = .returned v ∧ C w' ∧ anyC P md ops C n L f (listed.setIfInBounds i true) (a.put (some dc) v) w') :
    anyC P md ops C n L (f + 1) listed a w := by
  obtain ⟨hc1, hc2, hc3, hc4⟩ := hc
  refine anyC_call i r0 hc4 ⟨oc, hc1, hc2, fn, args, run, con.mono fun e w' ⟨v, he, hC, hk⟩ => ⟨v, he, hC, ?_⟩⟩
  rw [hc3]; exact hk
end Go.Proofs.YtaejlcanccfmmaaGreatDoor

namespace Go.Proofs.YtaejlcanccfmmaaGreatDoor
open Go.RowKit Go.Sort
theorem own_src4 {base e size n : Nat} {w : World} {v : Value} {xs : List Value} (h : w.ownsRow base e size v n xs) : Src w v n size xs := by
  refine ⟨h.1, ?_⟩
  rcases h.2 with ⟨rfl, hn⟩ | ⟨g, cap, cur, rfl, hb, hg, hc, hm, hs, ht⟩
  · exact .inl ⟨rfl, hn⟩
  · refine .inr ⟨_, _, rfl, fun j u hj => ?_⟩
    rw [add_at, Nat.zero_add]
    have hjl : j < n * size := by
      have := (List.getElem?_eq_some_iff.1 hj).1
      rw [h.1] at this; exact this
    have : cur.toList[j]? = some u := by
      rw [← ht, List.getElem?_take_of_lt hjl] at hj; exact hj
    have e : cur[j]? = some u := by simpa using this
    simp only [World.cell?, hg, e]; rfl
theorem row_shape4 {w : World} {base e size n : Nat} {v : Value} {xs : List Value} (h : w.ownsRow base e size v n xs) : ∃ oa cap, v = .slice oa n cap := by
  rcases h.2 with ⟨rfl, rfl⟩ | ⟨g, cap, cur, rfl, _⟩
  · exact ⟨_, _, rfl⟩
  · exact ⟨_, _, rfl⟩
set_option maxRecDepth 100000 in
set_option maxHeartbeats 4000000 in
theorem namesC_any (S : Nat → Prop) (v : Value) (l : List ByteArray) (w : World) (h : AtL S w l v) (hl : l.length ≤ 1048576) (hS : ∀ b, S b → b < w.heap.size) :
    Calls Tryz.prog 21 #[v] w fun e w' => ∃ r, e = .returned r ∧ Row w' w.heap.size 9 1 eS r l ∧ (∃ g, r.ownBlock = some g) ∧ Below w.heap.size w w' := by
  have hsr : Hid (Src (w.alloc (.cells #[] 9)) v l.length 1 (enc 1 eS l)) := (flatS.src (h.same (Same.of_below ((Below.refl _ _).alloc (Nat.le_refl _) _) hS)))
  have hr0 : Hid (Row (w.alloc (.cells #[] 9)) w.heap.size 9 1 eS (.slice (some ⟨w.heap.size, 0, none⟩) 0 0) []) := Row.made w _ _ _ (Nat.le_refl _)
  have hbl : Hid (Below w.heap.size w (w.alloc (.cells #[] 9))) := (Below.refl _ _).alloc (Nat.le_refl _) _
  clear h
  go_enter Tryz.func21, Tryz.ntmps21
  go_wp2_with (first
    | (at_builtin; refine wpList_app elS rfl _ _ rfl rfl rfl hr0.out hsr.out (flatS.enc_one l) (by unfold maxLen; simp; omega) (by simp; omega) hbl.out.size ?_; intro v' w1 hown hg hbk))
  go_ret
  refine ⟨v', rfl, ?_, by rcases hbk with h | h <;> exact ⟨_, h⟩, hbl.out.grown hg hbl.out.size (fun p hp => by cases hp; exact Nat.le_refl _)⟩
  have := hown
  rw [List.length_nil, Nat.zero_add, enc_nil, List.nil_append] at this
  exact this
theorem alloc_atR {o : Obj} {j : Nat} (W : World) (h : j = W.heap.size) : (W.alloc o).heap[j]? = some o := by subst h; exact heap_alloc_new W o
abbrev HB := ByteArray × (Value × List ByteArray) × (Value × List ByteArray)
def eH (x : HB) (j : Nat) : Value := cs [.string x.1, x.2.1.1, x.2.2.1] j
def dH (x : HB) : DShareBatch := (x.1, x.2.1.2, x.2.2.2)
theorem infB : (Tryz.prog.info? 43).map (fun i => (i.zero, i.size, i.bytes)) = some (some (.agg #[.string ByteArray.empty, .slice none 0 0, .slice none 0 0]), 3, 64) := by kernel_rfl
theorem elB : ElT Tryz.prog 24 43 3 64 := by
  obtain ⟨i0, hi, hz0, hz1, hz2⟩ := info_parts infB
  exact ⟨by kernel_rfl, ⟨i0, _, hi, hz0, hz1, hz2, rfl⟩, by decide⟩
structure HbO (B : Nat) (w : World) (x : HB) : Prop where
  h : Row w B 9 1 eS x.2.1.1 x.2.1.2
  n : Row w B 9 1 eS x.2.2.1 x.2.2.2
  z : x.1.size ≤ maxLen
  zh : ∀ s ∈ x.2.1.2, s.size ≤ maxLen
  zn : ∀ s ∈ x.2.2.2, s.size ≤ maxLen
structure BsO (B : Nat) (w : World) (v1 : Value) (L : List HB) : Prop where
  ro : Row w B 43 3 eH v1 L
  el : ∀ x ∈ L, HbO B w x
structure BkO (B : Nat) (w : World) (v0 v1 : Value) (T : List ByteArray) (L : List HB) : Prop where
  th : Row w B 9 1 eS v0 T
  zt : ∀ s ∈ T, s.size ≤ maxLen
  bs : BsO B w v1 L
  nh : ∀ x ∈ L, ∃ g, x.2.1.1.ownBlock = some g
  em : L = [] → v1 = .slice none 0 0
section
variable {B : Nat} {w w' : World} {v0 v1 : Value} {T : List ByteArray} {L : List HB}
theorem HbO.low {B' : Nat} {x : HB} (h : HbO B w x) (hB : B' ≤ B) : HbO B' w x := ⟨Row.low h.h hB, Row.low h.n hB, h.z, h.zh, h.zn⟩
theorem HbO.below {x : HB} (h : HbO B w x) (hb : Below w.heap.size w w') : HbO B w' x := ⟨Row.below h.h hb, Row.below h.n hb, h.z, h.zh, h.zn⟩
theorem BsO.below (h : BsO B w v1 L) (hb : Below w.heap.size w w') : BsO B w' v1 L := ⟨Row.below h.ro hb, fun x hx => (h.el x hx).below hb⟩
theorem BkO.below (h : BkO B w v0 v1 T L) (hb : Below w.heap.size w w') : BkO B w' v0 v1 T L := ⟨Row.below h.th hb, h.zt, h.bs.below hb, h.nh, h.em⟩
theorem BkO.low {B' : Nat} (h : BkO B w v0 v1 T L) (hB : B' ≤ B) : BkO B' w v0 v1 T L := ⟨Row.low h.th hB, h.zt, ⟨Row.low h.bs.ro hB, fun x hx => (h.bs.el x hx).low hB⟩, h.nh, h.em⟩
theorem strRow_kept {w w' : World} {v : Value} {l : List ByteArray} (h : Row w B 9 1 eS v l) (hk : ∀ (q : Nat) (c : Array Value), w.heap[q]? = some (.cells c 9 (0, 0)) → w'.heap[q]? = w.heap[q]?) : Row w' B 9 1 eS v l :=
  Row.block h fun q hq => by
    obtain ⟨c, hc⟩ := Row.typed h q hq
    exact hk q c hc
theorem HbO.kept {x : HB} (h : HbO B w x) (hk : ∀ (q : Nat) (c : Array Value), w.heap[q]? = some (.cells c 9 (0, 0)) → w'.heap[q]? = w.heap[q]?) : HbO B w' x := ⟨strRow_kept h.h hk, strRow_kept h.n hk, h.z, h.zh, h.zn⟩
theorem str_at {v : Value} {l : List ByteArray} (h : Row w B 9 1 eS v l) (hz : ∀ s ∈ l, s.size ≤ maxLen) : AtL (fun b => B ≤ b ∧ b < w.heap.size) w l v :=
  flatS.row_at h (fun q hq => World.ownsRow.lt h q hq) hz
theorem BsO.at_ (h : BsO B w v1 L) : AtL (fun b => B ≤ b ∧ b < w.heap.size) w (L.map dH) v1 :=
  Row.at_ h.ro dH rfl (fun q hq => World.ownsRow.lt h.ro q hq) (fun x hx => at_DShareBatch.2 ⟨⟨rfl, (h.el x hx).z⟩, str_at (h.el x hx).h (h.el x hx).zh, str_at (h.el x hx).n (h.el x hx).zn⟩)
theorem BkO.at_ (h : BkO B w v0 v1 T L) : AtL (fun b => B ≤ b ∧ b < w.heap.size) w T v0 ∧ AtL (fun b => B ≤ b ∧ b < w.heap.size) w (L.map dH) v1 := ⟨str_at h.th h.zt, h.bs.at_⟩
end
theorem BsO.push {B : Nat} {w u u3 : World} {v1 v' : Value} {L : List HB} {x : HB} (h : BsO B w v1 L) (hb : Below w.heap.size w u) (hx : HbO B u x) (hg : u.grownBy u3 v1.ownBlock) (ho : u3.ownsRow B 43 3 v' (L.length + 1) (enc 3 eH L ++ [.string x.1, x.2.1.1, x.2.2.1])) : BsO B u3 v' (L ++ [x]) := by
  have kp : ∀ (q : Nat) (c : Array Value), u.heap[q]? = some (.cells c 9 (0, 0)) → u3.heap[q]? = u.heap[q]? := fun q c hc => hg.block q (Array.getElem?_eq_some_iff.1 hc).1 (fun e => by
    obtain ⟨c', hc'⟩ := Row.typed (Row.below h.ro hb) q e.symm
    rw [hc] at hc'
    injection hc' with h1
    injection h1 with _ h2
    revert h2
    decide)
  refine ⟨?_, fun y hy => ?_⟩
  · show World.ownsRow _ _ _ _ _ _ _
    rw [List.length_append, enc_append]
    exact ho
  · rcases List.mem_append.1 hy with hy | hy
    · exact ((h.el y hy).below hb).kept kp
    · rw [List.mem_singleton.1 hy]
      exact hx.kept kp
end Go.Proofs.YtaejlcanccfmmaaGreatDoor
