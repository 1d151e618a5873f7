/-
  Several texts in one.
-/
import Derived.Test.YtobchllaopdchabGreatM0
import Derived.Test.YtobchllaopdchabGreatM7
import Derived.Test.YtobchllaopdchabGreatZma
import Derived.Test.YtobchllaopdchabGreatM3
import Derived.Lib.Bytealg
import Derived.Lib.Strings
import Derived.Deep.RegionWith
namespace Go.Proofs.YtobchllaopdchabGreat
open Go.RowKit Go.Sort
theorem rb_at {S : Nat → Prop} {w : World} {Ba : List DRunBatch} {oa : Option Addr} {nb kb : Nat} (h : AtL S w Ba (.slice oa nb kb)) (i : Nat) (hi : i < Ba.length) :
    ∃ (b off : Nat) (o1 o2 : Option Addr) (n1 k1 n2 k2 : Nat), oa = some ⟨b, off, none⟩ ∧ S b ∧ w.cell? ⟨b, off + i * 6, none⟩ = some (.string Ba[i].1) ∧ w.cell? ⟨b, off + i * 6 + 1, none⟩ = some (.slice o1 n1 k1) ∧ w.cell? ⟨b, off + i * 6 + 2, none⟩ = some (.slice o2 n2 k2) ∧ w.cell? ⟨b, off + i * 6 + 3, none⟩ = some (.string Ba[i].2.2.2.1) ∧ w.cell? ⟨b, off + i * 6 + 4, none⟩ = some (.int .i64 Ba[i].2.2.2.2.1) ∧ w.cell? ⟨b, off + i * 6 + 5, none⟩ = some (.int .i64 Ba[i].2.2.2.2.2) ∧
      Ba[i].1.size ≤ maxLen ∧ AtL S w Ba[i].2.1 (.slice o1 n1 k1) ∧ AtL S w Ba[i].2.2.1 (.slice o2 n2 k2) := by
  obtain ⟨_, _, e, _, hc⟩ := h
  obtain ⟨b, off, eo, hbS, cc, hcell, hat⟩ := hc i hi
  rw [width_DRunBatch] at hcell
  obtain ⟨⟨e0, z0⟩, h1, h2, ⟨e3, _⟩, ⟨e4, _, _⟩, ⟨e5, _, _⟩⟩ := at_DRunBatch.1 hat
  obtain ⟨o1, k1, e1, _⟩ := id h1
  obtain ⟨o2, k2, e2, _⟩ := id h2
  cases e
  refine ⟨b, off, o1, o2, _, k1, _, k2, eo, hbS, ?_, (hcell 1 (by omega)).trans (by rw [e1]), (hcell 2 (by omega)).trans (by rw [e2]), (hcell 3 (by omega)).trans (by rw [e3]), (hcell 4 (by omega)).trans (by rw [e4]), (hcell 5 (by omega)).trans (by rw [e5]), z0, by rw [← e1]; exact h1, by rw [← e2]; exact h2⟩
  exact (by have hq := hcell 0 (by omega); first | exact hq | simpa using hq : w.cell? ⟨b, off + i * 6, none⟩ = some (cc 0)).trans (by rw [e0])
theorem rd_at {S : Nat → Prop} {w : World} {Do : List DRunDone} {oa : Option Addr} {nb kb : Nat} (h : AtL S w Do (.slice oa nb kb)) (i : Nat) (hi : i < Do.length) :
    ∃ (b off : Nat), oa = some ⟨b, off, none⟩ ∧ S b ∧ w.cell? ⟨b, off + i * 3, none⟩ = some (.string Do[i].1) ∧ w.cell? ⟨b, off + i * 3 + 1, none⟩ = some (.int .i64 Do[i].2.1) ∧ w.cell? ⟨b, off + i * 3 + 2, none⟩ = some (.int .i64 Do[i].2.2) ∧ Do[i].1.size ≤ maxLen := by
  obtain ⟨_, _, e, _, hc⟩ := h
  obtain ⟨b, off, eo, hbS, cc, hcell, hat⟩ := hc i hi
  rw [width_DRunDone] at hcell
  obtain ⟨⟨e0, z0⟩, ⟨e1, _, _⟩, ⟨e2, _, _⟩⟩ := at_DRunDone.1 hat
  cases e
  refine ⟨b, off, eo, hbS, ?_, (hcell 1 (by omega)).trans (by rw [e1]), (hcell 2 (by omega)).trans (by rw [e2]), z0⟩
  exact (by have hq := hcell 0 (by omega); first | exact hq | simpa using hq : w.cell? ⟨b, off + i * 3, none⟩ = some (cc 0)).trans (by rw [e0])
theorem tx_at {S : Nat → Prop} {w : World} {l : List ByteArray} {oa : Option Addr} {nb kb : Nat} (h : AtL S w l (.slice oa nb kb)) (i : Nat) (hi : i < l.length) :
    ∃ (b off : Nat), oa = some ⟨b, off, none⟩ ∧ S b ∧ w.cell? ⟨b, off + i, none⟩ = some (.string l[i]) := by
  obtain ⟨_, _, e, _, hc⟩ := h
  obtain ⟨b, off, eo, hbS, cc, hcell, hat⟩ := hc i hi
  have e0 := hcell 0 (by decide)
  rw [hat.1] at e0
  cases e
  exact ⟨b, off, eo, hbS, by simpa [width_str] using e0⟩
noncomputable def alkB (a b : List ByteArray) : Bool := @decide (a = b) (Classical.propDecidable _)
theorem alk_yes {a b : List ByteArray} (h : a = b) : alkB a b = true := by unfold alkB; exact @decide_eq_true _ (Classical.propDecidable _) h
theorem alk_no {a b : List ByteArray} (h : ¬ a = b) : alkB a b = false := by unfold alkB; exact @decide_eq_false _ (Classical.propDecidable _) h
theorem alk_iff {a b : List ByteArray} : alkB a b = true ↔ a = b := by unfold alkB; exact @decide_eq_true_iff _ (Classical.propDecidable _)
set_option maxRecDepth 100000 in
set_option maxHeartbeats 8000000 in
theorem alkX_any (S S' : Nat → Prop) (a b : List ByteArray) (o1 o2 : Option Addr) (n1 k1 n2 k2 : Nat) (w : World) (ha : AtL S w a (.slice o1 n1 k1)) (hb : AtL S' w b (.slice o2 n2 k2)) (hS : ∀ q, S q → q < w.heap.size) (hS' : ∀ q, S' q → q < w.heap.size) :
    Calls Tryz.prog 40 #[.slice o1 n1 k1, .slice o2 n2 k2] w fun e w' => e = .returned (.bool (alkB a b)) ∧ Below w.heap.size w w' := by
  have en1 : a.length = n1 := by obtain ⟨_, _, e, _⟩ := ha; cases e; rfl
  have en2 : b.length = n2 := by obtain ⟨_, _, e, _⟩ := hb; cases e; rfl
  have hmx : n1 ≤ 9223372036854775807 := by obtain ⟨_, _, e, hf, _⟩ := id ha; cases e; have := hf.1; unfold maxLen at this; omega
  have E1 : Hid (a.length ≤ n1 ∧ n1 ≤ a.length) := ⟨by omega, by omega⟩
  have E2 : Hid (b.length ≤ n2 ∧ n2 ≤ b.length) := ⟨by omega, by omega⟩
  have HA : Hid (∀ i (hi : i < a.length), ∃ g off, o1 = some ⟨g, off, none⟩ ∧ g < w.heap.size ∧ w.cell? ⟨g, off + i, none⟩ = some (.string a[i])) := fun i hi => by
    obtain ⟨g, off, e, hg, c⟩ := tx_at ha i hi
    exact ⟨g, off, e, hS g hg, c⟩
  have HB : Hid (∀ i (hi : i < b.length), ∃ g off, o2 = some ⟨g, off, none⟩ ∧ g < w.heap.size ∧ w.cell? ⟨g, off + i, none⟩ = some (.string b[i])) := fun i hi => by
    obtain ⟨g, off, e, hg, c⟩ := tx_at hb i hi
    exact ⟨g, off, e, hS' g hg, c⟩
  clear ha hb hS hS' en1 en2
  go_enter Tryz.func40, Tryz.ntmps40
  by_cases hlen : n1 = n2
  case neg =>
    go_wp2_with fail
    go_ret
    rw [alk_no (fun h => hlen (by have := E1.out; have := E2.out; have : a.length = b.length := by rw [h]
                                  omega))]
    exact ⟨rfl, Below.refl _ _⟩
  subst hlen
  go_wp2_with fail
  go_loopw [5] (fun i wr => ∃ k : Nat, k ≤ n1 ∧ i = .int .i64 k ∧ Hid (∀ j (hj : j < a.length) (hj2 : j < b.length), j < k → a[j] = b[j]) ∧ Hid (Below w.heap.size w wr)) (fun i _ => n1 - (intOf i).toNat)
  case atStart => exact ⟨0, Nat.zero_le _, rfl, fun _ _ _ h => by omega, Below.refl _ _⟩
  case round =>
    obtain ⟨k, hk, rfl, hall, hbel⟩ := hrel
    have hs := hbel.out.size
    by_cases hlt : k < n1
    case neg =>
      go_wp2_with fail
      go_ret
      rw [alk_yes (List.ext_getElem (by have := E1.out; have := E2.out; omega) fun i h1 h2 => hall.out i h1 h2 (by have := E1.out; omega))]
      exact ⟨rfl, hbel.out⟩
    have ka : k < a.length := by have := E1.out; omega
    have kb : k < b.length := by have := E2.out; omega
    obtain ⟨g1, f1, rfl, hg1, c1⟩ := HA.out k ka
    obtain ⟨g2, f2, rfl, hg2, c2⟩ := HB.out k kb
    obtain ⟨x, ex⟩ : ∃ x, a[k] = x := ⟨_, rfl⟩
    obtain ⟨y, ey⟩ : ∃ y, b[k] = y := ⟨_, rfl⟩
    rw [ex] at c1
    rw [ey] at c2
    have q1 := fun d os => cell_regrown ((hbel.out.cell (p := ⟨g1, f1 + k, none⟩) hg1).trans c1) d os
    have q2 := fun d os => cell_regrown ((hbel.out.cell (p := ⟨g2, f2 + k, none⟩) hg2).trans c2) d os
    clear c1 c2
    cases c : (x.toList == y.toList)
    · have HN : Hid (¬ a = b) := fun h => by
        have e : a[k] = b[k] := by simp only [h]
        rw [ex, ey] at e
        rw [e] at c
        simp at c
      clear ex ey
      go_wp2_with fail
      refine wp_region_quiet_below (by kernel_rfl) (by kernel_rfl) ?_
      repeat (first | go_big_quiet_step (fail) | quiet_step (fail))
      refine wpQuiet_nil ?_
      intro _ hw'
      obtain ⟨⟨dq, osq⟩, hw''⟩ := hw'
      subst hw''
      go_wp2_with fail
      go_ret
      rw [alk_no HN.out]
      exact ⟨rfl, hbel.out.trans ((below_regrown wr dq osq).mono hs)⟩
    · have HY : Hid (a[k] = b[k]) := by rw [ex, ey]; exact (eqB_iff _ _).1 (by simpa [eqB] using c)
      clear ex ey
      go_wp2_with fail
      refine wp_region_quiet_below (by kernel_rfl) (by kernel_rfl) ?_
      repeat (first | go_big_quiet_step (fail) | quiet_step (fail))
      refine wpQuiet_nil ?_
      intro _ hw'
      obtain ⟨⟨dq, osq⟩, hw''⟩ := hw'
      subst hw''
      go_wp2_with fail
      go_roundw
      case rel => exact ⟨k + 1, by omega, by go_num, fun j h1 h2 hjk => by
        by_cases e : j = k
        · subst e; exact HY.out
        · exact hall.out j h1 h2 (by omega), hbel.out.trans ((below_regrown wr dq osq).mono hs)⟩
      case measure => simp [intOf]; omega
def allB (a b : List ByteArray) : Bool := a.all fun x => hasB b x
set_option maxRecDepth 100000 in
set_option maxHeartbeats 8000000 in
theorem allX_any (S S' : Nat → Prop) (a b : List ByteArray) (o1 o2 : Option Addr) (n1 k1 n2 k2 : Nat) (w : World) (ha : AtL S w a (.slice o1 n1 k1)) (hb : AtL S' w b (.slice o2 n2 k2)) (hS : ∀ q, S q → q < w.heap.size) (hS' : ∀ q, S' q → q < w.heap.size) :
    Calls Tryz.prog 42 #[.slice o1 n1 k1, .slice o2 n2 k2] w fun e w' => e = .returned (.bool (allB a b)) ∧ Below w.heap.size w w' := by
  have en1 : a.length = n1 := by obtain ⟨_, _, e, _⟩ := ha; cases e; rfl
  have hmx : n1 ≤ 9223372036854775807 := by obtain ⟨_, _, e, hf, _⟩ := id ha; cases e; have := hf.1; unfold maxLen at this; omega
  have E1 : Hid (a.length ≤ n1 ∧ n1 ≤ a.length) := ⟨by omega, by omega⟩
  have HA : Hid (∀ i (hi : i < a.length), ∃ g off, o1 = some ⟨g, off, none⟩ ∧ g < w.heap.size ∧ w.cell? ⟨g, off + i, none⟩ = some (.string a[i])) := fun i hi => by
    obtain ⟨g, off, e, hg, c⟩ := tx_at ha i hi
    exact ⟨g, off, e, hS g hg, c⟩
  have HB : Hid _ := hb.ups hS'
  clear ha hb en1 hS hS'
  go_enter Tryz.func42, Tryz.ntmps42
  go_wp2_with fail
  go_loopw [5] (fun i wr => ∃ k : Nat, k ≤ n1 ∧ i = .int .i64 k ∧ Hid (∀ j (hj : j < a.length), j < k → hasB b a[j] = true) ∧ Hid (Below w.heap.size w wr)) (fun i _ => n1 - (intOf i).toNat)
  case atStart => exact ⟨0, Nat.zero_le _, rfl, fun _ _ h => by omega, Below.refl _ _⟩
  case round =>
    obtain ⟨k, hk, rfl, hall, hbel⟩ := hrel
    have hs := hbel.out.size
    by_cases hlt : k < n1
    case neg =>
      go_wp2_with fail
      go_ret
      rw [show allB a b = true from List.all_eq_true.2 fun x hx => by
        obtain ⟨i, hi, rfl⟩ := List.getElem_of_mem hx
        exact hall.out i hi (by have := E1.out; omega)]
      exact ⟨rfl, hbel.out⟩
    have ka : k < a.length := by have := E1.out; omega
    obtain ⟨g1, f1, rfl, hg1, c0⟩ := HA.out k ka
    have c1 := (hbel.out.cell (p := ⟨g1, f1 + k, none⟩) hg1).trans c0
    clear c0
    cases c : hasB b a[k]
    · have HN : Hid (allB a b = false) := by
        show _ = _
        cases h : allB a b with
        | false => rfl
        | true => have := List.all_eq_true.1 h a[k] (List.getElem_mem ka); rw [c] at this; cases this
      obtain ⟨x, ex⟩ : ∃ x, a[k] = x := ⟨_, rfl⟩
      rw [ex] at c1 c
      clear ex
      go_wp2_with fail
      refine (hasZ_any S' _ b x _ (HB.out _ hbel.out)).mono ?_; rintro e w1 ⟨rfl, hb1⟩
      have HB1 : Hid (Below w.heap.size w w1) := hbel.out.trans (hb1.mono hs)
      clear hb1
      rw [c]
      go_wp2_with fail
      go_ret
      rw [HN.out]
      exact ⟨rfl, HB1.out⟩
    · have HY : Hid (hasB b a[k] = true) := c
      obtain ⟨x, ex⟩ : ∃ x, a[k] = x := ⟨_, rfl⟩
      rw [ex] at c1 c
      clear ex
      go_wp2_with fail
      refine (hasZ_any S' _ b x _ (HB.out _ hbel.out)).mono ?_; rintro e w1 ⟨rfl, hb1⟩
      have HB1 : Hid (Below w.heap.size w w1) := hbel.out.trans (hb1.mono hs)
      clear hb1
      rw [c]
      go_wp2_with fail
      go_roundw
      case rel => exact ⟨k + 1, by omega, by go_num, fun j h1 hjk => by
        by_cases e : j = k
        · subst e; exact HY.out
        · exact hall.out j h1 (by omega), HB1.out⟩
      case measure => simp [intOf]; omega
def ofI (Ba : List DRunBatch) (x : ByteArray) : Int := idxI Ba (fun f => eqB f.1 x)
set_option maxRecDepth 100000 in
set_option maxHeartbeats 8000000 in
theorem ofX2_any (S : Nat → Prop) (now last : Int) (v2 v3 v5 : Value) (Ba : List DRunBatch) (oa : Option Addr) (nb kb : Nat) (x : ByteArray) (w : World) (h : AtL S w Ba (.slice oa nb kb)) (hS : ∀ b, S b → b < w.heap.size) :
    Calls Tryz.prog 16 #[.agg #[.int .i64 now, .int .i64 last, v2, v3, .slice oa nb kb, v5], .string x] w fun e w' => e = .returned (.int .i64 (ofI Ba x)) ∧ Below w.heap.size w w' := by
  have en : Ba.length = nb := by obtain ⟨_, _, e, _⟩ := h; cases e; rfl
  have hmx : nb ≤ 9223372036854775807 := by obtain ⟨_, _, e, hf, _⟩ := id h; cases e; have := hf.1; unfold maxLen at this; omega
  have EN : Hid (Ba.length ≤ nb ∧ nb ≤ Ba.length) := ⟨by omega, by omega⟩
  obtain ⟨W, hW⟩ : ∃ W, W = w.alloc (.cells #[.int .i64 now, .int .i64 last, v2, v3, .slice oa nb kb, v5] 38) := ⟨_, rfl⟩
  have EW : Hid (W = w.alloc (.cells #[.int .i64 now, .int .i64 last, v2, v3, .slice oa nb kb, v5] 38)) := hW
  have BW : Hid (Below w.heap.size w W) := by rw [hW]; exact (Below.refl _ _).alloc (Nat.le_refl _) _
  have Y0 : Hid (W.cell? ⟨w.heap.size, 4, none⟩ = some (.slice oa nb kb)) := by rw [hW]; exact box_at _ _ (Below.refl _ _) 4 _ rfl
  have HA : Hid (AtL S W Ba (.slice oa nb kb)) := by rw [hW]; exact h.same (Same.of_below ((Below.refl _ _).alloc (Nat.le_refl _) _) hS)
  clear hW en h
  go_enter Tryz.func16, Tryz.ntmps16
  go_upto_region 1 with fail
  rw [← EW.out]
  go_wp2_with fail
  go_loop [5] (fun i => ∃ q : Nat, q ≤ nb ∧ i = .int .i64 q ∧ Hid (∀ j (hj : j < Ba.length), j < q → (fun f : DRunBatch => eqB f.1 x) Ba[j] = false)) (fun i => nb - (intOf i).toNat)
  case atStart => exact ⟨0, Nat.zero_le _, rfl, fun _ _ h => by omega⟩
  case round =>
    obtain ⟨q, hq, rfl, hall⟩ := hrel
    have y0 := Y0.out
    by_cases hlt : q < nb
    case neg =>
      go_wp2_with fail
      go_ret
      rw [show ofI Ba x = -1 from idx_no (fun i hi => hall.out i hi (by have := EN.out; omega))]
      exact ⟨rfl, BW.out⟩
    have hqb : q < Ba.length := by have := EN.out; omega
    obtain ⟨b, off, _, _, _, _, _, _, rfl, _, e0, _⟩ := rb_at HA.out q hqb
    obtain ⟨f, ef⟩ : ∃ f, Ba[q] = f := ⟨_, rfl⟩
    rw [ef] at e0
    cases c0 : (f.1.toList == x.toList)
    · have hp : (fun f : DRunBatch => eqB f.1 x) Ba[q] = false := by rw [ef]; simp [eqB, c0]
      have HP : Hid _ := hp
      clear hp ef
      go_wp2_with fail
      go_round
      case rel => exact ⟨q + 1, by omega, by go_num, fun j hj hjq => by
        by_cases e : j = q
        · subst e; exact HP.out
        · exact hall.out j hj (by omega)⟩
      case measure => simp [intOf]; omega
    · have hp : (fun f : DRunBatch => eqB f.1 x) Ba[q] = true := by rw [ef]; simp [eqB, c0]
      have HP : Hid (ofI Ba x = (q : Int)) := idx_yes hqb hp (fun j hj hjq => hall.out j hj hjq)
      clear hp ef
      go_wp2_with fail
      go_ret
      rw [HP.out]
      exact ⟨rfl, BW.out⟩
end Go.Proofs.YtobchllaopdchabGreat

namespace Go.Proofs.YtobchllaopdchabGreat
open Go.RowKit Go.Sort
structure DoneP (now : Int) (Do : List DRunDone) (i : Nat) (h : i < Do.length) : Prop where
  name : nameB Do[i].1 = true
  fin : inB Do[i].2.1 1 3 = true
  tick : inB Do[i].2.2 0 now = true
  asc : ∀ m (hm : m < Do.length), i = m + 1 → Do[m].2.2 ≤ Do[i].2.2
structure DonP (now : Int) (Do : List DRunDone) : Prop where
  len : Do.length ≤ 20
  row : ∀ i (h : i < Do.length), DoneP now Do i h
noncomputable def donB (now : Int) (Do : List DRunDone) : Bool := @decide (DonP now Do) (Classical.propDecidable _)
theorem don_yes {now : Int} {Do : List DRunDone} (h : DonP now Do) : donB now Do = true := by unfold donB; exact @decide_eq_true _ (Classical.propDecidable _) h
theorem don_no {now : Int} {Do : List DRunDone} (h : ¬ DonP now Do) : donB now Do = false := by unfold donB; exact @decide_eq_false _ (Classical.propDecidable _) h
theorem don_iff {now : Int} {Do : List DRunDone} : donB now Do = true ↔ DonP now Do := by unfold donB; exact @decide_eq_true_iff _ (Classical.propDecidable _)
set_option maxRecDepth 100000 in
set_option maxHeartbeats 8000000 in
theorem donX_any (S : Nat → Prop) (now last : Int) (o2 o3 o4 o5 : Option Addr) (n2 k2 n3 k3 n4 k4 n5 k5 : Nat) (Do : List DRunDone) (w : World) (h : AtL S w Do (.slice o5 n5 k5)) (hS : ∀ b, S b → b < w.heap.size) :
    Calls Tryz.prog 14 #[.agg #[.int .i64 now, .int .i64 last, .slice o2 n2 k2, .slice o3 n3 k3, .slice o4 n4 k4, .slice o5 n5 k5]] w fun e w' => e = .returned (.bool (donB now Do)) ∧ Below w.heap.size w w' := by
  have en : Do.length = n5 := by obtain ⟨_, _, e, _⟩ := h; cases e; rfl
  have hmx : n5 ≤ 9223372036854775807 := by obtain ⟨_, _, e, hf, _⟩ := id h; cases e; have := hf.1; unfold maxLen at this; omega
  have EN : Hid (Do.length ≤ n5 ∧ n5 ≤ Do.length) := ⟨by omega, by omega⟩
  have ROW : Hid (∀ i (hi : i < Do.length), ∃ b off, o5 = some ⟨b, off, none⟩ ∧ b < w.heap.size ∧ w.cell? ⟨b, off + i * 3, none⟩ = some (.string Do[i].1) ∧ w.cell? ⟨b, off + i * 3 + 1, none⟩ = some (.int .i64 Do[i].2.1) ∧ w.cell? ⟨b, off + i * 3 + 2, none⟩ = some (.int .i64 Do[i].2.2) ∧ Do[i].1.size ≤ maxLen) := fun i hi => by
    obtain ⟨b, off, e, hb, c⟩ := rd_at h i hi
    exact ⟨b, off, e, hS b hb, c⟩
  obtain ⟨W, EW, BW, RW, sW⟩ := box_new w #[.int .i64 now, .int .i64 last, .slice o2 n2 k2, .slice o3 n3 k3, .slice o4 n4 k4, .slice o5 n5 k5] 38
  have BOX : Hid (∀ u, Below W.heap.size W u → u.heap[w.heap.size]? = some (.cells #[.int .i64 now, .int .i64 last, .slice o2 n2 k2, .slice o3 n3 k3, .slice o4 n4 k4, .slice o5 n5 k5] 38 (0, 0)) ∧ Below w.heap.size w u) := fun u hu => ⟨(hu.block _ (by omega)).trans RW.out, BW.out.trans (hu.mono (by omega))⟩
  clear h hS en
  have YES : Hid (DonP now Do → donB now Do = true) := don_yes
  have NO : Hid (¬ DonP now Do → donB now Do = false) := don_no
  have y0 := (cell_row RW.out 4 _ rfl).1
  have y5 := (cell_row RW.out 5 _ rfl).1
  go_enter Tryz.func14, Tryz.ntmps14
  go_upto_region 1 with fail
  rw [← EW.out]
  by_cases hl : n5 ≤ 20
  case neg =>
    have d0 : decide ((20 : Int) < (n5 : Int)) = true := decide_eq_true (by omega)
    go_wp2_with fail
    go_ret
    rw [NO.out (fun h => hl (by have := h.len; have := EN.out; omega))]
    exact ⟨rfl, BW.out⟩
  have d0 : decide ((20 : Int) < (n5 : Int)) = false := decide_eq_false (by omega)
  go_wp2_with fail
  clear d0 y0 y5
  go_loopw [3] (fun i wr => ∃ k : Nat, k ≤ n5 ∧ i = .int .i64 k ∧ Hid (∀ j (hj : j < Do.length), j < k → DoneP now Do j hj) ∧ Hid (Below W.heap.size W wr)) (fun i _ => n5 - (intOf i).toNat)
  case atStart => exact ⟨0, Nat.zero_le _, rfl, fun _ _ h => by omega, Below.refl _ _⟩
  case round =>
    obtain ⟨k, hk, rfl, hall, hbel⟩ := hrel
    have hs := hbel.out.size
    have BX := BOX.out wr hbel.out
    have BWR : Hid (Below w.heap.size w wr) := BX.2
    have y5 := (cell_row BX.1 5 _ rfl).1
    by_cases hlt : k < n5
    case neg =>
      go_wp2_with fail
      go_ret
      rw [YES.out ⟨by have := EN.out; omega, fun i hi => hall.out i hi (by have := EN.out; omega)⟩]
      exact ⟨rfl, BWR.out⟩
    have hks : k < Do.length := by have := EN.out; omega
    obtain ⟨b, off, rfl, hb, c0, c1, c2, z0⟩ := ROW.out k hks
    obtain ⟨f, ef⟩ : ∃ f, Do[k] = f := ⟨_, rfl⟩
    rw [ef] at c0 c1 c2 z0
    obtain ⟨nm, fi, ti⟩ := f
    simp only at c0 c1 c2 z0
    have EF : Hid (Do[k] = (nm, fi, ti)) := ef
    have e0 := (BWR.out.cell (p := ⟨b, off + k * 3, none⟩) hb).trans c0
    have e1 := (BWR.out.cell (p := ⟨b, off + k * 3 + 1, none⟩) hb).trans c1
    have e2 := (BWR.out.cell (p := ⟨b, off + k * 3 + 2, none⟩) hb).trans c2
    have HZ : Hid (nm.size ≤ maxLen) := z0
    obtain ⟨X, hX⟩ : ∃ X, X = wr.alloc (.cells #[.string nm, .int .i64 fi, .int .i64 ti] 72) := ⟨_, rfl⟩
    have EX : Hid (X = wr.alloc (.cells #[.string nm, .int .i64 fi, .int .i64 ti] 72)) := hX
    have BXX : Hid (Below W.heap.size W X) := by rw [hX]; exact hbel.out.alloc hs _
    have RX : Hid (X.heap[wr.heap.size]? = some (.cells #[.string nm, .int .i64 fi, .int .i64 ti] 72 (0, 0))) := by rw [hX]; exact heap_alloc_new wr _
    have BD := BOX.out X BXX.out
    have BDX : Hid (Below w.heap.size w X) := BD.2
    have qh0 := fun d os => cell_regrown (cell_row BD.1 0 _ rfl).1 d os
    have qh5 := fun d os => cell_regrown (cell_row BD.1 5 _ rfl).1 d os
    have qx0 := fun d os => cell_regrown (cell_row RX.out 0 _ rfl).1 d os
    have qx1 := fun d os => cell_regrown (cell_row RX.out 1 _ rfl).1 d os
    have qx2 := fun d os => cell_regrown (cell_row RX.out 2 _ rfl).1 d os
    clear c0 c1 c2 z0 ef hX
    go_upto_region 7 with fail
    rw [← EX.out]
    clear e0 e1 e2 y5
    cases c0 : nameB nm
    · have HP : Hid (¬ DonP now Do) := fun h => by
        have := (h.row k hks).name
        rw [EF.out] at this
        simp only at this
        rw [c0] at this
        cases this
      go_wp2_with fail
      refine wp_region_quiet_below (by kernel_rfl) (by kernel_rfl) ?_
      repeat (first | go_big_quiet_step (first | (with_reducible exact nameX_q _ _ HZ.out _ c0 _ _)) | quiet_step (first | (with_reducible exact nameX_q _ _ HZ.out _ c0 _ _)))
      refine wpQuiet_nil ?_
      intro _ hw'
      obtain ⟨⟨dq, osq⟩, hw''⟩ := hw'
      subst hw''
      go_wp2_with fail
      go_ret
      rw [NO.out HP.out]
      exact ⟨rfl, BDX.out.trans ((below_regrown X dq osq).mono BDX.out.size)⟩
    cases c1 : inB fi 1 3
    · have HP : Hid (¬ DonP now Do) := fun h => by
        have := (h.row k hks).fin
        rw [EF.out] at this
        simp only at this
        rw [c1] at this
        cases this
      go_wp2_with fail
      refine wp_region_quiet_below (by kernel_rfl) (by kernel_rfl) ?_
      repeat (first | go_big_quiet_step (first | (with_reducible exact nameX_q _ _ HZ.out _ c0 _ _) | (with_reducible exact inX_q _ _ _ _ _ c1 _ _)) | quiet_step (first | (with_reducible exact nameX_q _ _ HZ.out _ c0 _ _) | (with_reducible exact inX_q _ _ _ _ _ c1 _ _)))
      refine wpQuiet_nil ?_
      intro _ hw'
      obtain ⟨⟨dq, osq⟩, hw''⟩ := hw'
      subst hw''
      go_wp2_with fail
      go_ret
      rw [NO.out HP.out]
      exact ⟨rfl, BDX.out.trans ((below_regrown X dq osq).mono BDX.out.size)⟩
    cases c2 : inB ti 0 now
    · have HP : Hid (¬ DonP now Do) := fun h => by
        have := (h.row k hks).tick
        rw [EF.out] at this
        simp only at this
        rw [c2] at this
        cases this
      go_wp2_with fail
      refine wp_region_quiet_below (by kernel_rfl) (by kernel_rfl) ?_
      repeat (first | go_big_quiet_step (first | (with_reducible exact nameX_q _ _ HZ.out _ c0 _ _) | (with_reducible exact inX_q _ _ _ _ _ c1 _ _) | (with_reducible exact inX_q _ _ _ _ _ c2 _ _)) | quiet_step (first | (with_reducible exact nameX_q _ _ HZ.out _ c0 _ _) | (with_reducible exact inX_q _ _ _ _ _ c1 _ _) | (with_reducible exact inX_q _ _ _ _ _ c2 _ _)))
      refine wpQuiet_nil ?_
      intro _ hw'
      obtain ⟨⟨dq, osq⟩, hw''⟩ := hw'
      subst hw''
      go_wp2_with fail
      go_ret
      rw [NO.out HP.out]
      exact ⟨rfl, BDX.out.trans ((below_regrown X dq osq).mono BDX.out.size)⟩
    rcases Nat.eq_zero_or_pos k with rfl | hpos
    · have HD : Hid (DoneP now Do 0 hks) := ⟨by rw [EF.out]; exact c0, by rw [EF.out]; exact c1, by rw [EF.out]; exact c2, fun m hm e => by omega⟩
      go_wp2_with fail
      refine wp_region_quiet_below (by kernel_rfl) (by kernel_rfl) ?_
      repeat (first | go_big_quiet_step (first | (with_reducible exact nameX_q _ _ HZ.out _ c0 _ _) | (with_reducible exact inX_q _ _ _ _ _ c1 _ _) | (with_reducible exact inX_q _ _ _ _ _ c2 _ _)) | quiet_step (first | (with_reducible exact nameX_q _ _ HZ.out _ c0 _ _) | (with_reducible exact inX_q _ _ _ _ _ c1 _ _) | (with_reducible exact inX_q _ _ _ _ _ c2 _ _)))
      refine wpQuiet_nil ?_
      intro _ hw'
      obtain ⟨⟨dq, osq⟩, hw''⟩ := hw'
      subst hw''
      go_wp2_with fail
      go_roundw
      case rel => exact ⟨0 + 1, by omega, by go_num, fun j hj hjk => by
        by_cases e : j = 0
        · subst e; exact HD.out
        · exact hall.out j hj (by omega), BXX.out.trans ((below_regrown X dq osq).mono BXX.out.size)⟩
      case measure => simp [intOf]; omega
    · obtain ⟨m, rfl⟩ : ∃ m, k = m + 1 := ⟨k - 1, by omega⟩
      have hms : m < Do.length := by omega
      obtain ⟨_, _, eo, _, _, _, d2, _⟩ := ROW.out m hms
      cases eo
      obtain ⟨pt, ept⟩ : ∃ p, Do[m].2.2 = p := ⟨_, rfl⟩
      rw [ept] at d2
      have EP : Hid (Do[m].2.2 = pt) := ept
      have qp := fun d os => cell_regrown ((BDX.out.cell (p := ⟨b, off + m * 3 + 2, none⟩) hb).trans d2) d os
      have gt0 : decide ((0 : Int) < ((m : Int) + 1)) = true := by rw [decide_eq_true_eq]; omega
      clear d2 ept
      by_cases c3 : ti < pt
      · have HP : Hid (¬ DonP now Do) := fun h => by
          have := (h.row (m + 1) hks).asc m hms rfl
          rw [EF.out, EP.out] at this
          simp only at this
          omega
        go_wp2_with fail
        refine wp_region_quiet_below (by kernel_rfl) (by kernel_rfl) ?_
        repeat (first | go_big_quiet_step (first | (with_reducible exact nameX_q _ _ HZ.out _ c0 _ _) | (with_reducible exact inX_q _ _ _ _ _ c1 _ _) | (with_reducible exact inX_q _ _ _ _ _ c2 _ _)) | quiet_step (first | (with_reducible exact nameX_q _ _ HZ.out _ c0 _ _) | (with_reducible exact inX_q _ _ _ _ _ c1 _ _) | (with_reducible exact inX_q _ _ _ _ _ c2 _ _)))
        refine wpQuiet_nil ?_
        intro _ hw'
        obtain ⟨⟨dq, osq⟩, hw''⟩ := hw'
        subst hw''
        go_wp2_with fail
        go_ret
        rw [NO.out HP.out]
        exact ⟨rfl, BDX.out.trans ((below_regrown X dq osq).mono BDX.out.size)⟩
      · have HD : Hid (DoneP now Do (m + 1) hks) := ⟨by rw [EF.out]; exact c0, by rw [EF.out]; exact c1, by rw [EF.out]; exact c2, fun m' hm e => by
          obtain rfl : m' = m := by omega
          rw [EF.out, EP.out]; show pt ≤ ti; omega⟩
        go_wp2_with fail
        refine wp_region_quiet_below (by kernel_rfl) (by kernel_rfl) ?_
        repeat (first | go_big_quiet_step (first | (with_reducible exact nameX_q _ _ HZ.out _ c0 _ _) | (with_reducible exact inX_q _ _ _ _ _ c1 _ _) | (with_reducible exact inX_q _ _ _ _ _ c2 _ _)) | quiet_step (first | (with_reducible exact nameX_q _ _ HZ.out _ c0 _ _) | (with_reducible exact inX_q _ _ _ _ _ c1 _ _) | (with_reducible exact inX_q _ _ _ _ _ c2 _ _)))
        refine wpQuiet_nil ?_
        intro _ hw'
        obtain ⟨⟨dq, osq⟩, hw''⟩ := hw'
        subst hw''
        go_wp2_with fail
        go_roundw
        case rel => exact ⟨m + 1 + 1, by omega, by go_num, fun j hj hjk => by
          by_cases e : j = m + 1
          · subst e; exact HD.out
          · exact hall.out j hj (by omega), BXX.out.trans ((below_regrown X dq osq).mono BXX.out.size)⟩
        case measure => simp [intOf]; omega
end Go.Proofs.YtobchllaopdchabGreat

namespace Go.Proofs.YtobchllaopdchabGreat
open Go.RowKit
theorem insR_fresh : ∀ (l : List ByteArray) (x : ByteArray), x ∉ l → (insR l x).length = l.length + 1
  | [], x, _ => by simp [insR]
  | y :: l, x, h => by
    have h1 : x ≠ y := fun e => h (by simp [e])
    have h2 := insR_fresh l x (fun e => h (by simp [e]))
    have h3 : eqB y x = false := by
      cases c : eqB y x with
      | false => rfl
      | true => exact absurd ((eqB_iff _ _).1 c).symm h1
    unfold insR
    cases c : ltB y x
    · simp [h3]
    · simp [h2]
theorem insR_old {l : List ByteArray} {x : ByteArray} (ha : AscL l) (h : x ∈ l) : insR l x = l :=
  asc_unique _ _ (ins_asc l x ha) ha fun y => by
    rw [ins_mem]
    exact ⟨fun h' => h'.elim id (fun e => e ▸ h), Or.inl⟩
theorem both_full : ∀ (b a : List ByteArray), AscL a → ((bothL a b).length = a.length + b.length ↔ b.Nodup ∧ ∀ y ∈ b, y ∉ a)
  | [], a, _ => by simp [bothL]
  | x :: b, a, ha => by
    have e : bothL a (x :: b) = bothL (insR a x) b := rfl
    have ih := both_full b (insR a x) (ins_asc a x ha)
    have hle := both_len b (insR a x)
    rw [e, List.length_cons, List.nodup_cons]
    by_cases hx : x ∈ a
    · have := insR_old ha hx
      rw [this] at hle ⊢
      refine ⟨fun h => by omega, fun h => absurd hx (h.2 x (by simp))⟩
    · have hl := insR_fresh a x hx
      rw [hl] at ih
      rw [show a.length + (b.length + 1) = a.length + 1 + b.length by omega, ih]
      constructor
      · rintro ⟨h1, h2⟩
        refine ⟨⟨fun hb => h2 x hb ((ins_mem a x x).2 (Or.inr rfl)), h1⟩, fun y hy => ?_⟩
        rcases List.mem_cons.1 hy with rfl | hy
        · exact hx
        · exact fun hya => h2 y hy ((ins_mem a x y).2 (Or.inl hya))
      · rintro ⟨⟨h1, h2⟩, h3⟩
        refine ⟨h2, fun y hy hya => ?_⟩
        rcases (ins_mem a x y).1 hya with h | rfl
        · exact h3 y (by simp [hy]) h
        · exact h1 hy
def EqP (L : List ByteArray) (sl : List DRunSlot) : Prop := sl.length = L.length ∧ ∀ i (h : i < sl.length), eqB sl[i].1 (nthB L i) = true ∧ nameB sl[i].2 = true
theorem EqP.fst {L : List ByteArray} {sl : List DRunSlot} (h : EqP L sl) : sl.map (·.1) = L := by
  refine List.ext_getElem (by first | exact h.1 | (simp; done) | simpa using h.1) fun i h1 h2 => ?_
  have := (h.2 i (by first | exact h1 | (simp; done) | simpa using h1)).1
  rw [nth_is h2] at this
  simpa using (eqB_iff _ _).1 this
theorem EqP.dist {L : List ByteArray} {sl : List DRunSlot} (h : EqP L sl) (ha : AscL L) : (sl.map (·.1)).Nodup := by rw [h.fst]; exact ha.nodup
theorem EqP.snd {L : List ByteArray} {sl : List DRunSlot} (h : EqP L sl) (ha : AscL L) : L.map (thT sl) = sl.map (·.2) := by
  rw [← h.fst, List.map_map]
  refine List.ext_getElem (by simp) fun i h1 h2 => ?_
  have hi : i < sl.length := by first | exact h2 | (simp; done) | simpa using h2
  simp only [List.getElem_map, Function.comp]
  exact thT_at (h.dist ha) hi
theorem nodup_others {sl : List DRunSlot} : (sl.map (·.2)).Nodup ↔ ∀ i (h : i < sl.length) k (hk : k < sl.length), k < i → eqB sl[k].2 sl[i].2 = false := by
  constructor
  · intro h i hi k hk hki
    cases c : eqB sl[k].2 sl[i].2 with
    | false => rfl
    | true =>
      have h1 := (List.pairwise_iff_getElem.1 h) k i (by first | exact hk | (simp; done) | simpa using hk) (by first | exact hi | (simp; done) | simpa using hi) hki
      exact absurd ((eqB_iff _ _).1 c) (by first | exact h1 | (simp; done) | simpa using h1)
  · intro h
    refine List.pairwise_iff_getElem.2 fun k i hk hi hki => ?_
    have := h i (by first | exact hi | (simp; done) | simpa using hi) k (by first | exact hk | (simp; done) | simpa using hk) hki
    simp only [List.getElem_map]
    exact fun e => by rw [(eqB_iff _ _).2 e] at this; cases this
theorem sl_two {L : List ByteArray} {sl : List DRunSlot} (ha : AscL L) : SlP L sl ↔ EqP L sl ∧ (thL sl L).length = L.length := by
  have key : ∀ h : EqP L sl, ((thL sl L).length = L.length ↔ (sl.map (·.2)).Nodup) := fun h => by
    have := both_full (L.map (thT sl)) [] List.Pairwise.nil
    rw [h.snd ha] at this
    unfold thL
    rw [h.snd ha, ← h.1]
    simpa using this
  constructor
  · intro h
    have he : EqP L sl := ⟨h.len.symm, fun i hi => ⟨(h.row i hi).slot, (h.row i hi).name⟩⟩
    exact ⟨he, (key he).2 (nodup_others.2 fun i hi k hk hki => (h.row i hi).other k hk hki)⟩
  · rintro ⟨he, hl⟩
    have hn := nodup_others.1 ((key he).1 hl)
    exact ⟨he.1.symm, fun i hi => ⟨(he.2 i hi).1, (he.2 i hi).2, fun k hk hki => hn i hi k hk hki⟩⟩
theorem slB_two (r : List DRecPhase) (sl : List DRunSlot) : slB r sl = true ↔ EqP (sltF 12 r (fstN r)) sl ∧ (thL sl (sltF 12 r (fstN r))).length = (sltF 12 r (fstN r)).length :=
  sl_iff.trans (sl_two (slt_asc r 12 _))
end Go.Proofs.YtobchllaopdchabGreat

namespace Go.Proofs.YtobchllaopdchabGreat
open Go.RowKit
theorem okn_cases (r : Int) : (r < 45 ∧ okn r = false) ∨ (r = 45 ∧ okn r = true) ∨ ((45 < r ∧ r < 48) ∧ okn r = false) ∨ ((48 ≤ r ∧ r ≤ 57) ∧ okn r = true) ∨ ((57 < r ∧ r < 97) ∧ okn r = false) ∨ ((97 ≤ r ∧ r ≤ 122) ∧ okn r = true) ∨ (122 < r ∧ okn r = false) := by
  simp only [okn, decide_eq_true_eq, decide_eq_false_iff_not]; omega
set_option maxHeartbeats 1000000 in
theorem okn_any (r : Int) (w : World) : Calls Tryz.prog 86 #[.int .i32 r] w fun e w' => e = .returned (.bool (okn r)) ∧ w' = w := by
  rcases okn_cases r with ⟨h, ho⟩ | ⟨h, ho⟩ | ⟨⟨h, h'⟩, ho⟩ | ⟨⟨h, h'⟩, ho⟩ | ⟨⟨h, h'⟩, ho⟩ | ⟨⟨h, h'⟩, ho⟩ | ⟨h, ho⟩
  · have h45 : (r == 45) = false := by simp; omega
    rw [ho]
    go_enter Tryz.func86, Tryz.ntmps86
    go_wp2
    go_ret
    exact ⟨rfl, rfl⟩
  · subst h
    rw [ho]
    go_enter Tryz.func86, Tryz.ntmps86
    go_wp2
    go_ret
    exact ⟨rfl, rfl⟩
  · have h45 : (r == 45) = false := by simp; omega
    rw [ho]
    go_enter Tryz.func86, Tryz.ntmps86
    go_wp2
    go_ret
    exact ⟨rfl, rfl⟩
  · have h45 : (r == 45) = false := by simp; omega
    rw [ho]
    go_enter Tryz.func86, Tryz.ntmps86
    go_wp2
    go_ret
    exact ⟨rfl, rfl⟩
  · have h45 : (r == 45) = false := by simp; omega
    have d57 : decide (r ≤ 57) = false := by simp; omega
    rw [ho]
    go_enter Tryz.func86, Tryz.ntmps86
    go_wp2
    go_ret
    exact ⟨rfl, rfl⟩
  · have h45 : (r == 45) = false := by simp; omega
    rw [ho]
    go_enter Tryz.func86, Tryz.ntmps86
    go_wp2
    go_ret
    exact ⟨rfl, rfl⟩
  · have h45 : (r == 45) = false := by simp; omega
    have d57 : decide (r ≤ 57) = false := by simp; omega
    have d122 : decide (r ≤ 122) = false := by simp; omega
    rw [ho]
    go_enter Tryz.func86, Tryz.ntmps86
    go_wp2
    go_ret
    exact ⟨rfl, rfl⟩
theorem rune_okn (t : ByteArray) (pos : Nat) (h : pos < t.size) : ∃ (r : Int) (wd : Nat), ((Utf8.decode t pos).1 : Int) = r ∧ (Utf8.decode t pos).2 = wd ∧ okn r = okn (t[pos].toNat : Int) ∧ (okn r = true → wd = 1) := by
  by_cases ha : (t[pos]'h).toNat < 128
  · refine ⟨_, _, rfl, rfl, ?_, fun _ => ?_⟩
    · rw [decode_ascii t pos h ha]
    · rw [decode_ascii t pos h ha]
  · have hh := decode_high t pos h (by omega)
    have e1 : okn ((Utf8.decode t pos).1 : Int) = false := by simp [okn]; omega
    have e2 : okn (t[pos].toNat : Int) = false := by simp [okn]; omega
    exact ⟨_, _, rfl, rfl, e1.trans e2.symm, fun h => by rw [e1] at h; cases h⟩
set_option maxRecDepth 100000 in
set_option maxHeartbeats 1000000 in
theorem nameI_any (s : ByteArray) (w : World) (hs : s.size ≤ maxLen) : Calls Tryz.prog 50 #[.string s] w fun e w' => e = .returned (.bool (nameB s)) ∧ Below w.heap.size w w' := by
  unfold maxLen at hs
  by_cases hl : 1 ≤ s.size ∧ s.size ≤ 8
  · have d1 : decide ((s.size : Int) < 1) = false := by simp; omega
    have d2 : decide ((8 : Int) < (s.size : Int)) = false := by simp; omega
    go_enter Tryz.func50, Tryz.ntmps50
    go_wp2
    go_loopw [4] (fun _ wr => ∃ pos : Nat, pos ≤ s.size ∧ wr = w.iter s pos ∧ Hid (∀ j (hj : j < s.size), j < pos → okn s[j].toNat = true)) (fun _ wr => s.size - wr.iterPos w.heap.size)
    case atStart => exact ⟨0, Nat.zero_le _, rfl, fun _ _ h => by omega⟩
    case round =>
      obtain ⟨pos, hpos, rfl, hno⟩ := hrel
      by_cases hp : pos < s.size
      · obtain ⟨r, wd, hr1, hr2, hr3, hr4⟩ := rune_okn s pos hp
        have hnx : ∀ ty, (Instr.next (.pointer (some ⟨w.heap.size, 0, none⟩)) true ty).run Tryz.prog (w.iter s pos) = .ok (.tuple #[.bool true, .int .i64 pos, .int .i32 r]) (w.iter s (pos + wd)) := fun ty => by
          rw [run_next_any w s pos ty hp, hr1, hr2]
        clear hr1 hr2
        have H3 : Hid _ := hr3
        have H4 : Hid _ := hr4
        clear hr3 hr4
        cases hok : okn r
        · have hnb := name_bad hp (by rw [← H3.out]; exact hok)
          have HN : Hid _ := hnb
          clear hnb
          go_wp2_with (go_at_call 86; refine (okn_any _ _).mono ?_; rintro e w1 ⟨rfl, rfl⟩; rw [hok])
          rw [HN.out]
          go_ret
          exact ⟨rfl, (Below.refl _ w).alloc (Nat.le_refl _) _⟩
        · have hw1 := H4.out hok
          subst hw1
          go_wp2_with (go_at_call 86; refine (okn_any _ _).mono ?_; rintro e w1 ⟨rfl, rfl⟩; rw [hok])
          go_roundw
          case rel => exact ⟨pos + 1, by omega, rfl, fun j hj hjp => by
            by_cases e : j = pos
            · subst e; rw [← H3.out]; exact hok
            · exact hno.out j hj (by omega)⟩
          case measure => simp; omega
      · have hnx : ∀ ty, (Instr.next (.pointer (some ⟨w.heap.size, 0, none⟩)) true ty).run Tryz.prog (w.iter s pos) = .ok (.tuple #[.bool false]) (w.iter s pos) := fun ty => run_next_end w s pos ty hp
        have hnm := name_all hl (fun j hj => hno.out j hj (by omega))
        have HN : Hid _ := hnm
        clear hnm
        go_wp2
        rw [HN.out]
        go_ret
        exact ⟨rfl, (Below.refl _ w).alloc (Nat.le_refl _) _⟩
  · rw [name_short hl]
    by_cases h1 : s.size < 1
    · have d1 : decide ((s.size : Int) < 1) = true := by simp; omega
      go_enter Tryz.func50, Tryz.ntmps50
      go_wp2
      go_ret
      exact ⟨rfl, Below.refl _ _⟩
    · have d1 : decide ((s.size : Int) < 1) = false := by simp; omega
      have d2 : decide ((8 : Int) < (s.size : Int)) = true := by simp; omega
      go_enter Tryz.func50, Tryz.ntmps50
      go_wp2
      go_ret
      exact ⟨rfl, Below.refl _ _⟩
end Go.Proofs.YtobchllaopdchabGreat
