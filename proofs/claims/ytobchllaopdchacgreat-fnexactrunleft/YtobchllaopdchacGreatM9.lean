/-
  Several texts in one.
-/
import Derived.Test.YtobchllaopdchacGreatM0
import Derived.Test.YtobchllaopdchacGreatM7
import Derived.Test.YtobchllaopdchacGreatZma
namespace Go.Proofs.YtobchllaopdchacGreat
open Go.RowKit Go.Sort
theorem rb_at {S : Nat → Prop} {w : World} {Ba : List DRunBatch} {oa : Option Addr} {nb kb : Nat} (h : AtL S w Ba (.slice oa nb kb)) (i : Nat) (hi : i < Ba.length) :
    ∃ (b off : Nat) (o1 o2 : Option Addr) (n1 k1 n2 k2 : Nat), oa = some ⟨b, off, none⟩ ∧ S b ∧ w.cell? ⟨b, off + i * 6, none⟩ = some (.string Ba[i].1) ∧ w.cell? ⟨b, off + i * 6 + 1, none⟩ = some (.slice o1 n1 k1) ∧ w.cell? ⟨b, off + i * 6 + 2, none⟩ = some (.slice o2 n2 k2) ∧ w.cell? ⟨b, off + i * 6 + 3, none⟩ = some (.string Ba[i].2.2.2.1) ∧ w.cell? ⟨b, off + i * 6 + 4, none⟩ = some (.int .i64 Ba[i].2.2.2.2.1) ∧ w.cell? ⟨b, off + i * 6 + 5, none⟩ = some (.int .i64 Ba[i].2.2.2.2.2) ∧
      Ba[i].1.size ≤ maxLen ∧ AtL S w Ba[i].2.1 (.slice o1 n1 k1) ∧ AtL S w Ba[i].2.2.1 (.slice o2 n2 k2) := by
  obtain ⟨_, _, e, _, hc⟩ := h
  obtain ⟨b, off, eo, hbS, cc, hcell, hat⟩ := hc i hi
  rw [width_DRunBatch] at hcell
  obtain ⟨⟨e0, z0⟩, h1, h2, ⟨e3, _⟩, ⟨e4, _, _⟩, ⟨e5, _, _⟩⟩ := at_DRunBatch.1 hat
  obtain ⟨o1, k1, e1, _⟩ := id h1
  obtain ⟨o2, k2, e2, _⟩ := id h2
  cases e
  refine ⟨b, off, o1, o2, _, k1, _, k2, eo, hbS, ?_, (hcell 1 (by omega)).trans (by rw [e1]), (hcell 2 (by omega)).trans (by rw [e2]), (hcell 3 (by omega)).trans (by rw [e3]), (hcell 4 (by omega)).trans (by rw [e4]), (hcell 5 (by omega)).trans (by rw [e5]), z0, by rw [← e1]; exact h1, by rw [← e2]; exact h2⟩
  exact (by have hq := hcell 0 (by omega); first | exact hq | simpa using hq : w.cell? ⟨b, off + i * 6, none⟩ = some (cc 0)).trans (by rw [e0])
theorem rd_at {S : Nat → Prop} {w : World} {Do : List DRunDone} {oa : Option Addr} {nb kb : Nat} (h : AtL S w Do (.slice oa nb kb)) (i : Nat) (hi : i < Do.length) :
    ∃ (b off : Nat), oa = some ⟨b, off, none⟩ ∧ S b ∧ w.cell? ⟨b, off + i * 3, none⟩ = some (.string Do[i].1) ∧ w.cell? ⟨b, off + i * 3 + 1, none⟩ = some (.int .i64 Do[i].2.1) ∧ w.cell? ⟨b, off + i * 3 + 2, none⟩ = some (.int .i64 Do[i].2.2) ∧ Do[i].1.size ≤ maxLen := by
  obtain ⟨_, _, e, _, hc⟩ := h
  obtain ⟨b, off, eo, hbS, cc, hcell, hat⟩ := hc i hi
  rw [width_DRunDone] at hcell
  obtain ⟨⟨e0, z0⟩, ⟨e1, _, _⟩, ⟨e2, _, _⟩⟩ := at_DRunDone.1 hat
  cases e
  refine ⟨b, off, eo, hbS, ?_, (hcell 1 (by omega)).trans (by rw [e1]), (hcell 2 (by omega)).trans (by rw [e2]), z0⟩
  exact (by have hq := hcell 0 (by omega); first | exact hq | simpa using hq : w.cell? ⟨b, off + i * 3, none⟩ = some (cc 0)).trans (by rw [e0])
theorem tx_at {S : Nat → Prop} {w : World} {l : List ByteArray} {oa : Option Addr} {nb kb : Nat} (h : AtL S w l (.slice oa nb kb)) (i : Nat) (hi : i < l.length) :
    ∃ (b off : Nat), oa = some ⟨b, off, none⟩ ∧ S b ∧ w.cell? ⟨b, off + i, none⟩ = some (.string l[i]) := by
  obtain ⟨_, _, e, _, hc⟩ := h
  obtain ⟨b, off, eo, hbS, cc, hcell, hat⟩ := hc i hi
  have e0 := hcell 0 (by decide)
  rw [hat.1] at e0
  cases e
  exact ⟨b, off, eo, hbS, by simpa [width_str] using e0⟩
noncomputable def alkB (a b : List ByteArray) : Bool := @decide (a = b) (Classical.propDecidable _)
theorem alk_yes {a b : List ByteArray} (h : a = b) : alkB a b = true := by unfold alkB; exact @decide_eq_true _ (Classical.propDecidable _) h
theorem alk_no {a b : List ByteArray} (h : ¬ a = b) : alkB a b = false := by unfold alkB; exact @decide_eq_false _ (Classical.propDecidable _) h
theorem alk_iff {a b : List ByteArray} : alkB a b = true ↔ a = b := by unfold alkB; exact @decide_eq_true_iff _ (Classical.propDecidable _)
set_option maxRecDepth 100000 in
set_option maxHeartbeats 8000000 in
theorem alkX_any (S S' : Nat → Prop) (a b : List ByteArray) (o1 o2 : Option Addr) (n1 k1 n2 k2 : Nat) (w : World) (ha : AtL S w a (.slice o1 n1 k1)) (hb : AtL S' w b (.slice o2 n2 k2)) (hS : ∀ q, S q → q < w.heap.size) (hS' : ∀ q, S' q → q < w.heap.size) :
    Calls Tryz.prog 59 #[.slice o1 n1 k1, .slice o2 n2 k2] w fun e w' => e = .returned (.bool (alkB a b)) ∧ Below w.heap.size w w' := by
  have en1 : a.length = n1 := by obtain ⟨_, _, e, _⟩ := ha; cases e; rfl
  have en2 : b.length = n2 := by obtain ⟨_, _, e, _⟩ := hb; cases e; rfl
  have hmx : n1 ≤ 9223372036854775807 := by obtain ⟨_, _, e, hf, _⟩ := id ha; cases e; have := hf.1; unfold maxLen at this; omega
  have E1 : Hid (a.length ≤ n1 ∧ n1 ≤ a.length) := ⟨by omega, by omega⟩
  have E2 : Hid (b.length ≤ n2 ∧ n2 ≤ b.length) := ⟨by omega, by omega⟩
  have HA : Hid (∀ i (hi : i < a.length), ∃ g off, o1 = some ⟨g, off, none⟩ ∧ g < w.heap.size ∧ w.cell? ⟨g, off + i, none⟩ = some (.string a[i])) := fun i hi => by
    obtain ⟨g, off, e, hg, c⟩ := tx_at ha i hi
    exact ⟨g, off, e, hS g hg, c⟩
  have HB : Hid (∀ i (hi : i < b.length), ∃ g off, o2 = some ⟨g, off, none⟩ ∧ g < w.heap.size ∧ w.cell? ⟨g, off + i, none⟩ = some (.string b[i])) := fun i hi => by
    obtain ⟨g, off, e, hg, c⟩ := tx_at hb i hi
    exact ⟨g, off, e, hS' g hg, c⟩
  clear ha hb hS hS' en1 en2
  go_enter Tryz.func59, Tryz.ntmps59
  by_cases hlen : n1 = n2
  case neg =>
    go_wp2_with fail
    go_ret
    rw [alk_no (fun h => hlen (by have := E1.out; have := E2.out; have : a.length = b.length := by rw [h]
                                  omega))]
    exact ⟨rfl, Below.refl _ _⟩
  subst hlen
  go_wp2_with fail
  go_loopw [5] (fun i wr => ∃ k : Nat, k ≤ n1 ∧ i = .int .i64 k ∧ Hid (∀ j (hj : j < a.length) (hj2 : j < b.length), j < k → a[j] = b[j]) ∧ Hid (Below w.heap.size w wr)) (fun i _ => n1 - (intOf i).toNat)
  case atStart => exact ⟨0, Nat.zero_le _, rfl, fun _ _ _ h => by omega, Below.refl _ _⟩
  case round =>
    obtain ⟨k, hk, rfl, hall, hbel⟩ := hrel
    have hs := hbel.out.size
    by_cases hlt : k < n1
    case neg =>
      go_wp2_with fail
      go_ret
      rw [alk_yes (List.ext_getElem (by have := E1.out; have := E2.out; omega) fun i h1 h2 => hall.out i h1 h2 (by have := E1.out; omega))]
      exact ⟨rfl, hbel.out⟩
    have ka : k < a.length := by have := E1.out; omega
    have kb : k < b.length := by have := E2.out; omega
    obtain ⟨g1, f1, rfl, hg1, c1⟩ := HA.out k ka
    obtain ⟨g2, f2, rfl, hg2, c2⟩ := HB.out k kb
    obtain ⟨x, ex⟩ : ∃ x, a[k] = x := ⟨_, rfl⟩
    obtain ⟨y, ey⟩ : ∃ y, b[k] = y := ⟨_, rfl⟩
    rw [ex] at c1
    rw [ey] at c2
    have q1 := fun d os => cell_regrown ((hbel.out.cell (p := ⟨g1, f1 + k, none⟩) hg1).trans c1) d os
    have q2 := fun d os => cell_regrown ((hbel.out.cell (p := ⟨g2, f2 + k, none⟩) hg2).trans c2) d os
    clear c1 c2
    cases c : (x.toList == y.toList)
    · have HN : Hid (¬ a = b) := fun h => by
        have e : a[k] = b[k] := by simp only [h]
        rw [ex, ey] at e
        rw [e] at c
        simp at c
      clear ex ey
      go_wp2_with fail
      refine wp_region_quiet_below (by kernel_rfl) (by kernel_rfl) ?_
      repeat (first | go_big_quiet_step (fail) | quiet_step (fail))
      refine wpQuiet_nil ?_
      intro _ hw'
      obtain ⟨⟨dq, osq⟩, hw''⟩ := hw'
      subst hw''
      go_wp2_with fail
      go_ret
      rw [alk_no HN.out]
      exact ⟨rfl, hbel.out.trans ((below_regrown wr dq osq).mono hs)⟩
    · have HY : Hid (a[k] = b[k]) := by rw [ex, ey]; exact (eqB_iff _ _).1 (by simpa [eqB] using c)
      clear ex ey
      go_wp2_with fail
      refine wp_region_quiet_below (by kernel_rfl) (by kernel_rfl) ?_
      repeat (first | go_big_quiet_step (fail) | quiet_step (fail))
      refine wpQuiet_nil ?_
      intro _ hw'
      obtain ⟨⟨dq, osq⟩, hw''⟩ := hw'
      subst hw''
      go_wp2_with fail
      go_roundw
      case rel => exact ⟨k + 1, by omega, by go_num, fun j h1 h2 hjk => by
        by_cases e : j = k
        · subst e; exact HY.out
        · exact hall.out j h1 h2 (by omega), hbel.out.trans ((below_regrown wr dq osq).mono hs)⟩
      case measure => simp [intOf]; omega
def allB (a b : List ByteArray) : Bool := a.all fun x => hasB b x
set_option maxRecDepth 100000 in
set_option maxHeartbeats 8000000 in
theorem allX_any (S S' : Nat → Prop) (a b : List ByteArray) (o1 o2 : Option Addr) (n1 k1 n2 k2 : Nat) (w : World) (ha : AtL S w a (.slice o1 n1 k1)) (hb : AtL S' w b (.slice o2 n2 k2)) (hS : ∀ q, S q → q < w.heap.size) (hS' : ∀ q, S' q → q < w.heap.size) :
    Calls Tryz.prog 61 #[.slice o1 n1 k1, .slice o2 n2 k2] w fun e w' => e = .returned (.bool (allB a b)) ∧ Below w.heap.size w w' := by
  have en1 : a.length = n1 := by obtain ⟨_, _, e, _⟩ := ha; cases e; rfl
  have hmx : n1 ≤ 9223372036854775807 := by obtain ⟨_, _, e, hf, _⟩ := id ha; cases e; have := hf.1; unfold maxLen at this; omega
  have E1 : Hid (a.length ≤ n1 ∧ n1 ≤ a.length) := ⟨by omega, by omega⟩
  have HA : Hid (∀ i (hi : i < a.length), ∃ g off, o1 = some ⟨g, off, none⟩ ∧ g < w.heap.size ∧ w.cell? ⟨g, off + i, none⟩ = some (.string a[i])) := fun i hi => by
    obtain ⟨g, off, e, hg, c⟩ := tx_at ha i hi
    exact ⟨g, off, e, hS g hg, c⟩
  have HB : Hid _ := hb.ups hS'
  clear ha hb en1 hS hS'
  go_enter Tryz.func61, Tryz.ntmps61
  go_wp2_with fail
  go_loopw [5] (fun i wr => ∃ k : Nat, k ≤ n1 ∧ i = .int .i64 k ∧ Hid (∀ j (hj : j < a.length), j < k → hasB b a[j] = true) ∧ Hid (Below w.heap.size w wr)) (fun i _ => n1 - (intOf i).toNat)
  case atStart => exact ⟨0, Nat.zero_le _, rfl, fun _ _ h => by omega, Below.refl _ _⟩
  case round =>
    obtain ⟨k, hk, rfl, hall, hbel⟩ := hrel
    have hs := hbel.out.size
    by_cases hlt : k < n1
    case neg =>
      go_wp2_with fail
      go_ret
      rw [show allB a b = true from List.all_eq_true.2 fun x hx => by
        obtain ⟨i, hi, rfl⟩ := List.getElem_of_mem hx
        exact hall.out i hi (by have := E1.out; omega)]
      exact ⟨rfl, hbel.out⟩
    have ka : k < a.length := by have := E1.out; omega
    obtain ⟨g1, f1, rfl, hg1, c0⟩ := HA.out k ka
    have c1 := (hbel.out.cell (p := ⟨g1, f1 + k, none⟩) hg1).trans c0
    clear c0
    cases c : hasB b a[k]
    · have HN : Hid (allB a b = false) := by
        show _ = _
        cases h : allB a b with
        | false => rfl
        | true => have := List.all_eq_true.1 h a[k] (List.getElem_mem ka); rw [c] at this; cases this
      obtain ⟨x, ex⟩ : ∃ x, a[k] = x := ⟨_, rfl⟩
      rw [ex] at c1 c
      clear ex
      go_wp2_with fail
      refine (hasZ_any S' _ b x _ (HB.out _ hbel.out)).mono ?_; rintro e w1 ⟨rfl, hb1⟩
      have HB1 : Hid (Below w.heap.size w w1) := hbel.out.trans (hb1.mono hs)
      clear hb1
      rw [c]
      go_wp2_with fail
      go_ret
      rw [HN.out]
      exact ⟨rfl, HB1.out⟩
    · have HY : Hid (hasB b a[k] = true) := c
      obtain ⟨x, ex⟩ : ∃ x, a[k] = x := ⟨_, rfl⟩
      rw [ex] at c1 c
      clear ex
      go_wp2_with fail
      refine (hasZ_any S' _ b x _ (HB.out _ hbel.out)).mono ?_; rintro e w1 ⟨rfl, hb1⟩
      have HB1 : Hid (Below w.heap.size w w1) := hbel.out.trans (hb1.mono hs)
      clear hb1
      rw [c]
      go_wp2_with fail
      go_roundw
      case rel => exact ⟨k + 1, by omega, by go_num, fun j h1 hjk => by
        by_cases e : j = k
        · subst e; exact HY.out
        · exact hall.out j h1 (by omega), HB1.out⟩
      case measure => simp [intOf]; omega
def ofI (Ba : List DRunBatch) (x : ByteArray) : Int := idxI Ba (fun f => eqB f.1 x)
set_option maxRecDepth 100000 in
set_option maxHeartbeats 8000000 in
theorem ofX2_any (S : Nat → Prop) (now last : Int) (v2 v3 v5 : Value) (Ba : List DRunBatch) (oa : Option Addr) (nb kb : Nat) (x : ByteArray) (w : World) (h : AtL S w Ba (.slice oa nb kb)) (hS : ∀ b, S b → b < w.heap.size) :
    Calls Tryz.prog 32 #[.agg #[.int .i64 now, .int .i64 last, v2, v3, .slice oa nb kb, v5], .string x] w fun e w' => e = .returned (.int .i64 (ofI Ba x)) ∧ Below w.heap.size w w' := by
  have en : Ba.length = nb := by obtain ⟨_, _, e, _⟩ := h; cases e; rfl
  have hmx : nb ≤ 9223372036854775807 := by obtain ⟨_, _, e, hf, _⟩ := id h; cases e; have := hf.1; unfold maxLen at this; omega
  have EN : Hid (Ba.length ≤ nb ∧ nb ≤ Ba.length) := ⟨by omega, by omega⟩
  obtain ⟨W, hW⟩ : ∃ W, W = w.alloc (.cells #[.int .i64 now, .int .i64 last, v2, v3, .slice oa nb kb, v5] 38) := ⟨_, rfl⟩
  have EW : Hid (W = w.alloc (.cells #[.int .i64 now, .int .i64 last, v2, v3, .slice oa nb kb, v5] 38)) := hW
  have BW : Hid (Below w.heap.size w W) := by rw [hW]; exact (Below.refl _ _).alloc (Nat.le_refl _) _
  have Y0 : Hid (W.cell? ⟨w.heap.size, 4, none⟩ = some (.slice oa nb kb)) := by rw [hW]; exact box_at _ _ (Below.refl _ _) 4 _ rfl
  have HA : Hid (AtL S W Ba (.slice oa nb kb)) := by rw [hW]; exact h.same (Same.of_below ((Below.refl _ _).alloc (Nat.le_refl _) _) hS)
  clear hW en h
  go_enter Tryz.func32, Tryz.ntmps32
  go_upto_region 1 with fail
  rw [← EW.out]
  go_wp2_with fail
  go_loop [5] (fun i => ∃ q : Nat, q ≤ nb ∧ i = .int .i64 q ∧ Hid (∀ j (hj : j < Ba.length), j < q → (fun f : DRunBatch => eqB f.1 x) Ba[j] = false)) (fun i => nb - (intOf i).toNat)
  case atStart => exact ⟨0, Nat.zero_le _, rfl, fun _ _ h => by omega⟩
  case round =>
    obtain ⟨q, hq, rfl, hall⟩ := hrel
    have y0 := Y0.out
    by_cases hlt : q < nb
    case neg =>
      go_wp2_with fail
      go_ret
      rw [show ofI Ba x = -1 from idx_no (fun i hi => hall.out i hi (by have := EN.out; omega))]
      exact ⟨rfl, BW.out⟩
    have hqb : q < Ba.length := by have := EN.out; omega
    obtain ⟨b, off, _, _, _, _, _, _, rfl, _, e0, _⟩ := rb_at HA.out q hqb
    obtain ⟨f, ef⟩ : ∃ f, Ba[q] = f := ⟨_, rfl⟩
    rw [ef] at e0
    cases c0 : (f.1.toList == x.toList)
    · have hp : (fun f : DRunBatch => eqB f.1 x) Ba[q] = false := by rw [ef]; simp [eqB, c0]
      have HP : Hid _ := hp
      clear hp ef
      go_wp2_with fail
      go_round
      case rel => exact ⟨q + 1, by omega, by go_num, fun j hj hjq => by
        by_cases e : j = q
        · subst e; exact HP.out
        · exact hall.out j hj (by omega)⟩
      case measure => simp [intOf]; omega
    · have hp : (fun f : DRunBatch => eqB f.1 x) Ba[q] = true := by rw [ef]; simp [eqB, c0]
      have HP : Hid (ofI Ba x = (q : Int)) := idx_yes hqb hp (fun j hj hjq => hall.out j hj hjq)
      clear hp ef
      go_wp2_with fail
      go_ret
      rw [HP.out]
      exact ⟨rfl, BW.out⟩
end Go.Proofs.YtobchllaopdchacGreat

namespace Go.Proofs.YtobchllaopdchacGreat
open Go.RowKit Go.Sort
structure DoneP (now : Int) (Do : List DRunDone) (i : Nat) (h : i < Do.length) : Prop where
  name : nameB Do[i].1 = true
  fin : inB Do[i].2.1 1 3 = true
  tick : inB Do[i].2.2 0 now = true
  asc : ∀ m (hm : m < Do.length), i = m + 1 → Do[m].2.2 ≤ Do[i].2.2
structure DonP (now : Int) (Do : List DRunDone) : Prop where
  len : Do.length ≤ 20
  row : ∀ i (h : i < Do.length), DoneP now Do i h
noncomputable def donB (now : Int) (Do : List DRunDone) : Bool := @decide (DonP now Do) (Classical.propDecidable _)
theorem don_yes {now : Int} {Do : List DRunDone} (h : DonP now Do) : donB now Do = true := by unfold donB; exact @decide_eq_true _ (Classical.propDecidable _) h
theorem don_no {now : Int} {Do : List DRunDone} (h : ¬ DonP now Do) : donB now Do = false := by unfold donB; exact @decide_eq_false _ (Classical.propDecidable _) h
theorem don_iff {now : Int} {Do : List DRunDone} : donB now Do = true ↔ DonP now Do := by unfold donB; exact @decide_eq_true_iff _ (Classical.propDecidable _)
set_option maxRecDepth 100000 in
set_option maxHeartbeats 8000000 in
theorem donX_any (S : Nat → Prop) (now last : Int) (o2 o3 o4 o5 : Option Addr) (n2 k2 n3 k3 n4 k4 n5 k5 : Nat) (Do : List DRunDone) (w : World) (h : AtL S w Do (.slice o5 n5 k5)) (hS : ∀ b, S b → b < w.heap.size) :
    Calls Tryz.prog 30 #[.agg #[.int .i64 now, .int .i64 last, .slice o2 n2 k2, .slice o3 n3 k3, .slice o4 n4 k4, .slice o5 n5 k5]] w fun e w' => e = .returned (.bool (donB now Do)) ∧ Below w.heap.size w w' := by
  have en : Do.length = n5 := by obtain ⟨_, _, e, _⟩ := h; cases e; rfl
  have hmx : n5 ≤ 9223372036854775807 := by obtain ⟨_, _, e, hf, _⟩ := id h; cases e; have := hf.1; unfold maxLen at this; omega
  have EN : Hid (Do.length ≤ n5 ∧ n5 ≤ Do.length) := ⟨by omega, by omega⟩
  have ROW : Hid (∀ i (hi : i < Do.length), ∃ b off, o5 = some ⟨b, off, none⟩ ∧ b < w.heap.size ∧ w.cell? ⟨b, off + i * 3, none⟩ = some (.string Do[i].1) ∧ w.cell? ⟨b, off + i * 3 + 1, none⟩ = some (.int .i64 Do[i].2.1) ∧ w.cell? ⟨b, off + i * 3 + 2, none⟩ = some (.int .i64 Do[i].2.2) ∧ Do[i].1.size ≤ maxLen) := fun i hi => by
    obtain ⟨b, off, e, hb, c⟩ := rd_at h i hi
    exact ⟨b, off, e, hS b hb, c⟩
  obtain ⟨W, EW, BW, RW, sW⟩ := box_new w #[.int .i64 now, .int .i64 last, .slice o2 n2 k2, .slice o3 n3 k3, .slice o4 n4 k4, .slice o5 n5 k5] 38
  have BOX : Hid (∀ u, Below W.heap.size W u → u.heap[w.heap.size]? = some (.cells #[.int .i64 now, .int .i64 last, .slice o2 n2 k2, .slice o3 n3 k3, .slice o4 n4 k4, .slice o5 n5 k5] 38 (0, 0)) ∧ Below w.heap.size w u) := fun u hu => ⟨(hu.block _ (by omega)).trans RW.out, BW.out.trans (hu.mono (by omega))⟩
  clear h hS en
  have YES : Hid (DonP now Do → donB now Do = true) := don_yes
  have NO : Hid (¬ DonP now Do → donB now Do = false) := don_no
  have y0 := (cell_row RW.out 4 _ rfl).1
  have y5 := (cell_row RW.out 5 _ rfl).1
  go_enter Tryz.func30, Tryz.ntmps30
  go_upto_region 1 with fail
  rw [← EW.out]
  by_cases hl : n5 ≤ 20
  case neg =>
    have d0 : decide ((20 : Int) < (n5 : Int)) = true := decide_eq_true (by omega)
    go_wp2_with fail
    go_ret
    rw [NO.out (fun h => hl (by have := h.len; have := EN.out; omega))]
    exact ⟨rfl, BW.out⟩
  have d0 : decide ((20 : Int) < (n5 : Int)) = false := decide_eq_false (by omega)
  go_wp2_with fail
  clear d0 y0 y5
  go_loopw [3] (fun i wr => ∃ k : Nat, k ≤ n5 ∧ i = .int .i64 k ∧ Hid (∀ j (hj : j < Do.length), j < k → DoneP now Do j hj) ∧ Hid (Below W.heap.size W wr)) (fun i _ => n5 - (intOf i).toNat)
  case atStart => exact ⟨0, Nat.zero_le _, rfl, fun _ _ h => by omega, Below.refl _ _⟩
  case round =>
    obtain ⟨k, hk, rfl, hall, hbel⟩ := hrel
    have hs := hbel.out.size
    have BX := BOX.out wr hbel.out
    have BWR : Hid (Below w.heap.size w wr) := BX.2
    have y5 := (cell_row BX.1 5 _ rfl).1
    by_cases hlt : k < n5
    case neg =>
      go_wp2_with fail
      go_ret
      rw [YES.out ⟨by have := EN.out; omega, fun i hi => hall.out i hi (by have := EN.out; omega)⟩]
      exact ⟨rfl, BWR.out⟩
    have hks : k < Do.length := by have := EN.out; omega
    obtain ⟨b, off, rfl, hb, c0, c1, c2, z0⟩ := ROW.out k hks
    obtain ⟨f, ef⟩ : ∃ f, Do[k] = f := ⟨_, rfl⟩
    rw [ef] at c0 c1 c2 z0
    obtain ⟨nm, fi, ti⟩ := f
    simp only at c0 c1 c2 z0
    have EF : Hid (Do[k] = (nm, fi, ti)) := ef
    have e0 := (BWR.out.cell (p := ⟨b, off + k * 3, none⟩) hb).trans c0
    have e1 := (BWR.out.cell (p := ⟨b, off + k * 3 + 1, none⟩) hb).trans c1
    have e2 := (BWR.out.cell (p := ⟨b, off + k * 3 + 2, none⟩) hb).trans c2
    have HZ : Hid (nm.size ≤ maxLen) := z0
    obtain ⟨X, hX⟩ : ∃ X, X = wr.alloc (.cells #[.string nm, .int .i64 fi, .int .i64 ti] 79) := ⟨_, rfl⟩
    have EX : Hid (X = wr.alloc (.cells #[.string nm, .int .i64 fi, .int .i64 ti] 79)) := hX
    have BXX : Hid (Below W.heap.size W X) := by rw [hX]; exact hbel.out.alloc hs _
    have RX : Hid (X.heap[wr.heap.size]? = some (.cells #[.string nm, .int .i64 fi, .int .i64 ti] 79 (0, 0))) := by rw [hX]; exact heap_alloc_new wr _
    have BD := BOX.out X BXX.out
    have BDX : Hid (Below w.heap.size w X) := BD.2
    have qh0 := fun d os => cell_regrown (cell_row BD.1 0 _ rfl).1 d os
    have qh5 := fun d os => cell_regrown (cell_row BD.1 5 _ rfl).1 d os
    have qx0 := fun d os => cell_regrown (cell_row RX.out 0 _ rfl).1 d os
    have qx1 := fun d os => cell_regrown (cell_row RX.out 1 _ rfl).1 d os
    have qx2 := fun d os => cell_regrown (cell_row RX.out 2 _ rfl).1 d os
    clear c0 c1 c2 z0 ef hX
    go_upto_region 7 with fail
    rw [← EX.out]
    clear e0 e1 e2 y5
    cases c0 : nameB nm
    · have HP : Hid (¬ DonP now Do) := fun h => by
        have := (h.row k hks).name
        rw [EF.out] at this
        simp only at this
        rw [c0] at this
        cases this
      go_wp2_with fail
      refine wp_region_quiet_below (by kernel_rfl) (by kernel_rfl) ?_
      repeat (first | go_big_quiet_step (first | (with_reducible exact nameX_q _ _ HZ.out _ c0 _ _)) | quiet_step (first | (with_reducible exact nameX_q _ _ HZ.out _ c0 _ _)))
      refine wpQuiet_nil ?_
      intro _ hw'
      obtain ⟨⟨dq, osq⟩, hw''⟩ := hw'
      subst hw''
      go_wp2_with fail
      go_ret
      rw [NO.out HP.out]
      exact ⟨rfl, BDX.out.trans ((below_regrown X dq osq).mono BDX.out.size)⟩
    cases c1 : inB fi 1 3
    · have HP : Hid (¬ DonP now Do) := fun h => by
        have := (h.row k hks).fin
        rw [EF.out] at this
        simp only at this
        rw [c1] at this
        cases this
      go_wp2_with fail
      refine wp_region_quiet_below (by kernel_rfl) (by kernel_rfl) ?_
      repeat (first | go_big_quiet_step (first | (with_reducible exact nameX_q _ _ HZ.out _ c0 _ _) | (with_reducible exact inX_q _ _ _ _ _ c1 _ _)) | quiet_step (first | (with_reducible exact nameX_q _ _ HZ.out _ c0 _ _) | (with_reducible exact inX_q _ _ _ _ _ c1 _ _)))
      refine wpQuiet_nil ?_
      intro _ hw'
      obtain ⟨⟨dq, osq⟩, hw''⟩ := hw'
      subst hw''
      go_wp2_with fail
      go_ret
      rw [NO.out HP.out]
      exact ⟨rfl, BDX.out.trans ((below_regrown X dq osq).mono BDX.out.size)⟩
    cases c2 : inB ti 0 now
    · have HP : Hid (¬ DonP now Do) := fun h => by
        have := (h.row k hks).tick
        rw [EF.out] at this
        simp only at this
        rw [c2] at this
        cases this
      go_wp2_with fail
      refine wp_region_quiet_below (by kernel_rfl) (by kernel_rfl) ?_
      repeat (first | go_big_quiet_step (first | (with_reducible exact nameX_q _ _ HZ.out _ c0 _ _) | (with_reducible exact inX_q _ _ _ _ _ c1 _ _) | (with_reducible exact inX_q _ _ _ _ _ c2 _ _)) | quiet_step (first | (with_reducible exact nameX_q _ _ HZ.out _ c0 _ _) | (with_reducible exact inX_q _ _ _ _ _ c1 _ _) | (with_reducible exact inX_q _ _ _ _ _ c2 _ _)))
      refine wpQuiet_nil ?_
      intro _ hw'
      obtain ⟨⟨dq, osq⟩, hw''⟩ := hw'
      subst hw''
      go_wp2_with fail
      go_ret
      rw [NO.out HP.out]
      exact ⟨rfl, BDX.out.trans ((below_regrown X dq osq).mono BDX.out.size)⟩
    rcases Nat.eq_zero_or_pos k with rfl | hpos
    · have HD : Hid (DoneP now Do 0 hks) := ⟨by rw [EF.out]; exact c0, by rw [EF.out]; exact c1, by rw [EF.out]; exact c2, fun m hm e => by omega⟩
      go_wp2_with fail
      refine wp_region_quiet_below (by kernel_rfl) (by kernel_rfl) ?_
      repeat (first | go_big_quiet_step (first | (with_reducible exact nameX_q _ _ HZ.out _ c0 _ _) | (with_reducible exact inX_q _ _ _ _ _ c1 _ _) | (with_reducible exact inX_q _ _ _ _ _ c2 _ _)) | quiet_step (first | (with_reducible exact nameX_q _ _ HZ.out _ c0 _ _) | (with_reducible exact inX_q _ _ _ _ _ c1 _ _) | (with_reducible exact inX_q _ _ _ _ _ c2 _ _)))
      refine wpQuiet_nil ?_
      intro _ hw'
      obtain ⟨⟨dq, osq⟩, hw''⟩ := hw'
      subst hw''
      go_wp2_with fail
      go_roundw
      case rel => exact ⟨0 + 1, by omega, by go_num, fun j hj hjk => by
        by_cases e : j = 0
        · subst e; exact HD.out
        · exact hall.out j hj (by omega), BXX.out.trans ((below_regrown X dq osq).mono BXX.out.size)⟩
      case measure => simp [intOf]; omega
    · obtain ⟨m, rfl⟩ : ∃ m, k = m + 1 := ⟨k - 1, by omega⟩
      have hms : m < Do.length := by omega
      obtain ⟨_, _, eo, _, _, _, d2, _⟩ := ROW.out m hms
      cases eo
      obtain ⟨pt, ept⟩ : ∃ p, Do[m].2.2 = p := ⟨_, rfl⟩
      rw [ept] at d2
      have EP : Hid (Do[m].2.2 = pt) := ept
      have qp := fun d os => cell_regrown ((BDX.out.cell (p := ⟨b, off + m * 3 + 2, none⟩) hb).trans d2) d os
      have gt0 : decide ((0 : Int) < ((m : Int) + 1)) = true := by rw [decide_eq_true_eq]; omega
      clear d2 ept
      by_cases c3 : ti < pt
      · have HP : Hid (¬ DonP now Do) := fun h => by
          have := (h.row (m + 1) hks).asc m hms rfl
          rw [EF.out, EP.out] at this
          simp only at this
          omega
        go_wp2_with fail
        refine wp_region_quiet_below (by kernel_rfl) (by kernel_rfl) ?_
        repeat (first | go_big_quiet_step (first | (with_reducible exact nameX_q _ _ HZ.out _ c0 _ _) | (with_reducible exact inX_q _ _ _ _ _ c1 _ _) | (with_reducible exact inX_q _ _ _ _ _ c2 _ _)) | quiet_step (first | (with_reducible exact nameX_q _ _ HZ.out _ c0 _ _) | (with_reducible exact inX_q _ _ _ _ _ c1 _ _) | (with_reducible exact inX_q _ _ _ _ _ c2 _ _)))
        refine wpQuiet_nil ?_
        intro _ hw'
        obtain ⟨⟨dq, osq⟩, hw''⟩ := hw'
        subst hw''
        go_wp2_with fail
        go_ret
        rw [NO.out HP.out]
        exact ⟨rfl, BDX.out.trans ((below_regrown X dq osq).mono BDX.out.size)⟩
      · have HD : Hid (DoneP now Do (m + 1) hks) := ⟨by rw [EF.out]; exact c0, by rw [EF.out]; exact c1, by rw [EF.out]; exact c2, fun m' hm e => by
          obtain rfl : m' = m := by omega
          rw [EF.out, EP.out]; show pt ≤ ti; omega⟩
        go_wp2_with fail
        refine wp_region_quiet_below (by kernel_rfl) (by kernel_rfl) ?_
        repeat (first | go_big_quiet_step (first | (with_reducible exact nameX_q _ _ HZ.out _ c0 _ _) | (with_reducible exact inX_q _ _ _ _ _ c1 _ _) | (with_reducible exact inX_q _ _ _ _ _ c2 _ _)) | quiet_step (first | (with_reducible exact nameX_q _ _ HZ.out _ c0 _ _) | (with_reducible exact inX_q _ _ _ _ _ c1 _ _) | (with_reducible exact inX_q _ _ _ _ _ c2 _ _)))
        refine wpQuiet_nil ?_
        intro _ hw'
        obtain ⟨⟨dq, osq⟩, hw''⟩ := hw'
        subst hw''
        go_wp2_with fail
        go_roundw
        case rel => exact ⟨m + 1 + 1, by omega, by go_num, fun j hj hjk => by
          by_cases e : j = m + 1
          · subst e; exact HD.out
          · exact hall.out j hj (by omega), BXX.out.trans ((below_regrown X dq osq).mono BXX.out.size)⟩
        case measure => simp [intOf]; omega
end Go.Proofs.YtobchllaopdchacGreat

namespace Go.Proofs.YtobchllaopdchacGreat
open Go.RowKit
set_option maxRecDepth 100000 in
set_option maxHeartbeats 8000000 in
theorem thing_any (S : Nat → Prop) (sl : List DRunSlot) (nm at_ : ByteArray) (si st : Int) (o1 o2 : Option Addr) (n1 k1 n2 k2 : Nat) (x : ByteArray) (w : World) (h : AtL S w sl (.slice o2 n2 k2)) (hS : ∀ b, S b → b < w.heap.size) :
    Calls Tryz.prog 136 #[.agg #[.string nm, .slice o1 n1 k1, .slice o2 n2 k2, .string at_, .int .i64 si, .int .i64 st], .string x] w fun e w' => e = .returned (.string (thT sl x)) ∧ Below w.heap.size w w' := by
  have en : sl.length = n2 := by obtain ⟨_, _, e, _⟩ := h; cases e; rfl
  have hmx : n2 ≤ 9223372036854775807 := by obtain ⟨_, _, e, hf, _⟩ := id h; cases e; have := hf.1; unfold maxLen at this; omega
  have EN : Hid (sl.length ≤ n2 ∧ n2 ≤ sl.length) := ⟨by omega, by omega⟩
  obtain ⟨W, hW⟩ : ∃ W, W = w.alloc (.cells #[.string nm, .slice o1 n1 k1, .slice o2 n2 k2, .string at_, .int .i64 si, .int .i64 st] 49) := ⟨_, rfl⟩
  have EW : Hid (W = w.alloc (.cells #[.string nm, .slice o1 n1 k1, .slice o2 n2 k2, .string at_, .int .i64 si, .int .i64 st] 49)) := hW
  have BW : Hid (Below w.heap.size w W) := by rw [hW]; exact (Below.refl _ _).alloc (Nat.le_refl _) _
  have Y0 : Hid (W.cell? ⟨w.heap.size, 2, none⟩ = some (.slice o2 n2 k2)) := by rw [hW]; exact box_at _ _ (Below.refl _ _) 2 _ rfl
  have sW : w.heap.size + 1 ≤ W.heap.size := by rw [hW]; simp
  have HA : Hid (AtL S W sl (.slice o2 n2 k2)) := by rw [hW]; exact h.same (Same.of_below ((Below.refl _ _).alloc (Nat.le_refl _) _) hS)
  clear hW en h
  go_enter Tryz.func136, Tryz.ntmps136
  go_wp2_with fail
  rw [← EW.out]
  go_loop [5] (fun i => ∃ q : Nat, q ≤ n2 ∧ i = .int .i64 q ∧ Hid (∀ j (hj : j < sl.length), j < q → eqB sl[j].1 x = false)) (fun i => n2 - (intOf i).toNat)
  case atStart => exact ⟨0, Nat.zero_le _, rfl, fun _ _ h => by omega⟩
  case round =>
    obtain ⟨q, hq, rfl, hall⟩ := hrel
    have y0 := Y0.out
    by_cases hlt : q < n2
    case neg =>
      go_wp2_with fail
      go_ret
      rw [thT_none (fun j hj => hall.out j hj (by have := EN.out; omega))]
      exact ⟨rfl, BW.out⟩
    have hqb : q < sl.length := by have := EN.out; omega
    obtain ⟨oa, cap, ev, hn, hc⟩ := id HA.out
    obtain ⟨b, off, eo, hbS, cc, hcell, hat⟩ := hc q hqb
    clear hc hn
    obtain rfl : o2 = some ⟨b, off, none⟩ := by cases ev; exact eo
    clear ev eo
    rw [width_DRunSlot] at hcell
    rw [at_DRunSlot] at hat
    have e0 : W.cell? ⟨b, off + q * 2, none⟩ = some (.string sl[q].1) := (by have hq := hcell 0 (by omega); first | exact hq | simpa using hq : W.cell? ⟨b, off + q * 2, none⟩ = some (cc 0)).trans (by rw [hat.1.1])
    have e1 : W.cell? ⟨b, off + q * 2 + 1, none⟩ = some (.string sl[q].2) := (hcell 1 (by omega)).trans (by rw [hat.2.1])
    clear hcell hat
    have HIT : Hid (eqB sl[q].1 x = true → thT sl x = sl[q].2) := fun e => thT_hit hqb hall.out e
    obtain ⟨f, ef⟩ : ∃ f, sl[q] = f := ⟨_, rfl⟩
    rw [ef] at e0 e1 HIT
    cases c0 : (f.1.toList == x.toList)
    · have hp : eqB sl[q].1 x = false := by rw [ef]; simp [eqB, c0]
      go_wp2_with fail
      go_round
      case rel => exact ⟨q + 1, by omega, by go_num, fun j hj hjq => by
        by_cases e : j = q
        · subst e; exact hp
        · exact hall.out j hj (by omega)⟩
      case measure => simp [intOf]; omega
    · have hp : eqB f.1 x = true := by simp [eqB, c0]
      go_wp2_with fail
      go_ret
      rw [HIT.out hp]
      exact ⟨rfl, BW.out⟩
set_option maxRecDepth 100000 in
set_option maxHeartbeats 8000000 in
theorem thingsX_any (S : Nat → Prop) (sl : List DRunSlot) (nm at_ : ByteArray) (si st : Int) (o1 o2 : Option Addr) (n1 k1 n2 k2 : Nat) (l : List ByteArray) (vb : Value) (w : World) (h : AtL S w sl (.slice o2 n2 k2)) (hS : ∀ b, S b → b < w.heap.size) (hb : RdB w vb l) (hl : l.length ≤ 1000000) :
    Calls Tryz.prog 100 #[.agg #[.string nm, .slice o1 n1 k1, .slice o2 n2 k2, .string at_, .int .i64 si, .int .i64 st], vb] w fun e w' => ∃ g cap, e = .returned (.slice (some ⟨g, 0, none⟩) (thL sl l).length cap) ∧ w'.ownsRow w.heap.size 9 1 (.slice (some ⟨g, 0, none⟩) (thL sl l).length cap) (thL sl l).length ((thL sl l).map .string) ∧ Below w.heap.size w w' := by
  obtain ⟨ob, cb, rfl, hc⟩ := hb
  have HC : Hid _ := hc
  have HA : Hid _ := h.ups hS
  have HS : Hid _ := lt_up hS
  obtain ⟨n, en⟩ : ∃ n, l.length = n := ⟨_, rfl⟩
  have EN : Hid (l.length = n) := en
  rw [en]
  rw [en] at hl
  clear hc h hS en
  obtain ⟨W, EW, BW, RW, sW⟩ := box_new w #[.string nm, .slice o1 n1 k1, .slice o2 n2 k2, .string at_, .int .i64 si, .int .i64 st] 49
  have BOX : Hid (∀ u, Below W.heap.size W u → u.heap[w.heap.size]? = some (.cells #[.string nm, .slice o1 n1 k1, .slice o2 n2 k2, .string at_, .int .i64 si, .int .i64 st] 49 (0, 0)) ∧ Below w.heap.size w u) := fun u hu => ⟨(hu.block _ (by omega)).trans RW.out, BW.out.trans (hu.mono (by omega))⟩
  go_enter Tryz.func100, Tryz.ntmps100
  go_upto_region 1 with fail
  rw [← EW.out]
  go_wp2_with fail
  go_loopw [5, 6] (fun av i wr => ∃ (k m g cap : Nat), k ≤ n ∧ i = .int .i64 k ∧ av = .slice (some ⟨g, 0, none⟩) m cap ∧ m ≤ k ∧ Hid ((thL sl (l.take k)).length = m) ∧ Hid (wr.ownsRow w.heap.size 9 1 (.slice (some ⟨g, 0, none⟩) (thL sl (l.take k)).length cap) (thL sl (l.take k)).length ((thL sl (l.take k)).map .string)) ∧ Hid (Below W.heap.size W wr)) (fun _ i _ => n - (intOf i).toNat)
  case atStart => exact ⟨0, 0, W.heap.size, 0, Nat.zero_le _, rfl, rfl, Nat.le_refl _, rfl, own_nil (by omega), (Below.refl _ _).alloc (Nat.le_refl _) _⟩
  case round =>
    obtain ⟨k, m, g, cap, hk, rfl, rfl, hmk, hlen, hown, hbel⟩ := hrel
    obtain ⟨hbox, hbw⟩ := BOX.out wr hbel.out
    by_cases hlt : k < n
    · obtain ⟨gb, rfl, hgb, hcell⟩ := HC.out k (by rw [EN.out]; exact hlt)
      have e0 : wr.cell? ⟨gb, k, none⟩ = some (.string (nthB l k)) := (hbw.cell hgb).trans hcell
      have hs := hbel.out.size
      have NEXT : Hid (thL sl (l.take (k + 1)) = insR (thL sl (l.take k)) (thT sl (nthB l k))) := thL_take sl l (by rw [EN.out]; exact hlt)
      clear hcell hgb
      have HBW : Hid (Below w.heap.size w wr) := hbw
      clear hbw
      have HDR : Hid (Below wr.heap.size wr wr.drew) := (Below.refl _ _).drew
      have q0 := fun d os => cell_regrown (cell_row hbox 0 (.string nm) rfl).1 d os
      have q1 := fun d os => cell_regrown (cell_row hbox 1 (.slice o1 n1 k1) rfl).1 d os
      have q2 := fun d os => cell_regrown (cell_row hbox 2 (.slice o2 n2 k2) rfl).1 d os
      have q3 := fun d os => cell_regrown (cell_row hbox 3 (.string at_) rfl).1 d os
      have q4 := fun d os => cell_regrown (cell_row hbox 4 (.int .i64 si) rfl).1 d os
      have q5 := fun d os => cell_regrown (cell_row hbox 5 (.int .i64 st) rfl).1 d os
      have qe := fun d os => cell_regrown e0 d os
      clear hbox e0
      go_upto_region 5 with fail
      refine wp_region_mix 7 [0, 1, 2, 3, 4, 5] (by kernel_rfl) (by kernel_rfl) ?_
      simp only [List.filterMap_cons, List.filterMap_nil, List.getElem?_cons_succ, List.getElem?_cons_zero]
      repeat (first | go_big_quiet_step (fail) | quiet_step (fail))
      refine wpQuiet_nil ?_
      clear q0 q1 q2 q3 q4 q5 qe
      have bdr : Hid (Below w.heap.size w wr.drew) := HBW.out.trans (HDR.out.mono HBW.out.size)
      refine call1 (md := .any) (f := 0) (i := 6) (dc := 20) (fn := 136) ⟨rfl, rfl, rfl, by decide⟩ (by kernel_rfl) ?run ((thing_any S sl nm at_ si st o1 o2 n1 k1 n2 k2 (nthB l k) wr.drew (HA.out _ bdr.out) (HS.out _ bdr.out)).mono ?_)
      case run => go_simp
      rintro e u ⟨rfl, hb1⟩
      have B1 : Hid (Below wr.heap.size wr u) := HDR.out.trans (hb1.mono HDR.out.size)
      have O1 : Hid (u.ownsRow w.heap.size 9 1 (.slice (some ⟨g, 0, none⟩) (thL sl (l.take k)).length cap) (thL sl (l.take k)).length ((thL sl (l.take k)).map .string)) := own_belowR hown.out B1.out
      refine ⟨_, rfl, regrown_of_below B1.out, ?_⟩
      clear hb1
      refine ⟨by kernel_rfl, ?_⟩
      simp only [List.drop_succ_cons, List.drop_zero, Act.put, List.setIfInBounds_toArray, List.set_cons_zero, List.set_cons_succ]
      have s1 := B1.out.size
      have CI : Hid (Calls Tryz.prog 135 #[.slice (some ⟨g, 0, none⟩) m cap, .string (thT sl (nthB l k))] u fun e w' => ∃ g' cap', e = .returned (.slice (some ⟨g', 0, none⟩) (thL sl (l.take (k + 1))).length cap') ∧ w'.ownsRow w.heap.size 9 1 (.slice (some ⟨g', 0, none⟩) (thL sl (l.take (k + 1))).length cap') (thL sl (l.take (k + 1))).length ((thL sl (l.take (k + 1))).map .string) ∧ Below u.heap.size u w') := by
        rw [NEXT.out]
        have := insX_any w.heap.size g cap (thL sl (l.take k)) (thT sl (nthB l k)) u O1.out (by rw [hlen.out]; omega) (by have := HBW.out.size; omega)
        rw [hlen.out] at this
        exact this
      have HL : Hid ((thL sl (l.take (k + 1))).length ≤ m + 1) := by rw [NEXT.out, ← hlen.out]; exact insR_len _ _
      go_wp2_with fail
      refine CI.out.mono ?_; rintro e u2 ⟨g', cap', rfl, hown', hbu⟩
      obtain ⟨l', hl'⟩ : ∃ l', (thL sl (l.take (k + 1))).length = l' := ⟨_, rfl⟩
      have HL' : Hid ((thL sl (l.take (k + 1))).length = l') := hl'
      have hll : l' ≤ m + 1 := by have := HL.out; omega
      have HOW : Hid (u2.ownsRow w.heap.size 9 1 (.slice (some ⟨g', 0, none⟩) (thL sl (l.take (k + 1))).length cap') (thL sl (l.take (k + 1))).length ((thL sl (l.take (k + 1))).map .string)) := hown'
      have HB : Hid (Below W.heap.size W u2) := hbel.out.trans ((B1.out.trans (hbu.mono s1)).mono hs)
      rw [hl']
      clear hl' hown' hbu
      go_wp2_with fail
      go_roundw
      case rel => exact ⟨k + 1, l', g', cap', by omega, by go_num, rfl, by omega, HL'.out, HOW.out, HB.out⟩
      case measure => simp [intOf]; omega
    · have hkn : k = n := by omega
      subst hkn
      have et : l.take k = l := by rw [← EN.out]; exact List.take_length
      rw [et] at hlen hown
      go_wp2_with fail
      go_ret
      exact ⟨g, cap, by rw [hlen.out]; rfl, hown.out, hbw⟩
end Go.Proofs.YtobchllaopdchacGreat
