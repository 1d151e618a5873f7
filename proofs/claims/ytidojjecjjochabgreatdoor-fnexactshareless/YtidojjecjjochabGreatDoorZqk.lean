/-
  Texts taken out of a list of the call's own that are none of some names: the library's slices.DeleteFunc at the program's closure.
-/
import Derived.Test.YtidojjecjjochabGreatDoorZqd
import Derived.Test.YtidojjecjjochabGreatDoorM15
import Derived.Test.YtidojjecjjochabGreatDoorZpa
import Derived.Laws.EntriesVeiled
namespace Go.Proofs.YtidojjecjjochabGreatDoor
open Go.RowKit

set_option maxRecDepth 100000 in
set_option maxHeartbeats 4000000 in
theorem lessIs_any (S : Nat → Prop) (vb : Value) (b : List ByteArray) (x : ByteArray) (nb : Nat) (w : World) (h : AtL S w b vb) (hx : w.cell? ⟨nb, 1, none⟩ = some vb) :
    Calls Tryz.prog 65 #[.string x, .pointer (some ⟨nb, 0, none⟩)] w fun e w' => e = .returned (.bool (!hasB b x)) ∧ w' = w := by
  have H : Hid _ := hasN_any S vb b x w h
  clear h
  go_enter Tryz.func65, Tryz.ntmps65
  go_wp2_with fail
  refine Calls.mono H.out ?_
  rintro e w1 ⟨rfl, rfl⟩
  go_wp2_with fail
  go_ret
  exact ⟨rfl, rfl⟩

set_option maxRecDepth 100000 in
set_option maxHeartbeats 4000000 in
theorem lessIdx_any (S SB : Nat → Prop) (va vb : Value) (a b : List ByteArray) (nb : Nat) (w : World) (ha : AtL S w a va) (hb : AtL SB w b vb) (hx : w.cell? ⟨nb, 1, none⟩ = some vb) :
    Calls Tryz.prog 80 #[va, .func (.func 65) #[] #[.pointer (some ⟨nb, 0, none⟩)]] w fun e w' => e = .returned (.int .i64 (idxI a (fun x => !hasB b x))) ∧ w' = w := by
  obtain ⟨oa, cap, rfl, hn, hc⟩ := ha
  obtain ⟨n, en⟩ : ∃ n, a.length = n := ⟨_, rfl⟩
  rw [en] at hn
  rw [en]
  unfold maxLen at hn
  have HC : Hid _ := hc
  have HI : Hid (∀ x, Calls Tryz.prog 65 #[.string x, .pointer (some ⟨nb, 0, none⟩)] w fun e w' => e = .returned (.bool (!hasB b x)) ∧ w' = w) := fun x => lessIs_any SB vb b x nb w hb hx
  clear hc hb hx
  go_enter Tryz.func80, Tryz.ntmps80
  go_wp2
  go_loop [8] (fun i => ∃ k : Nat, k ≤ n ∧ i = .int .i64 k ∧ Hid (∀ j (hj : j < a.length), j < k → (!hasB b a[j]) = false)) (fun i => n - (intOf i).toNat)
  case atStart => exact ⟨0, Nat.zero_le _, rfl, fun _ _ h => by omega⟩
  case round =>
    obtain ⟨k, hk, rfl, hno⟩ := hrel
    by_cases hlt : k < n
    · obtain ⟨q, off, rfl, _, cc, hcell, hat⟩ := HC.out k (by omega)
      rw [width_str] at hcell
      have hcell := hcell 0 (by omega)
      rw [Nat.mul_one, Nat.add_zero] at hcell
      rw [at_str] at hat
      rw [hat.1] at hcell
      clear hat
      obtain ⟨f, ef⟩ : ∃ f, a[k]'(by omega) = f := ⟨_, rfl⟩
      rw [ef] at hcell
      cases hy : (!hasB b f)
      all_goals
        go_wp2_with (go_at_call 65; refine Calls.mono (HI.out f) ?_; rintro e w1 ⟨rfl, rfl⟩; rw [hy])
      · go_round
        case rel => exact ⟨k + 1, by omega, by go_num, fun j hj hjk => by
          by_cases e : j = k
          · subst e; rw [ef]; exact hy
          · exact hno.out j hj (by omega)⟩
        case measure => simp [intOf]; omega
      · rw [idx_yes (k := k) (by omega) (by rw [ef]; exact hy) hno.out]
        go_ret
        exact ⟨rfl, rfl⟩
    · go_wp2
      go_ret
      rw [idx_no (fun j hj => hno.out j hj (by omega))]
      exact ⟨rfl, rfl⟩

theorem filt_succ {p : ByteArray → Bool} {l : List ByteArray} {j : Nat} (hj : j < l.length) : (l.take (j + 1)).filter p = (l.take j).filter p ++ (if p l[j] = true then [l[j]] else []) := by
  rw [List.take_succ_eq_append_getElem hj, List.filter_append]
  congr 1
  by_cases h : p l[j] = true
  · rw [if_pos h, List.filter_cons, if_pos h, List.filter_nil]
  · rw [if_neg h, List.filter_cons, if_neg h, List.filter_nil]
theorem filt_len {p : ByteArray → Bool} (l : List ByteArray) (j : Nat) : ((l.take j).filter p).length ≤ j := Nat.le_trans (List.length_filter_le _ _) (List.length_take_le _ _)
theorem filt_all {p : ByteArray → Bool} {l : List ByteArray} {k : Nat} (h : ∀ j (hj : j < l.length), j < k → p l[j] = true) : (l.take k).filter p = l.take k := by
  rw [List.filter_eq_self]
  intro a ha
  obtain ⟨i, hi, rfl⟩ := List.getElem_of_mem ha
  rw [List.length_take] at hi
  rw [List.getElem_take]
  exact h i (by omega) (by omega)
/-- Where a taking out stands: what is kept at the front, what is not looked at yet in its place. -/
structure DelI (w wr : World) (g cap n i j : Nat) (l : List ByteArray) (p : ByteArray → Bool) : Prop where
  ex : ∃ c : Array Value, wr.heap[g]? = some (.cells c 9 (0, 0)) ∧ c.size = cap ∧ (∀ t (ht : t < ((l.take j).filter p).length), c[t]? = some (.string ((l.take j).filter p)[t])) ∧ (∀ t (ht : t < l.length), j ≤ t → c[t]? = some (.string l[t]))
  len : ((l.take j).filter p).length = i
  but : But (fun b => b = g) w wr
theorem DelI.skip {w wr : World} {g cap n i j : Nat} {l : List ByteArray} {p : ByteArray → Bool} (h : DelI w wr g cap n i j l p) (hj : j < l.length) (hp : p l[j] = false) : DelI w wr g cap n i (j + 1) l p := by
  have e : (l.take (j + 1)).filter p = (l.take j).filter p := by rw [filt_succ hj, if_neg (by rw [hp]; decide), List.append_nil]
  obtain ⟨c, h1, h2, h3, h4⟩ := h.ex
  refine ⟨⟨c, h1, h2, fun t ht => ?_, fun t ht hjt => h4 t ht (by omega)⟩, by rw [e]; exact h.len, h.but⟩
  have ht' : t < ((l.take j).filter p).length := by rw [e] at ht; exact ht
  rw [h3 t ht']
  congr 2
  simp only [e]
theorem DelI.keep {w wr : World} {g cap n i j : Nat} {l : List ByteArray} {p : ByteArray → Bool} (h : DelI w wr g cap n i j l p) (hj : j < l.length) (hn : l.length ≤ cap) (hp : p l[j] = true) (hij : i ≤ j) : DelI w (wr.setCell ⟨g, i, none⟩ (.string l[j])) g cap n (i + 1) (j + 1) l p := by
  have e : (l.take (j + 1)).filter p = (l.take j).filter p ++ [l[j]] := by rw [filt_succ hj, if_pos hp]
  obtain ⟨c, h1, h2, h3, h4⟩ := h.ex
  refine ⟨⟨c.setIfInBounds i (.string l[j]), set_row h1 i _, by simpa using h2, fun t ht => ?_, fun t ht hjt => ?_⟩, by rw [e, List.length_append, h.len]; rfl, h.but.set rfl i _⟩
  · have hl := h.len
    simp only [e] at ht ⊢
    rw [List.length_append, List.length_singleton] at ht
    by_cases ei : t = i
    · subst ei
      rw [Array.getElem?_setIfInBounds_self_of_lt (by omega), List.getElem_append_right (by omega)]
      simp [hl]
    · rw [Array.getElem?_setIfInBounds_ne (by omega), List.getElem_append_left (by omega)]
      exact h3 t (by omega)
  · rw [Array.getElem?_setIfInBounds_ne (by omega)]
    exact h4 t ht (by omega)

theorem zero_lenZ (z : Array Value) (n : Nat) : (Builtin.zeroCells z n).size = n * z.size := by simp [Builtin.zeroCells]
theorem zero_oneZ (n : Nat) : ∀ u ∈ (Builtin.zeroCells (Value.string ByteArray.empty).cells n).toList, u.oneCell' = true := by
  intro u hu
  have e : (Value.string ByteArray.empty).cells = #[.string ByteArray.empty] := rfl
  rw [e] at hu
  simp [Builtin.zeroCells] at hu
  obtain ⟨a, ha, rfl⟩ := hu
  simp [Nat.mod_one]
  rfl
set_option maxRecDepth 100000 in
set_option maxHeartbeats 8000000 in
theorem delF_any (B nb : Nat) (SB : Nat → Prop) (v vb : Value) (l nd : List ByteArray) (w : World) (hr : Row w B 9 1 eS v l) (hz : ∀ s ∈ l, s.size ≤ maxLen) (hl : l.length ≤ 1048576) (hb : AtL SB w nd vb) (hx : w.cell? ⟨nb, 1, none⟩ = some vb) (hap : ∀ b, v.ownBlock = some b → ¬ SB b ∧ b ≠ nb) (hSB : ∀ b, SB b → b < w.heap.size) (hnb : nb < w.heap.size) :
    Calls Tryz.prog 64 #[v, .func (.func 65) #[] #[.pointer (some ⟨nb, 0, none⟩)]] w fun e w' => ∃ v', e = .returned v' ∧ Row w' B 9 1 eS v' (l.filter fun y => hasB nd y) ∧ w.grownBy w' v.ownBlock ∧ (v'.ownBlock = none ∨ v'.ownBlock = v.ownBlock) := by
  have CI := lessIdx_any (fun b => v.ownBlock = some b) SB v vb l nd nb w (flatS.row_at hr (fun _ h => h) hz) hb hx
  rcases hr.2 with ⟨rfl, h0⟩ | ⟨g, cap, cur, rfl, hbg, hg, hnc, hm, hcs, hxs⟩
  · have el : l = [] := List.eq_nil_of_length_eq_zero h0
    subst el
    have e0 : idxI ([] : List ByteArray) (fun x => !hasB nd x) = -1 := rfl
    rw [e0] at CI
    have HCI : Hid _ := CI
    clear CI
    go_enter Tryz.func64, Tryz.ntmps64
    go_wp2_with fail
    refine Calls.mono HCI.out ?_
    rintro e w1 ⟨rfl, rfl⟩
    go_wp2_with fail
    go_ret
    exact ⟨_, rfl, Row.nil _ _ _ _ _, ⟨rfl, rfl, rfl, Nat.le_refl _, fun _ _ _ => rfl⟩, .inl rfl⟩
  rw [Nat.mul_one] at hcs
  rw [Nat.mul_one] at hxs
  obtain ⟨n, en⟩ : ∃ n, l.length = n := ⟨_, rfl⟩
  have HEN : Hid (l.length = n) := en
  have hcell : ∀ t (ht : t < l.length), cur[t]? = some (.string l[t]) := fun t ht => by
    have e1 := enc_at 1 eS l t ht 0 (by decide)
    rw [Nat.mul_one, Nat.add_zero, ← hxs, List.getElem?_take_of_lt ht] at e1
    rw [← Array.getElem?_toList]; exact e1
  have HCELL : Hid (∀ t (ht : t < l.length), cur[t]? = some (.string l[t])) := hcell
  have HG : Hid (w.heap[g]? = some (.cells cur 9 (0, 0))) := hg
  have HCS : Hid (cur.size = cap) := hcs
  have HM : Hid (cap ≤ maxLen) := hm
  have HAP : Hid (¬ SB g ∧ g ≠ nb) := hap g rfl
  have HIS : Hid (∀ wr, But (fun b => b = g) w wr → ∀ x, Calls Tryz.prog 65 #[.string x, .pointer (some ⟨nb, 0, none⟩)] wr fun e w' => e = .returned (.bool (!hasB nd x)) ∧ w' = wr) := fun wr hbw x => lessIs_any SB vb nd x nb wr (hb.same (fun b hb' => hbw.block b (hSB b hb') (fun e => HAP.out.1 (e ▸ hb')))) ((World.cell?_of_block (a := ⟨nb, 1, none⟩) (hbw.block nb hnb (fun e => HAP.out.2 e.symm))).trans hx)
  have hgl := (Array.getElem?_eq_some_iff.1 hg).1
  have HROW : Hid (Row w B 9 1 eS (.slice (some ⟨g, 0, none⟩) n cap) l) := by rw [en] at hr; exact hr
  rw [en] at CI hl hnc
  rw [en]
  obtain ⟨ix, eix⟩ : ∃ i, idxI l (fun x => !hasB nd x) = i := ⟨_, rfl⟩
  rw [eix] at CI
  have EIX : Hid (idxI l (fun x => !hasB nd x) = ix) := eix
  have HCI : Hid _ := CI
  have hzv : ∀ w, (zeroValue 9).run Tryz.prog w = .ok (.string ByteArray.empty) w := fun w => by kernel_rfl
  have HBG : Hid (B ≤ g) := hbg
  clear CI hr hz hb hx hap hcell hg hcs hm hxs en eix hbg
  by_cases hno : ix = -1
  · have hall : ∀ y ∈ l, hasB nd y = true := fun y hy => by
      cases hq : hasB nd y
      · exfalso
        obtain ⟨i, hi, rfl⟩ := List.getElem_of_mem hy
        have hi0 := EIX.out
        unfold idxI at hi0
        cases hf : l.findIdx? (fun x => !hasB nd x) with
        | none =>
          rw [List.findIdx?_eq_none_iff] at hf
          have := hf _ (List.getElem_mem hi)
          rw [hq] at this
          exact absurd this (by decide)
        | some k => rw [hf, hno] at hi0; simp at hi0
      · rfl
    have HF : Hid (l.filter (fun y => hasB nd y) = l) := List.filter_eq_self.2 hall
    subst hno
    go_enter Tryz.func64, Tryz.ntmps64
    go_wp2_with fail
    refine Calls.mono HCI.out ?_
    rintro e w1 ⟨rfl, rfl⟩
    go_wp2_with fail
    go_ret
    exact ⟨_, rfl, by rw [HF.out]; exact HROW.out, ⟨rfl, rfl, rfl, Nat.le_refl _, fun _ _ _ => rfl⟩, .inr rfl⟩
  obtain ⟨k, ek, hk, hkd, hkb⟩ : ∃ k : Nat, ix = (k : Int) ∧ ∃ hk : k < l.length, hasB nd l[k] = false ∧ ∀ j (hj : j < l.length), j < k → hasB nd l[j] = true := by
    have hi0 := EIX.out
    unfold idxI at hi0
    cases hf : l.findIdx? (fun x => !hasB nd x) with
    | none => rw [hf] at hi0; exact absurd hi0.symm hno
    | some k =>
      rw [hf] at hi0
      obtain ⟨h1, h2, h3⟩ := List.findIdx?_eq_some_iff_getElem.1 hf
      exact ⟨k, hi0.symm, h1, by simpa using h2, fun j hj hjk => by have := h3 j hjk; simpa using this⟩
  subst ek
  have hkn : k < n := by have := HEN.out; omega
  have HST : Hid (DelI w w g cap n k (k + 1) l (fun y => hasB nd y)) := by
    have e : (l.take k).filter (fun y => hasB nd y) = l.take k := filt_all hkb
    refine DelI.skip (j := k) ⟨⟨cur, HG.out, HCS.out, fun t ht => ?_, fun t ht _ => HCELL.out t ht⟩, by rw [e, List.length_take]; omega, But.refl _ _⟩ hk hkd
    simp only [e] at ht ⊢
    rw [List.length_take] at ht
    rw [List.getElem_take]
    exact HCELL.out t (by omega)
  clear hkd hkb hk hno
  have hkm : ((k : Int) == -1) = false := by rw [beq_eq_false_iff_ne]; omega
  go_enter Tryz.func64, Tryz.ntmps64
  go_wp2_with fail
  refine Calls.mono HCI.out ?_
  rintro e w1 ⟨rfl, hw1⟩
  have hw2 := hw1.symm
  subst hw2
  clear hw1
  go_wp2_with fail
  go_loopw [5, 6] (fun vi vj wr => ∃ i j : Nat, i < j ∧ j ≤ n ∧ vi = .int .i64 i ∧ vj = .int .i64 j ∧ Hid (DelI w wr g cap n i j l (fun y => hasB nd y))) (fun _ vj _ => n - (intOf vj).toNat)
  case atStart => exact ⟨k, k + 1, by omega, by omega, rfl, by go_num, HST.out⟩
  case round =>
    obtain ⟨i, j, hij, hj, rfl, rfl, hst⟩ := hrel
    by_cases hlt : j < n
    · have hjl : j < l.length := by have := HEN.out; omega
      obtain ⟨c, c1, c2, c3, c4⟩ := hst.out.ex
      obtain ⟨y, ey⟩ : ∃ y, l[j]'hjl = y := ⟨_, rfl⟩
      have e0 := (cell_row c1 j _ (c4 j hjl (Nat.le_refl _))).1
      rw [ey] at e0
      have hic : i < c.size := by omega
      obtain ⟨e1, f1⟩ := cell_row c1 i _ (Array.getElem?_eq_getElem hic)
      have HCA : Hid _ := HIS.out wr hst.out.but y
      clear c1 c2 c3 c4
      cases hy : hasB nd y
      · go_wp2_with (first
          | (go_at_call 65; refine Calls.mono HCA.out ?_; rintro e w2 ⟨rfl, rfl⟩; rw [hy]))
        go_roundw
        case rel => exact ⟨i, j + 1, by omega, by omega, rfl, by go_num, hst.out.skip hjl (by rw [ey]; exact hy)⟩
        case measure => simp [intOf]; omega
      · have HK : Hid (DelI w (wr.setCell ⟨g, i, none⟩ (.string y)) g cap n (i + 1) (j + 1) l (fun y => hasB nd y)) := by
          have := hst.out.keep hjl (by have := HEN.out; omega) (by rw [ey]; exact hy) (by omega)
          rw [ey] at this
          exact this
        go_wp2_with (first
          | (go_at_call 65; refine Calls.mono HCA.out ?_; rintro e w2 ⟨rfl, hw2⟩; have hw3 := hw2.symm; subst hw3; clear hw2; rw [hy]))
        go_roundw
        case rel => exact ⟨i + 1, j + 1, by omega, by omega, by go_num, by go_num, HK.out⟩
        case measure => simp [intOf]; omega
    · obtain rfl : n = j := by omega
      obtain ⟨c, c1, c2, c3, _⟩ := hst.out.ex
      have hta : l.take n = l := List.take_of_length_le (by have := HEN.out; omega)
      rw [hta] at c3
      have hlen := hst.out.len
      rw [hta] at hlen
      obtain ⟨R, eR⟩ : ∃ R : Array Value, R = (c.toList.take i ++ (Builtin.zeroCells (Value.string ByteArray.empty).cells (n - i)).toList ++ c.toList.drop (i + (Builtin.zeroCells (Value.string ByteArray.empty).cells (n - i)).toList.length)).toArray := ⟨_, rfl⟩
      have hzl : (Builtin.zeroCells (Value.string ByteArray.empty).cells (n - i)).toList.length = n - i := by rw [Array.length_toList, zero_lenZ]; show (n - i) * 1 = _; omega
      have hcl : ∀ ty, (Builtin.clear_ #[22] ty #[.slice (some ⟨g, i, none⟩) (n - i) (cap - i)]).run Tryz.prog wr = .ok (.tuple #[]) (wr.setRow g R) := fun ty => by
        rw [eR]
        exact run_clear_k wr 22 9 ty _ elS.ht hzv g i (n - i) (cap - i) (by omega) c _ c1 _ rfl (by rw [hzl]; omega) (zero_oneZ _)
      have HR : Hid (R.size = cap ∧ R.toList.take i = (l.filter fun y => hasB nd y).map Value.string) := by
        constructor
        · rw [eR, List.size_toArray, List.length_append, List.length_append, List.length_take, List.length_drop, hzl, Array.length_toList]; omega
        · rw [eR, List.append_assoc, List.take_append_of_le_length (by rw [List.length_take, Array.length_toList]; omega), List.take_take, Nat.min_self]
          refine List.ext_getElem ?_ fun t h1 h2 => ?_
          · rw [List.length_take, Array.length_toList, List.length_map, hlen]; omega
          · rw [List.length_map] at h2
            have := c3 t h2
            rw [List.getElem_take, List.getElem_map, Array.getElem_toList]
            rw [Array.getElem?_eq_getElem (by omega)] at this
            injection this
      have HC1 : Hid (wr.heap[g]? = some (.cells c 9 (0, 0))) := c1
      have hci : ¬ (cap = i) := by omega
      have hin : i ≤ n := by omega
      have hic2 : i ≤ cap := by omega
      have HLEN : Hid ((l.filter fun y => hasB nd y).length = i) := hlen
      clear c1 c2 c3 eR hzl hta hlen
      go_wp2
      go_ret
      refine ⟨.slice (some ⟨g, 0, none⟩) i cap, rfl, ⟨by rw [enc_len], .inr ⟨g, cap, R, by rw [HLEN.out], HBG.out, setRow_heap wr g c R _ _ HC1.out, by rw [HLEN.out]; omega, HM.out, by rw [HR.out.1, Nat.mul_one], ?_⟩⟩, ?_, .inr rfl⟩
      · rw [HLEN.out, Nat.mul_one, HR.out.2]
        simp [enc, eS, List.flatMap]
        induction (l.filter fun y => hasB nd y) with
        | nil => rfl
        | cons a l ih => simp [ih]
      · have hb := hst.out.but
        exact ⟨hb.os, hb.tape, hb.output, by rw [setRow_size]; exact hb.size, fun q hq hne => (setRow_other wr g q R (fun e => hne (by rw [e]; rfl))).trans (hb.block q hq (fun e => hne (by rw [e]; rfl)))⟩

end Go.Proofs.YtidojjecjjochabGreatDoor
