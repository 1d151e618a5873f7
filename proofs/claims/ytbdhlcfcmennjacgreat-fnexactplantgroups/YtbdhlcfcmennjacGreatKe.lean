/-
  A contract of the model's insertion of a name into names that ascend: a list of the call's own comes out, whatever the order in which its memory is made.
-/
import Derived.Test.YtbdhlcfcmennjacGreatKa
import Derived.Test.YtbdhlcfcmennjacGreatRv
import Derived.Test.YtbdhlcfcmennjacGreatHi
import Derived.Deep.Cut
namespace Go.Proofs.YtbdhlcfcmennjacGreat
open Go.RowKit

theorem insR_eq : ∀ (l : List ByteArray) (k : Nat) (x : ByteArray), k < l.length → (∀ j, j < k → ltB (nthB l j) x = true) → eqB (nthB l k) x = true → insR l x = l
  | [], _, _, h, _, _ => by simp at h
  | y :: l, 0, x, _, _, h => by
    have h' : eqB y x = true := h
    have : ltB y x = false := by rw [(eqB_iff _ _).1 h']; exact ltB_irrefl x
    unfold insR
    rw [this, h']; rfl
  | y :: l, k + 1, x, hk, ha, h => by
    have h0 : ltB y x = true := ha 0 (by omega)
    unfold insR
    rw [h0, cond_true, insR_eq l k x (by simpa using hk) (fun j hj => ha (j + 1) (by omega)) h]
theorem insR_new : ∀ (l : List ByteArray) (k : Nat) (x : ByteArray), k ≤ l.length → (∀ j, j < k → ltB (nthB l j) x = true) → (k < l.length → ltB (nthB l k) x = false ∧ eqB (nthB l k) x = false) → insR l x = l.take k ++ [x] ++ l.drop k
  | [], k, x, hk, _, _ => by
    have : k = 0 := by simpa using hk
    subst this; rfl
  | y :: l, 0, x, _, _, h => by
    obtain ⟨h1, h2⟩ := h (by simp)
    have h1' : ltB y x = false := h1
    have h2' : eqB y x = false := h2
    unfold insR
    rw [h1', h2']; rfl
  | y :: l, k + 1, x, hk, ha, h => by
    have h0 : ltB y x = true := ha 0 (by omega)
    unfold insR
    rw [h0, cond_true, insR_new l k x (by simpa using hk) (fun j hj => ha (j + 1) (by omega)) (fun hk' => h (by simpa using hk'))]
    rfl

theorem underS : Tryz.prog.underlying 22 = some (.slice 9) := by kernel_rfl
theorem infoS : (Tryz.prog.info? 9).map (fun i => (i.zero, i.size, i.bytes)) = some (some (.string ByteArray.empty), 1, 16) := by kernel_rfl
theorem elS : ElT Tryz.prog 22 9 1 16 := by
  obtain ⟨i0, hi, hz0, hz1, hz2⟩ := info_parts infoS
  exact ⟨underS, ⟨i0, _, hi, hz0, hz1, hz2, rfl⟩, by decide⟩

theorem own_cells {B : Nat} {w : World} {g cap : Nat} {l : List ByteArray} (h : w.ownsRow B 9 1 (.slice (some ⟨g, 0, none⟩) l.length cap) l.length (l.map .string)) : l.length ≤ cap ∧ ∀ i, i < l.length → w.cell? ⟨g, i, none⟩ = some (.string (nthB l i)) := by
  rcases h.2 with ⟨e, _⟩ | ⟨g', cap', cur, e, hb, hg, hc, hm', hs, ht⟩
  · cases e
  · cases e
    refine ⟨hc, fun i hi => ?_⟩
    have e1 : cur.toList[i]? = (l.map Value.string)[i]? := by
      rw [← ht, Nat.mul_one, List.getElem?_take_of_lt hi]
    have e2 : cur[i]? = some (.string (nthB l i)) := by
      rw [← Array.getElem?_toList, e1]
      simp [nthB, hi]
    exact (cell_row hg _ _ e2).1

theorem nth_at {l : List ByteArray} {i : Nat} (h : i < l.length) : l[i]? = some (nthB l i) := by simp [nthB, h]
theorem src_take {w : World} {g cap n k : Nat} {l : List ByteArray} (hn : l.length = n) (hk : k ≤ n) (hc : ∀ i, i < n → w.cell? ⟨g, i, none⟩ = some (.string (nthB l i))) : Src w (.slice (some ⟨g, 0, none⟩) k cap) k 1 ((l.take k).map .string) := by
  refine ⟨by simp; omega, .inr ⟨_, _, rfl, fun j u hj => ?_⟩⟩
  rw [add_at, Nat.zero_add]
  rw [List.getElem?_map, Option.map_eq_some_iff] at hj
  obtain ⟨y, hy, rfl⟩ := hj
  have hjk : j < k := by
    have := (List.getElem?_eq_some_iff.1 hy).1
    simp at this; omega
  rw [List.getElem?_take_of_lt hjk, nth_at (by omega)] at hy
  cases hy
  exact hc j (by omega)
theorem src_drop {w : World} {g cap n k : Nat} {l : List ByteArray} (hn : l.length = n) (hk : k ≤ n) (hcap : n ≤ cap) (hc : ∀ i, i < n → w.cell? ⟨g, i, none⟩ = some (.string (nthB l i))) : Src w (.slice (if cap = k then some ⟨g, 0, none⟩ else some ⟨g, k, none⟩) (n - k) (cap - k)) (n - k) 1 ((l.drop k).map .string) := by
  refine Src.tail (by simp; omega) (fun h => by omega) (fun _ j u hj => ?_)
  rw [add_at]
  rw [List.getElem?_map, Option.map_eq_some_iff] at hj
  obtain ⟨y, hy, rfl⟩ := hj
  rw [List.getElem?_drop] at hy
  have hjk : k + j < l.length := (List.getElem?_eq_some_iff.1 hy).1
  rw [nth_at hjk] at hy
  cases hy
  exact hc (k + j) (by omega)

open Go.Sort in
set_option maxRecDepth 100000 in
set_option maxHeartbeats 4000000 in
theorem insS_any (base g cap : Nat) (l : List ByteArray) (x : ByteArray) (w : World) (h : w.ownsRow base 9 1 (.slice (some ⟨g, 0, none⟩) l.length cap) l.length (l.map .string)) (hl : l.length ≤ 1048576) (hbase : base ≤ w.heap.size) :
    Calls Tryz.prog 53 #[.slice (some ⟨g, 0, none⟩) l.length cap, .string x] w fun e w' => ∃ g' cap', e = .returned (.slice (some ⟨g', 0, none⟩) (insR l x).length cap') ∧ w'.ownsRow base 9 1 (.slice (some ⟨g', 0, none⟩) (insR l x).length cap') (insR l x).length ((insR l x).map .string) ∧ Below w.heap.size w w' := by
  have HO : Hid _ := h
  obtain ⟨hcap, hc⟩ := own_cells h
  have HC : Hid (∀ i, i < l.length → w.cell? ⟨g, i, none⟩ = some (.string (nthB l i))) := hc
  clear h hc
  generalize hn : l.length = n at *
  have HN : Hid (l.length = n) := hn
  clear hn
  go_enter Tryz.func53, Tryz.ntmps53
  go_wp2
  go_loop [5] (fun i => ∃ k : Nat, k ≤ n ∧ i = .int .i64 k ∧ Hid (∀ j, j < k → ltB (nthB l j) x = true)) (fun i => n - (intOf i).toNat)
  case atStart => exact ⟨0, Nat.zero_le _, rfl, fun _ h => by omega⟩
  case round =>
    obtain ⟨k, hk, rfl, hall⟩ := hrel
    have NEW : Hid ((k < n → ltB (nthB l k) x = false ∧ eqB (nthB l k) x = false) → insR l x = l.take k ++ [x] ++ l.drop k) := fun h => insR_new l k x (by rw [HN.out]; exact hk) hall.out (by rw [HN.out]; exact h)
    by_cases hlt : k < n
    · have e0 := HC.out k hlt
      cases h1 : Op.bytesLess (nthB l k).toList x.toList
      · cases h2 : ((nthB l k).toList == x.toList)
        · have E : Hid (insR l x = l.take k ++ [x] ++ l.drop k) := NEW.out (fun _ => ⟨h1, h2⟩)
          have hkc : (k : Int) ≤ (cap : Int) := by omega
          have hkn : (k : Int) ≤ (n : Int) := by omega
          go_wp2_with fail
          refine wp_region_mix 12 [1, 2, 3, 5, 8, 9, 10] (by kernel_rfl) (by kernel_rfl) ?_
          simp only [List.filterMap_cons, List.filterMap_nil, List.getElem?_cons_succ, List.getElem?_cons_zero]
          repeat (first | go_big_quiet_step (fail) | quiet_step (fail))
          refine wpQuiet_nil ?_
          refine ins3 (md := .any) (i0 := 0) (i1 := 4) (i2 := 6) (i3 := 7) (i4 := 11) (d0 := 33) (d1 := 37) (d2 := 39) (d3 := 40) (d4 := 44) (k1 := 36) (k2 := 43) (kx := 38) (X := .string x) (t := 22) (e := 9)
            ⟨_, _, _, _, _, ⟨rfl, rfl, rfl, by decide⟩, ⟨rfl, rfl, rfl, by decide⟩, ⟨rfl, rfl, rfl, by decide⟩, ⟨rfl, rfl, rfl, by decide⟩, ⟨rfl, rfl, rfl, by decide⟩, rfl, rfl, rfl, ?run0, ?run2, by decide, by decide, by kernel_rfl, by kernel_rfl, by kernel_rfl, by kernel_rfl, by kernel_rfl, by kernel_rfl, by kernel_rfl⟩
            elS (W := w) ⟨by simp, by simp, by simp, by simp, by simp⟩ rfl rfl rfl (src_take HN.out hk HC.out) (src_drop HN.out hk hcap HC.out) rfl ?u1 ?u2 ?ux (by omega) (by unfold maxLen; omega) ?K
          case run0 => intro bb ww; go_simp
          case run2 =>
            intro bb hx ww
            have hx' : bb.tmps[38]?.getD undef = .string x := by simpa [Act.eval] using hx
            clear hx
            go_simp
          case u1 => intro v hv; obtain ⟨_, _, rfl⟩ := List.mem_map.1 hv; rfl
          case u2 => intro v hv; obtain ⟨_, _, rfl⟩ := List.mem_map.1 hv; rfl
          case ux => intro v hv; simp [Value.cells] at hv; subst hv; rfl
          case K =>
            intro r0 r1 r2 r3 r4 w4 hown hb4
            refine ⟨by kernel_rfl, ?_⟩
            simp only [List.drop_succ_cons, List.drop_zero]
            have hnk : k + 1 + (n - k) = (insR l x).length := by rw [E.out]; have := HN.out; simp; omega
            have hcs : (l.take k).map Value.string ++ (Value.string x).cells.toList ++ (l.drop k).map Value.string = (insR l x).map .string := by rw [E.out]; simp [Value.cells]
            rw [hnk, hcs] at hown
            have HOW : Hid (w4.ownsRow w.heap.size 9 1 r4 (insR l x).length ((insR l x).map .string)) := hown
            have HPOS : Hid (0 < (insR l x).length) := by show 0 < _; omega
            clear hown hcs hnk
            simp only [Act.put, List.setIfInBounds_toArray, List.set_cons_zero, List.set_cons_succ]
            go_wp2_with fail
            all_goals
              go_ret
              rcases HOW.out.2 with ⟨_, e⟩ | ⟨g', cap', cur, rfl, hbg, rest⟩
              · have := HPOS.out; omega
              · exact ⟨g', cap', rfl, ⟨HOW.out.1, .inr ⟨g', cap', cur, rfl, by omega, rest⟩⟩, hb4⟩
        · have E : Hid (insR l x = l) := insR_eq l k x (by rw [HN.out]; exact hlt) hall.out h2
          go_wp2_with fail
          go_ret
          rw [E.out, HN.out]
          exact ⟨g, cap, rfl, HO.out, Below.refl _ _⟩
      · go_wp2_with fail
        go_round
        case rel => exact ⟨k + 1, by omega, by go_num, fun j hj => by
          by_cases e : j = k
          · subst e; exact h1
          · exact hall.out j (by omega)⟩
        case measure => simp [intOf]; omega
    · have E : Hid (insR l x = l.take k ++ [x] ++ l.drop k) := NEW.out (fun h => absurd h hlt)
      have hkc : (k : Int) ≤ (cap : Int) := by omega
      have hkn : (k : Int) ≤ (n : Int) := by omega
      go_wp2_with fail
      refine wp_region_mix 12 [1, 2, 3, 5, 8, 9, 10] (by kernel_rfl) (by kernel_rfl) ?_
      simp only [List.filterMap_cons, List.filterMap_nil, List.getElem?_cons_succ, List.getElem?_cons_zero]
      repeat (first | go_big_quiet_step (fail) | quiet_step (fail))
      refine wpQuiet_nil ?_
      refine ins3 (md := .any) (i0 := 0) (i1 := 4) (i2 := 6) (i3 := 7) (i4 := 11) (d0 := 33) (d1 := 37) (d2 := 39) (d3 := 40) (d4 := 44) (k1 := 36) (k2 := 43) (kx := 38) (X := .string x) (t := 22) (e := 9)
        ⟨_, _, _, _, _, ⟨rfl, rfl, rfl, by decide⟩, ⟨rfl, rfl, rfl, by decide⟩, ⟨rfl, rfl, rfl, by decide⟩, ⟨rfl, rfl, rfl, by decide⟩, ⟨rfl, rfl, rfl, by decide⟩, rfl, rfl, rfl, ?run0, ?run2, by decide, by decide, by kernel_rfl, by kernel_rfl, by kernel_rfl, by kernel_rfl, by kernel_rfl, by kernel_rfl, by kernel_rfl⟩
        elS (W := w) ⟨by simp, by simp, by simp, by simp, by simp⟩ rfl rfl rfl (src_take HN.out hk HC.out) (src_drop HN.out hk hcap HC.out) rfl ?u1 ?u2 ?ux (by omega) (by unfold maxLen; omega) ?K
      case run0 => intro bb ww; go_simp
      case run2 =>
        intro bb hx ww
        have hx' : bb.tmps[38]?.getD undef = .string x := by simpa [Act.eval] using hx
        clear hx
        go_simp
      case u1 => intro v hv; obtain ⟨_, _, rfl⟩ := List.mem_map.1 hv; rfl
      case u2 => intro v hv; obtain ⟨_, _, rfl⟩ := List.mem_map.1 hv; rfl
      case ux => intro v hv; simp [Value.cells] at hv; subst hv; rfl
      case K =>
        intro r0 r1 r2 r3 r4 w4 hown hb4
        refine ⟨by kernel_rfl, ?_⟩
        simp only [List.drop_succ_cons, List.drop_zero]
        have hnk : k + 1 + (n - k) = (insR l x).length := by rw [E.out]; have := HN.out; simp; omega
        have hcs : (l.take k).map Value.string ++ (Value.string x).cells.toList ++ (l.drop k).map Value.string = (insR l x).map .string := by rw [E.out]; simp [Value.cells]
        rw [hnk, hcs] at hown
        have HOW : Hid (w4.ownsRow w.heap.size 9 1 r4 (insR l x).length ((insR l x).map .string)) := hown
        have HPOS : Hid (0 < (insR l x).length) := by show 0 < _; omega
        clear hown hcs hnk
        simp only [Act.put, List.setIfInBounds_toArray, List.set_cons_zero, List.set_cons_succ]
        go_wp2_with fail
        all_goals
          go_ret
          rcases HOW.out.2 with ⟨_, e⟩ | ⟨g', cap', cur, rfl, hbg, rest⟩
          · have := HPOS.out; omega
          · exact ⟨g', cap', rfl, ⟨HOW.out.1, .inr ⟨g', cap', cur, rfl, by omega, rest⟩⟩, hb4⟩

end Go.Proofs.YtbdhlcfcmennjacGreat
