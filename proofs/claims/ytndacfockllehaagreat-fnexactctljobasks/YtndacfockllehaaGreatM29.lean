/-
  Several texts in one.
-/
import Derived.Test.YtndacfockllehaaGreatKn
import Derived.Test.YtndacfockllehaaGreatM24
import Derived.Maps.AppendAt
import Derived.Test.YtndacfockllehaaGreatM27
import Derived.Lib.RowBridge
import Derived.Test.YtndacfockllehaaGreatKa
import Derived.Test.YtndacfockllehaaGreatRva
import Derived.Test.YtndacfockllehaaGreatM12
import Derived.Deep.Cut
import Derived.Test.YtndacfockllehaaGreatM6
import Derived.Test.YtndacfockllehaaGreatBjm
/-
  A contract of the program's fresh copies of texts.
-/
namespace Go.Proofs.YtndacfockllehaaGreat
open Go.RowKit

theorem take_nth' {l : List ByteArray} {j : Nat} (h : j < l.length) : l.take (j + 1) = l.take j ++ [nthB l j] := by
  rw [List.take_add_one, nth_at h]; rfl

set_option maxRecDepth 100000 in
set_option maxHeartbeats 4000000 in
theorem freshI_any (B : Nat) (v : Value) (l : List ByteArray) (w : World) (h : Lst B w v l.length 1 (cS (nthB l))) (hB : B ≤ w.heap.size) (hl : l.length ≤ 1048576) (hs : ∀ i, i < l.length → (nthB l i).size ≤ 1048576) :
    Calls Tryz.prog 126 #[v] w fun e w' => ∃ v', e = .returned v' ∧ w'.ownsRow w.heap.size 9 1 v' l.length (l.map .string) ∧ Below w.heap.size w w' := by
  obtain ⟨i0, hi, hz0, hz1, hz2⟩ := info_parts info9b
  obtain ⟨oa, cap, rfl, _, hc⟩ := h
  have HC : Hid _ := hc
  have HS : Hid _ := hs
  clear hc hs
  generalize hn : l.length = n at *
  have HN : Hid (l.length = n) := hn
  clear hn
  go_enter Tryz.func126, Tryz.ntmps126
  go_wp2
  go_loopw [3, 8] (fun v i wr => ∃ q : Nat, q ≤ n ∧ i = .int .i64 q ∧ Hid (wr.ownsRow w.heap.size 9 1 v q ((l.take q).map .string)) ∧ Hid (Below w.heap.size w wr)) (fun _ i _ => n - (intOf i).toNat)
  case atStart => exact ⟨0, Nat.zero_le _, rfl, by simpa [Hid] using World.ownsRow_nil w w.heap.size 9 1, Below.refl _ _⟩
  case round =>
    obtain ⟨q, hq, rfl, hown, hbel⟩ := hrel
    have hsz := hbel.out.size
    by_cases hlt : q < n
    · obtain ⟨b, off, rfl, hbB, hcell⟩ := HC.out q hlt
      have e0 : wr.cell? ⟨b, off + q, none⟩ = some (.string (nthB l q)) := (hbel.out.cell (p := ⟨b, off + q, none⟩) (by show b < _; omega)).trans (by simpa [cS] using hcell 0 (by omega))
      clear hcell
      have hsq := HS.out q hlt
      have R : Hid (∀ (v' : Value) (w3 : World), w3.ownsRow w.heap.size 9 1 v' (q + 1) ((l.take q).map .string ++ [.string (nthB l q)]) → w3.ownsRow w.heap.size 9 1 v' (q + 1) ((l.take (q + 1)).map .string)) := fun v' w3 h => by
        rw [take_nth' (by rw [HN.out]; exact hlt), List.map_append]; exact h
      go_wp2_with fail
      refine (clones_any _ _ hsq).mono ?_; rintro e w1 ⟨rfl, hb1⟩
      have hs1 := hb1.size
      go_wp2_with (first
        | (at_builtin; refine wpList_append_own _ rfl _ _ 22 rfl w.heap.size 9 i0 (.string ByteArray.empty) 1 16 under24b hi hz0 hz1 hz2 rfl (by decide) _ _ _ rfl ((own_belowR hown.out hb1).alloc _) ⟨w1.heap.size, 0, none⟩ 1 1 [.string (nthB l q)] rfl rfl (cell_one_new _ _ _) (fun x hx => by simp at hx; subst hx; rfl) (by unfold maxLen; omega) (by omega) (by simp; omega) ?_; intro v' w3 hown' hgrow3 hnil3))
      go_roundw
      case rel =>
        have RR : ∃ q' : Nat, q' ≤ n ∧ Value.int .i64 ((q : Int) + 1) = .int .i64 (q' : Int) ∧ Hid (w3.ownsRow w.heap.size 9 1 v' q' ((l.take q').map .string)) ∧ Hid (Below w.heap.size w w3) :=
          ⟨q + 1, by omega, by go_num, R.out v' w3 hown', ((hbel.out.trans (hb1.mono hsz)).alloc (by omega) _).grown hgrow3 (by simp; omega) (fun p hp => (hown.out.lt p hp).1)⟩
        first
          | exact RR
          | ((repeat apply Exists.intro); exact ⟨RR, rfl⟩)
      case measure => simp [intOf]; omega
    · have hkn : q = n := by omega
      subst hkn
      have TL : Hid (l.take q = l) := by show _ = _; rw [← HN.out, List.take_length]
      go_wp2
      go_ret
      refine ⟨_, rfl, ?_, hbel.out⟩
      have := hown.out
      rw [TL.out] at this
      exact this

end Go.Proofs.YtndacfockllehaaGreat

/-
  The stations of a plant as plain functions: all that is told, sorted, each once (the program), is what is put in one by one, in order (the model). And a contract of the library's taking out of what stands twice, on a list of the call's own.
-/
namespace Go.Proofs.YtndacfockllehaaGreat
open Go.RowKit

theorem comp_asc (zs : List (List UInt8)) (h : zs.Pairwise fun a b => a ≤ b) : (Lib.compact zs).Pairwise fun a b => a < b := by
  unfold Lib.compact Lib.compactUpTo
  refine List.pairwise_map.2 ?_
  have hr : ((List.range zs.length).filter (Lib.keeps zs.toArray)).Pairwise fun i j => i < j := List.Pairwise.filter _ List.pairwise_lt_range
  refine (List.Pairwise.and_mem.1 hr).imp ?_
  rintro i j ⟨hi, hj, hij⟩
  obtain ⟨hj1, hj2⟩ := List.mem_filter.1 hj
  have hjl := List.mem_range.1 hj1
  have hne : zs[j]! ≠ zs[j - 1]! := by
    have := of_decide_eq_true hj2
    rcases this with e | e
    · omega
    · simpa using e
  have hget : ∀ k, k < zs.length → (zs.toArray)[k]! = zs[k]! := fun k hk => by simp
  rw [hget i (by omega), hget j hjl]
  have hle : ∀ a b, a < b → b < zs.length → zs[a]! ≤ zs[b]! := fun a b hab hb => by
    have := List.pairwise_iff_getElem.1 h a b (by omega) hb hab
    rw [getElem!_pos zs a (by omega), getElem!_pos zs b hb]
    exact this
  have h1 : zs[j - 1]! < zs[j]! := by
    rcases List.le_iff_lt_or_eq.1 (hle (j - 1) j (by omega) hjl) with h | h
    · exact h
    · exact absurd h.symm hne
  by_cases e : i = j - 1
  · rw [e]; exact h1
  · rcases List.le_iff_lt_or_eq.1 (hle i (j - 1) (by omega) (by omega)) with h | h
    · exact List.lt_trans h h1
    · rw [h]; exact h1
theorem comp_mem (zs : List (List UInt8)) (x : List UInt8) : x ∈ Lib.compact zs ↔ x ∈ zs := by
  have hget : ∀ k, (zs.toArray)[k]! = zs[k]! := fun k => List.getElem!_toArray
  constructor
  · intro h
    obtain ⟨i, hi, rfl⟩ := List.mem_map.1 h
    have hl := List.mem_range.1 (List.mem_filter.1 hi).1
    show (zs.toArray)[i]! ∈ zs
    rw [hget i, getElem!_pos zs i hl]
    exact List.getElem_mem hl
  · intro h
    obtain ⟨i, hi, rfl⟩ := List.getElem_of_mem h
    have hgo : ∀ i, i < zs.length → zs[i]! ∈ Lib.compact zs := by
      intro i
      induction i with
      | zero => intro hi; exact List.mem_map.2 ⟨0, List.mem_filter.2 ⟨List.mem_range.2 hi, by simp [Lib.keeps]⟩, hget 0⟩
      | succ i ih =>
        intro hi
        by_cases e : zs[i + 1]! = zs[i]!
        · rw [e]; exact ih (by omega)
        · refine List.mem_map.2 ⟨i + 1, List.mem_filter.2 ⟨List.mem_range.2 hi, ?_⟩, hget _⟩
          unfold Lib.keeps
          refine decide_eq_true (.inr ?_)
          rw [hget, hget]
          exact e
    have := hgo i hi
    rwa [getElem!_pos zs i hi] at this

/-- Texts, each once where the same stood side by side. -/
def cmpL (L : List ByteArray) : List ByteArray := (Lib.compact (L.map toL)).map ofL
theorem cmp_mem (L : List ByteArray) (y : ByteArray) : y ∈ cmpL L ↔ y ∈ L := by
  unfold cmpL
  rw [List.mem_map]
  constructor
  · rintro ⟨l, hl, rfl⟩
    obtain ⟨b, hb, rfl⟩ := List.mem_map.1 ((comp_mem _ _).1 hl)
    rw [of_to]; exact hb
  · intro hy
    exact ⟨toL y, (comp_mem _ _).2 (List.mem_map.2 ⟨y, hy, rfl⟩), of_to y⟩
theorem cmp_asc (L : List ByteArray) : AscL (cmpL (sortL L)) := by
  unfold AscL cmpL
  have e : (sortL L).map toL = (L.map toL).mergeSort fun x y => decide (x ≤ y) := by
    unfold sortL
    rw [List.map_map]
    have : toL ∘ ofL = id := funext fun l => to_of l
    rw [this, List.map_id]
  have h1 : ((L.map toL).mergeSort fun x y => decide (x ≤ y)).Pairwise fun a b => decide (a ≤ b) = true :=
    List.pairwise_mergeSort (fun a b c h1 h2 => by simp at *; exact List.le_trans h1 h2) (fun a b => by simp; exact List.le_total a b) _
  refine List.pairwise_map.2 ((comp_asc _ (by rw [e]; exact h1.imp fun h => of_decide_eq_true h)).imp fun {a b} hab => ?_)
  rw [ltB_iff, ByteArray.toList_eq, ByteArray.toList_eq]
  show toL (ofL a) < toL (ofL b)
  rw [to_of, to_of]
  exact hab
theorem cmp_len (L : List ByteArray) : (cmpL L).length ≤ L.length := by
  have := Lib.compact_length_le (L.map toL)
  simpa [cmpL] using this
/-- Texts, put in one by one. -/
def insA (L : List ByteArray) : List ByteArray := L.foldl insR []
theorem insA_snoc (L : List ByteArray) (x : ByteArray) : insA (L ++ [x]) = insR (insA L) x := by simp [insA]
theorem insA_both : ∀ (L : List ByteArray), AscL (insA L) ∧ ∀ y, y ∈ insA L ↔ y ∈ L := by
  intro L
  rw [← List.reverse_reverse L]
  induction L.reverse with
  | nil => exact ⟨List.Pairwise.nil, fun y => Iff.rfl⟩
  | cons x L ih =>
    rw [List.reverse_cons, insA_snoc]
    refine ⟨ins_asc _ _ ih.1, fun y => ?_⟩
    rw [ins_mem, ih.2 y, List.mem_append, List.mem_singleton]
theorem insA_len (L : List ByteArray) : (insA L).length ≤ L.length := by
  rw [← List.reverse_reverse L]
  induction L.reverse with
  | nil => exact Nat.le_refl _
  | cons x L ih =>
    rw [List.reverse_cons, insA_snoc]
    have := insR_len (insA L.reverse) x
    rw [List.length_append]
    show _ ≤ L.reverse.length + 1
    omega
theorem cmp_ins (L : List ByteArray) : cmpL (sortL L) = insA L :=
  asc_unique _ _ (cmp_asc L) (insA_both L).1 fun y => by rw [cmp_mem, sort_mem, (insA_both L).2 y]

/-- What a plant tells of stations: n of its places, then k of its valves. -/
def stnP (D : PD) (n : Nat) : List ByteArray := (List.range n).map fun i => (D.fp i).2.2
def stnV (D : PD) (k : Nat) : List ByteArray := (List.range k).map fun i => (D.fv i).2.2.2
theorem stnP_succ (D : PD) (n : Nat) : stnP D (n + 1) = stnP D n ++ [(D.fp n).2.2] := by simp [stnP, List.range_succ]
theorem stnV_succ (D : PD) (n : Nat) : stnV D (n + 1) = stnV D n ++ [(D.fv n).2.2.2] := by simp [stnV, List.range_succ]
theorem stnP_len (D : PD) (n : Nat) : (stnP D n).length = n := by simp [stnP]
theorem stnV_len (D : PD) (n : Nat) : (stnV D n).length = n := by simp [stnV]
/-- The stations of a plant. -/
def stnL (D : PD) : List ByteArray := insA (stnP D D.np ++ stnV D D.nv)
theorem stnL_len (D : PD) : (stnL D).length ≤ D.np + D.nv := by
  have := insA_len (stnP D D.np ++ stnV D D.nv)
  rw [List.length_append, stnP_len, stnV_len] at this
  exact this

theorem sortN_any (base : Nat) (v : Value) (L : List ByteArray) (w : World) (h : w.ownsRow base 9 1 v L.length (L.map .string)) (hl : L.length ≤ 1048576) (hbase : base ≤ w.heap.size) :
    Calls Tryz.prog 125 #[v] w fun e w' => e = .returned (.tuple #[]) ∧ w'.ownsRow base 9 1 v (sortL L).length ((sortL L).map .string) ∧ Below base w w' := by
  by_cases hne : 0 < L.length
  · exact sort_any base v L w h hne hl hbase
  · obtain rfl : L = [] := List.eq_nil_of_length_eq_zero (by omega)
    rcases h.2 with ⟨rfl, _⟩ | ⟨g, cap, cur, rfl, hb, hg, hc, hm', hs, ht⟩
    all_goals
      refine (Tryz.slices_Sort_string_none _ _ w).mono ?_
      rintro e w' ⟨rfl, rfl⟩
      exact ⟨rfl, by simpa [sortL] using h, Below.refl _ _⟩

theorem compact_any (base : Nat) (v : Value) (L : List ByteArray) (w : World) (h : w.ownsRow base 9 1 v L.length (L.map .string)) (hl : L.length ≤ 1048576) (hbase : base ≤ w.heap.size) :
    Calls Tryz.prog 127 #[v] w fun e w' => ∃ v', e = .returned v' ∧ w'.ownsRow base 9 1 v' (cmpL L).length ((cmpL L).map .string) ∧ Below base w w' := by
  rcases h.2 with ⟨rfl, hn⟩ | ⟨g, cap, cur, rfl, hb, hg, hc, hm', hs, ht⟩
  · have : L = [] := List.eq_nil_of_length_eq_zero hn
    subst this
    refine (Tryz.slices_Compact_string_empty none 0 w).mono ?_
    rintro e w' ⟨rfl, rfl⟩
    exact ⟨_, rfl, World.ownsRow_nil _ _ _ _, Below.refl _ _⟩
  · have hss : (L.map toL).length = L.length := by simp
    have henc : L.map Value.string = (L.map toL).map encStr := by
      rw [List.map_map]
      apply List.map_congr_left
      intro b _
      rfl
    have hH : Sort.Holds encStr w g 0 (L.map toL).toArray := holds_of_block hg (by rw [hss, ← henc, ← ht, Nat.mul_one])
    have C := Tryz.slices_Compact_string g 0 cap (L.map toL) w hH (by rw [hss]; omega) (by rw [hss]; exact hc)
    rw [hss] at C
    refine C.mono ?_
    rintro e w' ⟨rfl, q, rfl⟩
    have hcl : (Lib.compact (L.map toL)).length = (cmpL L).length := by simp [cmpL]
    have hle := cmp_len L
    generalize hts : Lib.compact (L.map toL) ++ List.replicate (L.length - (Lib.compact (L.map toL)).length) [] = ts
    have htl : ts.length = (L.map toL).length := by rw [← hts, hss]; simp; omega
    have O := ownsRow_sorted (w := w) (base := base) (g := g) (cap := cap) (n := q) (e := 9) (os := #[]) (cur := cur) (ss := L.map toL) (ts := ts) htl hb hg (by rw [hss]; exact hc) hm' hs
    have G := grownBy_sorted (w := w) (g := g) (n := q) (os := #[]) ts.toArray
    rw [Sort.grow_empty] at O G
    refine ⟨_, rfl, ?_, (Below.refl base w).grown G hbase (fun p hp => by cases hp; exact hb)⟩
    rw [hcl]
    refine ⟨by simp, ?_⟩
    rcases O.2 with ⟨h0, _⟩ | ⟨g', cap', cur', hv, hb', hg', hc', hm2, hs2, ht2⟩
    · cases h0
    · cases hv
      refine .inr ⟨g, cap, cur', rfl, hb', hg', by omega, hm2, hs2, ?_⟩
      rw [Nat.mul_one] at ht2 ⊢
      have e1 : cur'.toList.take (cmpL L).length = (cur'.toList.take (L.map toL).length).take (cmpL L).length := by rw [List.take_take, hss, Nat.min_eq_left hle]
      rw [e1, ht2, ← List.map_take, ← hts, List.take_left' hcl]
      unfold cmpL
      rw [List.map_map]
      rfl

end Go.Proofs.YtndacfockllehaaGreat

/-
  A contract of the model's insertion of a name into names that ascend: a list of the call's own comes out, whatever the order in which its memory is made.
-/
namespace Go.Proofs.YtndacfockllehaaGreat
open Go.RowKit

open Go.Sort in
set_option maxRecDepth 100000 in
set_option maxHeartbeats 4000000 in
theorem insS_any (base g cap : Nat) (l : List ByteArray) (x : ByteArray) (w : World) (h : w.ownsRow base 9 1 (.slice (some ⟨g, 0, none⟩) l.length cap) l.length (l.map .string)) (hl : l.length ≤ 1048576) (hbase : base ≤ w.heap.size) :
    Calls Tryz.prog 53 #[.slice (some ⟨g, 0, none⟩) l.length cap, .string x] w fun e w' => ∃ g' cap', e = .returned (.slice (some ⟨g', 0, none⟩) (insR l x).length cap') ∧ w'.ownsRow base 9 1 (.slice (some ⟨g', 0, none⟩) (insR l x).length cap') (insR l x).length ((insR l x).map .string) ∧ Below w.heap.size w w' := by
  have HO : Hid _ := h
  obtain ⟨hcap, hc⟩ := own_cells h
  have HC : Hid (∀ i, i < l.length → w.cell? ⟨g, i, none⟩ = some (.string (nthB l i))) := hc
  clear h hc
  generalize hn : l.length = n at *
  have HN : Hid (l.length = n) := hn
  clear hn
  go_enter Tryz.func53, Tryz.ntmps53
  go_wp2
  go_loop [5] (fun i => ∃ k : Nat, k ≤ n ∧ i = .int .i64 k ∧ Hid (∀ j, j < k → ltB (nthB l j) x = true)) (fun i => n - (intOf i).toNat)
  case atStart => exact ⟨0, Nat.zero_le _, rfl, fun _ h => by omega⟩
  case round =>
    obtain ⟨k, hk, rfl, hall⟩ := hrel
    have NEW : Hid ((k < n → ltB (nthB l k) x = false ∧ eqB (nthB l k) x = false) → insR l x = l.take k ++ [x] ++ l.drop k) := fun h => insR_new l k x (by rw [HN.out]; exact hk) hall.out (by rw [HN.out]; exact h)
    by_cases hlt : k < n
    · have e0 := HC.out k hlt
      cases h1 : Op.bytesLess (nthB l k).toList x.toList
      · cases h2 : ((nthB l k).toList == x.toList)
        · have E : Hid (insR l x = l.take k ++ [x] ++ l.drop k) := NEW.out (fun _ => ⟨h1, h2⟩)
          have hkc : (k : Int) ≤ (cap : Int) := by omega
          have hkn : (k : Int) ≤ (n : Int) := by omega
          go_wp2_with fail
          refine wp_region_mix 12 [1, 2, 3, 5, 8, 9, 10] (by kernel_rfl) (by kernel_rfl) ?_
          simp only [List.filterMap_cons, List.filterMap_nil, List.getElem?_cons_succ, List.getElem?_cons_zero]
          repeat (first | go_big_quiet_step (fail) | quiet_step (fail))
          refine wpQuiet_nil ?_
          refine ins3 (md := .any) (i0 := 0) (i1 := 4) (i2 := 6) (i3 := 7) (i4 := 11) (d0 := 33) (d1 := 37) (d2 := 39) (d3 := 40) (d4 := 44) (k1 := 36) (k2 := 43) (kx := 38) (X := .string x) (t := 22) (e := 9)
            ⟨_, _, _, _, _, ⟨rfl, rfl, rfl, by decide⟩, ⟨rfl, rfl, rfl, by decide⟩, ⟨rfl, rfl, rfl, by decide⟩, ⟨rfl, rfl, rfl, by decide⟩, ⟨rfl, rfl, rfl, by decide⟩, rfl, rfl, rfl, ?run0, ?run2, by decide, by decide, by kernel_rfl, by kernel_rfl, by kernel_rfl, by kernel_rfl, by kernel_rfl, by kernel_rfl, by kernel_rfl⟩
            elS (W := w) ⟨by simp, by simp, by simp, by simp, by simp⟩ rfl rfl rfl (src_take HN.out hk HC.out) (src_drop HN.out hk hcap HC.out) rfl ?u1 ?u2 ?ux (by omega) (by unfold maxLen; omega) ?K
          case run0 => intro bb ww; go_simp
          case run2 =>
            intro bb hx ww
            have hx' : bb.tmps[38]?.getD undef = .string x := by simpa [Act.eval] using hx
            clear hx
            go_simp
          case u1 => intro v hv; obtain ⟨_, _, rfl⟩ := List.mem_map.1 hv; rfl
          case u2 => intro v hv; obtain ⟨_, _, rfl⟩ := List.mem_map.1 hv; rfl
          case ux => intro v hv; simp [Value.cells] at hv; subst hv; rfl
          case K =>
            intro r0 r1 r2 r3 r4 w4 hown hb4
            refine ⟨by kernel_rfl, ?_⟩
            simp only [List.drop_succ_cons, List.drop_zero]
            have hnk : k + 1 + (n - k) = (insR l x).length := by rw [E.out]; have := HN.out; simp; omega
            have hcs : (l.take k).map Value.string ++ (Value.string x).cells.toList ++ (l.drop k).map Value.string = (insR l x).map .string := by rw [E.out]; simp [Value.cells]
            rw [hnk, hcs] at hown
            have HOW : Hid (w4.ownsRow w.heap.size 9 1 r4 (insR l x).length ((insR l x).map .string)) := hown
            have HPOS : Hid (0 < (insR l x).length) := by show 0 < _; omega
            clear hown hcs hnk
            simp only [Act.put, List.setIfInBounds_toArray, List.set_cons_zero, List.set_cons_succ]
            go_wp2_with fail
            all_goals
              go_ret
              rcases HOW.out.2 with ⟨_, e⟩ | ⟨g', cap', cur, rfl, hbg, rest⟩
              · have := HPOS.out; omega
              · exact ⟨g', cap', rfl, ⟨HOW.out.1, .inr ⟨g', cap', cur, rfl, by omega, rest⟩⟩, hb4⟩
        · have E : Hid (insR l x = l) := insR_eq l k x (by rw [HN.out]; exact hlt) hall.out h2
          go_wp2_with fail
          go_ret
          rw [E.out, HN.out]
          exact ⟨g, cap, rfl, HO.out, Below.refl _ _⟩
      · go_wp2_with fail
        go_round
        case rel => exact ⟨k + 1, by omega, by go_num, fun j hj => by
          by_cases e : j = k
          · subst e; exact h1
          · exact hall.out j (by omega)⟩
        case measure => simp [intOf]; omega
    · have E : Hid (insR l x = l.take k ++ [x] ++ l.drop k) := NEW.out (fun h => absurd h hlt)
      have hkc : (k : Int) ≤ (cap : Int) := by omega
      have hkn : (k : Int) ≤ (n : Int) := by omega
      go_wp2_with fail
      refine wp_region_mix 12 [1, 2, 3, 5, 8, 9, 10] (by kernel_rfl) (by kernel_rfl) ?_
      simp only [List.filterMap_cons, List.filterMap_nil, List.getElem?_cons_succ, List.getElem?_cons_zero]
      repeat (first | go_big_quiet_step (fail) | quiet_step (fail))
      refine wpQuiet_nil ?_
      refine ins3 (md := .any) (i0 := 0) (i1 := 4) (i2 := 6) (i3 := 7) (i4 := 11) (d0 := 33) (d1 := 37) (d2 := 39) (d3 := 40) (d4 := 44) (k1 := 36) (k2 := 43) (kx := 38) (X := .string x) (t := 22) (e := 9)
        ⟨_, _, _, _, _, ⟨rfl, rfl, rfl, by decide⟩, ⟨rfl, rfl, rfl, by decide⟩, ⟨rfl, rfl, rfl, by decide⟩, ⟨rfl, rfl, rfl, by decide⟩, ⟨rfl, rfl, rfl, by decide⟩, rfl, rfl, rfl, ?run0, ?run2, by decide, by decide, by kernel_rfl, by kernel_rfl, by kernel_rfl, by kernel_rfl, by kernel_rfl, by kernel_rfl, by kernel_rfl⟩
        elS (W := w) ⟨by simp, by simp, by simp, by simp, by simp⟩ rfl rfl rfl (src_take HN.out hk HC.out) (src_drop HN.out hk hcap HC.out) rfl ?u1 ?u2 ?ux (by omega) (by unfold maxLen; omega) ?K
      case run0 => intro bb ww; go_simp
      case run2 =>
        intro bb hx ww
        have hx' : bb.tmps[38]?.getD undef = .string x := by simpa [Act.eval] using hx
        clear hx
        go_simp
      case u1 => intro v hv; obtain ⟨_, _, rfl⟩ := List.mem_map.1 hv; rfl
      case u2 => intro v hv; obtain ⟨_, _, rfl⟩ := List.mem_map.1 hv; rfl
      case ux => intro v hv; simp [Value.cells] at hv; subst hv; rfl
      case K =>
        intro r0 r1 r2 r3 r4 w4 hown hb4
        refine ⟨by kernel_rfl, ?_⟩
        simp only [List.drop_succ_cons, List.drop_zero]
        have hnk : k + 1 + (n - k) = (insR l x).length := by rw [E.out]; have := HN.out; simp; omega
        have hcs : (l.take k).map Value.string ++ (Value.string x).cells.toList ++ (l.drop k).map Value.string = (insR l x).map .string := by rw [E.out]; simp [Value.cells]
        rw [hnk, hcs] at hown
        have HOW : Hid (w4.ownsRow w.heap.size 9 1 r4 (insR l x).length ((insR l x).map .string)) := hown
        have HPOS : Hid (0 < (insR l x).length) := by show 0 < _; omega
        clear hown hcs hnk
        simp only [Act.put, List.setIfInBounds_toArray, List.set_cons_zero, List.set_cons_succ]
        go_wp2_with fail
        all_goals
          go_ret
          rcases HOW.out.2 with ⟨_, e⟩ | ⟨g', cap', cur, rfl, hbg, rest⟩
          · have := HPOS.out; omega
          · exact ⟨g', cap', rfl, ⟨HOW.out.1, .inr ⟨g', cap', cur, rfl, by omega, rest⟩⟩, hb4⟩

end Go.Proofs.YtndacfockllehaaGreat

/-
  Contracts of the program's and of the model's stations of a plant: both answer with all that it tells of stations, each once, ascending, in memory of their own.
-/
namespace Go.Proofs.YtndacfockllehaaGreat
open Go.RowKit

theorem stn_size {D : PD} (hV : D.V) {y : ByteArray} (h : y ∈ stnP D D.np ++ stnV D D.nv) : y.size ≤ 8 := by
  rcases List.mem_append.1 h with h | h
  · obtain ⟨i, hi, rfl⟩ := List.mem_map.1 h
    exact name_size (hV.2.1.2 i (List.mem_range.1 hi)).2.2.2
  · obtain ⟨i, hi, rfl⟩ := List.mem_map.1 h
    exact name_size (hV.2.2.2 i (List.mem_range.1 hi)).2.2.2.2.2
/-- The answer: the stations, or nothing. -/
def stL (b : Bool) (D : PD) : List ByteArray := bif b then stnL D else []

set_option maxRecDepth 100000 in
set_option maxHeartbeats 4000000 in
theorem stations_any (B : Nat) (v0 v1 v2 v3 : Value) (D : PD) (w : World) (h : PAt B w v0 v1 v2 v3 D) (hB : B ≤ w.heap.size) (hV : D.V) :
    Calls Tryz.prog 87 #[.agg #[v0, v1, v2, v3]] w fun e w' => ∃ v, e = .returned v ∧ w'.ownsRow w.heap.size 9 1 v (stnL D).length ((stnL D).map .string) ∧ Below w.heap.size w w' := by
  obtain ⟨i0, hi, hz0, hz1, hz2⟩ := info_parts info9b
  have HV : Hid D.V := hV
  have hnp : D.np ≤ 14 := hV.2.1.1
  have hnv : D.nv ≤ 18 := hV.2.2.1
  clear hV
  have H : Hid (∀ w', Below w.heap.size w w' → PAt B w' v0 v1 v2 v3 D) := fun w' hb => h.kept hb hB
  clear h
  obtain ⟨W, hW⟩ : ∃ W, W = w.alloc (.cells #[v0, v1, v2, v3] 40) := ⟨_, rfl⟩
  have sW : W.heap.size = w.heap.size + 1 := by rw [hW]; simp
  have kW : Hid (Below (w.heap.size + 1) W W) := Below.refl _ _
  have EW : Hid (W = w.alloc (.cells #[v0, v1, v2, v3] 40)) := hW
  have bx : Hid (∀ w', Below (w.heap.size + 1) W w' → (w'.cell? ⟨w.heap.size, 2, none⟩ = some v2 ∧ w'.cell? ⟨w.heap.size, 3, none⟩ = some v3) ∧ Below w.heap.size w w') := fun w' hb => by
    rw [hW] at hb
    exact ⟨⟨box_in hb 2 _ rfl, box_in hb 3 _ rfl⟩, below_end hb⟩
  clear hW
  go_enter Tryz.func87, Tryz.ntmps87
  go_upto_region 2 with fail
  rw [← EW.out]
  obtain ⟨⟨a2, a3⟩, hbw⟩ := bx.out W kW.out
  obtain ⟨op, cp, rfl, _, hcV⟩ := (H.out W hbw).p
  clear hcV
  go_wp2_with fail
  clear a2 a3 hbw
  go_loopw [3, 11] (fun v i wr => ∃ q : Nat, q ≤ D.np ∧ i = .int .i64 q ∧ Hid (wr.ownsRow (w.heap.size + 1) 9 1 v (stnP D q).length ((stnP D q).map .string)) ∧ Hid (Below (w.heap.size + 1) W wr)) (fun _ i _ => D.np - (intOf i).toNat)
  case atStart => exact ⟨0, Nat.zero_le _, rfl, by simpa [Hid, stnP] using World.ownsRow_nil W (w.heap.size + 1) 9 1, kW⟩
  case round =>
    obtain ⟨q, hq, rfl, hown, hbel⟩ := hrel
    obtain ⟨⟨a2, a3⟩, hbw⟩ := bx.out wr hbel.out
    have hsr : w.heap.size + 1 ≤ wr.heap.size := by have := hbel.out.size; omega
    have hlen := stnP_len D q
    by_cases hlt : q < D.np
    · obtain ⟨oa', cap', hv, _, hcv⟩ := (H.out wr hbw).p
      cases hv
      obtain ⟨b, off, rfl, hbB, hcell⟩ := hcv q hlt
      have e0 : wr.cell? ⟨b, off + q * 3, none⟩ = some (.string (D.fp q).1) := hcell 0 (by omega)
      have e1 : wr.cell? ⟨b, off + q * 3 + 1, none⟩ = some (.int .i64 (D.fp q).2.1) := hcell 1 (by omega)
      have e2 : wr.cell? ⟨b, off + q * 3 + 2, none⟩ = some (.string (D.fp q).2.2) := hcell 2 (by omega)
      clear hcv hcell
      go_wp2_with (first
        | (at_builtin; refine wpList_append_own _ rfl _ _ 22 rfl (w.heap.size + 1) 9 i0 (.string ByteArray.empty) 1 16 under24b hi hz0 hz1 hz2 rfl (by decide) _ _ _ rfl ((hown.out.alloc _).alloc _) ⟨wr.heap.size + 1, 0, none⟩ 1 1 [.string (D.fp q).2.2] rfl rfl (by have := cell_one_new (wr.alloc (.cells #[.string (D.fp q).1, .int .i64 (D.fp q).2.1, .string (D.fp q).2.2] 103)) (.string (D.fp q).2.2) 9; simpa using this) (fun x hx => by simp at hx; subst hx; rfl) (by unfold maxLen; omega) (by omega) (by simp; omega) ?_; intro v' w3 hown' hgrow3 hnil3))
      go_roundw
      case rel =>
        have RR : ∃ q' : Nat, q' ≤ D.np ∧ Value.int .i64 ((q : Int) + 1) = .int .i64 (q' : Int) ∧ Hid (w3.ownsRow (w.heap.size + 1) 9 1 v' (stnP D q').length ((stnP D q').map .string)) ∧ Hid (Below (w.heap.size + 1) W w3) :=
          ⟨q + 1, by omega, by go_num, by show World.ownsRow _ _ _ _ _ _ _; rw [stnP_succ]; exact own_push hown', (((hbel.out.alloc hsr _).alloc (by simp; omega) _).grown hgrow3 (by simp; omega) (fun p hp => (hown.out.lt p hp).1))⟩
        first
          | exact RR
          | ((repeat apply Exists.intro); exact ⟨RR, rfl⟩)
      case measure => simp [intOf]; omega
    · obtain rfl : q = D.np := by omega
      obtain ⟨ov, cv, rfl, _, hcV⟩ := (H.out wr hbw).v
      clear hcV
      go_wp2_with fail
      clear a2 a3 hbw
      have O0 := hown
      have K0 := hbel
      clear hown hbel hsr
      go_loopw [3, 24] (fun v i wr => ∃ q : Nat, q ≤ D.nv ∧ i = .int .i64 q ∧ Hid (wr.ownsRow (w.heap.size + 1) 9 1 v (stnP D D.np ++ stnV D q).length ((stnP D D.np ++ stnV D q).map .string)) ∧ Hid (Below (w.heap.size + 1) W wr)) (fun _ i _ => D.nv - (intOf i).toNat)
      case atStart => exact ⟨0, Nat.zero_le _, rfl, by simpa [Hid, stnV] using O0.out, K0⟩
      case round =>
        obtain ⟨q, hq, rfl, hown, hbel⟩ := hrel
        obtain ⟨⟨a2, a3⟩, hbw⟩ := bx.out wr hbel.out
        have hsr : w.heap.size + 1 ≤ wr.heap.size := by have := hbel.out.size; omega
        have hlen2 : (stnP D D.np ++ stnV D q).length ≤ 32 := by rw [List.length_append, stnP_len, stnV_len]; omega
        by_cases hlt : q < D.nv
        · obtain ⟨oa', cap', hv, _, hcv⟩ := (H.out wr hbw).v
          cases hv
          obtain ⟨b, off, rfl, hbB, hcell⟩ := hcv q hlt
          have e0 : wr.cell? ⟨b, off + q * 4, none⟩ = some (.string (D.fv q).1) := hcell 0 (by omega)
          have e1 : wr.cell? ⟨b, off + q * 4 + 1, none⟩ = some (.string (D.fv q).2.1) := hcell 1 (by omega)
          have e2 : wr.cell? ⟨b, off + q * 4 + 2, none⟩ = some (.string (D.fv q).2.2.1) := hcell 2 (by omega)
          have e3 : wr.cell? ⟨b, off + q * 4 + 3, none⟩ = some (.string (D.fv q).2.2.2) := hcell 3 (by omega)
          clear hcv hcell
          go_wp2_with (first
            | (at_builtin; refine wpList_append_own _ rfl _ _ 22 rfl (w.heap.size + 1) 9 i0 (.string ByteArray.empty) 1 16 under24b hi hz0 hz1 hz2 rfl (by decide) _ _ _ rfl ((hown.out.alloc _).alloc _) ⟨wr.heap.size + 1, 0, none⟩ 1 1 [.string (D.fv q).2.2.2] rfl rfl (by have := cell_one_new (wr.alloc (.cells #[.string (D.fv q).1, .string (D.fv q).2.1, .string (D.fv q).2.2.1, .string (D.fv q).2.2.2] 105)) (.string (D.fv q).2.2.2) 9; simpa using this) (fun x hx => by simp at hx; subst hx; rfl) (by unfold maxLen; omega) (by omega) (by simp; omega) ?_; intro v' w3 hown' hgrow3 hnil3))
          go_roundw
          case rel =>
            have RR : ∃ q' : Nat, q' ≤ D.nv ∧ Value.int .i64 ((q : Int) + 1) = .int .i64 (q' : Int) ∧ Hid (w3.ownsRow (w.heap.size + 1) 9 1 v' (stnP D D.np ++ stnV D q').length ((stnP D D.np ++ stnV D q').map .string)) ∧ Hid (Below (w.heap.size + 1) W w3) :=
              ⟨q + 1, by omega, by go_num, by show World.ownsRow _ _ _ _ _ _ _; rw [stnV_succ, ← List.append_assoc]; exact own_push hown', (((hbel.out.alloc hsr _).alloc (by simp; omega) _).grown hgrow3 (by simp; omega) (fun p hp => (hown.out.lt p hp).1))⟩
            first
              | exact RR
              | ((repeat apply Exists.intro); exact ⟨RR, rfl⟩)
          case measure => simp [intOf]; omega
        · obtain rfl : q = D.nv := by omega
          have HM : Hid (∀ y, y ∈ stnL D → y.size ≤ 8) := fun y hy => stn_size HV.out (((insA_both _).2 y).1 hy)
          have HS : Hid (cmpL (sortL (stnP D D.np ++ stnV D D.nv)) = stnL D) := cmp_ins _
          have hl2 := stnL_len D
          generalize stnP D D.np ++ stnV D D.nv = LL at hown HS hlen2
          clear a2 a3 hbw
          go_wp2_with fail
          refine (sortN_any (w.heap.size + 1) _ LL wr hown.out (by omega) hsr).mono ?_; rintro e w1 ⟨rfl, o1, hb1⟩
          have O1 : Hid (w1.ownsRow (w.heap.size + 1) 9 1 u3 (sortL LL).length ((sortL LL).map .string)) := o1
          have k1 : Hid (Below (w.heap.size + 1) W w1) := hbel.out.trans hb1
          have s1 := hb1.size
          have hsl := sort_len LL
          clear o1 hb1 hown hbel
          go_wp2_with fail
          refine (compact_any (w.heap.size + 1) _ (sortL LL) w1 O1.out (by omega) (by omega)).mono ?_; rintro e w2 ⟨v2', rfl, o2, hb2⟩
          rw [HS.out] at o2
          have L2 := own_lst o2 (by omega)
          have k2 : Hid (Below (w.heap.size + 1) W w2) := k1.out.trans hb2
          have s2 := hb2.size
          have HZ : Hid (∀ i, i < (stnL D).length → (nthB (stnL D) i).size ≤ 1048576) := fun i hi => by
            have := HM.out _ (List.mem_of_getElem? (nth_at hi)); omega
          clear o2 hb2
          go_wp2_with fail
          refine (freshI_any w2.heap.size _ (stnL D) w2 L2 (Nat.le_refl _) (by omega) HZ.out).mono ?_; rintro e w3 ⟨v3', rfl, o3, hb3⟩
          have O3 : Hid (w3.ownsRow w2.heap.size 9 1 v3' (stnL D).length ((stnL D).map .string)) := o3
          have k3 : Hid (Below (w.heap.size + 1) W w3) := k2.out.trans (hb3.mono (by omega))
          clear o3 hb3 L2
          go_wp2_with fail
          go_ret
          exact ⟨_, rfl, own_leR O3.out (by omega), (bx.out _ k3.out).2⟩

end Go.Proofs.YtndacfockllehaaGreat

/-
  What is asked of stations, as data.
-/
namespace Go.Proofs.YtndacfockllehaaGreat
open Go.RowKit

theorem enc_S (l : List ByteArray) : enc 1 eS l = l.map .string := by
  induction l with
  | nil => rfl
  | cons x l ih => rw [enc_cons, ih]; rfl
theorem But.grownS {S : Nat → Prop} {w1 u u3 : World} {r : Option Nat} (h : But S w1 u) (hg : u.grownBy u3 r) (hr : ∀ q, r = some q → S q ∨ w1.heap.size ≤ q) : But S w1 u3 :=
  ⟨hg.os.trans h.os, hg.tape.trans h.tape, hg.output.trans h.output, Nat.le_trans h.size hg.size, fun b hb hn => (hg.block b (Nat.lt_of_lt_of_le hb h.size) (fun e => by
    rcases hr b e.symm with hs | hs
    · exact hn hs
    · omega)).trans (h.block b hb hn)⟩
theorem infA : (Tryz.prog.info? 70).map (fun i => (i.zero, i.size, i.bytes)) = some (some (.agg #[.string ByteArray.empty, .int .i64 0, .int .i64 0, .slice none 0 0, .slice none 0 0, .slice none 0 0, .slice none 0 0]), 7, 128) := by kernel_rfl
theorem elA : ElT Tryz.prog 34 70 7 128 := by
  obtain ⟨i, h1, h2, h3, h4⟩ := info_parts infA
  exact ⟨by kernel_rfl, ⟨i, _, h1, h2, h3, h4, rfl⟩, by decide⟩
/-- How much a want asks for. -/
def askN (a : DClaimWant) : Nat := a.2.2.2.1.length + a.2.2.2.2.1.length + a.2.2.2.2.2.length
/-- What is asked of each of a list of stations that has any of a want. -/
def askL (D : PD) (a : DClaimWant) (l : List ByteArray) : List DCtlAsk := (l.filter fun st => decide (0 < askN (ofD D st a))).map fun st => (st, ofD D st a)
theorem askL_yes {D : PD} {a : DClaimWant} {l : List ByteArray} {y : ByteArray} (h : 0 < askN (ofD D y a)) : askL D a (l ++ [y]) = askL D a l ++ [(y, ofD D y a)] := by simp [askL, List.filter_append, h]
theorem askL_no {D : PD} {a : DClaimWant} {l : List ByteArray} {y : ByteArray} (h : ¬ 0 < askN (ofD D y a)) : askL D a (l ++ [y]) = askL D a l := by simp [askL, List.filter_append, h]
theorem askL_len (D : PD) (a : DClaimWant) (l : List ByteArray) : (askL D a l).length ≤ l.length := by
  unfold askL
  rw [List.length_map]
  exact List.length_filter_le _ _
theorem stL_size {D : PD} (hV : D.V) {y : ByteArray} (h : y ∈ stL true D) : y.size ≤ maxLen := by
  have := stn_size hV (((insA_both _).2 y).1 h)
  unfold maxLen; omega
/-- A want and the name of a station are an ask. -/
theorem ask_on {S : Nat → Prop} {w : World} {y : ByteArray} {b : DClaimWant} {g : Nat → Value} {x0 x1 x2 x3 x4 x5 : Value} (hy : y.size ≤ maxLen) (h : Own.On S w b g) (e0 : g 0 = x0) (e1 : g 1 = x1) (e2 : g 2 = x2) (e3 : g 3 = x3) (e4 : g 4 = x4) (e5 : g 5 = x5) :
    Own.On S w ((y, b) : DCtlAsk) (cs [.string y, x0, x1, x2, x3, x4, x5]) :=
  ⟨fun _ => False, S, fun _ h => h.elim, fun _ h => h, ⟨rfl, hy⟩, Own.on_ext h (fun j hj => by
    have hj : j < 6 := hj
    rcases (show j = 0 ∨ j = 1 ∨ j = 2 ∨ j = 3 ∨ j = 4 ∨ j = 5 by omega) with rfl | rfl | rfl | rfl | rfl | rfl
    · exact e0.symm
    · exact e1.symm
    · exact e2.symm
    · exact e3.symm
    · exact e4.symm
    · exact e5.symm)⟩

end Go.Proofs.YtndacfockllehaaGreat
