/-
  Several texts in one.
-/
import Derived.Test.YtffmfomonmhkcaaGreatChecked
import Derived.WalkKit
import Derived.WalkSpells
import Derived.WalkLawsBesides
import Derived.BigQuiet
import Derived.Lib.Bytealg
import Derived.Lib.UnsafeStr
import Derived.Lib.BufferWrite
import Derived.Laws.MakeOwn
import Derived.Laws.Externs
import Derived.Test.YtffmfomonmhkcaaGreatKn
import Derived.Maps.AppendAt
import Derived.Test.YtffmfomonmhkcaaGreatRta
import Derived.Lib.RowBridge
import Derived.Test.YtffmfomonmhkcaaGreatKa
import Derived.Test.YtffmfomonmhkcaaGreatRva
import Derived.Test.YtffmfomonmhkcaaGreatHi
import Derived.Deep.Cut
/-
  A contract of the library's fresh copy of a text.
-/
namespace Go.Proofs.YtffmfomonmhkcaaGreat
open Go.RowKit

theorem under172 : Tryz.prog.underlying 156 = some (.pointer 5) := by kernel_rfl
theorem under135' : Tryz.prog.underlying 117 = some (.slice 5) := by kernel_rfl
theorem info5c : (Tryz.prog.info? 5).map (fun i => (i.zero, i.size, i.bytes)) = some (some (.int .u8 0), 1, 1) := by kernel_rfl

set_option maxHeartbeats 4000000 in
set_option maxRecDepth 100000 in
theorem clone_any (s : ByteArray) (w : World) (hlim : s.size ≤ 1048576) :
    Calls Tryz.prog 110 #[.string s] w fun e w' => e = .returned (.string s) ∧ Below w.heap.size w w' := by
  by_cases h0 : s.size = 0
  · have hs : s = ⟨#[]⟩ := by
      apply ByteArray.ext
      exact Array.eq_empty_of_size_eq_zero h0
    subst hs
    go_enter Tryz.func110, Tryz.ntmps110
    go_wp2
    go_ret
    exact ⟨rfl, Below.refl _ _⟩
  · obtain ⟨i0, hi, hz0, hz1, hz2⟩ := info_parts info5c
    have hinfo : (Tryz.prog.info? 5).map (·.size) = some 1 := by rw [hi]; simp [hz1]
    have hco : Tryz.prog.cellsOf 5 = 1 := by simp [Program.cellsOf, hi, hz1]
    obtain ⟨M, hM⟩ : ∃ M, M = madeCells (Value.int .u8 0).cells (((s.size : Nat) : Int).toNat * i0.size) := ⟨_, rfl⟩
    have hMs : M.size = s.size := by rw [hM, size_madeCells, hz1]; simp
    have hmk : ∀ W : World, (Instr.makeSlice 117 (.int .i64 (s.size : Int)) (.int .i64 (s.size : Int))).run Tryz.prog W = .ok (.slice (some ⟨W.heap.size, 0, none⟩) s.size s.size) (W.alloc (.cells M 5)) := fun W => by
      have h := run_make (P := Tryz.prog) W 117 5 i0 (.int .u8 0) under135' hi hz0 .i64 .i64 (s.size : Int) (s.size : Int) (by omega) (by omega) (by rw [hz2]; omega) (by omega)
      rw [← hM] at h
      simpa using h
    clear hM
    have hcp := Lib.run_copy_row_string (P := Tryz.prog) (w.alloc (.cells M 5)) 117 9 3 5 w.heap.size 0 s.size s.size s M 5 under135' hinfo (heap_alloc_new w _) (Nat.le_refl _) (by omega)
    obtain ⟨Y, hY⟩ : ∃ Y, Y = (M.toList.take 0 ++ Lib.byteCells s.data.toList ++ M.toList.drop (0 + s.size)).toArray := ⟨_, rfl⟩
    rw [← hY] at hcp
    have hYl : Y.toList = Lib.byteCells s.data.toList := by
      rw [hY, List.toList_toArray, List.take_zero, List.nil_append, List.drop_of_length_le (by rw [Array.length_toList]; omega), List.append_nil]
    have hYs : Y.size = s.size := by rw [← Array.length_toList, hYl, Lib.byteCells_length, ← Lib.size_eq]
    have hgY : ((w.alloc (.cells M 5)).setRow w.heap.size Y).heap[w.heap.size]? = some (.cells Y 5 (0, 0)) := setRow_heap _ _ M _ 5 (0, 0) (heap_alloc_new w _)
    have hne : s.data.toList ≠ [] := fun e => h0 (by rw [Lib.size_eq, e]; rfl)
    have hUS := Lib.run_unsafeString_row (P := Tryz.prog) ((w.alloc (.cells M 5)).setRow w.heap.size Y) 156 3 9 5 under172 hco w.heap.size Y.size (by unfold World.shape?; rw [hgY]) s.data.toList hne (by rw [← Lib.size_eq]; omega) (by rw [← Lib.size_eq]; omega)
      (fun j x hx => Lib.cells_of_row hgY Y.size j _ (by rw [List.take_of_length_le (by rw [Array.length_toList]; exact Nat.le_refl _), hYl]; simp [Lib.byteCells, hx]))
    rw [← Lib.size_eq] at hUS
    clear hY
    go_enter Tryz.func110, Tryz.ntmps110
    go_wp2
    go_ret
    have hb1 : Below w.heap.size w (w.alloc (.cells M 5)) := (Below.refl _ w).alloc (Nat.le_refl _) _
    have hb2 : Below w.heap.size (w.alloc (.cells M 5)) ((w.alloc (.cells M 5)).setRow w.heap.size Y) := ⟨rfl, rfl, rfl, by simp, fun k hk => setRow_other _ _ _ _ (by omega)⟩
    exact ⟨rfl, Lib.below_freeze (hb1.trans hb2) (p := ⟨w.heap.size, 0, none⟩) (Nat.le_refl _) _⟩

set_option maxRecDepth 100000 in
set_option maxHeartbeats 1000000 in
theorem clones_any (s : ByteArray) (w : World) (hlim : s.size ≤ 1048576) :
    Calls Tryz.prog 101 #[.string s] w fun e w' => e = .returned (.string s) ∧ Below w.heap.size w w' := by
  go_enter Tryz.func101, Tryz.ntmps101
  go_wp2_with (go_at_call 110; refine (clone_any _ _ hlim).mono ?_; rintro e w1 ⟨rfl, hb⟩)
  go_ret
  exact ⟨rfl, hb⟩

end Go.Proofs.YtffmfomonmhkcaaGreat

/-
  A contract of the program's fresh copies of texts.
-/
namespace Go.Proofs.YtffmfomonmhkcaaGreat
open Go.RowKit

theorem take_nth' {l : List ByteArray} {j : Nat} (h : j < l.length) : l.take (j + 1) = l.take j ++ [nthB l j] := by
  rw [List.take_add_one, nth_at h]; rfl

set_option maxRecDepth 100000 in
set_option maxHeartbeats 4000000 in
theorem freshI_any (B : Nat) (v : Value) (l : List ByteArray) (w : World) (h : Lst B w v l.length 1 (cS (nthB l))) (hB : B ≤ w.heap.size) (hl : l.length ≤ 1048576) (hs : ∀ i, i < l.length → (nthB l i).size ≤ 1048576) :
    Calls Tryz.prog 96 #[v] w fun e w' => ∃ v', e = .returned v' ∧ w'.ownsRow w.heap.size 9 1 v' l.length (l.map .string) ∧ Below w.heap.size w w' := by
  obtain ⟨i0, hi, hz0, hz1, hz2⟩ := info_parts info9b
  obtain ⟨oa, cap, rfl, _, hc⟩ := h
  have HC : Hid _ := hc
  have HS : Hid _ := hs
  clear hc hs
  generalize hn : l.length = n at *
  have HN : Hid (l.length = n) := hn
  clear hn
  go_enter Tryz.func96, Tryz.ntmps96
  go_wp2
  go_loopw [3, 8] (fun v i wr => ∃ q : Nat, q ≤ n ∧ i = .int .i64 q ∧ Hid (wr.ownsRow w.heap.size 9 1 v q ((l.take q).map .string)) ∧ Hid (Below w.heap.size w wr)) (fun _ i _ => n - (intOf i).toNat)
  case atStart => exact ⟨0, Nat.zero_le _, rfl, by simpa [Hid] using World.ownsRow_nil w w.heap.size 9 1, Below.refl _ _⟩
  case round =>
    obtain ⟨q, hq, rfl, hown, hbel⟩ := hrel
    have hsz := hbel.out.size
    by_cases hlt : q < n
    · obtain ⟨b, off, rfl, hbB, hcell⟩ := HC.out q hlt
      have e0 : wr.cell? ⟨b, off + q, none⟩ = some (.string (nthB l q)) := (hbel.out.cell (p := ⟨b, off + q, none⟩) (by show b < _; omega)).trans (by simpa [cS] using hcell 0 (by omega))
      clear hcell
      have hsq := HS.out q hlt
      have R : Hid (∀ (v' : Value) (w3 : World), w3.ownsRow w.heap.size 9 1 v' (q + 1) ((l.take q).map .string ++ [.string (nthB l q)]) → w3.ownsRow w.heap.size 9 1 v' (q + 1) ((l.take (q + 1)).map .string)) := fun v' w3 h => by
        rw [take_nth' (by rw [HN.out]; exact hlt), List.map_append]; exact h
      go_wp2_with fail
      refine (clones_any _ _ hsq).mono ?_; rintro e w1 ⟨rfl, hb1⟩
      have hs1 := hb1.size
      go_wp2_with (first
        | (at_builtin; refine wpList_append_own _ rfl _ _ 22 rfl w.heap.size 9 i0 (.string ByteArray.empty) 1 16 under24b hi hz0 hz1 hz2 rfl (by decide) _ _ _ rfl ((own_belowR hown.out hb1).alloc _) ⟨w1.heap.size, 0, none⟩ 1 1 [.string (nthB l q)] rfl rfl (cell_one_new _ _ _) (fun x hx => by simp at hx; subst hx; rfl) (by unfold maxLen; omega) (by omega) (by simp; omega) ?_; intro v' w3 hown' hgrow3 hnil3))
      go_roundw
      case rel =>
        have RR : ∃ q' : Nat, q' ≤ n ∧ Value.int .i64 ((q : Int) + 1) = .int .i64 (q' : Int) ∧ Hid (w3.ownsRow w.heap.size 9 1 v' q' ((l.take q').map .string)) ∧ Hid (Below w.heap.size w w3) :=
          ⟨q + 1, by omega, by go_num, R.out v' w3 hown', ((hbel.out.trans (hb1.mono hsz)).alloc (by omega) _).grown hgrow3 (by simp; omega) (fun p hp => (hown.out.lt p hp).1)⟩
        first
          | exact RR
          | ((repeat apply Exists.intro); exact ⟨RR, rfl⟩)
      case measure => simp [intOf]; omega
    · have hkn : q = n := by omega
      subst hkn
      have TL : Hid (l.take q = l) := by show _ = _; rw [← HN.out, List.take_length]
      go_wp2
      go_ret
      refine ⟨_, rfl, ?_, hbel.out⟩
      have := hown.out
      rw [TL.out] at this
      exact this

end Go.Proofs.YtffmfomonmhkcaaGreat

/-
  The stations of a plant as plain functions: all that is told, sorted, each once (the program), is what is put in one by one, in order (the model). And a contract of the library's taking out of what stands twice, on a list of the call's own.
-/
namespace Go.Proofs.YtffmfomonmhkcaaGreat
open Go.RowKit

theorem comp_asc (zs : List (List UInt8)) (h : zs.Pairwise fun a b => a ≤ b) : (Lib.compact zs).Pairwise fun a b => a < b := by
  unfold Lib.compact Lib.compactUpTo
  refine List.pairwise_map.2 ?_
  have hr : ((List.range zs.length).filter (Lib.keeps zs.toArray)).Pairwise fun i j => i < j := List.Pairwise.filter _ List.pairwise_lt_range
  refine (List.Pairwise.and_mem.1 hr).imp ?_
  rintro i j ⟨hi, hj, hij⟩
  obtain ⟨hj1, hj2⟩ := List.mem_filter.1 hj
  have hjl := List.mem_range.1 hj1
  have hne : zs[j]! ≠ zs[j - 1]! := by
    have := of_decide_eq_true hj2
    rcases this with e | e
    · omega
    · simpa using e
  have hget : ∀ k, k < zs.length → (zs.toArray)[k]! = zs[k]! := fun k hk => by simp
  rw [hget i (by omega), hget j hjl]
  have hle : ∀ a b, a < b → b < zs.length → zs[a]! ≤ zs[b]! := fun a b hab hb => by
    have := List.pairwise_iff_getElem.1 h a b (by omega) hb hab
    rw [getElem!_pos zs a (by omega), getElem!_pos zs b hb]
    exact this
  have h1 : zs[j - 1]! < zs[j]! := by
    rcases List.le_iff_lt_or_eq.1 (hle (j - 1) j (by omega) hjl) with h | h
    · exact h
    · exact absurd h.symm hne
  by_cases e : i = j - 1
  · rw [e]; exact h1
  · rcases List.le_iff_lt_or_eq.1 (hle i (j - 1) (by omega) (by omega)) with h | h
    · exact List.lt_trans h h1
    · rw [h]; exact h1
theorem comp_mem (zs : List (List UInt8)) (x : List UInt8) : x ∈ Lib.compact zs ↔ x ∈ zs := by
  have hget : ∀ k, (zs.toArray)[k]! = zs[k]! := fun k => List.getElem!_toArray
  constructor
  · intro h
    obtain ⟨i, hi, rfl⟩ := List.mem_map.1 h
    have hl := List.mem_range.1 (List.mem_filter.1 hi).1
    show (zs.toArray)[i]! ∈ zs
    rw [hget i, getElem!_pos zs i hl]
    exact List.getElem_mem hl
  · intro h
    obtain ⟨i, hi, rfl⟩ := List.getElem_of_mem h
    have hgo : ∀ i, i < zs.length → zs[i]! ∈ Lib.compact zs := by
      intro i
      induction i with
      | zero => intro hi; exact List.mem_map.2 ⟨0, List.mem_filter.2 ⟨List.mem_range.2 hi, by simp [Lib.keeps]⟩, hget 0⟩
      | succ i ih =>
        intro hi
        by_cases e : zs[i + 1]! = zs[i]!
        · rw [e]; exact ih (by omega)
        · refine List.mem_map.2 ⟨i + 1, List.mem_filter.2 ⟨List.mem_range.2 hi, ?_⟩, hget _⟩
          unfold Lib.keeps
          refine decide_eq_true (.inr ?_)
          rw [hget, hget]
          exact e
    have := hgo i hi
    rwa [getElem!_pos zs i hi] at this

/-- Texts, each once where the same stood side by side. -/
def cmpL (L : List ByteArray) : List ByteArray := (Lib.compact (L.map toL)).map ofL
theorem cmp_mem (L : List ByteArray) (y : ByteArray) : y ∈ cmpL L ↔ y ∈ L := by
  unfold cmpL
  rw [List.mem_map]
  constructor
  · rintro ⟨l, hl, rfl⟩
    obtain ⟨b, hb, rfl⟩ := List.mem_map.1 ((comp_mem _ _).1 hl)
    rw [of_to]; exact hb
  · intro hy
    exact ⟨toL y, (comp_mem _ _).2 (List.mem_map.2 ⟨y, hy, rfl⟩), of_to y⟩
theorem cmp_asc (L : List ByteArray) : AscL (cmpL (sortL L)) := by
  unfold AscL cmpL
  have e : (sortL L).map toL = (L.map toL).mergeSort fun x y => decide (x ≤ y) := by
    unfold sortL
    rw [List.map_map]
    have : toL ∘ ofL = id := funext fun l => to_of l
    rw [this, List.map_id]
  have h1 : ((L.map toL).mergeSort fun x y => decide (x ≤ y)).Pairwise fun a b => decide (a ≤ b) = true :=
    List.pairwise_mergeSort (fun a b c h1 h2 => by simp at *; exact List.le_trans h1 h2) (fun a b => by simp; exact List.le_total a b) _
  refine List.pairwise_map.2 ((comp_asc _ (by rw [e]; exact h1.imp fun h => of_decide_eq_true h)).imp fun {a b} hab => ?_)
  rw [ltB_iff, ByteArray.toList_eq, ByteArray.toList_eq]
  show toL (ofL a) < toL (ofL b)
  rw [to_of, to_of]
  exact hab
theorem cmp_len (L : List ByteArray) : (cmpL L).length ≤ L.length := by
  have := Lib.compact_length_le (L.map toL)
  simpa [cmpL] using this
/-- Texts, put in one by one. -/
def insA (L : List ByteArray) : List ByteArray := L.foldl insR []
theorem insA_snoc (L : List ByteArray) (x : ByteArray) : insA (L ++ [x]) = insR (insA L) x := by simp [insA]
theorem insA_both : ∀ (L : List ByteArray), AscL (insA L) ∧ ∀ y, y ∈ insA L ↔ y ∈ L := by
  intro L
  rw [← List.reverse_reverse L]
  induction L.reverse with
  | nil => exact ⟨List.Pairwise.nil, fun y => Iff.rfl⟩
  | cons x L ih =>
    rw [List.reverse_cons, insA_snoc]
    refine ⟨ins_asc _ _ ih.1, fun y => ?_⟩
    rw [ins_mem, ih.2 y, List.mem_append, List.mem_singleton]
theorem insA_len (L : List ByteArray) : (insA L).length ≤ L.length := by
  rw [← List.reverse_reverse L]
  induction L.reverse with
  | nil => exact Nat.le_refl _
  | cons x L ih =>
    rw [List.reverse_cons, insA_snoc]
    have := insR_len (insA L.reverse) x
    rw [List.length_append]
    show _ ≤ L.reverse.length + 1
    omega
theorem cmp_ins (L : List ByteArray) : cmpL (sortL L) = insA L :=
  asc_unique _ _ (cmp_asc L) (insA_both L).1 fun y => by rw [cmp_mem, sort_mem, (insA_both L).2 y]

/-- What a plant tells of stations: n of its places, then k of its valves. -/
def stnP (D : PD) (n : Nat) : List ByteArray := (List.range n).map fun i => (D.fp i).2.2
def stnV (D : PD) (k : Nat) : List ByteArray := (List.range k).map fun i => (D.fv i).2.2.2
theorem stnP_succ (D : PD) (n : Nat) : stnP D (n + 1) = stnP D n ++ [(D.fp n).2.2] := by simp [stnP, List.range_succ]
theorem stnV_succ (D : PD) (n : Nat) : stnV D (n + 1) = stnV D n ++ [(D.fv n).2.2.2] := by simp [stnV, List.range_succ]
theorem stnP_len (D : PD) (n : Nat) : (stnP D n).length = n := by simp [stnP]
theorem stnV_len (D : PD) (n : Nat) : (stnV D n).length = n := by simp [stnV]
/-- The stations of a plant. -/
def stnL (D : PD) : List ByteArray := insA (stnP D D.np ++ stnV D D.nv)
theorem stnL_len (D : PD) : (stnL D).length ≤ D.np + D.nv := by
  have := insA_len (stnP D D.np ++ stnV D D.nv)
  rw [List.length_append, stnP_len, stnV_len] at this
  exact this

theorem sortN_any (base : Nat) (v : Value) (L : List ByteArray) (w : World) (h : w.ownsRow base 9 1 v L.length (L.map .string)) (hl : L.length ≤ 1048576) (hbase : base ≤ w.heap.size) :
    Calls Tryz.prog 95 #[v] w fun e w' => e = .returned (.tuple #[]) ∧ w'.ownsRow base 9 1 v (sortL L).length ((sortL L).map .string) ∧ Below base w w' := by
  by_cases hne : 0 < L.length
  · exact sort_any base v L w h hne hl hbase
  · obtain rfl : L = [] := List.eq_nil_of_length_eq_zero (by omega)
    rcases h.2 with ⟨rfl, _⟩ | ⟨g, cap, cur, rfl, hb, hg, hc, hm', hs, ht⟩
    all_goals
      refine (Tryz.slices_Sort_string_none _ _ w).mono ?_
      rintro e w' ⟨rfl, rfl⟩
      exact ⟨rfl, by simpa [sortL] using h, Below.refl _ _⟩

theorem compact_any (base : Nat) (v : Value) (L : List ByteArray) (w : World) (h : w.ownsRow base 9 1 v L.length (L.map .string)) (hl : L.length ≤ 1048576) (hbase : base ≤ w.heap.size) :
    Calls Tryz.prog 97 #[v] w fun e w' => ∃ v', e = .returned v' ∧ w'.ownsRow base 9 1 v' (cmpL L).length ((cmpL L).map .string) ∧ Below base w w' := by
  rcases h.2 with ⟨rfl, hn⟩ | ⟨g, cap, cur, rfl, hb, hg, hc, hm', hs, ht⟩
  · have : L = [] := List.eq_nil_of_length_eq_zero hn
    subst this
    refine (Tryz.slices_Compact_string_empty none 0 w).mono ?_
    rintro e w' ⟨rfl, rfl⟩
    exact ⟨_, rfl, World.ownsRow_nil _ _ _ _, Below.refl _ _⟩
  · have hss : (L.map toL).length = L.length := by simp
    have henc : L.map Value.string = (L.map toL).map encStr := by
      rw [List.map_map]
      apply List.map_congr_left
      intro b _
      rfl
    have hH : Sort.Holds encStr w g 0 (L.map toL).toArray := holds_of_block hg (by rw [hss, ← henc, ← ht, Nat.mul_one])
    have C := Tryz.slices_Compact_string g 0 cap (L.map toL) w hH (by rw [hss]; omega) (by rw [hss]; exact hc)
    rw [hss] at C
    refine C.mono ?_
    rintro e w' ⟨rfl, q, rfl⟩
    have hcl : (Lib.compact (L.map toL)).length = (cmpL L).length := by simp [cmpL]
    have hle := cmp_len L
    generalize hts : Lib.compact (L.map toL) ++ List.replicate (L.length - (Lib.compact (L.map toL)).length) [] = ts
    have htl : ts.length = (L.map toL).length := by rw [← hts, hss]; simp; omega
    have O := ownsRow_sorted (w := w) (base := base) (g := g) (cap := cap) (n := q) (e := 9) (os := #[]) (cur := cur) (ss := L.map toL) (ts := ts) htl hb hg (by rw [hss]; exact hc) hm' hs
    have G := grownBy_sorted (w := w) (g := g) (n := q) (os := #[]) ts.toArray
    rw [Sort.grow_empty] at O G
    refine ⟨_, rfl, ?_, (Below.refl base w).grown G hbase (fun p hp => by cases hp; exact hb)⟩
    rw [hcl]
    refine ⟨by simp, ?_⟩
    rcases O.2 with ⟨h0, _⟩ | ⟨g', cap', cur', hv, hb', hg', hc', hm2, hs2, ht2⟩
    · cases h0
    · cases hv
      refine .inr ⟨g, cap, cur', rfl, hb', hg', by omega, hm2, hs2, ?_⟩
      rw [Nat.mul_one] at ht2 ⊢
      have e1 : cur'.toList.take (cmpL L).length = (cur'.toList.take (L.map toL).length).take (cmpL L).length := by rw [List.take_take, hss, Nat.min_eq_left hle]
      rw [e1, ht2, ← List.map_take, ← hts, List.take_left' hcl]
      unfold cmpL
      rw [List.map_map]
      rfl

end Go.Proofs.YtffmfomonmhkcaaGreat

/-
  A contract of the model's insertion of a name into names that ascend: a list of the call's own comes out, whatever the order in which its memory is made.
-/
namespace Go.Proofs.YtffmfomonmhkcaaGreat
open Go.RowKit

open Go.Sort in
set_option maxRecDepth 100000 in
set_option maxHeartbeats 4000000 in
theorem insS_any (base g cap : Nat) (l : List ByteArray) (x : ByteArray) (w : World) (h : w.ownsRow base 9 1 (.slice (some ⟨g, 0, none⟩) l.length cap) l.length (l.map .string)) (hl : l.length ≤ 1048576) (hbase : base ≤ w.heap.size) :
    Calls Tryz.prog 23 #[.slice (some ⟨g, 0, none⟩) l.length cap, .string x] w fun e w' => ∃ g' cap', e = .returned (.slice (some ⟨g', 0, none⟩) (insR l x).length cap') ∧ w'.ownsRow base 9 1 (.slice (some ⟨g', 0, none⟩) (insR l x).length cap') (insR l x).length ((insR l x).map .string) ∧ Below w.heap.size w w' := by
  have HO : Hid _ := h
  obtain ⟨hcap, hc⟩ := own_cells h
  have HC : Hid (∀ i, i < l.length → w.cell? ⟨g, i, none⟩ = some (.string (nthB l i))) := hc
  clear h hc
  generalize hn : l.length = n at *
  have HN : Hid (l.length = n) := hn
  clear hn
  go_enter Tryz.func23, Tryz.ntmps23
  go_wp2
  go_loop [5] (fun i => ∃ k : Nat, k ≤ n ∧ i = .int .i64 k ∧ Hid (∀ j, j < k → ltB (nthB l j) x = true)) (fun i => n - (intOf i).toNat)
  case atStart => exact ⟨0, Nat.zero_le _, rfl, fun _ h => by omega⟩
  case round =>
    obtain ⟨k, hk, rfl, hall⟩ := hrel
    have NEW : Hid ((k < n → ltB (nthB l k) x = false ∧ eqB (nthB l k) x = false) → insR l x = l.take k ++ [x] ++ l.drop k) := fun h => insR_new l k x (by rw [HN.out]; exact hk) hall.out (by rw [HN.out]; exact h)
    by_cases hlt : k < n
    · have e0 := HC.out k hlt
      cases h1 : Op.bytesLess (nthB l k).toList x.toList
      · cases h2 : ((nthB l k).toList == x.toList)
        · have E : Hid (insR l x = l.take k ++ [x] ++ l.drop k) := NEW.out (fun _ => ⟨h1, h2⟩)
          have hkc : (k : Int) ≤ (cap : Int) := by omega
          have hkn : (k : Int) ≤ (n : Int) := by omega
          go_wp2_with fail
          refine wp_region_mix 12 [1, 2, 3, 5, 8, 9, 10] (by kernel_rfl) (by kernel_rfl) ?_
          simp only [List.filterMap_cons, List.filterMap_nil, List.getElem?_cons_succ, List.getElem?_cons_zero]
          repeat (first | go_big_quiet_step (fail) | quiet_step (fail))
          refine wpQuiet_nil ?_
          refine ins3 (md := .any) (i0 := 0) (i1 := 4) (i2 := 6) (i3 := 7) (i4 := 11) (d0 := 33) (d1 := 37) (d2 := 39) (d3 := 40) (d4 := 44) (k1 := 36) (k2 := 43) (kx := 38) (X := .string x) (t := 22) (e := 9)
            ⟨_, _, _, _, _, ⟨rfl, rfl, rfl, by decide⟩, ⟨rfl, rfl, rfl, by decide⟩, ⟨rfl, rfl, rfl, by decide⟩, ⟨rfl, rfl, rfl, by decide⟩, ⟨rfl, rfl, rfl, by decide⟩, rfl, rfl, rfl, ?run0, ?run2, by decide, by decide, by kernel_rfl, by kernel_rfl, by kernel_rfl, by kernel_rfl, by kernel_rfl, by kernel_rfl, by kernel_rfl⟩
            elS (W := w) ⟨by simp, by simp, by simp, by simp, by simp⟩ rfl rfl rfl (src_take HN.out hk HC.out) (src_drop HN.out hk hcap HC.out) rfl ?u1 ?u2 ?ux (by omega) (by unfold maxLen; omega) ?K
          case run0 => intro bb ww; go_simp
          case run2 =>
            intro bb hx ww
            have hx' : bb.tmps[38]?.getD undef = .string x := by simpa [Act.eval] using hx
            clear hx
            go_simp
          case u1 => intro v hv; obtain ⟨_, _, rfl⟩ := List.mem_map.1 hv; rfl
          case u2 => intro v hv; obtain ⟨_, _, rfl⟩ := List.mem_map.1 hv; rfl
          case ux => intro v hv; simp [Value.cells] at hv; subst hv; rfl
          case K =>
            intro r0 r1 r2 r3 r4 w4 hown hb4
            refine ⟨by kernel_rfl, ?_⟩
            simp only [List.drop_succ_cons, List.drop_zero]
            have hnk : k + 1 + (n - k) = (insR l x).length := by rw [E.out]; have := HN.out; simp; omega
            have hcs : (l.take k).map Value.string ++ (Value.string x).cells.toList ++ (l.drop k).map Value.string = (insR l x).map .string := by rw [E.out]; simp [Value.cells]
            rw [hnk, hcs] at hown
            have HOW : Hid (w4.ownsRow w.heap.size 9 1 r4 (insR l x).length ((insR l x).map .string)) := hown
            have HPOS : Hid (0 < (insR l x).length) := by show 0 < _; omega
            clear hown hcs hnk
            simp only [Act.put, List.setIfInBounds_toArray, List.set_cons_zero, List.set_cons_succ]
            go_wp2_with fail
            all_goals
              go_ret
              rcases HOW.out.2 with ⟨_, e⟩ | ⟨g', cap', cur, rfl, hbg, rest⟩
              · have := HPOS.out; omega
              · exact ⟨g', cap', rfl, ⟨HOW.out.1, .inr ⟨g', cap', cur, rfl, by omega, rest⟩⟩, hb4⟩
        · have E : Hid (insR l x = l) := insR_eq l k x (by rw [HN.out]; exact hlt) hall.out h2
          go_wp2_with fail
          go_ret
          rw [E.out, HN.out]
          exact ⟨g, cap, rfl, HO.out, Below.refl _ _⟩
      · go_wp2_with fail
        go_round
        case rel => exact ⟨k + 1, by omega, by go_num, fun j hj => by
          by_cases e : j = k
          · subst e; exact h1
          · exact hall.out j (by omega)⟩
        case measure => simp [intOf]; omega
    · have E : Hid (insR l x = l.take k ++ [x] ++ l.drop k) := NEW.out (fun h => absurd h hlt)
      have hkc : (k : Int) ≤ (cap : Int) := by omega
      have hkn : (k : Int) ≤ (n : Int) := by omega
      go_wp2_with fail
      refine wp_region_mix 12 [1, 2, 3, 5, 8, 9, 10] (by kernel_rfl) (by kernel_rfl) ?_
      simp only [List.filterMap_cons, List.filterMap_nil, List.getElem?_cons_succ, List.getElem?_cons_zero]
      repeat (first | go_big_quiet_step (fail) | quiet_step (fail))
      refine wpQuiet_nil ?_
      refine ins3 (md := .any) (i0 := 0) (i1 := 4) (i2 := 6) (i3 := 7) (i4 := 11) (d0 := 33) (d1 := 37) (d2 := 39) (d3 := 40) (d4 := 44) (k1 := 36) (k2 := 43) (kx := 38) (X := .string x) (t := 22) (e := 9)
        ⟨_, _, _, _, _, ⟨rfl, rfl, rfl, by decide⟩, ⟨rfl, rfl, rfl, by decide⟩, ⟨rfl, rfl, rfl, by decide⟩, ⟨rfl, rfl, rfl, by decide⟩, ⟨rfl, rfl, rfl, by decide⟩, rfl, rfl, rfl, ?run0, ?run2, by decide, by decide, by kernel_rfl, by kernel_rfl, by kernel_rfl, by kernel_rfl, by kernel_rfl, by kernel_rfl, by kernel_rfl⟩
        elS (W := w) ⟨by simp, by simp, by simp, by simp, by simp⟩ rfl rfl rfl (src_take HN.out hk HC.out) (src_drop HN.out hk hcap HC.out) rfl ?u1 ?u2 ?ux (by omega) (by unfold maxLen; omega) ?K
      case run0 => intro bb ww; go_simp
      case run2 =>
        intro bb hx ww
        have hx' : bb.tmps[38]?.getD undef = .string x := by simpa [Act.eval] using hx
        clear hx
        go_simp
      case u1 => intro v hv; obtain ⟨_, _, rfl⟩ := List.mem_map.1 hv; rfl
      case u2 => intro v hv; obtain ⟨_, _, rfl⟩ := List.mem_map.1 hv; rfl
      case ux => intro v hv; simp [Value.cells] at hv; subst hv; rfl
      case K =>
        intro r0 r1 r2 r3 r4 w4 hown hb4
        refine ⟨by kernel_rfl, ?_⟩
        simp only [List.drop_succ_cons, List.drop_zero]
        have hnk : k + 1 + (n - k) = (insR l x).length := by rw [E.out]; have := HN.out; simp; omega
        have hcs : (l.take k).map Value.string ++ (Value.string x).cells.toList ++ (l.drop k).map Value.string = (insR l x).map .string := by rw [E.out]; simp [Value.cells]
        rw [hnk, hcs] at hown
        have HOW : Hid (w4.ownsRow w.heap.size 9 1 r4 (insR l x).length ((insR l x).map .string)) := hown
        have HPOS : Hid (0 < (insR l x).length) := by show 0 < _; omega
        clear hown hcs hnk
        simp only [Act.put, List.setIfInBounds_toArray, List.set_cons_zero, List.set_cons_succ]
        go_wp2_with fail
        all_goals
          go_ret
          rcases HOW.out.2 with ⟨_, e⟩ | ⟨g', cap', cur, rfl, hbg, rest⟩
          · have := HPOS.out; omega
          · exact ⟨g', cap', rfl, ⟨HOW.out.1, .inr ⟨g', cap', cur, rfl, by omega, rest⟩⟩, hb4⟩

end Go.Proofs.YtffmfomonmhkcaaGreat
