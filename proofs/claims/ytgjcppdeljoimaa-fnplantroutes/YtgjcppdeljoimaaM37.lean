/-
  Several texts in one.
-/
import Derived.Test.YtgjcppdeljoimaaM36
import Derived.Test.YtgjcppdeljoimaaKa
import Derived.Test.YtgjcppdeljoimaaRva
import Derived.Test.YtgjcppdeljoimaaM2
import Derived.Deep.Cut
import Derived.Test.YtgjcppdeljoimaaChecked
import Derived.WalkKit
import Derived.WalkSpells
import Derived.WalkLawsBesides
import Derived.BigQuiet
import Derived.Lib.Bytealg
import Derived.Lib.UnsafeStr
import Derived.Lib.BufferWrite
import Derived.Laws.MakeOwn
import Derived.Laws.Externs
import Derived.Maps.AppendAt
import Derived.Test.YtgjcppdeljoimaaM34
import Derived.RangeFuncNested
import Derived.RangeFuncBound
import Derived.RangeFuncLeaves
import Derived.RangeFuncBox
namespace Go.Proofs.Ytgjcppdeljoimaa
open Go.RowKit
theorem underR : Try.prog.underlying 31 = some (.slice 34) := by kernel_rfl
theorem infoR : (Try.prog.info? 34).map (fun i => (i.zero, i.size, i.bytes)) = some (some (.agg #[.slice none 0 0, .slice none 0 0]), 2, 48) := by kernel_rfl
theorem cells_two (w : World) (a b : Value) (t : TypeId) (j : Nat) (u : Value) (h : [a, b][j]? = some u) : (w.alloc (.cells #[a, b] t)).cell? ((⟨w.heap.size, 0, none⟩ : Addr).add j) = some u := by
  rw [add_at, Nat.zero_add]
  have : (#[a, b] : Array Value)[j]? = some u := by simpa using h
  simp only [World.cell?, heap_alloc_new, this]; rfl
def apV (u v : Value) : Prop := ∀ k, u.ownBlock = some k → v.ownBlock ≠ some k
theorem apV.symm {u v : Value} (h : apV u v) : apV v u := fun k h1 h2 => h k h2 h1
theorem apV.moved {u u' v : Value} {w : World} {B T size n : Nat} {xs : List Value} (h : apV u v) (hu : u'.ownBlock = u.ownBlock ∨ u'.ownBlock = some w.heap.size) (hv : w.ownsRow B T size v n xs) : apV u' v := fun k h1 h2 => by
  rcases hu with e | e
  · exact h k (e ▸ h1) h2
  · rw [e] at h1
    simp at h1
    have := (hv.lt k h2).2
    omega
theorem apV.fresh {u v : Value} {w w' : World} {B B' T T' size size' n n' : Nat} {xs xs' : List Value} (hu : w'.ownsRow B T size u n xs) (hB : w.heap.size ≤ B) (hv : w.ownsRow B' T' size' v n' xs') : apV u v := fun k h1 h2 => by
  have a1 := (hu.lt k h1).1
  have a2 := (hv.lt k h2).2
  omega
theorem own_beside {B T size n : Nat} {w w' : World} {u v : Value} {xs : List Value} (h : w.ownsRow B T size v n xs) (hg : w.grownBy w' u.ownBlock) (ha : apV u v) : w'.ownsRow B T size v n xs :=
  own_keep h (fun k hk => hg.block k (h.lt k hk).2 (fun e => ha k e.symm hk))
def RowN (B : Nat) (w : World) (u : Value) (l : List ByteArray) (g : Nat) : Prop := RowG B w u l g ∨ (l = [] ∧ u = .slice none 0 0)
theorem RowN.same {B : Nat} {w w' : World} {u : Value} {l : List ByteArray} {g : Nat} (h : RowN B w u l g) (e : g < w.heap.size → w'.heap[g]? = w.heap[g]?) : RowN B w' u l g := by
  rcases h with h | h
  · exact .inl (h.same (e h.lt))
  · exact .inr h
theorem RowN.le {B B' : Nat} {w : World} {u : Value} {l : List ByteArray} {g : Nat} (h : RowN B w u l g) (hB : B' ≤ B) : RowN B' w u l g := by
  rcases h with h | h
  · exact .inl (h.le hB)
  · exact .inr h
theorem RowN.lst {B : Nat} {w : World} {u : Value} {l : List ByteArray} {g : Nat} (h : RowN B w u l g) (hm : l.length ≤ 1048576) : Lst w.heap.size w u l.length 1 (cS (nthB l)) := by
  rcases h with h | ⟨rfl, rfl⟩
  · exact h.lst hm
  · exact ⟨none, 0, rfl, Nat.zero_le _, fun i hi => by simp at hi⟩
structure RtsL (B : Nat) (w : World) (v : Value) (Z : List RR) : Prop where
  own : w.ownsRow B 34 2 v Z.length (celZ Z)
  row : ∀ z ∈ Z, RowG B w z.u z.r.1 z.g ∧ RowN B w z.v z.r.2 z.h
theorem RtsO.toL {B : Nat} {w : World} {v : Value} {Z : List RR} (h : RtsO B w v Z) : RtsL B w v Z := ⟨h.own, fun z hz => ⟨(h.row z hz).p, .inl (h.row z hz).q⟩⟩
theorem RtsL.below {B : Nat} {w w' : World} {v : Value} {Z : List RR} (h : RtsL B w v Z) (hb : Below w.heap.size w w') : RtsL B w' v Z :=
  ⟨own_belowR h.own hb, fun z hz => ⟨(h.row z hz).1.below hb, (h.row z hz).2.same (fun hl => hb.block _ hl)⟩⟩
theorem RtsL.le {B B' : Nat} {w : World} {v : Value} {Z : List RR} (h : RtsL B w v Z) (hB : B' ≤ B) : RtsL B' w v Z :=
  ⟨own_leR h.own hB, fun z hz => ⟨(h.row z hz).1.le hB, (h.row z hz).2.le hB⟩⟩
theorem RowN.grown {B B' T size n : Nat} {w w' : World} {v u : Value} {xs : List Value} {l : List ByteArray} {g : Nat} (h : RowN B w u l g) (ho : w.ownsRow B' T size v n xs) (hT : T ≠ 9) (hg : w.grownBy w' v.ownBlock) : RowN B w' u l g := by
  rcases h with h | h
  · exact .inl (h.same (hg.block _ h.lt (h.apart ho hT)))
  · exact .inr h
theorem RtsL.beside {B B' n : Nat} {w w' : World} {u v : Value} {Z : List RR} {xs : List Value} (h : RtsL B w v Z) (hu : w.ownsRow B' 34 2 u n xs) (hg : w.grownBy w' u.ownBlock) (ha : apV u v) : RtsL B w' v Z :=
  ⟨own_beside h.own hg ha, fun z hz => ⟨(h.row z hz).1.same (hg.block _ (h.row z hz).1.lt ((h.row z hz).1.apart hu typeR)), (h.row z hz).2.grown hu typeR hg⟩⟩
theorem RtsO.beside {B B' n : Nat} {w w' : World} {u v : Value} {Z : List RR} {xs : List Value} (h : RtsO B w v Z) (hu : w.ownsRow B' 34 2 u n xs) (hg : w.grownBy w' u.ownBlock) (ha : apV u v) : RtsO B w' v Z :=
  ⟨own_beside h.own hg ha, fun z hz => (h.row z hz).grown hu typeR hg, h.nod⟩
theorem RtsL.push {B : Nat} {w w' : World} {v v' : Value} {Z : List RR} {z : RR} (h : RtsL B w v Z) (hr : RowG B w z.u z.r.1 z.g ∧ RowN B w z.v z.r.2 z.h)
    (ho : w'.ownsRow B 34 2 v' (Z.length + 1) (celZ Z ++ [z.u, z.v])) (hg : w.grownBy w' v.ownBlock) : RtsL B w' v' (Z ++ [z]) := by
  refine ⟨?_, fun x hx => ?_⟩
  · rw [List.length_append]
    have : celZ (Z ++ [z]) = celZ Z ++ [z.u, z.v] := by simp [celZ]
    rw [this]; exact ho
  · have go : ∀ y : RR, (RowG B w y.u y.r.1 y.g ∧ RowN B w y.v y.r.2 y.h) → RowG B w' y.u y.r.1 y.g ∧ RowN B w' y.v y.r.2 y.h := fun y hy => ⟨hy.1.same (hg.block _ hy.1.lt (hy.1.apart h.own typeR)), hy.2.grown h.own typeR hg⟩
    rcases List.mem_append.1 hx with h1 | h1
    · exact go x (h.row x h1)
    · simp at h1; subst h1; exact go x hr
theorem RtsL.read {B : Nat} {w : World} {v : Value} {Z : List RR} (h : RtsL B w v Z) (hn : Z.length ≤ 1048576) (hl : ∀ z ∈ Z, z.r.1.length ≤ 1048576 ∧ z.r.2.length ≤ 1048576) : RtsR w.heap.size w v Z :=
  ⟨own_lstZ h.own hn, fun z hz => ⟨(h.row z hz).1.lst (hl z hz).1, (h.row z hz).2.lst (hl z hz).2⟩, fun z hz n c e => by
    rcases (h.row z hz).2 with ⟨_, _, e', _⟩ | ⟨_, e'⟩
    · rw [e'] at e; cases e
    · rw [e'] at e; cases e; rfl⟩
theorem RtsL.nil (B : Nat) (w : World) : RtsL B w (.slice none 0 0) [] := (RtsO.nil B w).toL
theorem RtsR.slices {B : Nat} {w : World} {v : Value} {Z : List RR} (h : RtsR B w v Z) {z : RR} (hz : z ∈ Z) : ∃ o c o' c', z.u = .slice o z.r.1.length c ∧ z.v = .slice o' z.r.2.length c' := by
  obtain ⟨o, c, e⟩ := slice_lst (h.row z hz).1
  obtain ⟨o', c', e'⟩ := slice_lst (h.row z hz).2
  exact ⟨o, c, o', c', e, e'⟩
end Go.Proofs.Ytgjcppdeljoimaa

namespace Go.Proofs.Ytgjcppdeljoimaa
open Go.RowKit
theorem nth_at {l : List ByteArray} {i : Nat} (h : i < l.length) : l[i]? = some (nthB l i) := by simp [nthB, h]
end Go.Proofs.Ytgjcppdeljoimaa

namespace Go.Proofs.Ytgjcppdeljoimaa
open Go.RowKit
theorem under172 : Try.prog.underlying 96 = some (.pointer 5) := by kernel_rfl
theorem under135' : Try.prog.underlying 22 = some (.slice 5) := by kernel_rfl
theorem info5c : (Try.prog.info? 5).map (fun i => (i.zero, i.size, i.bytes)) = some (some (.int .u8 0), 1, 1) := by kernel_rfl
set_option maxHeartbeats 4000000 in
set_option maxRecDepth 100000 in
theorem clone_any (s : ByteArray) (w : World) (hlim : s.size ≤ 1048576) :
    Calls Try.prog 48 #[.string s] w fun e w' => e = .returned (.string s) ∧ Below w.heap.size w w' := by
  by_cases h0 : s.size = 0
  · have hs : s = ⟨#[]⟩ := by
      apply ByteArray.ext
      exact Array.eq_empty_of_size_eq_zero h0
    subst hs
    go_enter Try.func48, Try.ntmps48
    go_wp2
    go_ret
    exact ⟨rfl, Below.refl _ _⟩
  · obtain ⟨i0, hi, hz0, hz1, hz2⟩ := info_parts info5c
    have hinfo : (Try.prog.info? 5).map (·.size) = some 1 := by rw [hi]; simp [hz1]
    have hco : Try.prog.cellsOf 5 = 1 := by simp [Program.cellsOf, hi, hz1]
    obtain ⟨M, hM⟩ : ∃ M, M = madeCells (Value.int .u8 0).cells (((s.size : Nat) : Int).toNat * i0.size) := ⟨_, rfl⟩
    have hMs : M.size = s.size := by rw [hM, size_madeCells, hz1]; simp
    have hmk : ∀ W : World, (Instr.makeSlice 22 (.int .i64 (s.size : Int)) (.int .i64 (s.size : Int))).run Try.prog W = .ok (.slice (some ⟨W.heap.size, 0, none⟩) s.size s.size) (W.alloc (.cells M 5)) := fun W => by
      have h := run_make (P := Try.prog) W 22 5 i0 (.int .u8 0) under135' hi hz0 .i64 .i64 (s.size : Int) (s.size : Int) (by omega) (by omega) (by rw [hz2]; omega) (by omega)
      rw [← hM] at h
      simpa using h
    clear hM
    have hcp := Lib.run_copy_row_string (P := Try.prog) (w.alloc (.cells M 5)) 22 9 3 5 w.heap.size 0 s.size s.size s M 5 under135' hinfo (heap_alloc_new w _) (Nat.le_refl _) (by omega)
    obtain ⟨Y, hY⟩ : ∃ Y, Y = (M.toList.take 0 ++ Lib.byteCells s.data.toList ++ M.toList.drop (0 + s.size)).toArray := ⟨_, rfl⟩
    rw [← hY] at hcp
    have hYl : Y.toList = Lib.byteCells s.data.toList := by
      rw [hY, List.toList_toArray, List.take_zero, List.nil_append, List.drop_of_length_le (by rw [Array.length_toList]; omega), List.append_nil]
    have hYs : Y.size = s.size := by rw [← Array.length_toList, hYl, Lib.byteCells_length, ← Lib.size_eq]
    have hgY : ((w.alloc (.cells M 5)).setRow w.heap.size Y).heap[w.heap.size]? = some (.cells Y 5 (0, 0)) := setRow_heap _ _ M _ 5 (0, 0) (heap_alloc_new w _)
    have hne : s.data.toList ≠ [] := fun e => h0 (by rw [Lib.size_eq, e]; rfl)
    have hUS := Lib.run_unsafeString_row (P := Try.prog) ((w.alloc (.cells M 5)).setRow w.heap.size Y) 96 3 9 5 under172 hco w.heap.size Y.size (by unfold World.shape?; rw [hgY]) s.data.toList hne (by rw [← Lib.size_eq]; omega) (by rw [← Lib.size_eq]; omega)
      (fun j x hx => Lib.cells_of_row hgY Y.size j _ (by rw [List.take_of_length_le (by rw [Array.length_toList]; exact Nat.le_refl _), hYl]; simp [Lib.byteCells, hx]))
    rw [← Lib.size_eq] at hUS
    clear hY
    go_enter Try.func48, Try.ntmps48
    go_wp2
    go_ret
    have hb1 : Below w.heap.size w (w.alloc (.cells M 5)) := (Below.refl _ w).alloc (Nat.le_refl _) _
    have hb2 : Below w.heap.size (w.alloc (.cells M 5)) ((w.alloc (.cells M 5)).setRow w.heap.size Y) := ⟨rfl, rfl, rfl, by simp, fun k hk => setRow_other _ _ _ _ (by omega)⟩
    exact ⟨rfl, Lib.below_freeze (hb1.trans hb2) (p := ⟨w.heap.size, 0, none⟩) (Nat.le_refl _) _⟩
set_option maxRecDepth 100000 in
set_option maxHeartbeats 1000000 in
theorem clones_any (s : ByteArray) (w : World) (hlim : s.size ≤ 1048576) :
    Calls Try.prog 25 #[.string s] w fun e w' => e = .returned (.string s) ∧ Below w.heap.size w w' := by
  go_enter Try.func25, Try.ntmps25
  go_wp2_with (go_at_call 48; refine (clone_any _ _ hlim).mono ?_; rintro e w1 ⟨rfl, hb⟩)
  go_ret
  exact ⟨rfl, hb⟩
end Go.Proofs.Ytgjcppdeljoimaa

namespace Go.Proofs.Ytgjcppdeljoimaa
open Go.RowKit
theorem take_nth' {l : List ByteArray} {j : Nat} (h : j < l.length) : l.take (j + 1) = l.take j ++ [nthB l j] := by
  rw [List.take_add_one, nth_at h]; rfl
set_option maxRecDepth 100000 in
set_option maxHeartbeats 4000000 in
theorem freshI_any (B : Nat) (v : Value) (l : List ByteArray) (w : World) (h : Lst B w v l.length 1 (cS (nthB l))) (hB : B ≤ w.heap.size) (hl : l.length ≤ 1048576) (hs : ∀ i, i < l.length → (nthB l i).size ≤ 1048576) :
    Calls Try.prog 76 #[v] w fun e w' => ∃ v', e = .returned v' ∧ w'.ownsRow w.heap.size 9 1 v' l.length (l.map .string) ∧ Below w.heap.size w w' := by
  obtain ⟨i0, hi, hz0, hz1, hz2⟩ := info_parts info9b
  obtain ⟨oa, cap, rfl, _, hc⟩ := h
  have HC : Hid _ := hc
  have HS : Hid _ := hs
  clear hc hs
  generalize hn : l.length = n at *
  have HN : Hid (l.length = n) := hn
  clear hn
  go_enter Try.func76, Try.ntmps76
  go_wp2
  go_loopw [3, 8] (fun v i wr => ∃ q : Nat, q ≤ n ∧ i = .int .i64 q ∧ Hid (wr.ownsRow w.heap.size 9 1 v q ((l.take q).map .string)) ∧ Hid (Below w.heap.size w wr)) (fun _ i _ => n - (intOf i).toNat)
  case atStart => exact ⟨0, Nat.zero_le _, rfl, by simpa [Hid] using World.ownsRow_nil w w.heap.size 9 1, Below.refl _ _⟩
  case round =>
    obtain ⟨q, hq, rfl, hown, hbel⟩ := hrel
    have hsz := hbel.out.size
    by_cases hlt : q < n
    · obtain ⟨b, off, rfl, hbB, hcell⟩ := HC.out q hlt
      have e0 : wr.cell? ⟨b, off + q, none⟩ = some (.string (nthB l q)) := (hbel.out.cell (p := ⟨b, off + q, none⟩) (by show b < _; omega)).trans (by simpa [cS] using hcell 0 (by omega))
      clear hcell
      have hsq := HS.out q hlt
      have R : Hid (∀ (v' : Value) (w3 : World), w3.ownsRow w.heap.size 9 1 v' (q + 1) ((l.take q).map .string ++ [.string (nthB l q)]) → w3.ownsRow w.heap.size 9 1 v' (q + 1) ((l.take (q + 1)).map .string)) := fun v' w3 h => by
        rw [take_nth' (by rw [HN.out]; exact hlt), List.map_append]; exact h
      go_wp2_with fail
      refine (clones_any _ _ hsq).mono ?_; rintro e w1 ⟨rfl, hb1⟩
      have hs1 := hb1.size
      go_wp2_with (first
        | (at_builtin; refine wpList_append_own _ rfl _ _ 23 rfl w.heap.size 9 i0 (.string ByteArray.empty) 1 16 under24b hi hz0 hz1 hz2 rfl (by decide) _ _ _ rfl ((own_belowR hown.out hb1).alloc _) ⟨w1.heap.size, 0, none⟩ 1 1 [.string (nthB l q)] rfl rfl (cell_one_new _ _ _) (fun x hx => by simp at hx; subst hx; rfl) (by unfold maxLen; omega) (by omega) (by simp; omega) ?_; intro v' w3 hown' hgrow3 hnil3))
      go_roundw
      case rel =>
        have RR : ∃ q' : Nat, q' ≤ n ∧ Value.int .i64 ((q : Int) + 1) = .int .i64 (q' : Int) ∧ Hid (w3.ownsRow w.heap.size 9 1 v' q' ((l.take q').map .string)) ∧ Hid (Below w.heap.size w w3) :=
          ⟨q + 1, by omega, by go_num, R.out v' w3 hown', ((hbel.out.trans (hb1.mono hsz)).alloc (by omega) _).grown hgrow3 (by simp; omega) (fun p hp => (hown.out.lt p hp).1)⟩
        first
          | exact RR
          | ((repeat apply Exists.intro); exact ⟨RR, rfl⟩)
      case measure => simp [intOf]; omega
    · have hkn : q = n := by omega
      subst hkn
      have TL : Hid (l.take q = l) := by show _ = _; rw [← HN.out, List.take_length]
      go_wp2
      go_ret
      refine ⟨_, rfl, ?_, hbel.out⟩
      have := hown.out
      rw [TL.out] at this
      exact this
end Go.Proofs.Ytgjcppdeljoimaa

namespace Go.Proofs.Ytgjcppdeljoimaa
open Go.RowKit Go.Sort
theorem elS1R : ElT Try.prog 23 9 1 16 := by
  obtain ⟨i, hi, hz, h1, h2⟩ := info_parts info9b
  exact ⟨under24b, ⟨i, _, hi, hz, h1, h2, rfl⟩, by decide⟩
theorem anyC_append {P : Program} {md : Region.Mode} {ops : Array Oper} {C : World → Prop} {n f : Nat} {L : Array Bool → Act → World → Prop} {listed : Array Bool} {i d : Nat} {o : Oper} {a : Act} {w : World} {t e : TypeId} {size bytes base k m : Nat} {v sv : Value} {xs news : List Value}
    (hc : ops[i]? = some o ∧ o.guard = none ∧ o.dst = some d ∧ i < n) (r0 : Region.ready md ops listed = [i]) (T : ElT P t e size bytes) (s x : Operand) (ho : o.op = .call { callee := .builtin .append, args := #[s, x], argTypes := #[t, t] })
    (hs : a.eval s = v) (hx : a.eval x = sv) (hown : w.ownsRow base e size v k xs) (hsrc : Src w sv m size news) (h1 : ∀ u ∈ news, u.oneCell' = true) (h63 : k + m ≤ maxLen) (hbytes : (k + m) * bytes ≤ 140737488355328) (hbase : base ≤ w.heap.size)
    (K : ∀ v' w', w'.ownsRow base e size v' (k + m) (xs ++ news) → w.grownBy w' v.ownBlock → C w' ∧ anyC P md ops C n L f (listed.setIfInBounds i true) (a.put (some d) v') w') : anyC P md ops C n L (f + 1) listed a w := by
  obtain ⟨c1, c2, c3, c4⟩ := hc
  obtain ⟨v', w', hr, h2, h3, _⟩ := exec_append_at T s x ho hs hx hown hsrc h1 h63 hbytes hbase
  obtain ⟨k1, k2⟩ := K v' w' h2 h3
  refine anyC_step [i] r0 (by simp) (one_list ⟨c4, o, c1, c2, v', w', hr, k1, ?_⟩)
  rw [c3]; exact k2
set_option maxRecDepth 100000 in
set_option maxHeartbeats 1000000 in
theorem last_any (B : Nat) (u v : Value) (m : Nat) (f : Nat → ByteArray) (w : World) (h : Lst B w u (m + 1) 1 (cS f)) (hB : B ≤ w.heap.size) :
    Calls Try.prog 37 #[.agg #[u, v]] w fun e w' => e = .returned (.string (f m)) ∧ Below w.heap.size w w' := by
  obtain ⟨oa, cap, rfl, hn, hc⟩ := h
  unfold maxLen at hn
  obtain ⟨b, off, rfl, hbB, hcell⟩ := hc m (by omega)
  have c0 := cell_past (hcell 0 (by omega)) (by omega) (.cells #[.slice (some ⟨b, off, none⟩) (m + 1) cap, v] 34)
  simp only [cS, Nat.mul_one, Nat.add_zero] at c0
  clear hc hcell
  go_enter Try.func37, Try.ntmps37
  go_wp2
  go_ret
  exact ⟨rfl, (Below.refl _ _).alloc (Nat.le_refl _) _⟩
set_option maxRecDepth 100000 in
set_option maxHeartbeats 8000000 in
theorem withNext_any (B : Nat) (u v : Value) (r : RT) (va pl : ByteArray) (w : World) (h : Lst B w u r.1.length 1 (cS (nthB r.1))) (h' : Lst B w v r.2.length 1 (cS (nthB r.2))) (hB : B ≤ w.heap.size) (hl : r.1.length ≤ 1000) (hl' : r.2.length ≤ 1000)
    (hs : ∀ i, i < r.1.length → (nthB r.1 i).size ≤ 1048576) (hs' : ∀ i, i < r.2.length → (nthB r.2 i).size ≤ 1048576) (hva : va.size ≤ 1048576) (hpl : pl.size ≤ 1048576) :
    Calls Try.prog 65 #[.agg #[u, v], .string va, .string pl] w fun e w' => ∃ z : RR, e = .returned (.agg #[z.u, z.v]) ∧ z.r = (r.1 ++ [pl], r.2 ++ [va]) ∧ RowZ w.heap.size w' z ∧ z.g ≠ z.h ∧ Below w.heap.size w w' := by
  obtain ⟨ou, cu, rfl⟩ := slice_lst h
  obtain ⟨ov, cv, rfl⟩ := slice_lst h'
  obtain ⟨W, hW⟩ : ∃ W, W = (w.alloc (.cells #[.slice ou r.1.length cu, .slice ov r.2.length cv] 34)).alloc (.cells #[.slice none 0 0, .slice none 0 0] 34) := ⟨_, rfl⟩
  have eW : Hid (W = (w.alloc (.cells #[.slice ou r.1.length cu, .slice ov r.2.length cv] 34)).alloc (.cells #[.slice none 0 0, .slice none 0 0] 34)) := hW
  have sW : W.heap.size = w.heap.size + 1 + 1 := by rw [hW]; simp
  have bW : Hid (Below w.heap.size w W) := by rw [hW]; exact ((Below.refl _ _).alloc (Nat.le_refl _) _).alloc (by simp) _
  have hp : W.heap[w.heap.size]? = some (.cells #[.slice ou r.1.length cu, .slice ov r.2.length cv] 34 (0, 0)) := by rw [hW]; exact (Below.heap_alloc _ _ _ (by simp)).trans (heap_alloc_new w _)
  have hr : Hid (W.heap[w.heap.size + 1]? = some (.cells #[.slice none 0 0, .slice none 0 0] 34 (0, 0))) := by
    have := heap_alloc_new (w.alloc (.cells #[.slice ou r.1.length cu, .slice ov r.2.length cv] 34)) (.cells #[.slice none 0 0, .slice none 0 0] 34)
    rw [World.size_alloc] at this
    rw [hW]; exact this
  have x0 := (cell_row hp 0 _ rfl).1
  have x1 := (cell_row hp 1 _ rfl).1
  simp only [List.getElem_toArray, List.getElem_cons_zero, List.getElem_cons_succ] at x0 x1
  have q0 := fun d os => cell_regrown x0 d os
  have q1 := fun d os => cell_regrown x1 d os
  have L1 : Hid (Lst B W.drew (.slice ou r.1.length cu) r.1.length 1 (cS (nthB r.1))) := h.kept bW.out.drew hB
  have L2 : Hid (∀ w', Below W.heap.size W w' → Lst B w' (.slice ov r.2.length cv) r.2.length 1 (cS (nthB r.2))) := fun w' hb => h'.kept (bW.out.trans (hb.mono (by omega))) hB
  have HS : Hid _ := hs
  have HS' : Hid _ := hs'
  clear hW hp h h' hs hs'
  go_enter Try.func65, Try.ntmps65
  go_upto_region 1 with fail
  rw [← eW.out]
  refine wp_region_mix 14 [0, 1, 3, 7, 8, 10] (by kernel_rfl) (by kernel_rfl) ?_
  simp only [List.filterMap_cons, List.filterMap_nil, List.getElem?_cons_succ, List.getElem?_cons_zero]
  repeat (first | go_big_quiet_step (fail) | quiet_step (fail))
  refine wpQuiet_nil ?_
  clear x0 x1 q0 q1
  refine call1 (md := .any) (f := 7) (i := 2) (dc := 9) (fn := 76) ⟨rfl, rfl, rfl, by decide⟩ (by kernel_rfl) ?run ((freshI_any B _ r.1 W.drew L1.out (by show B ≤ W.heap.size; omega) (by omega) HS.out).mono ?_)
  case run => go_simp
  rintro e w1 ⟨a1, rfl, o1, hb1⟩
  have k1 : Below W.heap.size W w1 := ((Below.refl _ _).drew).trans hb1
  refine ⟨_, rfl, regrown_of_below k1, ?_⟩
  refine call1 (md := .any) (f := 6) (i := 4) (dc := 11) (fn := 25) ⟨rfl, rfl, rfl, by decide⟩ (by kernel_rfl) ?run ((clones_any pl w1 hpl).mono ?_)
  case run => go_simp
  rintro e w2 ⟨rfl, hb2⟩
  have k2 : Below W.heap.size W w2 := k1.trans (hb2.mono k1.size)
  refine ⟨_, rfl, regrown_of_below k2, ?_⟩
  have k3 : Below W.heap.size W (w2.alloc (.cells #[.string pl] 9)) := k2.alloc k2.size _
  refine anyC_step [5] (by kernel_rfl) (by simp) (one_list ⟨by decide, _, rfl, rfl, .slice (some ⟨w2.heap.size, 0, none⟩) 1 1, w2.alloc (.cells #[.string pl] 9), by go_simp, regrown_of_below k3, ?_⟩)
  have b3 : Below w2.heap.size w2 (w2.alloc (.cells #[.string pl] 9)) := (Below.refl _ _).alloc (Nat.le_refl _) _
  have o3 : (w2.alloc (.cells #[.string pl] 9)).ownsRow W.heap.size 9 1 a1 r.1.length (r.1.map .string) := own_belowR (own_belowR o1 hb2) b3
  have ob3 : (w2.alloc (.cells #[.string pl] 9)).ownsRow W.heap.size 9 1 (.slice (some ⟨w2.heap.size, 0, none⟩) 1 1) 1 [.string pl] := own_built k2.size (by unfold maxLen; omega) rfl
  refine anyC_append (i := 6) (d := 13) ⟨rfl, rfl, rfl, by decide⟩ (by kernel_rfl) elS1R (.tmp 9) (.tmp 12) rfl rfl rfl o3 (own_src ob3) (fun x hx => by simp at hx; subst hx; rfl) (by unfold maxLen; omega) (by omega) k3.size ?_
  intro a4 w4 o4 hg4
  have k4 : Below W.heap.size W w4 := k3.grown hg4 k3.size (fun q hq => (o3.lt q hq).1)
  refine ⟨regrown_of_below k4, ?_⟩
  clear hg4 o1 o3 ob3 b3 hb1 hb2
  refine call1 (md := .any) (f := 3) (i := 9) (dc := 16) (fn := 76) ⟨rfl, rfl, rfl, by decide⟩ (by kernel_rfl) ?run ((freshI_any B _ r.2 w4 (L2.out w4 k4) (by have := k4.size; omega) (by omega) HS'.out).mono ?_)
  case run => go_simp
  rintro e w5 ⟨a5, rfl, o5, hb5⟩
  have k5 : Below W.heap.size W w5 := k4.trans (hb5.mono k4.size)
  have p5 := own_belowR o4 hb5
  refine ⟨_, rfl, regrown_of_below k5, ?_⟩
  refine call1 (md := .any) (f := 2) (i := 11) (dc := 18) (fn := 25) ⟨rfl, rfl, rfl, by decide⟩ (by kernel_rfl) ?run ((clones_any va w5 hva).mono ?_)
  case run => go_simp
  rintro e w6 ⟨rfl, hb6⟩
  have k6 : Below W.heap.size W w6 := k5.trans (hb6.mono k5.size)
  refine ⟨_, rfl, regrown_of_below k6, ?_⟩
  have k7 : Below W.heap.size W (w6.alloc (.cells #[.string va] 9)) := k6.alloc k6.size _
  refine anyC_step [12] (by kernel_rfl) (by simp) (one_list ⟨by decide, _, rfl, rfl, .slice (some ⟨w6.heap.size, 0, none⟩) 1 1, w6.alloc (.cells #[.string va] 9), by go_simp, regrown_of_below k7, ?_⟩)
  have b7 : Below w6.heap.size w6 (w6.alloc (.cells #[.string va] 9)) := (Below.refl _ _).alloc (Nat.le_refl _) _
  have o7 : (w6.alloc (.cells #[.string va] 9)).ownsRow w4.heap.size 9 1 a5 r.2.length (r.2.map .string) := own_belowR (own_belowR o5 hb6) b7
  have p7 := own_belowR (own_belowR p5 hb6) b7
  have ob7 : (w6.alloc (.cells #[.string va] 9)).ownsRow w4.heap.size 9 1 (.slice (some ⟨w6.heap.size, 0, none⟩) 1 1) 1 [.string va] := own_built (by have := hb5.size; have := hb6.size; omega) (by unfold maxLen; omega) rfl
  have ap : apV a5 a4 := apV.fresh o7 (Nat.le_refl _) o4
  refine anyC_append (i := 13) (d := 20) ⟨rfl, rfl, rfl, by decide⟩ (by kernel_rfl) elS1R (.tmp 16) (.tmp 19) rfl rfl rfl o7 (own_src ob7) (fun x hx => by simp at hx; subst hx; rfl) (by unfold maxLen; omega) (by omega) (by have := hb5.size; have := hb6.size; simp; omega) ?_
  intro a8 w8 o8 hg8
  have k8 : Below W.heap.size W w8 := k7.grown hg8 k7.size (fun q hq => by have := (o7.lt q hq).1; have := k4.size; omega)
  have p8 := own_beside p7 hg8 ap
  refine ⟨regrown_of_below k8, ?_⟩
  refine ⟨by kernel_rfl, ?_⟩
  simp only [List.drop_succ_cons, List.drop_zero]
  obtain ⟨gp, GP, _⟩ := RowG.of_own (l := r.1 ++ [pl]) (by simpa using p8) (by simp)
  obtain ⟨gq, GQ, _⟩ := RowG.of_own (l := r.2 ++ [va]) (by simpa using o8) (by simp)
  have hne : gp ≠ gq := fun e => by
    have h1 := (o4.lt gp GP.blk.1).2
    have h2 := GQ.blk.2
    omega
  have RP : Hid (RowG W.heap.size w8 a4 (r.1 ++ [pl]) gp) := GP
  have RQ : Hid (RowG W.heap.size w8 a8 (r.2 ++ [va]) gq) := GQ.le (by have := k4.size; omega)
  have HNE : Hid (gp ≠ gq) := hne
  have K8 : Hid (Below W.heap.size W w8) := k8
  have hres := (k8.block _ (by omega)).trans hr.out
  obtain ⟨rr0, rf0⟩ := cell_row hres 0 _ rfl
  obtain ⟨rr1, rf1⟩ := cell_row hres 1 _ rfl
  have lp : (r.1 ++ [pl]).length = r.1.length + 1 := by simp
  have lq : (r.2 ++ [va]).length = r.2.length + 1 := by simp
  obtain ⟨cp, _, ep, _⟩ := GP
  obtain ⟨cq, _, eq, _⟩ := GQ
  rw [lp] at ep
  rw [lq] at eq
  subst ep eq
  have f0 := (cell_row (set_row (set_row hres 0 (.slice (some ⟨gp, 0, none⟩) (r.1.length + 1) cp)) 1 (.slice (some ⟨gq, 0, none⟩) (r.2.length + 1) cq)) 0 (.slice (some ⟨gp, 0, none⟩) (r.1.length + 1) cp) rfl).1
  have f1 := (cell_row (set_row (set_row hres 0 (.slice (some ⟨gp, 0, none⟩) (r.1.length + 1) cp)) 1 (.slice (some ⟨gq, 0, none⟩) (r.2.length + 1) cq)) 1 (.slice (some ⟨gq, 0, none⟩) (r.2.length + 1) cq) rfl).1
  clear hg8 o8 p8 p7 p5 o7 ob7 ap o4 o5 k1 k2 k3 k4 k5 k6 k7 k8 b7 hb5 hb6 hne lp lq
  simp only [Act.put, List.setIfInBounds_toArray, List.set_cons_zero, List.set_cons_succ]
  go_wp2_with fail
  refine bodyPost_ret (v := .agg #[.slice (some ⟨gp, 0, none⟩) (r.1.length + 1) cp, .slice (some ⟨gq, 0, none⟩) (r.2.length + 1) cq]) (by simp [results, Try.results65, go_sem, f0, f1]) rfl ⟨⟨(r.1 ++ [pl], r.2 ++ [va]), _, _, gp, gq⟩, rfl, rfl, ⟨?_, ?_⟩, HNE.out, ?_⟩
  · have hb := RP.out.blk.2
    exact (RP.out.le (by omega)).same (((Below.heap_setCell _ _ _ _ (by show gp ≠ w.heap.size + 1; omega)).trans (Below.heap_setCell _ _ _ _ (by show gp ≠ w.heap.size + 1; omega))))
  · have hb := RQ.out.blk.2
    exact (RQ.out.le (by omega)).same (((Below.heap_setCell _ _ _ _ (by show gq ≠ w.heap.size + 1; omega)).trans (Below.heap_setCell _ _ _ _ (by show gq ≠ w.heap.size + 1; omega))))
  · exact ((bW.out.trans (K8.out.mono (by omega))).setCell (by show w.heap.size ≤ w.heap.size + 1; omega) _).setCell (by show w.heap.size ≤ w.heap.size + 1; omega) _
end Go.Proofs.Ytgjcppdeljoimaa

namespace Go.Proofs.Ytgjcppdeljoimaa
open Go.RowKit
structure KpO (own : World → Nat → Prop) (n₀ : Nat) (W W' : World) : Prop where
  size : W.heap.size ≤ W'.heap.size
  old : ∀ k, own W' k → own W k ∨ W.heap.size ≤ k
  low : ∀ k, k < n₀ → W'.heap[k]? = W.heap[k]?
  blk : ∀ (k : Nat) (c : Array Value) (t : TypeId) (z : Nat × Nat), W.heap[k]? = some (.cells c t z) → ¬ own W k → W'.heap[k]? = some (.cells c t z)
theorem KpO.refl (own : World → Nat → Prop) (n₀ : Nat) (W : World) : KpO own n₀ W W := ⟨Nat.le_refl _, fun _ h => .inl h, fun _ _ => rfl, fun _ _ _ _ h _ => h⟩
theorem KpO.trans {own : World → Nat → Prop} {n₀ : Nat} {A B C : World} (h : KpO own n₀ A B) (k : KpO own n₀ B C) : KpO own n₀ A C := by
  refine ⟨Nat.le_trans h.size k.size, fun i hi => ?_, fun i hi => (k.low i hi).trans (h.low i hi), fun i c t z hc ho => k.blk i c t z (h.blk i c t z hc ho) (fun hB => ?_)⟩
  · rcases k.old i hi with h1 | h1
    · exact h.old i h1
    · exact .inr (Nat.le_trans h.size h1)
  · rcases h.old i hB with h1 | h1
    · exact ho h1
    · exact absurd (Array.getElem?_eq_some_iff.1 hc).1 (by omega)
def OwnSt (own : World → Nat → Prop) (W : World) : Prop :=
  (∀ k, own W k → k < W.heap.size) ∧ ∀ W' row, W.grownBy W' row → (∀ r, row = some r → ∃ o : Obj, W.heap[r]? = some o ∧ o.isCells = false) → ∀ k, own W' k → own W k
theorem OwnSt.kp {own : World → Nat → Prop} {n₀ : Nat} {W W' : World} {row : Option Nat} (h : OwnSt own W) (hn : n₀ ≤ W.heap.size) (hg : W.grownBy W' row) (hr : ∀ r, row = some r → n₀ ≤ r ∧ ∃ o : Obj, W.heap[r]? = some o ∧ o.isCells = false) : KpO own n₀ W W' := by
  refine ⟨hg.size, fun k hk => .inl (h.2 W' row hg (fun r e => (hr r e).2) k hk), fun k hk => hg.block k (by omega) (fun e => by have := (hr k e.symm).1; omega), fun k c t z hc _ => (hg.block k (Array.getElem?_eq_some_iff.1 hc).1 (fun e => ?_)).trans hc⟩
  obtain ⟨o, ho, hn⟩ := (hr k e.symm).2
  rw [hc] at ho
  cases ho; cases hn
theorem keeps_put {w W : World} {l : Nat} (h : KeepsOthers w W) (hl : w.heap.size ≤ l) (o' : Obj) : KeepsOthers w (W.putObj l o') :=
  ⟨by have := h.size; simpa using this, fun k o hk ho => (World.putObj_heap_other (by have := (Array.getElem?_eq_some_iff.1 hk).1; omega)).trans (h.same k o hk ho)⟩
theorem from_put {W : World} {l B : Nat} (hl : l < B) (o' : Obj) : KeepsFrom B W (W.putObj l o') :=
  ⟨by simp, fun k o hk h0 _ => (World.putObj_heap_other (by omega)).trans h0⟩
theorem from_trans {A B C : World} {b : Nat} (h : KeepsFrom b A B) (k : KeepsFrom b B C) : KeepsFrom b A C :=
  ⟨Nat.le_trans h.size k.size, fun i o hi h0 ho => k.same i o hi (h.same i o hi h0 ho) ho⟩
def postO {α : Type} (own : World → Nat → Prop) (n₀ : Nat) (I : List α → World → Prop) (xs : List α) (W : World) : Exit → Act → World → Prop
  | .normal, _, W' => KeepsOthers W W' ∧ KpO own n₀ W W' ∧ I xs W'
  | _, _, _ => False
variable {F : Fence} {n : Nat} {P : Program}
end Go.Proofs.Ytgjcppdeljoimaa

namespace Go.Proofs.Ytgjcppdeljoimaa
open Go.RowKit
def SeqFit {α : Type} (F : Fence) (n : Nat) (P : Program) (g : Nat) (lb : Array Value) (encs : α → Array Value) (own : World → Nat → Prop) (n₀ : Nat) (low : Nat → Prop) (fits : Nat → α → World → Prop) (S : List α → Prop) (N : Nat) (w : World) : Prop :=
  ∀ (l : Nat) (J : List α → World → Prop) (W : World), Below w.heap.size w W → OwnFrom W.heap.size J → (∀ pre W1, J pre W1 → OwnSt own W1) → (∀ k, low k → ¬ own W k) →
    (∀ pre x W0 W1, J pre W0 → J pre W1 → fits W0.heap.size x W1 → pre.length < N → YieldAt F (n - 1) P l (encs x) W1 fun e W' => e = .returned (.bool true) ∧ J (pre ++ [x]) W' ∧ KpO own n₀ W1 W' ∧ KeepsFrom W.heap.size W1 W') →
    J [] W →
    CallsIn F n P g (#[.func (.yield l) #[] #[]] ++ lb) W fun e W' => (∃ v, e = .returned v) ∧ ∃ xs, S xs ∧ J xs W'
theorem below_grown0 {A C : World} (h : Below A.heap.size A C) : A.grownBy C none := ⟨h.os, h.tape, h.output, h.size, fun k hk _ => h.block k hk⟩
theorem keeps_below {A C : World} (h : Below A.heap.size A C) : KeepsOthers A C := ⟨h.size, fun k _ hk _ => (h.block k (Array.getElem?_eq_some_iff.1 hk).1).trans hk⟩
variable {F : Fence} {n : Nat} {P : Program}
theorem wpIn_range_fit {α : Type} {g : Operand} {ps : Array Tmp} {assign body : Code} {Q : Exit → Act → World → Prop} {a : Act} {w : World}
    (hro : F.round = none) (h1 : 1 ≤ n) {gf : Nat} {lb : Array Value} (hg : a.eval g = .func (.func gf) #[] lb) (hFg : F.fn gf) (eg : ∀ args w, (callFunc gf args).run P w = .ok (.enter gf args) w)
    {encs : α → Array Value} {own : World → Nat → Prop} {n₀ : Nat} {low : Nat → Prop} {fits : Nat → α → World → Prop} {S : List α → Prop} {N : Nat} {w0 : World} (hseq : SeqFit F (n - 1) P gf lb encs own n₀ low fits S N w0) (hfp : ∀ S x (W : World) (l : Nat) (o o' : Obj), fits S x W → W.heap[l]? = some o → o.isCells = false → fits S x (W.putObj l o'))
    (hb0 : Below w0.heap.size w0 w) (hps : ∀ x, (encs x).size = ps.size) (hn₀ : ∀ k, low k → ¬ own w k) (hlo : n₀ ≤ w.heap.size)
    (I : List α → World → Prop) (hI : OwnFrom w.heap.size I) (hst : ∀ pre W, I pre W → OwnSt own W) (h0 : I [] w) (a₁ : α → World → Act) (wa : α → World → World) (hwa : ∀ x W, Below W.heap.size W (wa x W)) (hfb : ∀ S x W W', fits S x W → Below W.heap.size W W' → fits S x W')
    (hassign : ∀ (l : Nat) (x : α) (W : World) (K : Act → World → Prop), K (a₁ x W) (wa x W) →
      assign.wpIn (F.inRound l) (n - 1 - 1) P (Exit.then K (fun _ _ _ => False)) { tmps := (ps.zip (encs x)).foldl (fun t (p, v) => t.setIfInBounds p v) a.tmps, defers := [] } W)
    (hbody : ∀ (l : Nat) (pre : List α) (x : α) (W0 W V : World), I pre W0 → I pre V → fits W0.heap.size x V → (∃ (k : Nat) (o o' : Obj), (wa x W).heap[k]? = some o ∧ o.isCells = false ∧ V = (wa x W).putObj k o') → pre.length < N → body.wpIn (F.inRound l) (n - 1 - 1) P (postO own n₀ I (pre ++ [x]) V) (a₁ x W) V)
    (hdone : ∀ (D : Nat) (xs : List α) (W : World), w.heap.size ≤ D → D < W.heap.size → S xs → I xs W → W.heap[D]? = some (.deferred (some [])) → KeepsOthers w W → Q .normal { a with defers := { target := .collected D, args := #[] } :: a.defers } W) :
    (Code.rangeFunc g ps assign body).wpIn F n P Q a w := by
  refine wpIn_rangeFunc fun fn hfn => ?_
  rw [hro]
  let rec' : LoopState → Option Code → Loop := fun st pe => { state := st, pending := pe, fn, tmps := a.tmps, params := ps, assign, body, defers := w.heap.size }
  obtain ⟨W1, hW1⟩ : ∃ W1, (w.alloc (.deferred (some []))).alloc (.loop (rec' .ready none)) = W1 := ⟨_, rfl⟩
  have sW1 : W1.heap.size = w.heap.size + 1 + 1 := by rw [← hW1]; simp
  have hL1 : W1.heap[w.heap.size + 1]? = some (.loop (rec' .ready none)) := by
    rw [← hW1]; have := World.alloc_heap_new (w.alloc (.deferred (some []))) (.loop (rec' .ready none)); rwa [World.size_alloc] at this
  have hD1 : W1.heap[w.heap.size]? = some (.deferred (some [])) := by
    rw [← hW1]; exact (Below.heap_alloc _ _ _ (by simp)).trans (World.alloc_heap_new w _)
  have hI1 : I [] W1 := by rw [← hW1]; exact hI.alloc _ (hI.alloc _ h0)
  have hk1 : KeepsOthers w W1 := by rw [← hW1]; exact (KeepsOthers.alloc _ _).trans (KeepsOthers.alloc _ _)
  have hb1 : Below w0.heap.size w0 W1 := by
    rw [← hW1]; exact hb0.trans ((((Below.refl _ w).alloc (Nat.le_refl _) _).alloc (by simp) _).mono hb0.size)
  have hno : ∀ k, low k → ¬ own W1 k := fun k hk ho => by
    have g1 := (hst [] w h0).2 _ none (World.grownBy_alloc w (.deferred (some [])) none) (fun r e => by cases e)
    have hs2 := hst [] _ (hI.alloc (.deferred (some [])) h0)
    rw [← hW1] at ho
    exact hn₀ k hk (g1 k (hs2.2 _ none (World.grownBy_alloc _ _ none) (fun r e => by cases e) k ho))
  refine ⟨w.heap.size + 1, [{ target := .collected w.heap.size, args := #[] }], W1, { target := .fn (.func gf) lb, args := #[.func (.yield (w.heap.size + 1)) #[] #[]] }, W1, gf,
    #[.func (.yield (w.heap.size + 1)) #[] #[]] ++ lb, W1, ?_, ?_, ?_, ?_, fun _ => h1, ?_⟩
  · rw [← hW1]; exact run_enterLoop_outer _ _ _ _ _
  · simp only [resolve, hg]
    simp [go_sem]
  · intro f' hf'; simp [Target.leads] at hf'; subst hf'; exact hFg
  · simp [invoke, go_sem, eg]
  · -- the three facts that stand beside the caller's own
    let Bk : LoopState → World → Prop := fun st W => W.heap[w.heap.size + 1]? = some (.loop (rec' st none)) ∧ W.heap[w.heap.size]? = some (.deferred (some [])) ∧ KeepsOthers w W
    have bk_own : ∀ (st : LoopState) (A B : World) (row : Option Nat), Bk st A → A.grownBy B row → (∀ r, row = some r → W1.heap.size ≤ r ∧ ∃ o : Obj, A.heap[r]? = some o ∧ o.isCells = false) → Bk st B := fun st A B row hs hg' hr => by
      have no : ∀ k, k < W1.heap.size → some k ≠ row := fun k hk e => by have := (hr k e.symm).1; omega
      refine ⟨(hg'.block _ (Array.getElem?_eq_some_iff.1 hs.1).1 (no _ (by omega))).trans hs.1, (hg'.block _ (Array.getElem?_eq_some_iff.1 hs.2.1).1 (no _ (by omega))).trans hs.2.1, Nat.le_trans hs.2.2.size hg'.size, fun k o hk ho => ?_⟩
      have hA := hs.2.2.same k o hk ho
      exact (hg'.block k (Array.getElem?_eq_some_iff.1 hA).1 (no k (by have := (Array.getElem?_eq_some_iff.1 hk).1; omega))).trans hA
    refine (hseq (w.heap.size + 1) (fun pre W => I pre W ∧ Bk .ready W) W1 hb1
      (fun s A B row hs hg' hr => ⟨hI s A B row hs.1 hg' (fun r e => ⟨by have := (hr r e).1; omega, (hr r e).2⟩), bk_own _ A B row hs.2 hg' hr⟩)
      (fun pre W h => hst pre W h.1) hno ?_ ⟨hI1, hL1, hD1, hk1⟩).mono ?_
    · rintro pre x W0 W ⟨hi0, _⟩ ⟨hi, hl, hd, hkf⟩ hfit hlen
      have hlt : w.heap.size + 1 < W.heap.size := (Array.getElem?_eq_some_iff.1 hl).1
      refine ⟨fn, _, assign, body, run_yield (P := P) (args := encs x) hl (hps x), roundIn_of_wpIn hfn (hassign _ x W _ ?_)⟩
      have ba := hwa x W
      have hkw := hst pre W hi
      have kpa : KpO own n₀ W (wa x W) := hkw.kp (by omega) (below_grown0 ba) (fun r e => by cases e)
      have hia : I pre (wa x W) := hI pre W (wa x W) none hi (below_grown0 ba) (fun r e => by cases e)
      have hla := (ba.block _ hlt).trans hl
      have hda := (ba.block _ (by omega)).trans hd
      have hka := hkf.trans (keeps_below ba)
      have hfa := hfb _ _ _ _ hfit ba
      have fra : KeepsFrom W1.heap.size W (wa x W) := (keeps_below ba).from _
      have hlta := ba.size
      obtain ⟨Wa, hWa⟩ : ∃ Wa, Wa = wa x W := ⟨_, rfl⟩
      rw [← hWa] at ba kpa hia hla hda hka hfa fra hlta ⊢
      refine ⟨_, run_beginRound hla rfl, ?_⟩
      have hl2 : (Wa.putObj (w.heap.size + 1) (.loop (rec' .busy none))).heap[w.heap.size + 1]? = some (.loop (rec' .busy none)) := World.putObj_heap_same (by omega)
      have hi2 : I pre (Wa.putObj (w.heap.size + 1) (.loop (rec' .busy none))) := hI.putObj _ hia (by omega) hla rfl
      have hw2 : KpO own n₀ W (Wa.putObj (w.heap.size + 1) (.loop (rec' .busy none))) := kpa.trans ((hst pre Wa hia).kp (by omega) (grownBy_putObj' Wa _ _) (fun r e => by cases e; exact ⟨by omega, _, hla, rfl⟩))
      refine wpIn_mono (hbody _ pre x W0 W _ hi0 hi2 (hfp _ _ _ _ _ _ hfa hla rfl) ⟨_, _, _, by rw [← hWa]; exact hla, rfl, by rw [← hWa]⟩ hlen) ?_
      rintro e a3 W3 hp
      cases e with
      | normal =>
        obtain ⟨hk3, hkp3, hi3⟩ := hp
        have hl3 := hk3.same _ _ hl2 rfl
        have hd2 : (Wa.putObj (w.heap.size + 1) (.loop (rec' .busy none))).heap[w.heap.size]? = some (.deferred (some [])) := (World.putObj_heap_other (by omega)).trans hda
        have hd3 := hk3.same _ _ hd2 rfl
        have hi4 : I (pre ++ [x]) (W3.putObj (w.heap.size + 1) (.loop (rec' .ready none))) := hI.putObj _ hi3 (by omega) hl3 rfl
        have hlt3 := (Array.getElem?_eq_some_iff.1 hl3).1
        refine ⟨_, _, run_endRound (P := P) none hl3, rfl, ⟨hi4, World.putObj_heap_same hlt3, (World.putObj_heap_other (by omega)).trans hd3, ?_⟩, (hw2.trans hkp3).trans ((hst _ _ hi3).kp (by omega) (grownBy_putObj' W3 _ _) (fun r e => by cases e; exact ⟨by omega, _, hl3, rfl⟩)), ?_⟩
        · exact keeps_put ((keeps_put hka (by omega) _).trans hk3) (by omega) _
        · exact from_trans (from_trans (from_trans fra (from_put (by omega) _)) (hk3.from _)) (from_put (by omega) _)
      | ret => exact hp.elim
      | exit id => exact hp.elim
      | goto t => exact hp.elim
      | panic ch => exact hp.elim
      | outgrown => exact hp.elim
    · rintro e W2 ⟨⟨v, rfl⟩, xs, hS, hi, hl, hd, hkf⟩
      have hlt2 := (Array.getElem?_eq_some_iff.1 hl).1
      exact ⟨none, _, run_endLoop (P := P) hl (by simp [rec']), hdone _ xs _ (Nat.le_refl _) (by simp; omega) hS (hI.putObj _ hi (by omega) hl rfl) ((World.putObj_heap_other (by omega)).trans hd) (keeps_put hkf (by omega) _)⟩
end Go.Proofs.Ytgjcppdeljoimaa
