/-
  Several texts in one.
-/
import Derived.Test.YtaejlcanccfmmaaGreatDoorM10
import Derived.Test.YtaejlcanccfmmaaGreatDoorM2
import Derived.Test.YtaejlcanccfmmaaGreatDoorVb
import Derived.WalkKit
import Derived.WalkSpells
import Derived.WalkLawsBesides
import Derived.BigQuiet
import Derived.Deep.QuietTactic
import Derived.Deep.RegionWith
import Derived.Test.YtaejlcanccfmmaaGreatDoorM16
import Derived.Test.YtaejlcanccfmmaaGreatDoorChecked
import Derived.Lib.Bytealg
import Derived.Lib.UnsafeStr
import Derived.Lib.BufferWrite
import Derived.Laws.MakeOwn
import Derived.Laws.Externs
import Derived.Test.YtaejlcanccfmmaaGreatDoorM11
import Derived.Test.YtaejlcanccfmmaaGreatDoorM1
import Derived.Test.YtaejlcanccfmmaaGreatDoorM12
namespace Go.Proofs.YtaejlcanccfmmaaGreatDoor
open Go.RowKit
section
variable {α : Type} [Own α]
theorem Els.step {S : Nat → Prop} {w U : World} {g off : Nat} {Ss : Nat → Nat → Prop} {cur cur' : Array Value} {t : TypeId} {n : Nat} {f f' : Nat → α} (h : Els S w g off Ss cur t n f) (i : Nat)
    (hrow : U.heap[g]? = some (.cells cur' t (0, 0))) (hoth : ∀ q j, q ≠ i → j < Lay.width α → cur'[off + q * Lay.width α + j]? = cur[off + q * Lay.width α + j]?)
    (hel : ∃ c : Nat → Value, (∀ j, j < Lay.width α → cur'[off + i * Lay.width α + j]? = some (c j)) ∧ Own.On (Ss i) U (f' i) c) (hF : ∀ q, q ≠ i → f' q = f q)
    (hbut : But (fun b => b = g ∨ Ss i b) w U) (hS : ∀ b, S b → b < w.heap.size) : Els S U g off Ss cur' t n f' :=
  ⟨hrow, h.own, h.sub, h.dis, fun q hq => by
    by_cases e : q = i
    · subst e; exact hel
    · obtain ⟨c, h1, h2⟩ := h.el q hq
      refine ⟨c, fun j hj => (hoth q j e hj).trans (h1 j hj), ?_⟩
      rw [hF q e]
      refine Own.on_same h2 (hbut.same (fun b hb => ⟨hS b (h.sub q b hb).1, ?_⟩))
      rintro (e' | e')
      · exact (h.sub q b hb).2 e'
      · exact e (h.dis q i b hb e')⟩
end
theorem on_DShareBatch {S : Nat → Prop} {w : World} {a : DShareBatch} {c : Nat → Value} : Own.On S w a c ↔ ∃ A0 B0 : Nat → Prop, (∀ b, A0 b → S b ∧ ¬ B0 b) ∧ (∀ b, B0 b → S b) ∧ (c 0 = .string a.1 ∧ a.1.size ≤ maxLen) ∧ ∃ A1 B1 : Nat → Prop, (∀ b, A1 b → B0 b ∧ ¬ B1 b) ∧ (∀ b, B1 b → B0 b) ∧ OnL A1 w a.2.1 (c 1) ∧ OnL B1 w a.2.2 (c 2) := Iff.rfl
theorem on_DShareBook {S : Nat → Prop} {w : World} {a : DShareBook} {c : Nat → Value} : Own.On S w a c ↔ ∃ A0 B0 : Nat → Prop, (∀ b, A0 b → S b ∧ ¬ B0 b) ∧ (∀ b, B0 b → S b) ∧ OnL A0 w a.1 (c 0) ∧ OnL B0 w a.2 (c 1) := Iff.rfl
end Go.Proofs.YtaejlcanccfmmaaGreatDoor

namespace Go.Proofs.YtaejlcanccfmmaaGreatDoor
open Go.RowKit
def hdX (x : HB) : List Nat := x.2.1.1.ownBlock.toList ++ x.2.2.1.ownBlock.toList
def hdB (L : List HB) : List Nat := L.flatMap hdX
def hdT (v0 : Value) (L : List HB) : List Nat := v0.ownBlock.toList ++ hdB L
structure PkO (B : Nat) (w : World) (v0 v1 : Value) (T : List ByteArray) (L : List HB) : Prop where
  th : Row w B 9 1 eS v0 T
  zt : ∀ s ∈ T, s.size ≤ maxLen
  bs : BsO B w v1 L
  nd : (hdT v0 L).Nodup
theorem hdX_mem {x : HB} {b : Nat} : b ∈ hdX x ↔ x.2.1.1.ownBlock = some b ∨ x.2.2.1.ownBlock = some b := by
  unfold hdX
  rw [List.mem_append, Option.mem_toList, Option.mem_toList]
theorem hdB_mem {L : List HB} {b : Nat} : b ∈ hdB L ↔ ∃ x ∈ L, b ∈ hdX x := by
  unfold hdB
  rw [List.mem_flatMap]
theorem hdB_app (L M : List HB) : hdB (L ++ M) = hdB L ++ hdB M := by unfold hdB; rw [List.flatMap_append]
theorem hdB_one (x : HB) : hdB [x] = hdX x := by unfold hdB; rw [List.flatMap_cons, List.flatMap_nil, List.append_nil]
theorem hdB_sub {L M : List HB} (h : L.Sublist M) : (hdB L).Sublist (hdB M) := by
  induction h with
  | slnil => exact List.Sublist.refl _
  | cons a _ ih => exact ih.trans (List.sublist_append_right _ _)
  | cons_cons a _ ih => exact List.Sublist.append (List.Sublist.refl _) ih
section
variable {B : Nat} {w w' : World} {v0 v1 : Value} {T : List ByteArray} {L : List HB}
theorem tyS_ne {g : Nat} {c c' : Array Value} (h : w.heap[g]? = some (.cells c 9 (0, 0))) (h' : w.heap[g]? = some (.cells c' 43 (0, 0))) : False := by
  rw [h] at h'
  injection h' with h1
  injection h1 with _ h2
  revert h2
  decide
theorem HbO.lt {x : HB} (h : HbO B w x) {b : Nat} (hb : b ∈ hdX x) : B ≤ b ∧ b < w.heap.size := by
  rcases hdX_mem.1 hb with hb | hb
  · exact World.ownsRow.lt h.h b hb
  · exact World.ownsRow.lt h.n b hb
theorem HbO.ty {x : HB} (h : HbO B w x) {b : Nat} (hb : b ∈ hdX x) : ∃ c, w.heap[b]? = some (.cells c 9 (0, 0)) := by
  rcases hdX_mem.1 hb with hb | hb
  · exact Row.typed h.h b hb
  · exact Row.typed h.n b hb
theorem BsO.lt (h : BsO B w v1 L) {b : Nat} (hb : b ∈ hdB L) : B ≤ b ∧ b < w.heap.size := by
  obtain ⟨x, hx, hb⟩ := hdB_mem.1 hb
  exact (h.el x hx).lt hb
theorem PkO.below (h : PkO B w v0 v1 T L) (hb : Below w.heap.size w w') : PkO B w' v0 v1 T L := ⟨Row.below h.th hb, h.zt, h.bs.below hb, h.nd⟩
theorem PkO.low {B' : Nat} (h : PkO B w v0 v1 T L) (hB : B' ≤ B) : PkO B' w v0 v1 T L := ⟨Row.low h.th hB, h.zt, ⟨Row.low h.bs.ro hB, fun x hx => (h.bs.el x hx).low hB⟩, h.nd⟩
theorem PkO.at_ (h : PkO B w v0 v1 T L) : AtL (fun b => B ≤ b ∧ b < w.heap.size) w T v0 ∧ AtL (fun b => B ≤ b ∧ b < w.heap.size) w (L.map dH) v1 := ⟨str_at h.th h.zt, h.bs.at_⟩
theorem PkO.nil (B : Nat) (w : World) : PkO B w (.slice none 0 0) (.slice none 0 0) [] [] := ⟨Row.nil _ _ _ _ _, (fun _ h => by cases h), ⟨Row.nil _ _ _ _ _, (fun _ h => by cases h)⟩, List.nodup_nil⟩
theorem hdB_dis (h : (hdB L).Nodup) {i j : Nat} (hi : i < L.length) (hj : j < L.length) {b : Nat} (h1 : b ∈ hdX L[i]) (h2 : b ∈ hdX L[j]) : i = j := by
  have h' := h
  unfold hdB at h'
  rw [List.Nodup, List.pairwise_flatMap] at h'
  have hp := List.pairwise_iff_getElem.1 h'.2
  rcases Nat.lt_trichotomy i j with e | e | e
  · exact absurd rfl (hp i j hi hj e b h1 b h2)
  · exact e
  · exact absurd rfl (hp j i hj hi e b h2 b h1)
theorem hdX_nodup (h : (hdB L).Nodup) {x : HB} (hx : x ∈ L) : (hdX x).Nodup := by
  unfold hdB at h
  rw [List.Nodup, List.pairwise_flatMap] at h
  exact h.1 x hx
theorem HbO.on {x : HB} (h : HbO B w x) (hd : (hdX x).Nodup) : Own.On (fun b => b ∈ hdX x) w (dH x) (eH x) := by
  have hd' := hd
  unfold hdX at hd'
  rw [List.nodup_append] at hd'
  refine on_DShareBatch.2 ⟨fun _ => False, fun b => b ∈ hdX x, fun _ h => h.elim, fun _ h => h, ⟨rfl, h.z⟩, fun b => x.2.1.1.ownBlock = some b, fun b => x.2.2.1.ownBlock = some b, fun b hb => ⟨hdX_mem.2 (.inl hb), fun h2 => ?_⟩, fun b hb => hdX_mem.2 (.inr hb), onS h.h (fun _ hg => hg) h.zh, onS h.n (fun _ hg => hg) h.zn⟩
  exact hd'.2.2 b (by rw [Option.mem_toList]; exact hb) b (by rw [Option.mem_toList]; exact h2) rfl
theorem BsO.on (h : BsO B w v1 L) (hd : (hdB L).Nodup) : OnL (fun b => v1.ownBlock = some b ∨ b ∈ hdB L) w (L.map dH) v1 := by
  refine Row.on h.ro dH rfl (fun g hg => .inl hg) (fun i b => ∃ q : i < L.length, b ∈ hdX L[i]) ?_ ?_ ?_
  · rintro i b ⟨q, hb⟩
    refine ⟨.inr (hdB_mem.2 ⟨_, List.getElem_mem q, hb⟩), fun e => ?_⟩
    obtain ⟨c, hc⟩ := (h.el _ (List.getElem_mem q)).ty hb
    obtain ⟨c', hc'⟩ := Row.typed h.ro b e
    exact tyS_ne hc hc'
  · rintro i j b ⟨q1, h1⟩ ⟨q2, h2⟩
    exact hdB_dis hd q1 q2 h1 h2
  · intro i hi
    exact Own.on_up ((h.el _ (List.getElem_mem hi)).on (hdX_nodup hd (List.getElem_mem hi))) (fun b hb => ⟨hi, hb⟩)
theorem PkO.on (h : PkO B w v0 v1 T L) : Own.On (fun b => B ≤ b ∧ b < w.heap.size) w ((T, L.map dH) : DShareBook) (cs [v0, v1]) := by
  have hd := h.nd
  unfold hdT at hd
  rw [List.nodup_append] at hd
  refine on_DShareBook.2 ⟨fun b => v0.ownBlock = some b, fun b => v1.ownBlock = some b ∨ b ∈ hdB L, fun b hb => ⟨World.ownsRow.lt h.th b hb, ?_⟩, ?_, onS h.th (fun _ hg => hg) h.zt, h.bs.on hd.2.1⟩
  · rintro (h2 | h2)
    · obtain ⟨c, hc⟩ := Row.typed h.th b hb
      obtain ⟨c', hc'⟩ := Row.typed h.bs.ro b h2
      exact tyS_ne hc hc'
    · exact hd.2.2 b (by rw [Option.mem_toList]; exact hb) b h2 rfl
  · rintro b (hb | hb)
    · exact World.ownsRow.lt h.bs.ro b hb
    · exact h.bs.lt hb
end
theorem hdB_push {m : Nat} {L : List HB} {x : HB} (hd : (hdB L).Nodup) (hl : ∀ b ∈ hdB L, b < m) (hx : (hdX x).Nodup) (hm : ∀ b ∈ hdX x, m ≤ b) : (hdB (L ++ [x])).Nodup := by
  rw [hdB_app, hdB_one, List.nodup_append]
  exact ⟨hd, hx, fun a ha b hb e => by have := hl a ha; have := hm b hb; omega⟩
theorem hdX_two {x : HB} {m : Nat} (h1 : ∀ b, x.2.1.1.ownBlock = some b → b < m) (h2 : ∀ b, x.2.2.1.ownBlock = some b → m ≤ b) : (hdX x).Nodup := by
  unfold hdX
  rw [List.nodup_append]
  refine ⟨?_, ?_, fun a ha b hb e => ?_⟩
  · cases x.2.1.1.ownBlock <;> simp
  · cases x.2.2.1.ownBlock <;> simp
  · rw [Option.mem_toList] at ha hb
    have := h1 a ha
    have := h2 b hb
    omega
end Go.Proofs.YtaejlcanccfmmaaGreatDoor

namespace Go.Proofs.YtaejlcanccfmmaaGreatDoor
open Go.RowKit
theorem under172 : Tryz.prog.underlying 138 = some (.pointer 5) := by kernel_rfl
theorem under135' : Tryz.prog.underlying 22 = some (.slice 5) := by kernel_rfl
theorem info5c : (Tryz.prog.info? 5).map (fun i => (i.zero, i.size, i.bytes)) = some (some (.int .u8 0), 1, 1) := by kernel_rfl
set_option maxHeartbeats 4000000 in
set_option maxRecDepth 100000 in
theorem clone_any (s : ByteArray) (w : World) (hlim : s.size ≤ 1048576) :
    Calls Tryz.prog 58 #[.string s] w fun e w' => e = .returned (.string s) ∧ Below w.heap.size w w' := by
  by_cases h0 : s.size = 0
  · have hs : s = ⟨#[]⟩ := by
      apply ByteArray.ext
      exact Array.eq_empty_of_size_eq_zero h0
    subst hs
    go_enter Tryz.func58, Tryz.ntmps58
    go_wp2
    go_ret
    exact ⟨rfl, Below.refl _ _⟩
  · obtain ⟨i0, hi, hz0, hz1, hz2⟩ := info_parts info5c
    have hinfo : (Tryz.prog.info? 5).map (·.size) = some 1 := by rw [hi]; simp [hz1]
    have hco : Tryz.prog.cellsOf 5 = 1 := by simp [Program.cellsOf, hi, hz1]
    obtain ⟨M, hM⟩ : ∃ M, M = madeCells (Value.int .u8 0).cells (((s.size : Nat) : Int).toNat * i0.size) := ⟨_, rfl⟩
    have hMs : M.size = s.size := by rw [hM, size_madeCells, hz1]; simp
    have hmk : ∀ W : World, (Instr.makeSlice 22 (.int .i64 (s.size : Int)) (.int .i64 (s.size : Int))).run Tryz.prog W = .ok (.slice (some ⟨W.heap.size, 0, none⟩) s.size s.size) (W.alloc (.cells M 5)) := fun W => by
      have h := run_make (P := Tryz.prog) W 22 5 i0 (.int .u8 0) under135' hi hz0 .i64 .i64 (s.size : Int) (s.size : Int) (by omega) (by omega) (by rw [hz2]; omega) (by omega)
      rw [← hM] at h
      simpa using h
    clear hM
    have hcp := Lib.run_copy_row_string (P := Tryz.prog) (w.alloc (.cells M 5)) 22 9 3 5 w.heap.size 0 s.size s.size s M 5 under135' hinfo (heap_alloc_new w _) (Nat.le_refl _) (by omega)
    obtain ⟨Y, hY⟩ : ∃ Y, Y = (M.toList.take 0 ++ Lib.byteCells s.data.toList ++ M.toList.drop (0 + s.size)).toArray := ⟨_, rfl⟩
    rw [← hY] at hcp
    have hYl : Y.toList = Lib.byteCells s.data.toList := by
      rw [hY, List.toList_toArray, List.take_zero, List.nil_append, List.drop_of_length_le (by rw [Array.length_toList]; omega), List.append_nil]
    have hYs : Y.size = s.size := by rw [← Array.length_toList, hYl, Lib.byteCells_length, ← Lib.size_eq]
    have hgY : ((w.alloc (.cells M 5)).setRow w.heap.size Y).heap[w.heap.size]? = some (.cells Y 5 (0, 0)) := setRow_heap _ _ M _ 5 (0, 0) (heap_alloc_new w _)
    have hne : s.data.toList ≠ [] := fun e => h0 (by rw [Lib.size_eq, e]; rfl)
    have hUS := Lib.run_unsafeString_row (P := Tryz.prog) ((w.alloc (.cells M 5)).setRow w.heap.size Y) 138 3 9 5 under172 hco w.heap.size Y.size (by unfold World.shape?; rw [hgY]) s.data.toList hne (by rw [← Lib.size_eq]; omega) (by rw [← Lib.size_eq]; omega)
      (fun j x hx => Lib.cells_of_row hgY Y.size j _ (by rw [List.take_of_length_le (by rw [Array.length_toList]; exact Nat.le_refl _), hYl]; simp [Lib.byteCells, hx]))
    rw [← Lib.size_eq] at hUS
    clear hY
    go_enter Tryz.func58, Tryz.ntmps58
    go_wp2
    go_ret
    have hb1 : Below w.heap.size w (w.alloc (.cells M 5)) := (Below.refl _ w).alloc (Nat.le_refl _) _
    have hb2 : Below w.heap.size (w.alloc (.cells M 5)) ((w.alloc (.cells M 5)).setRow w.heap.size Y) := ⟨rfl, rfl, rfl, by simp, fun k hk => setRow_other _ _ _ _ (by omega)⟩
    exact ⟨rfl, Lib.below_freeze (hb1.trans hb2) (p := ⟨w.heap.size, 0, none⟩) (Nat.le_refl _) _⟩
set_option maxRecDepth 100000 in
set_option maxHeartbeats 1000000 in
theorem clones_any (s : ByteArray) (w : World) (hlim : s.size ≤ 1048576) :
    Calls Tryz.prog 39 #[.string s] w fun e w' => e = .returned (.string s) ∧ Below w.heap.size w w' := by
  go_enter Tryz.func39, Tryz.ntmps39
  go_wp2_with (go_at_call 58; refine (clone_any _ _ hlim).mono ?_; rintro e w1 ⟨rfl, hb⟩)
  go_ret
  exact ⟨rfl, hb⟩
end Go.Proofs.YtaejlcanccfmmaaGreatDoor

namespace Go.Proofs.YtaejlcanccfmmaaGreatDoor
open Go.RowKit
set_option maxRecDepth 100000 in
set_option maxHeartbeats 4000000 in
theorem freshT_any (S : Nat → Prop) (v : Value) (l : List ByteArray) (w : World) (h : AtL S w l v) (hS : ∀ b, S b → b < w.heap.size) (hl : l.length ≤ 1048576) (hs : ∀ x ∈ l, x.size ≤ 1048576) :
    Calls Tryz.prog 48 #[v] w fun e w' => ∃ r, e = .returned r ∧ Row w' w.heap.size 9 1 eS r l ∧ Below w.heap.size w w' := by
  obtain ⟨oa, cap, rfl, hn, hc⟩ := h
  have HC : Hid (∀ i (h : i < l.length), ∃ b off, oa = some ⟨b, off, none⟩ ∧ S b ∧ w.cell? ⟨b, off + i, none⟩ = some (.string l[i])) := fun i hi => by
    obtain ⟨b, off, h1, h2, c, h3, h4⟩ := hc i hi
    have e0 := h3 0 (by decide)
    rw [h4.1] at e0
    exact ⟨b, off, h1, h2, by simpa [width_str] using e0⟩
  have HS : Hid (∀ x ∈ l, x.size ≤ 1048576) := hs
  clear hc hn hs
  obtain ⟨n, en⟩ : ∃ n, l.length = n := ⟨_, rfl⟩
  rw [en] at hl
  rw [en]
  have EN : Hid (l.length = n) := en
  clear en
  go_enter Tryz.func48, Tryz.ntmps48
  go_wp2
  go_loopw [3, 8] (fun r i wr => ∃ k : Nat, k ≤ n ∧ i = .int .i64 k ∧ Hid (Row wr w.heap.size 9 1 eS r (l.take k)) ∧ Hid (Below w.heap.size w wr)) (fun _ i _ => n - (intOf i).toNat)
  case atStart => exact ⟨0, Nat.zero_le _, rfl, by simpa [Hid] using Row.nil w w.heap.size 9 1 eS, Below.refl _ _⟩
  case round =>
    obtain ⟨k, hk, rfl, hrow, hbel⟩ := hrel
    have hsz := hbel.out.size
    by_cases hlt : k < n
    · obtain ⟨b, off, rfl, hbS, c0⟩ := HC.out k (by have := EN.out; omega)
      have e0 := (hbel.out.cell (p := ⟨b, off + k, none⟩) (hS b hbS)).trans c0
      clear c0
      have hx := HS.out _ (List.getElem_mem (show k < l.length by have := EN.out; omega))
      have htk : Hid (l.take (k + 1) = l.take k ++ [l[k]'(by have := EN.out; omega)]) := by
        show _ = _
        rw [List.take_add_one, List.getElem?_eq_getElem (show k < l.length by have := EN.out; omega)]; rfl
      obtain ⟨x, ex⟩ : ∃ x, l[k]'(by have := EN.out; omega) = x := ⟨_, rfl⟩
      rw [ex] at e0 hx htk
      clear ex
      have hlk : (l.take k).length = k := by rw [List.length_take]; have := EN.out; omega
      go_wp2_with fail
      refine (clones_any x _ hx).mono ?_
      rintro e w1 ⟨rfl, hb1⟩
      have hs1 := hb1.size
      have hrow1 : Hid (Row w1 w.heap.size 9 1 eS _ (l.take k)) := Row.below hrow.out hb1
      have hsr : Hid (Src (w1.alloc (.cells #[.string x] 9)) (.slice (some ⟨w1.heap.size, 0, none⟩) 1 1) 1 1 (enc 1 eS [x])) := ⟨rfl, .inr ⟨_, _, rfl, by exact cell_one_new _ _ _⟩⟩
      go_wp2_with (first
        | (at_builtin; refine wpList_app elS rfl _ _ rfl rfl rfl (hrow1.out.alloc _) hsr.out (flatS.enc_one _) (by unfold maxLen; omega) (by omega) (by simp; omega) ?_; intro v' w3 hown hg hbk))
      go_roundw
      case rel =>
        refine ⟨k + 1, by omega, by go_num, ?_, (((hbel.out.trans (hb1.mono hsz)).alloc (by omega) _).grown hg (by simp; omega) (fun p hp => (World.ownsRow.lt hrow1.out p hp).1))⟩
        show Row _ _ _ _ _ _ _
        rw [htk.out]
        show World.ownsRow _ _ _ _ _ _ _
        rw [List.length_append, enc_append]
        exact hown
      case measure => simp [intOf]; omega
    · obtain rfl : n = k := by omega
      have htk : Hid (l.take n = l) := by show _ = _; rw [List.take_of_length_le (by have := EN.out; omega)]
      go_wp2
      go_ret
      refine ⟨_, rfl, ?_, hbel.out⟩
      have := hrow.out
      rw [htk.out] at this
      exact this
end Go.Proofs.YtaejlcanccfmmaaGreatDoor
