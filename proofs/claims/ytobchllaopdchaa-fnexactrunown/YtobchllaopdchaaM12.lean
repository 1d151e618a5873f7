/-
  Several texts in one.
-/
import Derived.Test.YtobchllaopdchaaNa
import Derived.Test.YtobchllaopdchaaLo
import Derived.Test.YtobchllaopdchaaM2
import Derived.Test.YtobchllaopdchaaChecked
import Derived.WalkKit
import Derived.WalkSpells
import Derived.WalkLawsBesides
import Derived.BigQuiet
import Derived.Lib.Bytealg
import Derived.Lib.UnsafeStr
import Derived.Lib.BufferWrite
import Derived.Laws.MakeOwn
import Derived.Laws.Externs
import Derived.Test.YtobchllaopdchaaHi
namespace Go.Proofs.Ytobchllaopdchaa
open Go.RowKit
theorem own_built {base e size k : Nat} {w : World} {c : Array Value} (hb : base ≤ w.heap.size) (hk : k ≤ maxLen) (hc : c.size = k * size) : (w.alloc (.cells c e)).ownsRow base e size (.slice (some ⟨w.heap.size, 0, none⟩) k k) k c.toList :=
  ⟨by simp [hc], .inr ⟨w.heap.size, k, c, rfl, hb, heap_alloc_new w _, Nat.le_refl _, hk, hc, by rw [List.take_of_length_le (by simp [hc])]⟩⟩
def eS (a : ByteArray) (_ : Nat) : Value := .string a
abbrev OkS (a : ByteArray) : Prop := a.size ≤ maxLen
theorem flatS : Flat 1 eS OkS := ⟨rfl, fun h => ⟨fun j hj => by obtain rfl : j = 0 := (by omega); exact h.1, h.2⟩, fun h => ⟨rfl, h⟩, fun _ _ => rfl⟩
theorem infS : (Try.prog.info? 9).map (fun i => (i.zero, i.size, i.bytes)) = some (some (.string ByteArray.empty), 1, 16) := by kernel_rfl
theorem elS : ElT Try.prog 27 9 1 16 := by
  obtain ⟨i0, hi, hz0, hz1, hz2⟩ := info_parts infS
  exact ⟨by kernel_rfl, ⟨i0, _, hi, hz0, hz1, hz2, rfl⟩, by decide⟩
theorem flat_on {α : Type} [Own α] {k : Nat} {e : α → Nat → Value} {ok : α → Prop} (F : Flat k e ok) (hon : ∀ {w : World} {a : α}, ok a → Own.On (fun _ => False) w a (e a)) {w : World} {B : Nat} {t : TypeId} {v : Value} {l : List α} (h : Row w B t k e v l) {S : Nat → Prop} (hS : ∀ g, v.ownBlock = some g → S g) (hok : ∀ x ∈ l, ok x) : OnL S w l v := by
  have := Row.on h id F.wid hS (fun _ _ => False) (fun _ _ h => h.elim) (fun _ _ _ h => h.elim) (fun i hi => hon (hok _ (List.getElem_mem hi)))
  rwa [List.map_id] at this
theorem onS {w : World} {B : Nat} {t : TypeId} {v : Value} {l : List ByteArray} (h : Row w B t 1 eS v l) {S : Nat → Prop} (hS : ∀ g, v.ownBlock = some g → S g) (hok : ∀ x ∈ l, OkS x) : OnL S w l v := flat_on flatS (fun h => ⟨rfl, h⟩) h hS hok
end Go.Proofs.Ytobchllaopdchaa

namespace Go.Proofs.Ytobchllaopdchaa
open Go.RowKit
theorem under172 : Try.prog.underlying 138 = some (.pointer 5) := by kernel_rfl
theorem under135' : Try.prog.underlying 100 = some (.slice 5) := by kernel_rfl
theorem info5c : (Try.prog.info? 5).map (fun i => (i.zero, i.size, i.bytes)) = some (some (.int .u8 0), 1, 1) := by kernel_rfl
set_option maxHeartbeats 4000000 in
set_option maxRecDepth 100000 in
theorem clone_any (s : ByteArray) (w : World) (hlim : s.size ≤ 1048576) :
    Calls Try.prog 77 #[.string s] w fun e w' => e = .returned (.string s) ∧ Below w.heap.size w w' := by
  by_cases h0 : s.size = 0
  · have hs : s = ⟨#[]⟩ := by
      apply ByteArray.ext
      exact Array.eq_empty_of_size_eq_zero h0
    subst hs
    go_enter Try.func77, Try.ntmps77
    go_wp2
    go_ret
    exact ⟨rfl, Below.refl _ _⟩
  · obtain ⟨i0, hi, hz0, hz1, hz2⟩ := info_parts info5c
    have hinfo : (Try.prog.info? 5).map (·.size) = some 1 := by rw [hi]; simp [hz1]
    have hco : Try.prog.cellsOf 5 = 1 := by simp [Program.cellsOf, hi, hz1]
    obtain ⟨M, hM⟩ : ∃ M, M = madeCells (Value.int .u8 0).cells (((s.size : Nat) : Int).toNat * i0.size) := ⟨_, rfl⟩
    have hMs : M.size = s.size := by rw [hM, size_madeCells, hz1]; simp
    have hmk : ∀ W : World, (Instr.makeSlice 100 (.int .i64 (s.size : Int)) (.int .i64 (s.size : Int))).run Try.prog W = .ok (.slice (some ⟨W.heap.size, 0, none⟩) s.size s.size) (W.alloc (.cells M 5)) := fun W => by
      have h := run_make (P := Try.prog) W 100 5 i0 (.int .u8 0) under135' hi hz0 .i64 .i64 (s.size : Int) (s.size : Int) (by omega) (by omega) (by rw [hz2]; omega) (by omega)
      rw [← hM] at h
      simpa using h
    clear hM
    have hcp := Lib.run_copy_row_string (P := Try.prog) (w.alloc (.cells M 5)) 100 9 3 5 w.heap.size 0 s.size s.size s M 5 under135' hinfo (heap_alloc_new w _) (Nat.le_refl _) (by omega)
    obtain ⟨Y, hY⟩ : ∃ Y, Y = (M.toList.take 0 ++ Lib.byteCells s.data.toList ++ M.toList.drop (0 + s.size)).toArray := ⟨_, rfl⟩
    rw [← hY] at hcp
    have hYl : Y.toList = Lib.byteCells s.data.toList := by
      rw [hY, List.toList_toArray, List.take_zero, List.nil_append, List.drop_of_length_le (by rw [Array.length_toList]; omega), List.append_nil]
    have hYs : Y.size = s.size := by rw [← Array.length_toList, hYl, Lib.byteCells_length, ← Lib.size_eq]
    have hgY : ((w.alloc (.cells M 5)).setRow w.heap.size Y).heap[w.heap.size]? = some (.cells Y 5 (0, 0)) := setRow_heap _ _ M _ 5 (0, 0) (heap_alloc_new w _)
    have hne : s.data.toList ≠ [] := fun e => h0 (by rw [Lib.size_eq, e]; rfl)
    have hUS := Lib.run_unsafeString_row (P := Try.prog) ((w.alloc (.cells M 5)).setRow w.heap.size Y) 138 3 9 5 under172 hco w.heap.size Y.size (by unfold World.shape?; rw [hgY]) s.data.toList hne (by rw [← Lib.size_eq]; omega) (by rw [← Lib.size_eq]; omega)
      (fun j x hx => Lib.cells_of_row hgY Y.size j _ (by rw [List.take_of_length_le (by rw [Array.length_toList]; exact Nat.le_refl _), hYl]; simp [Lib.byteCells, hx]))
    rw [← Lib.size_eq] at hUS
    clear hY
    go_enter Try.func77, Try.ntmps77
    go_wp2
    go_ret
    have hb1 : Below w.heap.size w (w.alloc (.cells M 5)) := (Below.refl _ w).alloc (Nat.le_refl _) _
    have hb2 : Below w.heap.size (w.alloc (.cells M 5)) ((w.alloc (.cells M 5)).setRow w.heap.size Y) := ⟨rfl, rfl, rfl, by simp, fun k hk => setRow_other _ _ _ _ (by omega)⟩
    exact ⟨rfl, Lib.below_freeze (hb1.trans hb2) (p := ⟨w.heap.size, 0, none⟩) (Nat.le_refl _) _⟩
set_option maxRecDepth 100000 in
set_option maxHeartbeats 1000000 in
theorem clones_any (s : ByteArray) (w : World) (hlim : s.size ≤ 1048576) :
    Calls Try.prog 62 #[.string s] w fun e w' => e = .returned (.string s) ∧ Below w.heap.size w w' := by
  go_enter Try.func62, Try.ntmps62
  go_wp2_with (go_at_call 77; refine (clone_any _ _ hlim).mono ?_; rintro e w1 ⟨rfl, hb⟩)
  go_ret
  exact ⟨rfl, hb⟩
end Go.Proofs.Ytobchllaopdchaa

namespace Go.Proofs.Ytobchllaopdchaa
open Go.RowKit Go.Sort
theorem call1 {P : Program} {md : Region.Mode} {ops : Array Oper} {C : World → Prop} {n f : Nat} {L : Array Bool → Act → World → Prop} {listed : Array Bool} {i dc : Nat} {oc : Oper} {a : Act} {w : World} {fn : FuncId} {args : Array Value}
    (hc : ops[i]? = some oc ∧ oc.guard = none ∧ oc.dst = some dc ∧ i < n) (r0 : Region.ready md ops listed = [i])
    (run : (execOp a.eval oc).run P w = .ok (.enter fn args) w) (con : Calls P fn args w fun e w' => ∃ v, e = .returned v ∧ C w' ∧ anyC P md ops C n L f (listed.setIfInBounds i true) (a.put (some dc) v) w') :
    anyC P md ops C n L (f + 1) listed a w := by
  obtain ⟨hc1, hc2, hc3, hc4⟩ := hc
  refine anyC_call i r0 hc4 ⟨oc, hc1, hc2, fn, args, run, con.mono fun e w' ⟨v, he, hC, hk⟩ => ⟨v, he, hC, ?_⟩⟩
  rw [hc3]; exact hk
end Go.Proofs.Ytobchllaopdchaa

namespace Go.Proofs.Ytobchllaopdchaa
open Go.RowKit
set_option maxRecDepth 100000 in
set_option maxHeartbeats 4000000 in
theorem freshT_any (S : Nat → Prop) (v : Value) (l : List ByteArray) (w : World) (h : AtL S w l v) (hS : ∀ b, S b → b < w.heap.size) (hl : l.length ≤ 1048576) (hs : ∀ x ∈ l, x.size ≤ 1048576) :
    Calls Try.prog 60 #[v] w fun e w' => ∃ r, e = .returned r ∧ Row w' w.heap.size 9 1 eS r l ∧ Below w.heap.size w w' := by
  obtain ⟨oa, cap, rfl, hn, hc⟩ := h
  have HC : Hid (∀ i (h : i < l.length), ∃ b off, oa = some ⟨b, off, none⟩ ∧ S b ∧ w.cell? ⟨b, off + i, none⟩ = some (.string l[i])) := fun i hi => by
    obtain ⟨b, off, h1, h2, c, h3, h4⟩ := hc i hi
    have e0 := h3 0 (by decide)
    rw [h4.1] at e0
    exact ⟨b, off, h1, h2, by simpa [width_str] using e0⟩
  have HS : Hid (∀ x ∈ l, x.size ≤ 1048576) := hs
  clear hc hn hs
  obtain ⟨n, en⟩ : ∃ n, l.length = n := ⟨_, rfl⟩
  rw [en] at hl
  rw [en]
  have EN : Hid (l.length = n) := en
  clear en
  go_enter Try.func60, Try.ntmps60
  go_wp2
  go_loopw [3, 8] (fun r i wr => ∃ k : Nat, k ≤ n ∧ i = .int .i64 k ∧ Hid (Row wr w.heap.size 9 1 eS r (l.take k)) ∧ Hid (Below w.heap.size w wr)) (fun _ i _ => n - (intOf i).toNat)
  case atStart => exact ⟨0, Nat.zero_le _, rfl, by simpa [Hid] using Row.nil w w.heap.size 9 1 eS, Below.refl _ _⟩
  case round =>
    obtain ⟨k, hk, rfl, hrow, hbel⟩ := hrel
    have hsz := hbel.out.size
    by_cases hlt : k < n
    · obtain ⟨b, off, rfl, hbS, c0⟩ := HC.out k (by have := EN.out; omega)
      have e0 := (hbel.out.cell (p := ⟨b, off + k, none⟩) (hS b hbS)).trans c0
      clear c0
      have hx := HS.out _ (List.getElem_mem (show k < l.length by have := EN.out; omega))
      have htk : Hid (l.take (k + 1) = l.take k ++ [l[k]'(by have := EN.out; omega)]) := by
        show _ = _
        rw [List.take_add_one, List.getElem?_eq_getElem (show k < l.length by have := EN.out; omega)]; rfl
      obtain ⟨x, ex⟩ : ∃ x, l[k]'(by have := EN.out; omega) = x := ⟨_, rfl⟩
      rw [ex] at e0 hx htk
      clear ex
      have hlk : (l.take k).length = k := by rw [List.length_take]; have := EN.out; omega
      go_wp2_with fail
      refine (clones_any x _ hx).mono ?_
      rintro e w1 ⟨rfl, hb1⟩
      have hs1 := hb1.size
      have hrow1 : Hid (Row w1 w.heap.size 9 1 eS _ (l.take k)) := Row.below hrow.out hb1
      have hsr : Hid (Src (w1.alloc (.cells #[.string x] 9)) (.slice (some ⟨w1.heap.size, 0, none⟩) 1 1) 1 1 (enc 1 eS [x])) := ⟨rfl, .inr ⟨_, _, rfl, by exact cell_one_new _ _ _⟩⟩
      go_wp2_with (first
        | (at_builtin; refine wpList_app elS rfl _ _ rfl rfl rfl (hrow1.out.alloc _) hsr.out (flatS.enc_one _) (by unfold maxLen; omega) (by omega) (by simp; omega) ?_; intro v' w3 hown hg hbk))
      go_roundw
      case rel =>
        refine ⟨k + 1, by omega, by go_num, ?_, (((hbel.out.trans (hb1.mono hsz)).alloc (by omega) _).grown hg (by simp; omega) (fun p hp => (World.ownsRow.lt hrow1.out p hp).1))⟩
        show Row _ _ _ _ _ _ _
        rw [htk.out]
        show World.ownsRow _ _ _ _ _ _ _
        rw [List.length_append, enc_append]
        exact hown
      case measure => simp [intOf]; omega
    · obtain rfl : n = k := by omega
      have htk : Hid (l.take n = l) := by show _ = _; rw [List.take_of_length_le (by have := EN.out; omega)]
      go_wp2
      go_ret
      refine ⟨_, rfl, ?_, hbel.out⟩
      have := hrow.out
      rw [htk.out] at this
      exact this
end Go.Proofs.Ytobchllaopdchaa
