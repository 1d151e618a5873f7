/-
  Lists in memory, and what the laws themselves do with lists of texts: their measure, their copy in new memory, whether two are the same.
-/
import Derived.Test.YtnpfnbgbodojnadChecked
import Derived.WalkKit
import Derived.WalkSpells
import Derived.WalkLawsBesides
import Derived.BigQuiet
import Derived.Deep.QuietTactic
import Derived.Deep.RegionWith
import Derived.Lib.QuietBelow
import Derived.Lib.OthersKept
import Derived.Laws.MakeOwn
import Derived.Laws.ResultCell
import Derived.Deep.Slices
import Derived.Lib.SmallJoins
import Derived.ProofKit
namespace Go.Proofs.Ytnpfnbgbodojnad
open Go.RowKit

/-- A list of n elements of k cells each, its blocks below B: cell j of element i is c i j. -/
def Lst (B : Nat) (w : World) (v : Value) (n k : Nat) (c : Nat → Nat → Value) : Prop :=
  ∃ oa cap, v = .slice oa n cap ∧ n ≤ maxLen ∧ ∀ i, i < n → ∃ b off, oa = some ⟨b, off, none⟩ ∧ b < B ∧ ∀ j, j < k → w.cell? ⟨b, off + i * k + j, none⟩ = some (c i j)

theorem Lst.kept {B B' : Nat} {w w' : World} {v : Value} {n k : Nat} {c : Nat → Nat → Value} (h : Lst B w v n k c) (hb : Below B' w w') (hB : B ≤ B') : Lst B w' v n k c := by
  obtain ⟨oa, cap, hv, hn, hc⟩ := h
  refine ⟨oa, cap, hv, hn, fun i hi => ?_⟩
  obtain ⟨b, off, h1, h2, h3⟩ := hc i hi
  exact ⟨b, off, h1, h2, fun j hj => (hb.cell (p := ⟨b, off + i * k + j, none⟩) (by show b < B'; omega)).trans (h3 j hj)⟩

theorem cell_past {w : World} {b o : Nat} {v : Value} (h : w.cell? ⟨b, o, none⟩ = some v) (hb : b < w.heap.size) (ob : Obj) : (w.alloc ob).cell? ⟨b, o, none⟩ = some v :=
  (World.cell?_of_block (w := w) (a := ⟨b, o, none⟩) (Below.heap_alloc w ob b hb)).trans h

/-- Are two texts the same? Does one text come ahead of the other? -/
def eqB (a b : ByteArray) : Bool := a.toList == b.toList

theorem eqB_refl (a : ByteArray) : eqB a a = true := by simp [eqB]

def cF (g : Nat → ByteArray × ByteArray) (i j : Nat) : Value := if j = 0 then .string (g i).1 else .string (g i).2

def cS (g : Nat → ByteArray) (i _ : Nat) : Value := .string (g i)

theorem box_in {w wr : World} {c : Array Value} {t : TypeId} (hb : Below (w.heap.size + 1) (w.alloc (.cells c t)) wr) (j : Nat) (v : Value) (h : c[j]? = some v) : wr.cell? ⟨w.heap.size, j, none⟩ = some v := by
  refine (hb.cell (p := ⟨w.heap.size, j, none⟩) (by show w.heap.size < _; omega)).trans ?_
  simp only [World.cell?, heap_alloc_new, h]; rfl

theorem old_in {w wr : World} {o : Obj} (hb : Below (w.heap.size + 1) (w.alloc o) wr) {b i : Nat} {v : Value} (hB : b < w.heap.size) (h : w.cell? ⟨b, i, none⟩ = some v) : wr.cell? ⟨b, i, none⟩ = some v :=
  (hb.cell (p := ⟨b, i, none⟩) (by show b < _; omega)).trans (cell_past h hB o)

theorem below_of {w wr wr' : World} {o : Obj} (hb : Below (w.heap.size + 1) (w.alloc o) wr) (h : Below wr.heap.size wr wr') : Below (w.heap.size + 1) (w.alloc o) wr' :=
  hb.trans (h.mono (by have := hb.size; simp at this; exact this))

theorem below_end {w wr : World} {o : Obj} (hb : Below (w.heap.size + 1) (w.alloc o) wr) : Below w.heap.size w wr :=
  ((Below.refl _ _).alloc (Nat.le_refl _) o).trans (hb.mono (by omega))

theorem new_cell (w : World) (c : Array Value) (t : TypeId) (j : Nat) (v : Value) (h : c[j]? = some v) : (w.alloc (.cells c t)).cell? ⟨w.heap.size, j, none⟩ = some v := by
  simp only [World.cell?, heap_alloc_new, h]; rfl

theorem Lst.set {B : Nat} {w : World} {g n m k : Nat} {c : Nat → Nat → Value} (h : Lst B w (.slice (some ⟨g, 0, none⟩) n m) n k c) (p : Addr) (x : Value) (hne : p.block ≠ g) : Lst B (w.setCell p x) (.slice (some ⟨g, 0, none⟩) n m) n k c := by
  obtain ⟨oa, cap, hv, hn, hc⟩ := h
  cases hv
  refine ⟨_, _, rfl, hn, fun i hi => ?_⟩
  obtain ⟨b, off, e, h2, h3⟩ := hc i hi
  cases e
  exact ⟨g, 0, rfl, h2, fun j hj => (World.cell?_of_block (w := w) (a := ⟨g, 0 + i * k + j, none⟩) (Below.heap_setCell w p x g (fun e => hne e.symm))).trans (h3 j hj)⟩

theorem Lst.up {B B' : Nat} {w : World} {v : Value} {n k : Nat} {c : Nat → Nat → Value} (h : Lst B w v n k c) (hB : B ≤ B') : Lst B' w v n k c := by
  obtain ⟨oa, cap, hv, hn, hc⟩ := h
  refine ⟨oa, cap, hv, hn, fun i hi => ?_⟩
  obtain ⟨b, off, h1, h2, h3⟩ := hc i hi
  exact ⟨b, off, h1, by omega, h3⟩

theorem slice_lst {B : Nat} {w : World} {v : Value} {n k : Nat} {c : Nat → Nat → Value} (h : Lst B w v n k c) : ∃ oa cap, v = .slice oa n cap := by
  obtain ⟨oa, cap, hv, _⟩ := h; exact ⟨oa, cap, hv⟩

/-- A list that lies at the beginning of a block. -/
abbrev sl (g n : Nat) : Value := .slice (some ⟨g, 0, none⟩) n n

/-- A cell of a row that stands in memory, not frozen. -/
theorem cell_row {w : World} {g : Nat} {c : Array Value} {t : TypeId} (h : w.heap[g]? = some (.cells c t (0, 0))) (i : Nat) (v : Value) (hi : c[i]? = some v) : w.cell? ⟨g, i, none⟩ = some v ∧ w.frozen? ⟨g, i, none⟩ = false := by
  constructor
  · simp [World.cell?, h, hi]
  · simp [World.frozen?, h]

theorem set_at (c : Array Value) (i : Nat) (v : Value) (h : i < c.size) : (c.setIfInBounds i v)[i]? = some v := by simp [h]

theorem set_row {w : World} {g : Nat} {c : Array Value} {t : TypeId} (h : w.heap[g]? = some (.cells c t (0, 0))) (i : Nat) (v : Value) : (w.setCell ⟨g, i, none⟩ v).heap[g]? = some (.cells (c.setIfInBounds i v) t (0, 0)) := by
  simp [World.setCell, Array.getElem?_modify, h]

set_option maxRecDepth 100000 in
set_option maxHeartbeats 1000000 in
theorem szS_any (B : Nat) (v : Value) (n : Nat) (f : Nat → ByteArray) (x : Int) (w : World) (h : Lst B w v n 1 (cS f)) (hz : ∀ i, i < n → (f i).size ≤ maxLen) (h0 : 0 ≤ x) (h1 : x ≤ 1048576) :
    Calls Try.prog 9 #[v, .int .i64 x] w fun e w' => ∃ y, e = .returned (.int .i64 y) ∧ y ≤ x ∧ (0 ≤ y → n ≤ 1048576) ∧ Below w.heap.size w w' := by
  obtain ⟨oa, cap, rfl, hn, hc⟩ := h
  unfold maxLen at hn hz
  have HC : Hid _ := hc
  have HZ : Hid _ := hz
  clear hc hz
  by_cases hx : (n : Int) ≤ x
  · go_enter Try.func9, Try.ntmps9
    go_wp2
    go_loop [1, 5] (fun l i => ∃ (k : Nat) (y : Int), k ≤ n ∧ i = .int .i64 k ∧ l = .int .i64 y ∧ 0 ≤ y ∧ y ≤ x) (fun _ i => n - (intOf i).toNat)
    case atStart => exact ⟨0, _, Nat.zero_le _, rfl, rfl, by omega, by omega⟩
    case round =>
      obtain ⟨k, y, hk, rfl, rfl, hy0, hy1⟩ := hrel
      by_cases hlt : k < n
      · obtain ⟨b, off, rfl, _, hcell⟩ := HC.out k hlt
        have hcell := hcell 0 (by omega)
        rw [Nat.mul_one, Nat.add_zero] at hcell
        simp only [cS] at hcell
        have hzk := HZ.out k hlt
        by_cases hs : ((f k).size : Int) ≤ y
        · go_wp2
          go_round
          case rel => exact ⟨k + 1, _, by omega, by go_num, rfl, by omega, by omega⟩
          case measure => simp [intOf]; omega
        · go_wp2
          go_ret
          exact ⟨-1, rfl, by omega, fun h => by omega, Below.refl _ _⟩
      · go_wp2
        go_ret
        exact ⟨y, rfl, hy1, fun _ => by omega, Below.refl _ _⟩
  · go_enter Try.func9, Try.ntmps9
    go_wp2
    go_ret
    exact ⟨-1, rfl, by omega, fun h => by omega, Below.refl _ _⟩

theorem under24 : Try.prog.underlying 22 = some (.slice 9) := by kernel_rfl

theorem info9' : (Try.prog.info? 9).map (fun i => (i.zero, i.size, i.bytes)) = some (some (.string ByteArray.empty), 1, 16) := by kernel_rfl

/-- Block g lies below B, and has m cells of a type, none of them frozen. -/
def Blk (B : Nat) (w : World) (g t m : Nat) : Prop := g < B ∧ ∃ c, w.heap[g]? = some (.cells c t (0, 0)) ∧ c.size = m

theorem Blk.kept {B B' : Nat} {w w' : World} {g t m : Nat} (h : Blk B w g t m) (hb : Below B' w w') (hB : B ≤ B') : Blk B w' g t m := by
  obtain ⟨h1, c, h2, h3⟩ := h
  exact ⟨h1, c, (hb.block g (by omega)).trans h2, h3⟩

theorem Blk.set {B : Nat} {w : World} {g t m : Nat} (h : Blk B w g t m) (p : Addr) (x : Value) (hne : p.block ≠ g) : Blk B (w.setCell p x) g t m := by
  obtain ⟨h1, c, h2, h3⟩ := h
  exact ⟨h1, c, (Below.heap_setCell w p x g (fun e => hne e.symm)).trans h2, h3⟩

theorem Blk.up {B B' : Nat} {w : World} {g t m : Nat} (h : Blk B w g t m) (hB : B ≤ B') : Blk B' w g t m := by
  obtain ⟨h1, h2⟩ := h
  exact ⟨by omega, h2⟩

set_option maxRecDepth 100000 in
set_option maxHeartbeats 1000000 in
theorem toS_blk (B : Nat) (v : Value) (n : Nat) (f : Nat → ByteArray) (w : World) (h : Lst B w v n 1 (cS f)) (hB : B ≤ w.heap.size) (hm : n ≤ 1048576) :
    Calls Try.prog 12 #[v] w fun e w' => e = .returned (.slice (some ⟨w.heap.size, 0, none⟩) n n) ∧ Lst w'.heap.size w' (.slice (some ⟨w.heap.size, 0, none⟩) n n) n 1 (cS f) ∧ Blk w'.heap.size w' w.heap.size 9 (n) ∧ Below w.heap.size w w' := by
  obtain ⟨oa, cap, rfl, hn, hc⟩ := h
  have HC : Hid _ := hc
  clear hc hn
  obtain ⟨i0, hi, hz0, hz1, hz2⟩ := info_parts info9'
  obtain ⟨M, hM⟩ : ∃ M, M = madeCells (Value.string ByteArray.empty).cells ((n : Int).toNat * i0.size) := ⟨_, rfl⟩
  have hMs : M.size = n := by rw [hM, size_madeCells, hz1]; simp
  have hmk : ∀ W : World, (Instr.makeSlice 22 (.int .i64 (n : Int)) (.int .i64 (n : Int))).run Try.prog W = .ok (.slice (some ⟨W.heap.size, 0, none⟩) n n) (W.alloc (.cells M 9)) := fun W => by
    have h := run_make (P := Try.prog) W 22 9 i0 (.string ByteArray.empty) under24 hi hz0 .i64 .i64 (n : Int) (n : Int) (by omega) (by omega) (by rw [hz2]; omega) (by omega)
    rw [← hM] at h
    simpa using h
  clear hM
  go_enter Try.func12, Try.ntmps12
  go_wp2
  go_loopw [4] (fun i wr => ∃ (k : Nat) (c : Array Value), k ≤ n ∧ i = .int .i64 k ∧ Hid (wr.heap[w.heap.size]? = some (.cells c 9 (0, 0))) ∧ c.size = n ∧ Hid (∀ j, j < k → c[j]? = some (.string (f j))) ∧ Hid (Below w.heap.size w wr)) (fun i _ => n - (intOf i).toNat)
  case atStart => exact ⟨0, M, Nat.zero_le _, rfl, heap_alloc_new w _, hMs, fun _ h => by omega, (Below.refl _ _).alloc (Nat.le_refl _) _⟩
  case round =>
    obtain ⟨k, c, hk, rfl, hrow, hcs, hall, hbel⟩ := hrel
    by_cases hlt : k < n
    · obtain ⟨b, off, rfl, hbB, hcell⟩ := HC.out k hlt
      have e0 : wr.cell? ⟨b, off + k, none⟩ = some (.string (f k)) := (hbel.out.cell (p := ⟨b, off + k, none⟩) (by show b < _; omega)).trans (by simpa [cS] using hcell 0 (by omega))
      obtain ⟨v0, hv0⟩ : ∃ v0, c[k]? = some v0 := ⟨_, Array.getElem?_eq_getElem (by omega)⟩
      obtain ⟨hcl, hfr⟩ := cell_row hrow.out k v0 hv0
      clear hv0
      go_wp2
      go_roundw
      case rel =>
        refine ⟨k + 1, c.setIfInBounds k (.string (f k)), by omega, by go_num, set_row hrow.out k _, by simpa using hcs, ?_, hbel.out.setCell (Nat.le_refl _) _⟩
        intro j hj
        by_cases e : j = k
        · subst e; exact set_at c j _ (by omega)
        · rw [Array.getElem?_setIfInBounds_ne (fun h => e h.symm)]
          exact hall.out j (by omega)
      case measure => simp [intOf]; omega
    · go_wp2
      go_ret
      refine ⟨rfl, ⟨_, _, rfl, by unfold maxLen; omega, fun i hi => ⟨w.heap.size, 0, rfl, (Array.getElem?_eq_some_iff.1 hrow.out).1, fun j hj => ?_⟩⟩, ⟨(Array.getElem?_eq_some_iff.1 hrow.out).1, c, hrow.out, hcs⟩, hbel.out⟩
      have e : 0 + i * 1 + j = i := by omega
      rw [e]
      exact (cell_row hrow.out i _ (hall.out i (by omega))).1

theorem toS_any (B : Nat) (v : Value) (n : Nat) (f : Nat → ByteArray) (w : World) (h : Lst B w v n 1 (cS f)) (hB : B ≤ w.heap.size) (hm : n ≤ 1048576) :
    Calls Try.prog 12 #[v] w fun e w' => e = .returned (.slice (some ⟨w.heap.size, 0, none⟩) n n) ∧ Lst w'.heap.size w' (.slice (some ⟨w.heap.size, 0, none⟩) n n) n 1 (cS f) ∧ Below w.heap.size w w' :=
  (toS_blk B v n f w h hB hm).mono fun _ _ ⟨h1, h2, _, h3⟩ => ⟨h1, h2, h3⟩

set_option maxRecDepth 100000 in
set_option maxHeartbeats 2000000 in
theorem eqS_lst (B B' : Nat) (va vb : Value) (n : Nat) (f : Nat → ByteArray) (w : World) (ha : Lst B w va n 1 (cS f)) (hb : Lst B' w vb n 1 (cS f)) (hB : B ≤ w.heap.size) (hB' : B' ≤ w.heap.size) :
    Calls Try.prog 15 #[va, vb] w fun e w' => e = .returned (.bool true) ∧ Below w.heap.size w w' := by
  obtain ⟨oa, ca, rfl, hn, hca⟩ := ha
  obtain ⟨ob, cb, rfl, _, hcb⟩ := hb
  unfold maxLen at hn
  have HA : Hid _ := hca
  have HB : Hid _ := hcb
  clear hca hcb
  go_enter Try.func15, Try.ntmps15
  go_wp2
  go_loopw [5] (fun i wr => ∃ k : Nat, k ≤ n ∧ i = .int .i64 k ∧ Hid (Below w.heap.size w wr)) (fun i _ => n - (intOf i).toNat)
  case atStart => exact ⟨0, Nat.zero_le _, rfl, Below.refl _ _⟩
  case round =>
    obtain ⟨k, hk, rfl, hbel⟩ := hrel
    have hs := hbel.out.size
    by_cases hlt : k < n
    · obtain ⟨ba, fa, rfl, hba, hxa⟩ := HA.out k hlt
      obtain ⟨bb, fb, rfl, hbb, hxb⟩ := HB.out k hlt
      have a0 : wr.cell? ⟨ba, fa + k, none⟩ = some (.string (f k)) := (hbel.out.cell (p := ⟨ba, fa + k, none⟩) (by show ba < _; omega)).trans (by simpa [cS] using hxa 0 (by omega))
      have qa0 := fun d os => cell_regrown a0 d os
      have c0 : wr.cell? ⟨bb, fb + k, none⟩ = some (.string (f k)) := (hbel.out.cell (p := ⟨bb, fb + k, none⟩) (by show bb < _; omega)).trans (by simpa [cS] using hxb 0 (by omega))
      have qc0 := fun d os => cell_regrown c0 d os
      go_wp2
      refine wp_region_quiet_below (by kernel_rfl) (by kernel_rfl) ?_
      repeat (first | go_big_quiet_step (fail) | quiet_step (fail))
      refine wpQuiet_nil ?_
      intro _ hw'
      obtain ⟨⟨dq, osq⟩, hw''⟩ := hw'
      subst hw''
      go_wp2
      go_roundw
      case rel => exact ⟨k + 1, by omega, by go_num, hbel.out.trans ((below_regrown _ dq osq).mono hs)⟩
      case measure => simp [intOf]; omega
    · go_wp2
      go_ret
      exact ⟨rfl, hbel.out⟩

section
open Go.ChangeShapes Go.WideShapes Go.ChangeAt
variable {H : Type} {enc : TypeId × Value → H} {w : World} {base : Nat} {spare : Nat → Bool} {held : Bool}

theorem c9 : Try.prog.cellsOf 9 = 1 := by kernel_rfl

/-- A list that can be read, its elements' cells as a function says. -/
theorem lst_of {t e : TypeId} {fuel k : Nat} {v : Value} {x : DataW H × List MemPlace} {α : Type} [Inhabited α] (ht : Try.prog.underlying t = some (.slice e)) (hk : Try.prog.cellsOf e = k) (hk1 : 1 ≤ k) (c : (Nat → α) → Nat → Nat → Value) (q : α → Prop)
    (hc : ∀ f i j, c f i j = c (fun _ => f i) 0 j)
    (hel : ∀ n cs y, cs.length = k → DataW.trod enc Try.prog w base spare held n e cs = some y → ∃ a : α, q a ∧ ∀ j, j < k → cs[j]? = some (c (fun _ => a) 0 j))
    (h : DataW.trod enc Try.prog w base spare held fuel t [v] = some x) : ∃ (n : Nat) (f : Nat → α), Lst w.heap.size w v n k (c f) ∧ ∀ i, i < n → q (f i) := by
  rcases Deep.open_slice ht h with ⟨h1, _⟩ | ⟨a, len, cap, m, n, D, Pl, h1, hb, hl, hm, hmm, _, hx⟩
  · simp at h1; subst h1
    exact ⟨0, fun _ => default, ⟨none, 0, rfl, Nat.zero_le _, fun i hi => by omega⟩, fun i hi => by omega⟩
  · simp at h1; subst h1
    have hle : len ≤ m := by rw [hmm]; split <;> omega
    obtain ⟨f, hf⟩ := Deep.choose_lt (α := α) (n := len) (p := fun i a' => q a' ∧ ∀ j, j < k → w.cell? ((a.add (i * k)).add j) = some (c (fun _ => a') 0 j)) (fun i hi => by
      obtain ⟨cs', h2, h3⟩ := hx i (by omega)
      rw [hk] at h2
      obtain ⟨_, h4, h5⟩ := World.cells?_some h2
      obtain ⟨a', hq, h6⟩ := hel n cs' _ h4 h3
      exact ⟨a', hq, fun j hj => (h5 j hj).trans (h6 j hj)⟩)
    refine ⟨len, f, ⟨some a, cap, rfl, Nat.le_trans hl hm, fun i hi => ?_⟩, fun i hi => (hf i hi).1⟩
    have h0 := (hf 0 (by omega)).2 0 hk1
    have hsp : a.spot = none := by
      have h7 := World.cell?_spot h0
      simpa [Addr.add] using h7
    obtain ⟨b, off, sp⟩ := a
    simp only at hsp
    subst hsp
    refine ⟨b, off, rfl, ?_, fun j hj => ?_⟩
    · exact World.block_lt_of_cell? w _ (by simpa [add_plain] using h0)
    · have h8 := (hf i hi).2 j hj
      rw [add_plain, add_plain] at h8
      rw [hc]; exact h8

theorem el_str {n : Nat} {cs : List Value} {y : DataW H × List MemPlace} (h : DataW.trod enc Try.prog w base spare held n 9 cs = some y) : ∃ a : ByteArray, cs = [.string a] ∧ a.size ≤ maxLen := by
  obtain ⟨s, h1, _, h2⟩ := DataW.trod_string Try.underlying9 h
  exact ⟨s, h1, h2⟩

theorem lst_str {fuel : Nat} {v : Value} {x : DataW H × List MemPlace} (h : DataW.trod enc Try.prog w base spare held fuel 22 [v] = some x) : ∃ (n : Nat) (f : Nat → ByteArray), Lst w.heap.size w v n 1 (cS f) ∧ ∀ i, i < n → (f i).size ≤ maxLen :=
  lst_of (α := ByteArray) Try.underlying22 c9 (Nat.le_refl _) cS (fun a => a.size ≤ maxLen) (fun _ _ _ => rfl) (fun n cs y hl hy => by
    obtain ⟨a, rfl, ha⟩ := el_str hy
    exact ⟨a, ha, fun j hj => by
      have e : j = 0 := by omega
      subst e; rfl⟩) h

end
end Go.Proofs.Ytnpfnbgbodojnad
