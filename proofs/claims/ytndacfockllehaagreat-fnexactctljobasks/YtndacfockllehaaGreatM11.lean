/-
  Several texts in one.
-/
import Derived.Test.YtndacfockllehaaGreatM10
import Derived.Deep.RegionWith
import Derived.Deep.Slices
import Derived.Lib.SmallJoins
import Derived.ProofKit
import Derived.Test.YtndacfockllehaaGreatVb
import Derived.WalkKit
import Derived.WalkSpells
import Derived.WalkLawsBesides
import Derived.BigQuiet
import Derived.Deep.QuietTactic
/-
  Two small laws.
-/
namespace Go.Proofs.YtndacfockllehaaGreat
open Go.RowKit

theorem PD.All.sz {D : PD} (h : D.All) : D.Sz := ⟨h.s, h.p, fun i hi => ⟨(h.v i hi).1, (h.v i hi).2.2.2⟩⟩

theorem bool_same {a b : Bool} {p : Prop} (h1 : a = true ↔ p) (h2 : b = true ↔ p) : a = b := by
  rw [Bool.eq_iff_iff]; exact h1.trans h2.symm

end Go.Proofs.YtndacfockllehaaGreat

/-
  From a plant that can be read to its lists in memory.
-/
namespace Go.Proofs.YtndacfockllehaaGreat
open Go.ChangeShapes Go.WideShapes Go.ChangeAt Go.RowKit

theorem c9 : Tryz.prog.cellsOf 9 = 1 := by kernel_rfl
theorem c3 : Tryz.prog.cellsOf 3 = 1 := by kernel_rfl
theorem c84 : Tryz.prog.cellsOf 84 = 2 := by kernel_rfl
theorem c87 : Tryz.prog.cellsOf 87 = 3 := by kernel_rfl
theorem c90 : Tryz.prog.cellsOf 90 = 4 := by kernel_rfl

section
variable {H : Type} {enc : TypeId × Value → H} {w : World} {base : Nat} {spare : Nat → Bool} {held : Bool}

/-- A list that can be read, its elements' cells as a function says. -/
theorem lst_of {t e : TypeId} {fuel k : Nat} {v : Value} {x : DataW H × List MemPlace} {α : Type} [Inhabited α] (ht : Tryz.prog.underlying t = some (.slice e)) (hk : Tryz.prog.cellsOf e = k) (hk1 : 1 ≤ k) (c : (Nat → α) → Nat → Nat → Value) (q : α → Prop)
    (hc : ∀ f i j, c f i j = c (fun _ => f i) 0 j)
    (hel : ∀ n cs y, cs.length = k → DataW.trod enc Tryz.prog w base spare held n e cs = some y → ∃ a : α, q a ∧ ∀ j, j < k → cs[j]? = some (c (fun _ => a) 0 j))
    (h : DataW.trod enc Tryz.prog w base spare held fuel t [v] = some x) : ∃ (n : Nat) (f : Nat → α), Lst w.heap.size w v n k (c f) ∧ ∀ i, i < n → q (f i) := by
  rcases Deep.open_slice ht h with ⟨h1, _⟩ | ⟨a, len, cap, m, n, D, Pl, h1, hb, hl, hm, hmm, _, hx⟩
  · simp at h1; subst h1
    exact ⟨0, fun _ => default, ⟨none, 0, rfl, Nat.zero_le _, fun i hi => by omega⟩, fun i hi => by omega⟩
  · simp at h1; subst h1
    have hle : len ≤ m := by rw [hmm]; split <;> omega
    obtain ⟨f, hf⟩ := Deep.choose_lt (α := α) (n := len) (p := fun i a' => q a' ∧ ∀ j, j < k → w.cell? ((a.add (i * k)).add j) = some (c (fun _ => a') 0 j)) (fun i hi => by
      obtain ⟨cs', h2, h3⟩ := hx i (by omega)
      rw [hk] at h2
      obtain ⟨_, h4, h5⟩ := World.cells?_some h2
      obtain ⟨a', hq, h6⟩ := hel n cs' _ h4 h3
      exact ⟨a', hq, fun j hj => (h5 j hj).trans (h6 j hj)⟩)
    refine ⟨len, f, ⟨some a, cap, rfl, Nat.le_trans hl hm, fun i hi => ?_⟩, fun i hi => (hf i hi).1⟩
    have h0 := (hf 0 (by omega)).2 0 hk1
    have hsp : a.spot = none := by
      have h7 := World.cell?_spot h0
      simpa [Addr.add] using h7
    obtain ⟨b, off, sp⟩ := a
    simp only at hsp
    subst hsp
    refine ⟨b, off, rfl, ?_, fun j hj => ?_⟩
    · exact World.block_lt_of_cell? w _ (by simpa [add_plain] using h0)
    · have h8 := (hf i hi).2 j hj
      rw [add_plain, add_plain] at h8
      rw [hc]; exact h8

theorem el_str {n : Nat} {cs : List Value} {y : DataW H × List MemPlace} (h : DataW.trod enc Tryz.prog w base spare held n 9 cs = some y) : ∃ a : ByteArray, cs = [.string a] ∧ a.size ≤ maxLen := by
  obtain ⟨s, h1, _, h2⟩ := DataW.trod_string Tryz.underlying9 h
  exact ⟨s, h1, h2⟩
theorem el_int {n : Nat} {cs : List Value} {y : DataW H × List MemPlace} (h : DataW.trod enc Tryz.prog w base spare held n 3 cs = some y) : ∃ a : Int, cs = [.int .i64 a] := by
  obtain ⟨s, h1, _, _⟩ := DataW.trod_int Tryz.underlying3 h
  exact ⟨s, h1⟩

theorem lst_str {fuel : Nat} {v : Value} {x : DataW H × List MemPlace} (h : DataW.trod enc Tryz.prog w base spare held fuel 22 [v] = some x) : ∃ (n : Nat) (f : Nat → ByteArray), Lst w.heap.size w v n 1 (cS f) ∧ ∀ i, i < n → (f i).size ≤ maxLen :=
  lst_of (α := ByteArray) Tryz.underlying22 c9 (Nat.le_refl _) cS (fun a => a.size ≤ maxLen) (fun _ _ _ => rfl) (fun n cs y hl hy => by
    obtain ⟨a, rfl, ha⟩ := el_str hy
    exact ⟨a, ha, fun j hj => by
      have e : j = 0 := by omega
      subst e; rfl⟩) h

theorem lst_foe {fuel : Nat} {v : Value} {x : DataW H × List MemPlace} (h : DataW.trod enc Tryz.prog w base spare held fuel 23 [v] = some x) : ∃ (n : Nat) (f : Nat → ByteArray × ByteArray), Lst w.heap.size w v n 2 (cF f) ∧ ∀ i, i < n → (f i).1.size ≤ maxLen ∧ (f i).2.size ≤ maxLen :=
  lst_of (α := ByteArray × ByteArray) Tryz.underlying23 c84 (by omega) cF (fun a => a.1.size ≤ maxLen ∧ a.2.size ≤ maxLen) (fun _ _ _ => rfl) (fun n cs y hl hy => by
    match cs, hl with
    | [x0, x1], _ =>
      obtain ⟨xs, m, _, _, _, hlen, hf⟩ := DataW.trod_struct Tryz.underlying84 hy
      have g0 : DataW.trod enc Tryz.prog w base spare held m 9 [x0] = xs[0]? := by simpa [c9, c3] using hf 0 _ rfl
      have g1 : DataW.trod enc Tryz.prog w base spare held m 9 [x1] = xs[1]? := by simpa [c9, c3] using hf 1 _ rfl
      rw [List.getElem?_eq_getElem (by rw [hlen]; decide)] at g0 g1
      obtain ⟨a0, e0, k0⟩ := el_str g0
      obtain ⟨a1, e1, k1⟩ := el_str g1
      simp at e0 e1
      subst e0 e1
      exact ⟨(a0, a1), ⟨k0, k1⟩, fun j hj => by
        rcases (show j = 0 ∨ j = 1 by omega) with rfl | rfl <;> rfl⟩) h

theorem lst_place {fuel : Nat} {v : Value} {x : DataW H × List MemPlace} (h : DataW.trod enc Tryz.prog w base spare held fuel 24 [v] = some x) : ∃ (n : Nat) (f : Nat → ByteArray × Int × ByteArray), Lst w.heap.size w v n 3 (cP f) ∧ ∀ i, i < n → (f i).1.size ≤ maxLen ∧ (f i).2.2.size ≤ maxLen :=
  lst_of (α := ByteArray × Int × ByteArray) Tryz.underlying24 c87 (by omega) cP (fun a => a.1.size ≤ maxLen ∧ a.2.2.size ≤ maxLen) (fun _ _ _ => rfl) (fun n cs y hl hy => by
    match cs, hl with
    | [x0, x1, x2], _ =>
      obtain ⟨xs, m, _, _, _, hlen, hf⟩ := DataW.trod_struct Tryz.underlying87 hy
      have g0 : DataW.trod enc Tryz.prog w base spare held m 9 [x0] = xs[0]? := by simpa [c9, c3] using hf 0 _ rfl
      have g1 : DataW.trod enc Tryz.prog w base spare held m 3 [x1] = xs[1]? := by simpa [c9, c3] using hf 1 _ rfl
      have g2 : DataW.trod enc Tryz.prog w base spare held m 9 [x2] = xs[2]? := by simpa [c9, c3] using hf 2 _ rfl
      rw [List.getElem?_eq_getElem (by rw [hlen]; decide)] at g0 g1 g2
      obtain ⟨a0, e0, k0⟩ := el_str g0
      obtain ⟨a1, e1⟩ := el_int g1
      obtain ⟨a2, e2, k2⟩ := el_str g2
      simp at e0 e1 e2
      subst e0 e1 e2
      exact ⟨(a0, a1, a2), ⟨k0, k2⟩, fun j hj => by
        rcases (show j = 0 ∨ j = 1 ∨ j = 2 by omega) with rfl | rfl | rfl <;> rfl⟩) h

theorem lst_valve {fuel : Nat} {v : Value} {x : DataW H × List MemPlace} (h : DataW.trod enc Tryz.prog w base spare held fuel 25 [v] = some x) : ∃ (n : Nat) (f : Nat → ByteArray × ByteArray × ByteArray × ByteArray), Lst w.heap.size w v n 4 (cV f) ∧ ∀ i, i < n → (f i).1.size ≤ maxLen ∧ (f i).2.1.size ≤ maxLen ∧ (f i).2.2.1.size ≤ maxLen ∧ (f i).2.2.2.size ≤ maxLen :=
  lst_of (α := ByteArray × ByteArray × ByteArray × ByteArray) Tryz.underlying25 c90 (by omega) cV (fun a => a.1.size ≤ maxLen ∧ a.2.1.size ≤ maxLen ∧ a.2.2.1.size ≤ maxLen ∧ a.2.2.2.size ≤ maxLen) (fun _ _ _ => rfl) (fun n cs y hl hy => by
    match cs, hl with
    | [x0, x1, x2, x3], _ =>
      obtain ⟨xs, m, _, _, _, hlen, hf⟩ := DataW.trod_struct Tryz.underlying90 hy
      have g0 : DataW.trod enc Tryz.prog w base spare held m 9 [x0] = xs[0]? := by simpa [c9, c3] using hf 0 _ rfl
      have g1 : DataW.trod enc Tryz.prog w base spare held m 9 [x1] = xs[1]? := by simpa [c9, c3] using hf 1 _ rfl
      have g2 : DataW.trod enc Tryz.prog w base spare held m 9 [x2] = xs[2]? := by simpa [c9, c3] using hf 2 _ rfl
      have g3 : DataW.trod enc Tryz.prog w base spare held m 9 [x3] = xs[3]? := by simpa [c9, c3] using hf 3 _ rfl
      rw [List.getElem?_eq_getElem (by rw [hlen]; decide)] at g0 g1 g2 g3
      obtain ⟨a0, e0, k0⟩ := el_str g0
      obtain ⟨a1, e1, k1⟩ := el_str g1
      obtain ⟨a2, e2, k2⟩ := el_str g2
      obtain ⟨a3, e3, k3⟩ := el_str g3
      simp at e0 e1 e2 e3
      subst e0 e1 e2 e3
      exact ⟨(a0, a1, a2, a3), ⟨k0, k1, k2, k3⟩, fun j hj => by
        rcases (show j = 0 ∨ j = 1 ∨ j = 2 ∨ j = 3 by omega) with rfl | rfl | rfl | rfl <;> rfl⟩) h

set_option maxRecDepth 100000 in
theorem plant_of {r : Reach} {b0 : Nat} {v : Value} {d : DataW H} {p : List MemPlace} (hv : Value.okWide Tryz.prog w r b0 27 v) (h : DataW.Trod enc Tryz.prog w base spare held 27 v d p) :
    ∃ v0 v1 v2 v3 D, v = .agg #[v0, v1, v2, v3] ∧ PAt w.heap.size w v0 v1 v2 v3 D ∧ D.All := by
  obtain ⟨v0, v1, v2, v3, y0, y1, y2, y3, n, rfl, _, _, h0, h1, h2, h3⟩ := Joins.open_agg4 Tryz.underlying27 (by kernel_rfl) (by kernel_rfl) hv h
  obtain ⟨ns, fs, a0, b0⟩ := lst_str h0
  obtain ⟨nf, ff, a1, b1⟩ := lst_foe h1
  obtain ⟨np, fp, a2, b2⟩ := lst_place h2
  obtain ⟨nv, fv, a3, b3⟩ := lst_valve h3
  exact ⟨v0, v1, v2, v3, ⟨ns, fs, nf, ff, np, fp, nv, fv⟩, rfl, ⟨a0, a1, a2, a3⟩, ⟨b0, b1, b2, b3⟩⟩
end

end Go.Proofs.YtndacfockllehaaGreat

/-
  One byte made a text.
-/
namespace Go.Proofs.YtndacfockllehaaGreat
open Go.RowKit

theorem under135 : Tryz.prog.underlying 116 = some (.slice 5) := by kernel_rfl
theorem under5 : Tryz.prog.underlying 5 = some (.int .u8) := by kernel_rfl
theorem under9 : Tryz.prog.underlying 9 = some .string := by kernel_rfl

/-- One byte, made a text. -/
theorem conv_one (x : Int) (W : World) : (convert 116 9 (.slice (some ⟨W.heap.size, 0, none⟩) 1 1)).run Tryz.prog (W.alloc (.cells #[.int .u8 x] 5)) = .ok (.string ⟨#[UInt8.ofNat x.toNat]⟩) (W.alloc (.cells #[.int .u8 x] 5)) := by
  rw [run_convert_bytes_string _ 116 9 5 _ 1 1 under135 under5 under9]
  rw [run_bytesToString _ ⟨W.heap.size, 0, none⟩ 1 1 [x]]
  · rfl
  · exact run_loadCells_list _ ⟨W.heap.size, 0, none⟩ [.int .u8 x] (fun j v hj => by
      match j, hj with
      | 0, hj => simp at hj; subst hj; simp [Addr.add])

end Go.Proofs.YtndacfockllehaaGreat

/-
  Contracts of the law's own marking of a plant's lists and of lists of texts, and of asking for the marks.
-/
namespace Go.Proofs.YtndacfockllehaaGreat
open Go.RowKit

/-- Blocks outside L to H stand as they stood, and no block changes its size. -/
structure Outs (L H : Nat) (w w' : World) : Prop where
  bel : Below L w w'
  out : ∀ k, H ≤ k → k < w.heap.size → w'.heap[k]? = w.heap[k]?
  blk : ∀ (g t m : Nat), (∃ c : Array Value, w.heap[g]? = some (.cells c t (0, 0)) ∧ c.size = m) → ∃ c : Array Value, w'.heap[g]? = some (.cells c t (0, 0)) ∧ c.size = m
theorem Outs.refl (L H : Nat) (w : World) : Outs L H w w := ⟨Below.refl _ _, fun _ _ _ => rfl, fun _ _ _ h => h⟩
theorem Outs.trans {L H : Nat} {a b c : World} (h : Outs L H a b) (k : Outs L H b c) : Outs L H a c :=
  ⟨h.bel.trans k.bel, fun i hi hs => (k.out i hi (Nat.lt_of_lt_of_le hs h.bel.size)).trans (h.out i hi hs), fun g t m hh => k.blk g t m (h.blk g t m hh)⟩
theorem Outs.of_below {L H : Nat} {w w' : World} (h : Below w.heap.size w w') (hL : L ≤ w.heap.size) : Outs L H w w' :=
  ⟨h.mono hL, fun k _ hs => h.block k hs, fun g _ _ ⟨c, hc, hs⟩ => ⟨c, (h.block g (Array.getElem?_eq_some_iff.1 hc).1).trans hc, hs⟩⟩
theorem Outs.set {L H : Nat} {a w : World} (h : Outs L H a w) {g : Nat} (hL : L ≤ g) (hH : g < H) (i : Nat) (x : Value) : Outs L H a (w.setCell ⟨g, i, none⟩ x) := by
  refine h.trans ⟨(Below.refl _ w).setCell (p := ⟨g, i, none⟩) hL x, fun k hk _ => Below.heap_setCell w _ x k (by show k ≠ g; omega), fun g' t m ⟨c, hc, hs⟩ => ?_⟩
  by_cases e : g' = g
  · subst e; exact ⟨_, set_row hc i x, by simpa using hs⟩
  · exact ⟨c, (Below.heap_setCell w _ x g' (by show g' ≠ g; exact e)).trans hc, hs⟩

/-- The text that marks place j, written digit by digit from its end. -/
def dgF : Nat → Int → ByteArray → ByteArray
  | 0, _, t => t
  | n + 1, k, t => if 0 < k then dgF n (k / 10) (⟨#[UInt8.ofNat (48 + k % 10).toNat]⟩ ++ t) else t
def mkT (k : Int) : ByteArray := ⟨#[109]⟩ ++ dgF 20 k ⟨#[]⟩
theorem dgF_end (n : Nat) (k : Int) (t : ByteArray) (h : ¬ 0 < k) : dgF n k t = t := by
  cases n with
  | zero => rfl
  | succ n => simp [dgF, h]

set_option maxRecDepth 100000 in
set_option maxHeartbeats 400000 in
theorem mkText_any (k : Int) (w : World) (h1 : 1 ≤ k) (h2 : k ≤ 20000000) :
    Calls Tryz.prog 42 #[.int .i64 k] w fun e w' => e = .returned (.string (mkT k)) ∧ Below w.heap.size w w' := by
  have hd : decide (k ≤ 0) = false := by simp; omega
  have hcv := conv_one
  go_enter Tryz.func42, Tryz.ntmps42
  go_wp2
  go_loopw [0, 3] (fun i t wr => ∃ (j : Int) (u : ByteArray) (n : Nat), 0 ≤ j ∧ j ≤ 20000000 ∧ Hid (j < 10 ^ n) ∧ i = .int .i64 j ∧ t = .string u ∧ Hid (dgF n j u = dgF 20 k ⟨#[]⟩) ∧ u.size + n ≤ 20 ∧ Below w.heap.size w wr) (fun i _ _ => (intOf i).toNat)
  case atStart => exact ⟨k, _, 20, by omega, by omega, by show k < _; omega, rfl, rfl, rfl, by decide, Below.refl _ _⟩
  case round =>
    obtain ⟨j, u, n, hj1, hj2, hn, rfl, rfl, he, hu, hbel⟩ := hrel
    by_cases hp : 0 < j
    · go_wp2
      go_roundw
      case rel =>
        cases n with
        | zero => exact absurd hn.out (by simp; omega)
        | succ n =>
          refine ⟨j / 10, _, n, by omega, by omega, ?_, rfl, rfl, ?_, ?_, hbel.alloc hbel.size _⟩
          · have h := hn.out
            rw [Int.pow_succ] at h
            show j / 10 < 10 ^ n
            omega
          · show dgF n (j / 10) _ = _
            rw [← he.out, dgF, if_pos (by omega)]
          · have e1 : (⟨#[UInt8.ofNat (48 + j % 10).toNat]⟩ : ByteArray).size = 1 := rfl
            rw [ByteArray.size_append, e1]; omega
      case measure => simp [intOf]; omega
    · go_wp2
      go_ret
      refine ⟨?_, hbel⟩
      rw [mkT, ← he.out, dgF_end _ _ _ (by omega)]
      rfl

set_option maxRecDepth 100000 in
set_option maxHeartbeats 1000000 in
theorem mkS_any (L H g n cap m : Nat) (k0 : Int) (cur : Array Value) (w : World) (hg : w.heap[g]? = some (.cells cur 9 (0, 0))) (hcs : cur.size = m) (hL : L ≤ g) (hH : g < H) (hn : n ≤ m) (h1 : 1 ≤ k0) (h2 : k0 + n ≤ 20000000) :
    Calls Tryz.prog 37 #[.slice (some ⟨g, 0, none⟩) n cap, .int .i64 k0] w fun e w' => e = .returned (.int .i64 (k0 + n)) ∧ Outs L H w w' ∧
      ∃ cur', w'.heap[g]? = some (.cells cur' 9 (0, 0)) ∧ cur'.size = m ∧ ∀ i, i < n → cur'[i]? = some (.string (mkT (k0 + i))) := by
  go_enter Tryz.func37, Tryz.ntmps37
  go_wp2
  go_loopw [1, 5] (fun q i wr => ∃ (k : Nat) (c : Array Value), k ≤ n ∧ i = .int .i64 k ∧ q = .int .i64 (k0 + k) ∧ Hid (Outs L H w wr) ∧ Hid (wr.heap[g]? = some (.cells c 9 (0, 0))) ∧ c.size = m ∧ Hid (∀ i, i < k → c[i]? = some (.string (mkT (k0 + i))))) (fun _ i _ => n - (intOf i).toNat)
  case atStart => exact ⟨0, cur, Nat.zero_le _, rfl, by simp, Outs.refl _ _ _, hg, hcs, fun _ h => by omega⟩
  case round =>
    obtain ⟨k, c, hk, rfl, rfl, hout, hgr, hcs', hall⟩ := hrel
    by_cases hlt : k < n
    · obtain ⟨v0, hv0⟩ : ∃ v0, c[k]? = some v0 := ⟨_, Array.getElem?_eq_getElem (by omega)⟩
      have hgl : g < wr.heap.size := (Array.getElem?_eq_some_iff.1 hgr.out).1
      have hsz := hout.out.bel.size
      go_wp2_with fail
      refine (mkText_any _ _ (by omega) (by omega)).mono ?_
      rintro e w1 ⟨rfl, hb1⟩
      have hr1 : Hid (w1.heap[g]? = some (.cells c 9 (0, 0))) := (hb1.block g hgl).trans hgr.out
      obtain ⟨hcl, hfr⟩ := cell_row hr1.out k v0 hv0
      clear hv0
      go_wp2_with fail
      go_roundw
      case rel =>
        refine ⟨k + 1, c.setIfInBounds k (.string (mkT (k0 + k))), by omega, by go_num, by go_num, (hout.out.trans (Outs.of_below hb1 (by omega))).set hL hH k _, set_row hr1.out k _, by simpa using hcs', ?_⟩
        intro i hi
        by_cases e : i = k
        · subst e
          exact set_at c i _ (by omega)
        · rw [Array.getElem?_setIfInBounds_ne (fun h => e h.symm)]
          exact hall.out i (by omega)
      case measure => simp [intOf]; omega
    · go_wp2_with fail
      go_ret
      have hkn : k = n := by omega
      subst hkn
      exact ⟨rfl, hout.out, c, hgr.out, hcs', hall.out⟩

set_option maxRecDepth 100000 in
set_option maxHeartbeats 400000 in
theorem mkS_nil (oa : Option Addr) (cap : Nat) (k0 : Int) (w : World) :
    Calls Tryz.prog 37 #[.slice oa 0 cap, .int .i64 k0] w fun e w' => e = .returned (.int .i64 k0) ∧ w' = w := by
  go_enter Tryz.func37, Tryz.ntmps37
  go_wp2
  go_loop [1, 5] (fun q i => q = .int .i64 k0 ∧ i = .int .i64 0) (fun _ _ => 0)
  case atStart => exact ⟨rfl, rfl⟩
  case round =>
    obtain ⟨rfl, rfl⟩ := hrel
    go_wp2
    go_ret
    exact ⟨rfl, rfl⟩

/-- The marks from k0 on. -/
def mkF (k0 : Int) (i : Nat) : ByteArray := mkT (k0 + i)

set_option maxRecDepth 100000 in
set_option maxHeartbeats 1000000 in
theorem heldS_lst (B : Nat) (v : Value) (n : Nat) (k0 : Int) (w : World) (h : Lst B w v n 1 (cS (mkF k0))) (hB : B ≤ w.heap.size) (h1 : 1 ≤ k0) (h2 : k0 + n ≤ 20000000) :
    Calls Tryz.prog 44 #[v, .int .i64 k0] w fun e w' => e = .returned (.int .i64 (k0 + n)) ∧ Below w.heap.size w w' := by
  obtain ⟨oa, cap, rfl, _, hc⟩ := h
  have HC : Hid _ := hc
  clear hc
  go_enter Tryz.func44, Tryz.ntmps44
  go_wp2
  go_loopw [1, 5] (fun q i wr => ∃ k : Nat, k ≤ n ∧ i = .int .i64 k ∧ q = .int .i64 (k0 + k) ∧ Hid (Below w.heap.size w wr)) (fun _ i _ => n - (intOf i).toNat)
  case atStart => exact ⟨0, Nat.zero_le _, rfl, by simp, Below.refl _ _⟩
  case round =>
    obtain ⟨k, hk, rfl, rfl, hbel⟩ := hrel
    by_cases hlt : k < n
    · obtain ⟨b, off, rfl, hbB, hcell⟩ := HC.out k hlt
      have hck : wr.cell? ⟨b, off + k, none⟩ = some (.string (mkT (k0 + k))) := (hbel.out.cell (p := ⟨b, off + k, none⟩) (by show b < _; omega)).trans (by simpa [cS, mkF] using hcell 0 (by omega))
      have hgw : b < wr.heap.size := by have := hbel.out.size; omega
      have hsz := hbel.out.size
      clear hcell
      go_wp2
      go_region_with (go_at_call 42; refine (mkText_any _ _ (by omega) (by omega)).mono ?_; rintro e w1 ⟨rfl, hb1⟩; have hck1 := (hb1.cell (p := ⟨b, off + k, none⟩) hgw).trans hck)
      all_goals
        go_wp2
        go_roundw
        case rel => exact ⟨k + 1, by omega, by go_num, by go_num, hbel.out.drew.trans (hb1.mono hsz)⟩
        case measure => simp [intOf]; omega
    · go_wp2
      go_ret
      have hkn : k = n := by omega
      subst hkn
      exact ⟨rfl, hbel.out⟩

set_option maxRecDepth 100000 in
set_option maxHeartbeats 2000000 in
theorem mkF_any (L H g n cap m : Nat) (k0 : Int) (w : World) (hb : ∃ c : Array Value, w.heap[g]? = some (.cells c 101 (0, 0)) ∧ c.size = m) (hL : L ≤ g) (hH : g < H) (hn : n * 2 ≤ m) (h1 : 1 ≤ k0) (h2 : k0 + n * 2 ≤ 20000000) :
    Calls Tryz.prog 38 #[.slice (some ⟨g, 0, none⟩) n cap, .int .i64 k0] w fun e w' => e = .returned (.int .i64 (k0 + n * 2)) ∧ Outs L H w w' := by
  go_enter Tryz.func38, Tryz.ntmps38
  go_wp2
  go_loopw [1, 5] (fun q i wr => ∃ k : Nat, k ≤ n ∧ i = .int .i64 k ∧ q = .int .i64 (k0 + k * 2) ∧ Hid (Outs L H w wr)) (fun _ i _ => n - (intOf i).toNat)
  case atStart => exact ⟨0, Nat.zero_le _, rfl, by simp, Outs.refl _ _ _⟩
  case round =>
    obtain ⟨k, hk, rfl, rfl, hout⟩ := hrel
    by_cases hlt : k < n
    · obtain ⟨c, hc, hcs⟩ := hout.out.blk g 101 m hb
      have hc0 : Hid (wr.heap[g]? = some (.cells c 101 (0, 0))) := hc
      clear hc
      have hgl : g < wr.heap.size := (Array.getElem?_eq_some_iff.1 hc0.out).1
      have hsz := hout.out.bel.size
      go_wp2_with fail
      refine (mkText_any _ _ (by omega) (by omega)).mono ?_
      rintro e u0 ⟨rfl, hb0⟩
      have hr0 : Hid (u0.heap[g]? = some (.cells (c) 101 (0, 0))) := (hb0.block g hgl).trans (hc0.out)
      obtain ⟨y0, hy0⟩ : ∃ v, (c)[k * 2]? = some v := ⟨_, Array.getElem?_eq_getElem (by first | omega | (simp; omega))⟩
      obtain ⟨hcl0, hfr0⟩ := cell_row hr0.out (k * 2) y0 hy0
      clear hy0
      have z0 : wr.heap.size ≤ u0.heap.size := hb0.size
      have hgl1 : g < u0.heap.size := by omega
      go_wp2_with fail
      refine (mkText_any _ _ (by omega) (by omega)).mono ?_
      rintro e u1 ⟨rfl, hb1⟩
      have hr1 : Hid (u1.heap[g]? = some (.cells ((c).setIfInBounds (k * 2) (.string (mkT (k0 + k * 2)))) 101 (0, 0))) := (hb1.block g (by simpa [World.setCell] using hgl1)).trans (set_row (hr0.out) (k * 2) _)
      obtain ⟨y1, hy1⟩ : ∃ v, ((c).setIfInBounds (k * 2) (.string (mkT (k0 + k * 2))))[k * 2 + 1]? = some v := ⟨_, Array.getElem?_eq_getElem (by first | omega | (simp; omega))⟩
      obtain ⟨hcl1, hfr1⟩ := cell_row hr1.out (k * 2 + 1) y1 hy1
      clear hy1
      have z1 : wr.heap.size ≤ u1.heap.size := Nat.le_trans z0 (by have := hb1.size; simpa [World.setCell] using this)
      have hgl2 : g < u1.heap.size := by omega
      go_wp2_with fail
      go_roundw
      case rel => exact ⟨k + 1, by omega, by go_num, by go_num, ((((hout.out).trans (Outs.of_below hb0 (by omega))).set hL hH (k * 2) _).trans (Outs.of_below hb1 (by simp [World.setCell]; omega))).set hL hH (k * 2 + 1) _⟩
      case measure => simp [intOf]; omega
    · go_wp2_with fail
      go_ret
      have hkn : k = n := by omega
      subst hkn
      exact ⟨rfl, hout.out⟩

set_option maxRecDepth 100000 in
set_option maxHeartbeats 2000000 in
theorem mkP_any (L H g n cap m : Nat) (k0 : Int) (w : World) (hb : ∃ c : Array Value, w.heap[g]? = some (.cells c 103 (0, 0)) ∧ c.size = m) (hL : L ≤ g) (hH : g < H) (hn : n * 3 ≤ m) (h1 : 1 ≤ k0) (h2 : k0 + n * 3 ≤ 20000000) :
    Calls Tryz.prog 39 #[.slice (some ⟨g, 0, none⟩) n cap, .int .i64 k0] w fun e w' => e = .returned (.int .i64 (k0 + n * 3)) ∧ Outs L H w w' := by
  go_enter Tryz.func39, Tryz.ntmps39
  go_wp2
  go_loopw [1, 5] (fun q i wr => ∃ k : Nat, k ≤ n ∧ i = .int .i64 k ∧ q = .int .i64 (k0 + k * 3) ∧ Hid (Outs L H w wr)) (fun _ i _ => n - (intOf i).toNat)
  case atStart => exact ⟨0, Nat.zero_le _, rfl, by simp, Outs.refl _ _ _⟩
  case round =>
    obtain ⟨k, hk, rfl, rfl, hout⟩ := hrel
    by_cases hlt : k < n
    · obtain ⟨c, hc, hcs⟩ := hout.out.blk g 103 m hb
      have hc0 : Hid (wr.heap[g]? = some (.cells c 103 (0, 0))) := hc
      clear hc
      have hgl : g < wr.heap.size := (Array.getElem?_eq_some_iff.1 hc0.out).1
      have hsz := hout.out.bel.size
      go_wp2_with fail
      refine (mkText_any _ _ (by omega) (by omega)).mono ?_
      rintro e u0 ⟨rfl, hb0⟩
      have hr0 : Hid (u0.heap[g]? = some (.cells (c) 103 (0, 0))) := (hb0.block g hgl).trans (hc0.out)
      obtain ⟨y0, hy0⟩ : ∃ v, (c)[k * 3]? = some v := ⟨_, Array.getElem?_eq_getElem (by first | omega | (simp; omega))⟩
      obtain ⟨hcl0, hfr0⟩ := cell_row hr0.out (k * 3) y0 hy0
      clear hy0
      obtain ⟨y1, hy1⟩ : ∃ v, (c)[k * 3 + 1]? = some v := ⟨_, Array.getElem?_eq_getElem (by first | omega | (simp; omega))⟩
      obtain ⟨hcl1, hfr1⟩ := cell_row hr0.out (k * 3 + 1) y1 hy1
      clear hy1
      have z0 : wr.heap.size ≤ u0.heap.size := hb0.size
      have hgl1 : g < u0.heap.size := by omega
      go_wp2_with fail
      refine (mkText_any _ _ (by omega) (by omega)).mono ?_
      rintro e u1 ⟨rfl, hb1⟩
      have hr1 : Hid (u1.heap[g]? = some (.cells (((c).setIfInBounds (k * 3) (.string (mkT (k0 + k * 3)))).setIfInBounds (k * 3 + 1) (.int .i64 (k0 + k * 3 + 1))) 103 (0, 0))) := (hb1.block g (by simpa [World.setCell] using hgl1)).trans (set_row (set_row (hr0.out) (k * 3) _) (k * 3 + 1) _)
      obtain ⟨y2, hy2⟩ : ∃ v, (((c).setIfInBounds (k * 3) (.string (mkT (k0 + k * 3)))).setIfInBounds (k * 3 + 1) (.int .i64 (k0 + k * 3 + 1)))[k * 3 + 2]? = some v := ⟨_, Array.getElem?_eq_getElem (by first | omega | (simp; omega))⟩
      obtain ⟨hcl2, hfr2⟩ := cell_row hr1.out (k * 3 + 2) y2 hy2
      clear hy2
      have z1 : wr.heap.size ≤ u1.heap.size := Nat.le_trans z0 (by have := hb1.size; simpa [World.setCell] using this)
      have hgl2 : g < u1.heap.size := by omega
      go_wp2_with fail
      go_roundw
      case rel => exact ⟨k + 1, by omega, by go_num, by go_num, (((((hout.out).trans (Outs.of_below hb0 (by omega))).set hL hH (k * 3) _).set hL hH (k * 3 + 1) _).trans (Outs.of_below hb1 (by simp [World.setCell]; omega))).set hL hH (k * 3 + 2) _⟩
      case measure => simp [intOf]; omega
    · go_wp2_with fail
      go_ret
      have hkn : k = n := by omega
      subst hkn
      exact ⟨rfl, hout.out⟩

set_option maxRecDepth 100000 in
set_option maxHeartbeats 2000000 in
theorem mkV_any (L H g n cap m : Nat) (k0 : Int) (w : World) (hb : ∃ c : Array Value, w.heap[g]? = some (.cells c 105 (0, 0)) ∧ c.size = m) (hL : L ≤ g) (hH : g < H) (hn : n * 4 ≤ m) (h1 : 1 ≤ k0) (h2 : k0 + n * 4 ≤ 20000000) :
    Calls Tryz.prog 40 #[.slice (some ⟨g, 0, none⟩) n cap, .int .i64 k0] w fun e w' => e = .returned (.int .i64 (k0 + n * 4)) ∧ Outs L H w w' := by
  go_enter Tryz.func40, Tryz.ntmps40
  go_wp2
  go_loopw [1, 5] (fun q i wr => ∃ k : Nat, k ≤ n ∧ i = .int .i64 k ∧ q = .int .i64 (k0 + k * 4) ∧ Hid (Outs L H w wr)) (fun _ i _ => n - (intOf i).toNat)
  case atStart => exact ⟨0, Nat.zero_le _, rfl, by simp, Outs.refl _ _ _⟩
  case round =>
    obtain ⟨k, hk, rfl, rfl, hout⟩ := hrel
    by_cases hlt : k < n
    · obtain ⟨c, hc, hcs⟩ := hout.out.blk g 105 m hb
      have hc0 : Hid (wr.heap[g]? = some (.cells c 105 (0, 0))) := hc
      clear hc
      have hgl : g < wr.heap.size := (Array.getElem?_eq_some_iff.1 hc0.out).1
      have hsz := hout.out.bel.size
      go_wp2_with fail
      refine (mkText_any _ _ (by omega) (by omega)).mono ?_
      rintro e u0 ⟨rfl, hb0⟩
      have hr0 : Hid (u0.heap[g]? = some (.cells (c) 105 (0, 0))) := (hb0.block g hgl).trans (hc0.out)
      obtain ⟨y0, hy0⟩ : ∃ v, (c)[k * 4]? = some v := ⟨_, Array.getElem?_eq_getElem (by first | omega | (simp; omega))⟩
      obtain ⟨hcl0, hfr0⟩ := cell_row hr0.out (k * 4) y0 hy0
      clear hy0
      have z0 : wr.heap.size ≤ u0.heap.size := hb0.size
      have hgl1 : g < u0.heap.size := by omega
      go_wp2_with fail
      refine (mkText_any _ _ (by omega) (by omega)).mono ?_
      rintro e u1 ⟨rfl, hb1⟩
      have hr1 : Hid (u1.heap[g]? = some (.cells ((c).setIfInBounds (k * 4) (.string (mkT (k0 + k * 4)))) 105 (0, 0))) := (hb1.block g (by simpa [World.setCell] using hgl1)).trans (set_row (hr0.out) (k * 4) _)
      obtain ⟨y1, hy1⟩ : ∃ v, ((c).setIfInBounds (k * 4) (.string (mkT (k0 + k * 4))))[k * 4 + 1]? = some v := ⟨_, Array.getElem?_eq_getElem (by first | omega | (simp; omega))⟩
      obtain ⟨hcl1, hfr1⟩ := cell_row hr1.out (k * 4 + 1) y1 hy1
      clear hy1
      have z1 : wr.heap.size ≤ u1.heap.size := Nat.le_trans z0 (by have := hb1.size; simpa [World.setCell] using this)
      have hgl2 : g < u1.heap.size := by omega
      go_wp2_with fail
      refine (mkText_any _ _ (by omega) (by omega)).mono ?_
      rintro e u2 ⟨rfl, hb2⟩
      have hr2 : Hid (u2.heap[g]? = some (.cells (((c).setIfInBounds (k * 4) (.string (mkT (k0 + k * 4)))).setIfInBounds (k * 4 + 1) (.string (mkT (k0 + k * 4 + 1)))) 105 (0, 0))) := (hb2.block g (by simpa [World.setCell] using hgl2)).trans (set_row (hr1.out) (k * 4 + 1) _)
      obtain ⟨y2, hy2⟩ : ∃ v, (((c).setIfInBounds (k * 4) (.string (mkT (k0 + k * 4)))).setIfInBounds (k * 4 + 1) (.string (mkT (k0 + k * 4 + 1))))[k * 4 + 2]? = some v := ⟨_, Array.getElem?_eq_getElem (by first | omega | (simp; omega))⟩
      obtain ⟨hcl2, hfr2⟩ := cell_row hr2.out (k * 4 + 2) y2 hy2
      clear hy2
      have z2 : wr.heap.size ≤ u2.heap.size := Nat.le_trans z1 (by have := hb2.size; simpa [World.setCell] using this)
      have hgl3 : g < u2.heap.size := by omega
      go_wp2_with fail
      refine (mkText_any _ _ (by omega) (by omega)).mono ?_
      rintro e u3 ⟨rfl, hb3⟩
      have hr3 : Hid (u3.heap[g]? = some (.cells ((((c).setIfInBounds (k * 4) (.string (mkT (k0 + k * 4)))).setIfInBounds (k * 4 + 1) (.string (mkT (k0 + k * 4 + 1)))).setIfInBounds (k * 4 + 2) (.string (mkT (k0 + k * 4 + 1 + 1)))) 105 (0, 0))) := (hb3.block g (by simpa [World.setCell] using hgl3)).trans (set_row (hr2.out) (k * 4 + 2) _)
      obtain ⟨y3, hy3⟩ : ∃ v, ((((c).setIfInBounds (k * 4) (.string (mkT (k0 + k * 4)))).setIfInBounds (k * 4 + 1) (.string (mkT (k0 + k * 4 + 1)))).setIfInBounds (k * 4 + 2) (.string (mkT (k0 + k * 4 + 1 + 1))))[k * 4 + 3]? = some v := ⟨_, Array.getElem?_eq_getElem (by first | omega | (simp; omega))⟩
      obtain ⟨hcl3, hfr3⟩ := cell_row hr3.out (k * 4 + 3) y3 hy3
      clear hy3
      have z3 : wr.heap.size ≤ u3.heap.size := Nat.le_trans z2 (by have := hb3.size; simpa [World.setCell] using this)
      have hgl4 : g < u3.heap.size := by omega
      go_wp2_with fail
      go_roundw
      case rel => exact ⟨k + 1, by omega, by go_num, by go_num, ((((((((hout.out).trans (Outs.of_below hb0 (by omega))).set hL hH (k * 4) _).trans (Outs.of_below hb1 (by simp [World.setCell]; omega))).set hL hH (k * 4 + 1) _).trans (Outs.of_below hb2 (by simp [World.setCell]; omega))).set hL hH (k * 4 + 2) _).trans (Outs.of_below hb3 (by simp [World.setCell]; omega))).set hL hH (k * 4 + 3) _⟩
      case measure => simp [intOf]; omega
    · go_wp2_with fail
      go_ret
      have hkn : k = n := by omega
      subst hkn
      exact ⟨rfl, hout.out⟩

set_option maxRecDepth 100000 in
set_option maxHeartbeats 2000000 in
/-- A plant in blocks of its own, marked. -/
theorem markPlant_le (A B g0 g1 g2 g3 : Nat) (D : PD) (w : World) (h : PBlk A B w g0 g1 g2 g3 D) (hB : B ≤ w.heap.size) (hA : A ≤ B) (hm : D.ns ≤ 1048576 ∧ D.nf ≤ 1048576 ∧ D.np ≤ 1048576 ∧ D.nv ≤ 1048576) :
    Calls Tryz.prog 13 #[.agg #[sl g0 D.ns, sl g1 D.nf, sl g2 D.np, sl g3 D.nv], .int .i64 1] w fun e w' => ∃ k : Int, e = .returned (.int .i64 k) ∧ (1 ≤ k ∧ k ≤ 10485761) ∧ Outs A B w w' := by
  obtain ⟨m0, m1, m2, m3⟩ := hm
  obtain ⟨⟨a0, a1, a2, a3⟩, ⟨l0, c0, r0, z0⟩, ⟨l1, r1⟩, ⟨l2, r2⟩, ⟨l3, r3⟩⟩ := h
  have R0 : Hid _ := r0
  have R1 : Hid _ := r1
  have R2 : Hid _ := r2
  have R3 : Hid _ := r3
  clear r0 r1 r2 r3
  have k0 : Hid (Below (w.heap.size + 1) (w.alloc (.cells #[sl g0 D.ns, sl g1 D.nf, sl g2 D.np, sl g3 D.nv] 40)) (w.alloc (.cells #[sl g0 D.ns, sl g1 D.nf, sl g2 D.np, sl g3 D.nv] 40))) := Below.refl _ _
  have O0 : Hid (Outs A B w (w.alloc (.cells #[sl g0 D.ns, sl g1 D.nf, sl g2 D.np, sl g3 D.nv] 40))) := Outs.of_below ((Below.refl _ _).alloc (Nat.le_refl _) _) (by omega)
  have bx : Hid (∀ w' : World, Outs A B (w.alloc (.cells #[sl g0 D.ns, sl g1 D.nf, sl g2 D.np, sl g3 D.nv] 40)) w' → w'.heap[w.heap.size]? = some (.cells #[sl g0 D.ns, sl g1 D.nf, sl g2 D.np, sl g3 D.nv] 40 (0, 0))) := fun w' ho => (ho.out _ hB (by simp)).trans (heap_alloc_new w _)
  go_enter Tryz.func13, Tryz.ntmps13
  go_wp2_with fail
  refine (mkS_any A B g0 D.ns D.ns D.ns 1 c0 _ ((Below.heap_alloc w _ g0 (by omega)).trans R0.out) z0 a0 l0 (Nat.le_refl _) (by omega) (by omega)).mono ?_; rintro e w1 ⟨rfl, o1, _⟩
  have O1 : Hid (Outs A B w w1) := O0.out.trans o1
  have B1 := bx.out w1 o1
  obtain ⟨x1, _⟩ := cell_row B1 1 _ rfl
  clear B1
  simp only [List.getElem_toArray, List.getElem_cons_zero, List.getElem_cons_succ] at x1
  go_wp2_with fail
  refine (mkF_any A B g1 D.nf D.nf (D.nf * 2) (1 + D.ns) _ (O1.out.blk g1 _ _ R1.out) a1 l1 (Nat.le_refl _) (by omega) (by omega)).mono ?_; rintro e w2 ⟨rfl, o2⟩
  have O2 : Hid (Outs A B w w2) := O1.out.trans o2
  have B2 := bx.out w2 (o1.trans o2)
  obtain ⟨x2, _⟩ := cell_row B2 2 _ rfl
  clear B2
  simp only [List.getElem_toArray, List.getElem_cons_zero, List.getElem_cons_succ] at x2
  go_wp2_with fail
  refine (mkP_any A B g2 D.np D.np (D.np * 3) (1 + D.ns + D.nf * 2) _ (O2.out.blk g2 _ _ R2.out) a2 l2 (Nat.le_refl _) (by omega) (by omega)).mono ?_; rintro e w3 ⟨rfl, o3⟩
  have O3 : Hid (Outs A B w w3) := O2.out.trans o3
  have B3 := bx.out w3 ((o1.trans o2).trans o3)
  obtain ⟨x3, _⟩ := cell_row B3 3 _ rfl
  clear B3
  simp only [List.getElem_toArray, List.getElem_cons_zero, List.getElem_cons_succ] at x3
  go_wp2_with fail
  refine (mkV_any A B g3 D.nv D.nv (D.nv * 4) (1 + D.ns + D.nf * 2 + D.np * 3) _ (O3.out.blk g3 _ _ R3.out) a3 l3 (Nat.le_refl _) (by omega) (by omega)).mono ?_; rintro e w4 ⟨rfl, o4⟩
  go_wp2_with fail
  go_ret
  exact ⟨_, rfl, ⟨by omega, by omega⟩, O3.out.trans o4⟩

theorem markPlant_any (A B g0 g1 g2 g3 : Nat) (D : PD) (w : World) (h : PBlk A B w g0 g1 g2 g3 D) (hB : B ≤ w.heap.size) (hA : A ≤ B) (hm : D.ns ≤ 1048576 ∧ D.nf ≤ 1048576 ∧ D.np ≤ 1048576 ∧ D.nv ≤ 1048576) :
    Calls Tryz.prog 13 #[.agg #[sl g0 D.ns, sl g1 D.nf, sl g2 D.np, sl g3 D.nv], .int .i64 1] w fun e w' => ∃ k : Int, e = .returned (.int .i64 k) ∧ 0 ≤ k ∧ Outs A B w w' :=
  (markPlant_le A B g0 g1 g2 g3 D w h hB hA hm).mono fun _ _ ⟨k, h1, h2, h3⟩ => ⟨k, h1, by omega, h3⟩

end Go.Proofs.YtndacfockllehaaGreat
