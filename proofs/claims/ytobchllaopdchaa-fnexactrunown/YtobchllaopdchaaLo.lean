import Derived.Test.YtobchllaopdchaaLy
namespace Go.Proofs.Ytobchllaopdchaa
open Go.RowKit
structure But (S : Nat → Prop) (w w' : World) : Prop where
  os : w'.os = w.os
  tape : w'.tape = w.tape
  output : w'.output = w.output
  size : w.heap.size ≤ w'.heap.size
  block : ∀ b, b < w.heap.size → ¬ S b → w'.heap[b]? = w.heap[b]?
theorem But.refl (S : Nat → Prop) (w : World) : But S w w := ⟨rfl, rfl, rfl, Nat.le_refl _, fun _ _ _ => rfl⟩
theorem But.trans {S : Nat → Prop} {a b c : World} (h : But S a b) (k : But S b c) : But S a c :=
  ⟨k.os.trans h.os, k.tape.trans h.tape, k.output.trans h.output, Nat.le_trans h.size k.size, fun i hi hn => (k.block i (Nat.lt_of_lt_of_le hi h.size) hn).trans (h.block i hi hn)⟩
theorem But.of_below {S : Nat → Prop} {w w' : World} (h : Below w.heap.size w w') : But S w w' := ⟨h.os, h.tape, h.output, h.size, fun b hb _ => h.block b hb⟩
theorem But.up {S S' : Nat → Prop} {w w' : World} (h : But S w w') (e : ∀ b, S b → S' b) : But S' w w' := ⟨h.os, h.tape, h.output, h.size, fun b hb hn => h.block b hb (fun hs => hn (e b hs))⟩
theorem But.below {S : Nat → Prop} {B : Nat} {w w' : World} (h : But S w w') (hS : ∀ b, S b → B ≤ b) (hB : B ≤ w.heap.size) : Below B w w' := ⟨h.os, h.tape, h.output, h.size, fun b hb => h.block b (by omega) (fun hs => by have := hS b hs; omega)⟩
theorem But.of_low {S : Nat → Prop} {B : Nat} {w w' : World} (h : Below B w w') (hB : ∀ b, b < w.heap.size → ¬ S b → w'.heap[b]? = w.heap[b]?) : But S w w' := ⟨h.os, h.tape, h.output, h.size, hB⟩
theorem But.set {S : Nat → Prop} {a w : World} (h : But S a w) {g : Nat} (hg : S g) (i : Nat) (x : Value) : But S a (w.setCell ⟨g, i, none⟩ x) := by
  have hb := (Below.refl g w).setCell (p := ⟨g, i, none⟩) (Nat.le_refl _) x
  exact h.trans (But.of_low hb (fun b _ hn => Below.heap_setCell w _ x b (fun e => hn (by have : b = g := e; rw [this]; exact hg))))
theorem But.same {S T : Nat → Prop} {w w' : World} (h : But S w w') (hT : ∀ b, T b → b < w.heap.size ∧ ¬ S b) : Same T w w' := fun b hb => h.block b (hT b hb).1 (hT b hb).2
def dgO : Nat → Int → ByteArray → ByteArray
  | 0, _, t => t
  | n + 1, k, t => if 0 < k then dgO n (k / 10) (⟨#[UInt8.ofNat (48 + k % 10).toNat]⟩ ++ t) else t
def mkO (k : Int) : ByteArray := ⟨#[109]⟩ ++ dgO 20 k ⟨#[]⟩
theorem dgO_end (n : Nat) (k : Int) (t : ByteArray) (h : ¬ 0 < k) : dgO n k t = t := by
  cases n with
  | zero => rfl
  | succ n => simp [dgO, h]
theorem dgO_size : ∀ (n : Nat) (k : Int) (t : ByteArray), (dgO n k t).size ≤ n + t.size
  | 0, _, t => by simp [dgO]
  | n + 1, k, t => by
    unfold dgO
    split
    · have h := dgO_size n (k / 10) (⟨#[UInt8.ofNat (48 + k % 10).toNat]⟩ ++ t)
      have e1 : (⟨#[UInt8.ofNat (48 + k % 10).toNat]⟩ : ByteArray).size = 1 := rfl
      rw [ByteArray.size_append, e1] at h
      omega
    · omega
theorem mkO_size (k : Int) : (mkO k).size ≤ 21 := by
  have h := dgO_size 20 k ⟨#[]⟩
  have e1 : (⟨#[109]⟩ : ByteArray).size = 1 := rfl
  have e0 : (⟨#[]⟩ : ByteArray).size = 0 := rfl
  unfold mkO
  rw [ByteArray.size_append, e1]
  omega
class Own (α : Type) extends Lay α where
  On : (Nat → Prop) → World → α → (Nat → Value) → Prop
  cnt : α → Nat
  mkD : Int → α → α
  on_at : ∀ {S : Nat → Prop} {w : World} {a : α} {c : Nat → Value}, On S w a c → Lay.At S w a c
  on_same : ∀ {S : Nat → Prop} {w w' : World} {a : α} {c : Nat → Value}, On S w a c → Same S w w' → On S w' a c
  on_up : ∀ {S S' : Nat → Prop} {w : World} {a : α} {c : Nat → Value}, On S w a c → (∀ b, S b → S' b) → On S' w a c
  on_ext : ∀ {S : Nat → Prop} {w : World} {a : α} {c c' : Nat → Value}, On S w a c → (∀ j, j < width → c' j = c j) → On S w a c'
instance : Own ByteArray where
  On := fun S w a c => Lay.At S w a c
  cnt := fun _ => 1
  mkD := fun k _ => mkO k
  on_at := fun h => h
  on_same := fun h e => Lay.same h e
  on_up := fun h e => Lay.up h e
  on_ext := fun h e => Lay.ext h e
instance : Own Int where
  On := fun S w a c => Lay.At S w a c
  cnt := fun _ => 1
  mkD := fun k _ => k
  on_at := fun h => h
  on_same := fun h e => Lay.same h e
  on_up := fun h e => Lay.up h e
  on_ext := fun h e => Lay.ext h e
instance {α β : Type} [Own α] [Own β] : Own (α × β) where
  On := fun S w a c => ∃ S1 S2 : Nat → Prop, (∀ b, S1 b → S b ∧ ¬ S2 b) ∧ (∀ b, S2 b → S b) ∧ Own.On S1 w a.1 c ∧ Own.On S2 w a.2 (fun j => c (Lay.width α + j))
  cnt := fun a => Own.cnt a.1 + Own.cnt a.2
  mkD := fun k a => (Own.mkD k a.1, Own.mkD (k + Own.cnt a.1) a.2)
  on_at := fun ⟨_, _, h1, h2, ha, hb⟩ => ⟨Lay.up (Own.on_at ha) (fun b hb => (h1 b hb).1), Lay.up (Own.on_at hb) h2⟩
  on_same := fun ⟨S1, S2, h1, h2, ha, hb⟩ e => ⟨S1, S2, h1, h2, Own.on_same ha (fun b hb => e b (h1 b hb).1), Own.on_same hb (fun b hb => e b (h2 b hb))⟩
  on_up := fun ⟨S1, S2, h1, h2, ha, hb⟩ e => ⟨S1, S2, fun b hb => ⟨e b (h1 b hb).1, (h1 b hb).2⟩, fun b hb => e b (h2 b hb), ha, hb⟩
  on_ext := fun ⟨S1, S2, h1, h2, ha, hb⟩ e => ⟨S1, S2, h1, h2, Own.on_ext ha (fun j hj => e j (by show j < Lay.width _ + Lay.width _; omega)), Own.on_ext hb (fun j hj => e _ (by show _ < Lay.width _ + Lay.width _; omega))⟩
structure Els {α : Type} [Own α] (S : Nat → Prop) (w : World) (g off : Nat) (Ss : Nat → Nat → Prop) (cur : Array Value) (t : TypeId) (n : Nat) (f : Nat → α) : Prop where
  row : w.heap[g]? = some (.cells cur t (0, 0))
  own : S g
  sub : ∀ i b, Ss i b → S b ∧ b ≠ g
  dis : ∀ i j b, Ss i b → Ss j b → i = j
  el : ∀ i, i < n → ∃ c : Nat → Value, (∀ j, j < Lay.width α → cur[off + i * Lay.width α + j]? = some (c j)) ∧ Own.On (Ss i) w (f i) c
def OnL {α : Type} [Own α] (S : Nat → Prop) (w : World) (l : List α) (v : Value) : Prop :=
  ∃ oa cap, v = .slice oa l.length cap ∧ (l.length ≤ maxLen ∧ l.length ≤ cap ∧ Hid (oa = none → cap = 0)) ∧ (l = [] ∨ ∃ g off Ss cur t, oa = some ⟨g, off, none⟩ ∧ ∃ f : Nat → α, (∀ i (h : i < l.length), f i = l[i]) ∧ Els S w g off Ss cur t l.length f)
section
variable {α : Type} [Own α]
theorem Els.same {S : Nat → Prop} {w w' : World} {g off : Nat} {Ss : Nat → Nat → Prop} {cur : Array Value} {t : TypeId} {n : Nat} {f : Nat → α} (h : Els S w g off Ss cur t n f) (e : Same S w w') : Els S w' g off Ss cur t n f :=
  ⟨(e g h.own).trans h.row, h.own, h.sub, h.dis, fun i hi => by
    obtain ⟨c, h1, h2⟩ := h.el i hi
    exact ⟨c, h1, Own.on_same h2 (fun b hb => e b (h.sub i b hb).1)⟩⟩
theorem Els.up {S S' : Nat → Prop} {w : World} {g off : Nat} {Ss : Nat → Nat → Prop} {cur : Array Value} {t : TypeId} {n : Nat} {f : Nat → α} (h : Els S w g off Ss cur t n f) (e : ∀ b, S b → S' b) : Els S' w g off Ss cur t n f :=
  ⟨h.row, e g h.own, fun i b hb => ⟨e b (h.sub i b hb).1, (h.sub i b hb).2⟩, h.dis, h.el⟩
theorem OnL.same {S : Nat → Prop} {w w' : World} {l : List α} {v : Value} (h : OnL S w l v) (e : Same S w w') : OnL S w' l v := by
  obtain ⟨oa, cap, hv, hn, h⟩ := h
  refine ⟨oa, cap, hv, hn, h.imp id ?_⟩
  rintro ⟨g, off, Ss, cur, t, ho, f, hf, h⟩
  exact ⟨g, off, Ss, cur, t, ho, f, hf, h.same e⟩
theorem OnL.up {S S' : Nat → Prop} {w : World} {l : List α} {v : Value} (h : OnL S w l v) (e : ∀ b, S b → S' b) : OnL S' w l v := by
  obtain ⟨oa, cap, hv, hn, h⟩ := h
  refine ⟨oa, cap, hv, hn, h.imp id ?_⟩
  rintro ⟨g, off, Ss, cur, t, ho, f, hf, h⟩
  exact ⟨g, off, Ss, cur, t, ho, f, hf, h.up e⟩
theorem OnL.at_ {S : Nat → Prop} {w : World} {l : List α} {v : Value} (h : OnL S w l v) : AtL S w l v := by
  obtain ⟨oa, cap, hv, hn, h⟩ := h
  refine ⟨oa, cap, hv, hn, fun i hi => ?_⟩
  rcases h with h | ⟨g, off, Ss, cur, t, ho, f, hf, h⟩
  · subst h; exact absurd hi (Nat.not_lt_zero _)
  · obtain ⟨c, h1, h2⟩ := h.el i hi
    refine ⟨g, off, ho, h.own, c, fun j hj => (cell_row h.row _ _ (h1 j hj)).1, ?_⟩
    rw [← hf i hi]
    exact Lay.up (Own.on_at h2) (fun b hb => (h.sub i b hb).1)
def cntTo (l : List α) (k : Nat) : Nat := ((l.take k).map Own.cnt).sum
def cntL (l : List α) : Nat := cntTo l l.length
def mkL : Int → List α → List α
  | _, [] => []
  | k, x :: l => Own.mkD k x :: mkL (k + Own.cnt x) l
theorem mkL_len : ∀ (k : Int) (l : List α), (mkL k l).length = l.length
  | _, [] => rfl
  | k, x :: l => by simp [mkL, mkL_len]
theorem cntTo_zero (l : List α) : cntTo l 0 = 0 := by simp [cntTo]
theorem cntTo_succ (l : List α) (k : Nat) (h : k < l.length) : cntTo l (k + 1) = cntTo l k + Own.cnt l[k] := by
  simp only [cntTo]
  rw [List.take_add_one, List.getElem?_eq_getElem h, List.map_append, List.sum_append]
  rfl
theorem mkL_at : ∀ (k : Int) (l : List α) (i : Nat) (h : i < l.length), (mkL k l)[i]'(by rw [mkL_len]; exact h) = Own.mkD (k + cntTo l i) l[i]
  | _, [], _, h => absurd h (Nat.not_lt_zero _)
  | k, x :: l, 0, _ => by simp [mkL, cntTo]
  | k, x :: l, i + 1, h => by
    have h' := mkL_at (k + Own.cnt x) l i (by simpa using h)
    simp only [mkL, List.getElem_cons_succ]
    rw [h']
    congr 1
    simp only [cntTo, List.take_succ_cons, List.map_cons, List.sum_cons]
    omega
end
instance {α : Type} [Own α] : Own (List α) where
  On := fun S w l c => OnL S w l (c 0)
  cnt := cntL
  mkD := mkL
  on_at := fun h => OnL.at_ h
  on_same := fun h e => OnL.same h e
  on_up := fun h e => OnL.up h e
  on_ext := fun h e => by rw [e 0 (Nat.zero_lt_one)]; exact h
end Go.Proofs.Ytobchllaopdchaa
