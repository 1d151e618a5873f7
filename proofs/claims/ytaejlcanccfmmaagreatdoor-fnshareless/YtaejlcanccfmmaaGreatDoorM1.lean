/-
  Several texts in one.
-/
import Derived.Test.YtaejlcanccfmmaaGreatDoorLy
import Derived.StringKeys
import Derived.Maps.Own
import Derived.WideKeyEntry
import Derived.WalkLawsBesides
import Derived.StillTail
import Derived.Deep.Quiet
import Derived.Lib.QuietBelow
import Derived.Lib.Bytealg
import Derived.Lib.Strings
import Derived.Deep.RegionWith
namespace Go.Proofs.YtaejlcanccfmmaaGreatDoor
open Go.RowKit Go.MapKept
open Go.ChangeMaps (setBlock heap_setBlock_same heap_setBlock_other)
open Go.WideMaps (KeyLaw)
theorem lawStr : KeyLaw Tryz.prog 9 := Go.WideMaps.string_law Tryz.underlying9
theorem zeroNs (w : World) : (zeroValue 3).run Tryz.prog w = .ok (.int .i64 0) w := by kernel_rfl
theorem keyOf_s {x : ByteArray} (hx : x.size ≤ maxLen) : ∃ l, keyOf Tryz.prog 9 (.string x) = some l := by
  refine ⟨.string x.data.toList, ?_⟩
  simp [keyOf, mapKey, Tryz.underlying9, hx]
def Ms (w : World) (b : Nat) (M : ByteArray → Option Nat) : Prop :=
  ∃ es clock, w.heap[b]? = some (.map es clock) ∧ Stamped es clock ∧
    (∀ e ∈ es.toList, ∃ x k, e.key = .string x ∧ x.size ≤ maxLen ∧ M x = some k ∧ e.val = .int .i64 k) ∧
    (∀ x, (∀ e ∈ es.toList, e.key ≠ .string x) → M x = none)
theorem Ms.made (w : World) : Ms (w.alloc (.map #[] 0)) w.heap.size (fun _ => none) :=
  ⟨#[], 0, (MapKept.heap_alloc w _).1, stamped_empty 0, by simp, fun _ _ => rfl⟩
theorem Ms.lt {w : World} {b : Nat} {M : ByteArray → Option Nat} (h : Ms w b M) : b < w.heap.size := by
  obtain ⟨es, clock, hb, _⟩ := h
  exact (Array.getElem?_eq_some_iff.1 hb).1
theorem Ms.of_block {w w' : World} {b : Nat} {M : ByteArray → Option Nat} (h : Ms w b M) (hb : w'.heap[b]? = w.heap[b]?) : Ms w' b M := by
  obtain ⟨es, clock, h1, h2⟩ := h
  exact ⟨es, clock, hb.trans h1, h2⟩
theorem Ms.grown {w w' : World} {b : Nat} {M : ByteArray → Option Nat} {row : Option Nat} (h : Ms w b M) (hg : w.grownBy w' row) (hne : some b ≠ row) : Ms w' b M :=
  h.of_block (hg.block b h.lt hne)
theorem Ms.below {w w' : World} {b B : Nat} {M : ByteArray → Option Nat} (h : Ms w b M) (hb : Below B w w') (hB : b < B) : Ms w' b M :=
  h.of_block (hb.block b hB)
theorem Ms.same {w : World} {b : Nat} {M M' : ByteArray → Option Nat} (h : Ms w b M) (e : ∀ x, M' x = M x) : Ms w b M' := by
  have : M' = M := funext e
  rw [this]; exact h
theorem str_inj {x y : ByteArray} (h : (Value.string x) = .string y) : x = y := by simpa using h
theorem Ms.look_yes {w : World} {b : Nat} {M : ByteArray → Option Nat} (h : Ms w b M) {x : ByteArray} (hx : x.size ≤ maxLen) {k : Nat} (hk : M x = some k) :
    (Instr.lookup 84 (.map (some b)) (.string x) true).run Tryz.prog w = .ok (.tuple #[.int .i64 k, .bool true]) w := by
  obtain ⟨es, clock, hb, hs, hr, hz⟩ := h
  obtain ⟨l, hkey⟩ := keyOf_s hx
  rcases lawStr.find w hkey es.toList (fun e he => by obtain ⟨p, q, h1, h2, h3, _⟩ := hr e he; rw [h1]; exact keyOf_s h2) with ⟨h1, h2⟩ | ⟨j, e0, h1, h2, h3⟩
  · rw [hz x h2] at hk; cases hk
  · obtain ⟨p, q, k1, _, k3, k4⟩ := hr e0 (List.mem_of_getElem? h2)
    obtain rfl := str_inj (k1.symm.trans h3)
    rw [hk] at k3
    cases k3
    simp [Instr.lookup, run_underlying Tryz.underlying84, MapKept.run_getObj_map hb, lawStr.check w _ hkey, h1, k4, Result.andThen]
theorem Ms.look_no {w : World} {b : Nat} {M : ByteArray → Option Nat} (h : Ms w b M) {x : ByteArray} (hx : x.size ≤ maxLen) (hk : M x = none) :
    (Instr.lookup 84 (.map (some b)) (.string x) true).run Tryz.prog w = .ok (.tuple #[.int .i64 0, .bool false]) w := by
  obtain ⟨es, clock, hb, hs, hr, hz⟩ := h
  obtain ⟨l, hkey⟩ := keyOf_s hx
  rcases lawStr.find w hkey es.toList (fun e he => by obtain ⟨p, q, h1, h2, h3, _⟩ := hr e he; rw [h1]; exact keyOf_s h2) with ⟨h1, h2⟩ | ⟨j, e0, h1, h2, h3⟩
  · simp [Instr.lookup, run_underlying Tryz.underlying84, MapKept.run_getObj_map hb, lawStr.check w _ hkey, h1, zeroNs w, Result.andThen]
  · obtain ⟨p, q, k1, _, k3, k4⟩ := hr e0 (List.mem_of_getElem? h2)
    obtain rfl := str_inj (k1.symm.trans h3)
    rw [hk] at k3
    cases k3
def putM (M : ByteArray → Option Nat) (x : ByteArray) (n : Nat) (p : ByteArray) : Option Nat := if p = x then some n else M p
theorem Ms.put {w : World} {b : Nat} {M : ByteArray → Option Nat} (h : Ms w b M) {x : ByteArray} (hx : x.size ≤ maxLen) (hk : M x = none) (n : Nat) :
    ∃ w', (Instr.mapUpdate 84 (.map (some b)) (.string x) (.int .i64 n)).run Tryz.prog w = .ok () w' ∧ Ms w' b (putM M x n) ∧ w.grownBy w' (some b) := by
  obtain ⟨es, clock, hb, hs, hr, hz⟩ := h
  obtain ⟨l, hkey⟩ := keyOf_s hx
  rcases lawStr.find w hkey es.toList (fun e he => by obtain ⟨p, q, h1, h2, h3, _⟩ := hr e he; rw [h1]; exact keyOf_s h2) with ⟨h1, h2⟩ | ⟨j, e0, h1, h2, h3⟩
  · have hpush : (es.push ⟨.string x, .int .i64 n, clock⟩).toList = es.toList ++ [⟨.string x, .int .i64 n, clock⟩] := Array.toList_push
    refine ⟨setBlock w b (.map (es.push ⟨.string x, .int .i64 n, clock⟩) (clock + 1)), ?_, ⟨_, _, heap_setBlock_same hb _, stamped_push hs h2, ?_, ?_⟩, ⟨rfl, rfl, rfl, by simp [setBlock], fun i _ hi => heap_setBlock_other hb _ (fun e => hi (by rw [e]))⟩⟩
    · simp [Instr.mapUpdate, run_underlying Tryz.underlying84, MapKept.run_getObj_map hb, lawStr.check w false hkey, h1, MapKept.run_setObj_map _ hb, Result.andThen, setBlock]
    · intro e he
      rw [hpush] at he
      rcases List.mem_append.1 he with he | he
      · obtain ⟨p, q, k1, k2, k3, k4⟩ := hr e he
        have hne : p ≠ x := fun e1 => h2 e he (by rw [k1, e1])
        exact ⟨p, q, k1, k2, by rw [putM, if_neg hne]; exact k3, k4⟩
      · simp only [List.mem_singleton] at he
        subst he
        exact ⟨x, n, rfl, hx, by rw [putM, if_pos rfl], rfl⟩
    · intro p hne
      have hn : p ≠ x := fun e1 => hne ⟨.string x, .int .i64 n, clock⟩ (by rw [hpush]; simp) (by rw [e1])
      rw [putM, if_neg hn]
      exact hz p (fun e he => hne e (by rw [hpush]; exact List.mem_append.2 (Or.inl he)))
  · obtain ⟨p, q, k1, _, k3, k4⟩ := hr e0 (List.mem_of_getElem? h2)
    obtain rfl := str_inj (k1.symm.trans h3)
    rw [hk] at k3
    cases k3
end Go.Proofs.YtaejlcanccfmmaaGreatDoor

namespace Go.Proofs.YtaejlcanccfmmaaGreatDoor
open Go.RowKit
def okn (c : Int) : Bool := decide ((97 ≤ c ∧ c ≤ 122) ∨ (48 ≤ c ∧ c ≤ 57) ∨ c = 45)
def nameB (s : ByteArray) : Bool := decide (1 ≤ s.size ∧ s.size ≤ 8) && s.data.toList.all fun c => okn c.toNat
theorem sz_list (s : ByteArray) : s.size = s.data.toList.length := by simp
theorem gt_list (s : ByteArray) (k : Nat) (h : k < s.size) : s.data.toList[k]? = some s[k] := by
  rw [List.getElem?_eq_getElem (by rw [← sz_list]; exact h)]; rfl
theorem name_short {s : ByteArray} (h : ¬ (1 ≤ s.size ∧ s.size ≤ 8)) : nameB s = false := by simp [nameB]; omega
theorem name_bad {s : ByteArray} {k : Nat} (h : k < s.size) (hc : okn s[k].toNat = false) : nameB s = false := by
  have : (s.data.toList.all fun c => okn c.toNat) = false := by
    rw [List.all_eq_false]
    exact ⟨s[k], List.mem_of_getElem? (gt_list s k h), by simp [hc]⟩
  simp only [nameB, this, Bool.and_false]
theorem name_all {s : ByteArray} (h : 1 ≤ s.size ∧ s.size ≤ 8) (ha : ∀ j (hj : j < s.size), okn s[j].toNat = true) : nameB s = true := by
  have : (s.data.toList.all fun c => okn c.toNat) = true := by
    rw [List.all_eq_true]
    intro c hc
    obtain ⟨j, hj, e⟩ := List.mem_iff_getElem.1 hc
    have hj' : j < s.size := by rw [sz_list]; exact hj
    have := ha j hj'
    rw [← e]; exact this
  simp only [nameB, this, Bool.and_true]
  exact decide_eq_true h
def inB (n lo hi : Int) : Bool := decide (lo ≤ n ∧ n ≤ hi)
def eqB (a b : ByteArray) : Bool := a.toList == b.toList
def ltB (a b : ByteArray) : Bool := Op.bytesLess a.toList b.toList
theorem eqB_refl (a : ByteArray) : eqB a a = true := by simp [eqB]
section
variable {α : Type} {p : α → Bool} {l : List α}
theorem any_yes {k : Nat} (hk : k < l.length) (h : p l[k] = true) : l.any p = true := List.any_eq_true.2 ⟨_, List.getElem_mem hk, h⟩
theorem any_no (h : ∀ j (hj : j < l.length), p l[j] = false) : l.any p = false := by
  rw [List.any_eq_false]
  intro x hx
  obtain ⟨j, hj, rfl⟩ := List.mem_iff_getElem.1 hx
  simp [h j hj]
def idxI (l : List α) (p : α → Bool) : Int := match l.findIdx? p with | some i => i | none => -1
theorem idx_yes {k : Nat} (hk : k < l.length) (h : p l[k] = true) (hno : ∀ j (hj : j < l.length), j < k → p l[j] = false) : idxI l p = k := by
  have : l.findIdx? p = some k := by
    rw [List.findIdx?_eq_some_iff_getElem]
    exact ⟨hk, h, fun j hj => by simp [hno j (by omega) hj]⟩
  simp only [idxI, this]
theorem idx_no (h : ∀ j (hj : j < l.length), p l[j] = false) : idxI l p = -1 := by
  have : l.findIdx? p = none := by
    rw [List.findIdx?_eq_none_iff]
    intro x hx
    obtain ⟨j, hj, rfl⟩ := List.mem_iff_getElem.1 hx
    exact h j hj
  simp only [idxI, this]
end
def hasB (l : List ByteArray) (x : ByteArray) : Bool := l.any fun f => eqB f x
section
variable {α : Type}
def prevO (l : List α) (i : Nat) : Option α := if i = 0 then none else l[i - 1]?
theorem prev_zero (l : List α) : prevO l 0 = none := rfl
theorem prev_succ (l : List α) (m : Nat) (h : m < l.length) : prevO l (m + 1) = some l[m] := by
  simp [prevO, List.getElem?_eq_getElem h]
noncomputable def okB (lim : Nat) (T : Option α → α → Bool) (l : List α) : Bool := @decide (l.length ≤ lim ∧ ∀ i (h : i < l.length), T (prevO l i) l[i] = true) (Classical.propDecidable _)
theorem ok_yes {lim : Nat} {T : Option α → α → Bool} {l : List α} (h0 : l.length ≤ lim) (h : ∀ i (h : i < l.length), T (prevO l i) l[i] = true) : okB lim T l = true := by
  unfold okB; exact @decide_eq_true _ (Classical.propDecidable _) ⟨h0, h⟩
theorem ok_long {lim : Nat} {T : Option α → α → Bool} {l : List α} (h0 : ¬ l.length ≤ lim) : okB lim T l = false := by
  unfold okB; exact @decide_eq_false _ (Classical.propDecidable _) (fun h => h0 h.1)
theorem ok_no {lim : Nat} {T : Option α → α → Bool} {l : List α} {k : Nat} (hk : k < l.length) (h : T (prevO l k) l[k] = false) : okB lim T l = false := by
  unfold okB; exact @decide_eq_false _ (Classical.propDecidable _) (fun h' => by have := h'.2 k hk; rw [h] at this; cases this)
theorem ok_iff {lim : Nat} {T : Option α → α → Bool} {l : List α} : okB lim T l = true ↔ l.length ≤ lim ∧ ∀ i (h : i < l.length), T (prevO l i) l[i] = true := by
  unfold okB; exact @decide_eq_true_iff _ (Classical.propDecidable _)
end
section
variable {α : Type}
def asO (R : α → α → Bool) : Option α → α → Bool
  | none, _ => true
  | some p, x => R p x
def tst (P : α → Bool) (R : α → α → Bool) (o : Option α) (x : α) : Bool := P x && asO R o x
theorem as_zero {R : α → α → Bool} {l : List α} (j : Nat) (hj : j < l.length) (h : j = 0) : asO R (prevO l j) l[j] = true := by
  subst h; rw [prev_zero]; rfl
noncomputable def ascB (R : α → α → Bool) (l : List α) : Bool := okB l.length (asO R) l
theorem tst_asc {lim : Nat} {P : α → Bool} {R : α → α → Bool} {l : List α} (h0 : l.length ≤ lim) (hP : ∀ j (hj : j < l.length), P l[j] = true) : okB lim (tst P R) l = ascB R l := by
  rw [Bool.eq_iff_iff, ascB, ok_iff, ok_iff]
  constructor
  · rintro ⟨_, h⟩
    exact ⟨Nat.le_refl _, fun i hi => by have := h i hi; rw [tst, hP i hi, Bool.true_and] at this; exact this⟩
  · rintro ⟨_, h⟩
    exact ⟨h0, fun i hi => by rw [tst, hP i hi, h i hi]; rfl⟩
theorem tst_no {lim : Nat} {P : α → Bool} {R : α → α → Bool} {l : List α} {k : Nat} (hk : k < l.length) (h : P l[k] = false) : okB lim (tst P R) l = false :=
  ok_no hk (by rw [tst, h]; rfl)
end
theorem box_at {w : World} (o : Array Value) (t : TypeId) {wr : World} (hb : Below (w.heap.size + 1) (w.alloc (.cells o t)) wr) (j : Nat) (v : Value) (h : o[j]? = some v) : wr.cell? ⟨w.heap.size, j, none⟩ = some v := by
  refine (hb.cell (p := ⟨w.heap.size, j, none⟩) (by show w.heap.size < _; omega)).trans ?_
  simp only [World.cell?, heap_alloc_new, h]; rfl
theorem below_end {w wr : World} {o : Obj} (hb : Below (w.heap.size + 1) (w.alloc o) wr) : Below w.heap.size w wr :=
  ((Below.refl _ _).alloc (Nat.le_refl _) o).trans (hb.mono (by omega))
theorem below_of {w wr wr' : World} {o : Obj} (hb : Below (w.heap.size + 1) (w.alloc o) wr) (h : Below wr.heap.size wr wr') : Below (w.heap.size + 1) (w.alloc o) wr' :=
  hb.trans (h.mono (by have := hb.size; simp at this; exact this))
end Go.Proofs.YtaejlcanccfmmaaGreatDoor

namespace Go.Proofs.YtaejlcanccfmmaaGreatDoor
open Go.Sort
section
variable {P : Program} {md : Region.Mode} {C : World → Prop}
def downB (l : List Oper) (n : Nat) : Bool := (List.range n).all fun j => match l[j]? with
  | some o => o.guard.isNone && o.after.all fun e => decide (e.on < j)
  | none => false
theorem down_at {l : List Oper} {n j : Nat} (h : downB l n = true) (hj : j < n) : ∃ o, l[j]? = some o ∧ o.guard = none ∧ ∀ e ∈ o.after, e.on < j := by
  have h1 := List.all_eq_true.1 h j (List.mem_range.2 hj)
  cases ho : l[j]? with
  | none => rw [ho] at h1; cases h1
  | some o =>
    rw [ho] at h1
    simp only [Bool.and_eq_true, Option.isNone_iff_eq_none, Array.all_eq_true'] at h1
    exact ⟨o, rfl, h1.1, fun e he => by simpa using h1.2 e he⟩
theorem wanted_none {o : Oper} (h : o.guard = none) (ys : Nat → Option Bool) : Region.wanted o ys = true := by
  simp [Region.wanted, h]
def padB (lh : Array Bool) (t : Nat) : Array Bool := lh ++ Array.replicate t false
theorem pad_lt {lh : Array Bool} {t i : Nat} (d : Bool) (h : i < lh.size) : (padB lh t).getD i d = lh.getD i d := by
  simp [padB, Array.getElem?_append_left h]
theorem pad_set {lh : Array Bool} {t i : Nat} (h : i < lh.size) : (padB lh t).setIfInBounds i true = padB (lh.setIfInBounds i true) t := by
  apply Array.ext'
  simp only [padB, Array.toList_setIfInBounds, Array.toList_append]
  exact List.set_append_left _ _ (by rw [Array.length_toList]; exact h)
theorem ready_head {l : List Oper} {n i : Nat} {lh : Array Bool} (hd : downB l n = true) (hs : lh.size = n) (hi : i < n) :
    i ∈ Region.ready md l.toArray (padB lh (l.length - n)) ↔ i ∈ Region.ready md (l.take n).toArray lh := by
  obtain ⟨o, ho, _, hdn⟩ := down_at hd hi
  rw [mem_ready, mem_ready, pad_lt true (by omega)]
  have e1 : l.toArray[i]? = some o := by simpa using ho
  have e2 : (l.take n).toArray[i]? = some o := by simp [hi, ho]
  refine and_congr Iff.rfl ⟨fun ⟨o', h1, h2⟩ => ?_, fun ⟨o', h1, h2⟩ => ?_⟩
  · obtain rfl := Option.some.inj (e1.symm.trans h1)
    exact ⟨o, e2, fun e he hb => by rw [← pad_lt (t := l.length - n) false (by have := hdn e he; omega)]; exact h2 e he hb⟩
  · obtain rfl := Option.some.inj (e2.symm.trans h1)
    exact ⟨o, e1, fun e he hb => by rw [pad_lt false (by have := hdn e he; omega)]; exact h2 e he hb⟩
theorem ready_some {l : List Oper} {n : Nat} {lh : Array Bool} (hd : downB l n = true) (hs : lh.size = n) : ∀ (i : Nat), i < n → lh.getD i true = false → ∃ j, j < n ∧ j ∈ Region.ready md (l.take n).toArray lh := by
  intro i
  induction i using Nat.strongRecOn with
  | _ i ih =>
    intro hi hun
    obtain ⟨o, ho, _, hdn⟩ := down_at hd hi
    by_cases hr : i ∈ Region.ready md (l.take n).toArray lh
    · exact ⟨i, hi, hr⟩
    · have : ∃ e ∈ o.after, Region.binds md e = true ∧ lh.getD e.on false = false := by
        refine Classical.byContradiction fun hno => hr (mem_ready.2 ⟨hun, o, by simp [hi, ho], fun e he hb => ?_⟩)
        cases hx : lh.getD e.on false with
        | true => rfl
        | false => exact absurd ⟨e, he, hb, hx⟩ hno
      obtain ⟨e, he, _, hx⟩ := this
      have hlt := hdn e he
      exact ih e.on hlt (by omega) (getD_in (by omega) hx)
def leftN (lh : Array Bool) : Nat := (lh.toList.filter fun b => !b).length
theorem left_some {lh : Array Bool} (h : 0 < leftN lh) : ∃ i, i < lh.size ∧ lh.getD i true = false := by
  obtain ⟨b, hb⟩ := List.exists_mem_of_length_pos h
  obtain ⟨h1, h2⟩ := List.mem_filter.1 hb
  obtain ⟨i, hi, he⟩ := List.getElem_of_mem h1
  refine ⟨i, by simpa using hi, ?_⟩
  have : lh[i]? = some b := by rw [← Array.getElem?_toList, List.getElem?_eq_getElem hi, he]
  simp [Array.getD_eq_getD_getElem?, this]
  simpa using h2
theorem left_none {lh : Array Bool} (h : leftN lh = 0) : lh = Array.replicate lh.size true := by
  apply Array.ext'
  rw [Array.toList_replicate]
  refine List.eq_replicate_iff.2 ⟨by simp, fun b hb => ?_⟩
  cases b with
  | true => rfl
  | false =>
    have : false ∈ lh.toList.filter fun b => !b := List.mem_filter.2 ⟨hb, rfl⟩
    rw [List.eq_nil_of_length_eq_zero h] at this
    cases this
theorem left_list : ∀ (l : List Bool) (i : Nat), l[i]? = some false → ((l.set i true).filter fun b => !b).length + 1 = (l.filter fun b => !b).length
  | [], i, h => by simp at h
  | b :: l, 0, h => by
    simp at h; subst h; simp
  | b :: l, i + 1, h => by
    have := left_list l i (by simpa using h)
    cases b <;> simp_all
theorem left_set {lh : Array Bool} {i : Nat} (h : lh.getD i true = false) (hi : i < lh.size) : leftN (lh.setIfInBounds i true) + 1 = leftN lh := by
  unfold leftN
  rw [Array.toList_setIfInBounds]
  refine left_list lh.toList i ?_
  have : lh[i]? = some false := by
    rw [Array.getElem?_eq_getElem hi]
    have h2 := h
    rw [Array.getD_eq_getD_getElem?, Array.getElem?_eq_getElem hi] at h2
    simpa using h2
  simpa using this
theorem head_sim {l : List Oper} {n : Nat} {Q : Exit → Act → World → Prop} {Qh : Act → Prop} (hd : downB l n = true) (hn : n < l.length) (hs : Region.sinkB md l.toArray n = true) (hc : Region.chainB md l.toArray n = true)
    (hQ : ∀ a w, C w → Qh a → wpAny P md l.toArray Q (l.length - n) (padB (Array.replicate n true) (l.length - n)) a w) :
    ∀ (f : Nat) (lh : Array Bool) (a : Act) (w : World), lh.size = n → leftN lh = f → HeadInv md l.toArray n (padB lh (l.length - n)) → C w →
      wpAnyQ P md (l.take n).toArray C Qh f lh a → wpAny P md l.toArray Q (f + (l.length - n)) (padB lh (l.length - n)) a w := by
  intro f
  induction f with
  | zero =>
    intro lh a w hsz hl _ hw h
    rw [Nat.zero_add, left_none hl, hsz]
    exact hQ a w hw h.2
  | succ f ih =>
    intro lh a w hsz hl inv hw h
    obtain ⟨i0, hi0, hun0⟩ := left_some (lh := lh) (by omega)
    rw [show f + 1 + (l.length - n) = (f + (l.length - n)) + 1 by omega]
    refine ⟨fun h0 => ?_, fun i hi => ?_⟩
    · obtain ⟨j, hj, hr⟩ := ready_some (md := md) hd hsz i0 (by omega) hun0
      have := (ready_head hd hsz hj).2 hr
      rw [h0] at this
      cases this
    · have hin : i < n := by
        refine Nat.lt_of_not_le fun hle => ?_
        exact tail_waits hs hc (by simpa using hn) inv _ i0 rfl (by omega) (by rw [pad_lt true (by omega)]; exact hun0) i hle hi
      have hrh := (ready_head hd hsz hin).1 hi
      have hq := h.2 i hrh
      obtain ⟨o, ho, hg, _⟩ := down_at hd hin
      have e1 : l.toArray[i]? = some o := by simpa using ho
      have e2 : (l.take n).toArray[i]? = some o := by simp [hin, ho]
      have hun : lh.getD i true = false := (mem_ready.1 hrh).1
      unfold qOp at hq
      simp only [e2, wanted_none hg, if_true] at hq
      unfold wpOp
      simp only [e1, wanted_none hg, if_true]
      refine .inl (Oper.wp_of_quiet hw (fun a' w' hw' hk => ?_) hq)
      rw [pad_set (by omega)]
      refine ih (lh.setIfInBounds i true) a' w' (by simpa using hsz) (by have := left_set hun (by omega); omega) ?_ hw' hk
      rw [← pad_set (by omega)]
      exact inv.set hi hin
def headTailB (l : List Oper) (n : Nat) : Bool :=
  downB l n && decide (n < l.length) && Region.sinkB .any l.toArray n && Region.chainB .any l.toArray n && Region.lexB .any (l.take n).toArray && Region.seqB .any l.toArray (l.length - n) n (padB (Array.replicate n true) (l.length - n))
theorem wp_region_head_tail {id : Nat} {Q : Exit → Act → World → Prop} {a : Act} {w : World} {l : List Oper} (n : Nat) (hm : P.follows .mixedOrders = true) (hB : headTailB l n = true)
    (h : wpQuiet P (l.take n).toArray (fun w' => ∃ p : Regrown, w' = grow (redrawn w p.d) p.os) (fun a' => ∀ w', (∃ p : Regrown, w' = grow (redrawn w p.d) p.os) → wpList P l.toArray Q (l.drop n) a' w') (l.take n) a) :
    (Code.region id l.toArray true).wp P Q a w := by
  simp only [headTailB, Bool.and_eq_true, decide_eq_true_eq] at hB
  obtain ⟨⟨⟨⟨⟨hd, hn⟩, hs⟩, hc⟩, hlex⟩, hseq⟩ := hB
  simp only [Region.lexB, Bool.and_eq_true] at hlex
  have htl : (l.take n).length = n := by simp; omega
  have hdl : (l.drop n).length = l.length - n := by simp
  refine wp_region_any hm ?_
  have H := wpAnyQ_lex (P := P) (C := fun w' => ∃ p : Regrown, w' = grow (redrawn w p.d) p.os) (md := .any) hlex.1 (l.take n) 0 (Array.replicate (l.take n).toArray.size false) a (by simp) (by simpa using hlex.2) h
  have inv0 : HeadInv .any l.toArray n (padB (Array.replicate n false) (l.length - n)) := by
    have e : padB (Array.replicate n false) (l.length - n) = Array.replicate l.toArray.size false := by
      apply Array.ext'
      simp only [padB, Array.toList_append, Array.toList_replicate, List.replicate_append_replicate, List.size_toArray]
      congr 1; omega
    rw [e]
    exact ⟨by simp, fun j oj _ hl => (by rw [getD_replicate_false] at hl; cases hl), fun t _ ht => getD_in (by simpa using ht) (getD_replicate_false _ _)⟩
  have hsz : (l.take n).toArray.size = n := by simp; omega
  rw [hsz, htl] at H
  have hl0 : leftN (Array.replicate n false) = n := by simp [leftN]
  have S := head_sim (P := P) (md := .any) (C := fun w' => ∃ p : Regrown, w' = grow (redrawn w p.d) p.os) (Q := Q) (Qh := fun a' => ∀ w', (∃ p : Regrown, w' = grow (redrawn w p.d) p.os) → wpList P l.toArray Q (l.drop n) a' w') hd hn hs hc
    (fun a' w' hw' hq => by
      have := wpAny_of_seq (P := P) (md := .any) (ops := l.toArray) (Q' := Q) (l.drop n) n (padB (Array.replicate n true) (l.length - n)) a' w' (fun j => by simp [List.getElem?_drop]) (by rw [hdl]; exact hseq) (hq w' hw')
      rwa [hdl] at this)
    n (Array.replicate n false) a { w with drawn := w.drawn + 1 } (by simp) hl0 inv0 ⟨⟨w.drawn + 1, #[]⟩, by rw [grow_empty]; rfl⟩ H
  have e0 : padB (Array.replicate n false) (l.length - n) = Array.replicate l.toArray.size false := by
    apply Array.ext'
    simp only [padB, Array.toList_append, Array.toList_replicate, List.replicate_append_replicate, List.size_toArray]
    congr 1; omega
  rw [e0, show n + (l.length - n) = l.toArray.size by simp; omega] at S
  exact S
end
end Go.Proofs.YtaejlcanccfmmaaGreatDoor

namespace Go.Proofs.YtaejlcanccfmmaaGreatDoor
open Go.RowKit
def cmpB (a b : ByteArray) : Int := Lib.compareBytes a.data.toList b.data.toList
theorem cmp_list : ∀ a b : List UInt8, (Lib.compareBytes a b < 0 ↔ Op.bytesLess a b = true) ∧ (Lib.compareBytes a b = 0 ↔ a = b)
  | [], [] => by simp [Lib.compareBytes, Op.bytesLess]
  | [], _ :: _ => by simp [Lib.compareBytes, Op.bytesLess]
  | _ :: _, [] => by simp [Lib.compareBytes, Op.bytesLess]
  | x :: a, y :: b => by
    obtain ⟨h1, h2⟩ := cmp_list a b
    unfold Lib.compareBytes Op.bytesLess
    by_cases hxy : x = y
    · subst hxy
      have hlt : ¬ x < x := UInt8.lt_irrefl x
      simp [hlt, h1, h2]
    · by_cases hlt : x < y
      · simp [hlt, hxy]
      · have hgt : y < x := UInt8.lt_of_le_of_ne (UInt8.not_lt.1 hlt) (Ne.symm hxy)
        simp [hlt, hgt, hxy]
theorem cmpB_lt (a b : ByteArray) : cmpB a b < 0 ↔ ltB a b = true := by
  rw [cmpB, ltB, ByteArray.toList_eq, ByteArray.toList_eq]; exact (cmp_list _ _).1
theorem cmpB_eq (a b : ByteArray) : cmpB a b = 0 ↔ eqB a b = true := by
  rw [cmpB, eqB, ByteArray.toList_eq, ByteArray.toList_eq, beq_iff_eq]; exact (cmp_list _ _).2
theorem cmpB_ge (a b : ByteArray) : decide (0 ≤ cmpB a b) = !ltB a b := by
  rw [Bool.eq_iff_iff]
  have := cmpB_lt a b
  cases h : ltB a b <;> simp [h] at this ⊢ <;> omega
set_option maxRecDepth 100000 in
set_option maxHeartbeats 1000000 in
theorem cmpS0_any (a b : ByteArray) (w : World) : Calls Tryz.prog 105 #[.string a, .string b] w fun e w' => e = .returned (.int .i64 (cmpB a b)) ∧ w' = w := by
  go_enter Tryz.func105, Tryz.ntmps105
  go_wp2
  rw [run_callFunc_extern Tryz.func111 (by kernel_rfl) (by kernel_rfl) (by kernel_rfl) (e := Extern.BytealgCompare.compare) (by kernel_rfl), Lib.run_compareString]
  simp only [Result.andThen]
  rw [Oper.upon_value]
  go_wp2
  go_ret
  exact ⟨rfl, rfl⟩
set_option maxRecDepth 100000 in
set_option maxHeartbeats 1000000 in
theorem cmpS_any (a b : ByteArray) (w : World) : Calls Tryz.prog 88 #[.string a, .string b] w fun e w' => e = .returned (.int .i64 (cmpB a b)) ∧ w' = w := by
  go_enter Tryz.func88, Tryz.ntmps88
  go_wp2_with (go_at_call 105; refine (cmpS0_any _ _ _).mono ?_; rintro e w1 ⟨rfl, rfl⟩)
  go_ret
  exact ⟨rfl, rfl⟩
theorem eqB_comm (a b : ByteArray) : eqB a b = eqB b a := by
  simp only [eqB]; rw [Bool.eq_iff_iff, beq_iff_eq, beq_iff_eq]; exact eq_comm
end Go.Proofs.YtaejlcanccfmmaaGreatDoor
