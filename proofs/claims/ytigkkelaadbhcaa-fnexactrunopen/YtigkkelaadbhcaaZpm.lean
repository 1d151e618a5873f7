/-
  A map that the call has made, keyed by a text, with whole numbers in it: asked with two results, and one put in that was not there.
-/
import Derived.Test.YtigkkelaadbhcaaLy
import Derived.StringKeys
import Derived.Maps.Own
import Derived.WideKeyEntry
import Derived.WalkLawsBesides
namespace Go.Proofs.Ytigkkelaadbhcaa
open Go.RowKit Go.MapKept
open Go.ChangeMaps (setBlock heap_setBlock_same heap_setBlock_other)
open Go.WideMaps (KeyLaw)

theorem lawStr : KeyLaw Try.prog 9 := Go.WideMaps.string_law Try.underlying9
theorem zeroNs (w : World) : (zeroValue 3).run Try.prog w = .ok (.int .i64 0) w := by kernel_rfl
theorem keyOf_s {x : ByteArray} (hx : x.size ≤ maxLen) : ∃ l, keyOf Try.prog 9 (.string x) = some l := by
  refine ⟨.string x.data.toList, ?_⟩
  simp [keyOf, mapKey, Try.underlying9, hx]
/-- Block b of w is a map of such keys that has M of each. -/
def Ms (w : World) (b : Nat) (M : ByteArray → Option Nat) : Prop :=
  ∃ es clock, w.heap[b]? = some (.map es clock) ∧ Stamped es clock ∧
    (∀ e ∈ es.toList, ∃ x k, e.key = .string x ∧ x.size ≤ maxLen ∧ M x = some k ∧ e.val = .int .i64 k) ∧
    (∀ x, (∀ e ∈ es.toList, e.key ≠ .string x) → M x = none)
theorem Ms.made (w : World) : Ms (w.alloc (.map #[] 0)) w.heap.size (fun _ => none) :=
  ⟨#[], 0, (MapKept.heap_alloc w _).1, stamped_empty 0, by simp, fun _ _ => rfl⟩
theorem Ms.lt {w : World} {b : Nat} {M : ByteArray → Option Nat} (h : Ms w b M) : b < w.heap.size := by
  obtain ⟨es, clock, hb, _⟩ := h
  exact (Array.getElem?_eq_some_iff.1 hb).1
theorem Ms.of_block {w w' : World} {b : Nat} {M : ByteArray → Option Nat} (h : Ms w b M) (hb : w'.heap[b]? = w.heap[b]?) : Ms w' b M := by
  obtain ⟨es, clock, h1, h2⟩ := h
  exact ⟨es, clock, hb.trans h1, h2⟩
theorem Ms.grown {w w' : World} {b : Nat} {M : ByteArray → Option Nat} {row : Option Nat} (h : Ms w b M) (hg : w.grownBy w' row) (hne : some b ≠ row) : Ms w' b M :=
  h.of_block (hg.block b h.lt hne)
theorem Ms.below {w w' : World} {b B : Nat} {M : ByteArray → Option Nat} (h : Ms w b M) (hb : Below B w w') (hB : b < B) : Ms w' b M :=
  h.of_block (hb.block b hB)
theorem Ms.same {w : World} {b : Nat} {M M' : ByteArray → Option Nat} (h : Ms w b M) (e : ∀ x, M' x = M x) : Ms w b M' := by
  have : M' = M := funext e
  rw [this]; exact h
theorem str_inj {x y : ByteArray} (h : (Value.string x) = .string y) : x = y := by simpa using h
theorem Ms.look_yes {w : World} {b : Nat} {M : ByteArray → Option Nat} (h : Ms w b M) {x : ByteArray} (hx : x.size ≤ maxLen) {k : Nat} (hk : M x = some k) :
    (Instr.lookup 54 (.map (some b)) (.string x) true).run Try.prog w = .ok (.tuple #[.int .i64 k, .bool true]) w := by
  obtain ⟨es, clock, hb, hs, hr, hz⟩ := h
  obtain ⟨l, hkey⟩ := keyOf_s hx
  rcases lawStr.find w hkey es.toList (fun e he => by obtain ⟨p, q, h1, h2, h3, _⟩ := hr e he; rw [h1]; exact keyOf_s h2) with ⟨h1, h2⟩ | ⟨j, e0, h1, h2, h3⟩
  · rw [hz x h2] at hk; cases hk
  · obtain ⟨p, q, k1, _, k3, k4⟩ := hr e0 (List.mem_of_getElem? h2)
    obtain rfl := str_inj (k1.symm.trans h3)
    rw [hk] at k3
    cases k3
    simp [Instr.lookup, run_underlying Try.underlying54, MapKept.run_getObj_map hb, lawStr.check w _ hkey, h1, k4, Result.andThen]
theorem Ms.look_no {w : World} {b : Nat} {M : ByteArray → Option Nat} (h : Ms w b M) {x : ByteArray} (hx : x.size ≤ maxLen) (hk : M x = none) :
    (Instr.lookup 54 (.map (some b)) (.string x) true).run Try.prog w = .ok (.tuple #[.int .i64 0, .bool false]) w := by
  obtain ⟨es, clock, hb, hs, hr, hz⟩ := h
  obtain ⟨l, hkey⟩ := keyOf_s hx
  rcases lawStr.find w hkey es.toList (fun e he => by obtain ⟨p, q, h1, h2, h3, _⟩ := hr e he; rw [h1]; exact keyOf_s h2) with ⟨h1, h2⟩ | ⟨j, e0, h1, h2, h3⟩
  · simp [Instr.lookup, run_underlying Try.underlying54, MapKept.run_getObj_map hb, lawStr.check w _ hkey, h1, zeroNs w, Result.andThen]
  · obtain ⟨p, q, k1, _, k3, k4⟩ := hr e0 (List.mem_of_getElem? h2)
    obtain rfl := str_inj (k1.symm.trans h3)
    rw [hk] at k3
    cases k3
/-- What a store at a key makes of the numbers. -/
def putM (M : ByteArray → Option Nat) (x : ByteArray) (n : Nat) (p : ByteArray) : Option Nat := if p = x then some n else M p
theorem Ms.put {w : World} {b : Nat} {M : ByteArray → Option Nat} (h : Ms w b M) {x : ByteArray} (hx : x.size ≤ maxLen) (hk : M x = none) (n : Nat) :
    ∃ w', (Instr.mapUpdate 54 (.map (some b)) (.string x) (.int .i64 n)).run Try.prog w = .ok () w' ∧ Ms w' b (putM M x n) ∧ w.grownBy w' (some b) := by
  obtain ⟨es, clock, hb, hs, hr, hz⟩ := h
  obtain ⟨l, hkey⟩ := keyOf_s hx
  rcases lawStr.find w hkey es.toList (fun e he => by obtain ⟨p, q, h1, h2, h3, _⟩ := hr e he; rw [h1]; exact keyOf_s h2) with ⟨h1, h2⟩ | ⟨j, e0, h1, h2, h3⟩
  · have hpush : (es.push ⟨.string x, .int .i64 n, clock⟩).toList = es.toList ++ [⟨.string x, .int .i64 n, clock⟩] := Array.toList_push
    refine ⟨setBlock w b (.map (es.push ⟨.string x, .int .i64 n, clock⟩) (clock + 1)), ?_, ⟨_, _, heap_setBlock_same hb _, stamped_push hs h2, ?_, ?_⟩, ⟨rfl, rfl, rfl, by simp [setBlock], fun i _ hi => heap_setBlock_other hb _ (fun e => hi (by rw [e]))⟩⟩
    · simp [Instr.mapUpdate, run_underlying Try.underlying54, MapKept.run_getObj_map hb, lawStr.check w false hkey, h1, MapKept.run_setObj_map _ hb, Result.andThen, setBlock]
    · intro e he
      rw [hpush] at he
      rcases List.mem_append.1 he with he | he
      · obtain ⟨p, q, k1, k2, k3, k4⟩ := hr e he
        have hne : p ≠ x := fun e1 => h2 e he (by rw [k1, e1])
        exact ⟨p, q, k1, k2, by rw [putM, if_neg hne]; exact k3, k4⟩
      · simp only [List.mem_singleton] at he
        subst he
        exact ⟨x, n, rfl, hx, by rw [putM, if_pos rfl], rfl⟩
    · intro p hne
      have hn : p ≠ x := fun e1 => hne ⟨.string x, .int .i64 n, clock⟩ (by rw [hpush]; simp) (by rw [e1])
      rw [putM, if_neg hn]
      exact hz p (fun e he => hne e (by rw [hpush]; exact List.mem_append.2 (Or.inl he)))
  · obtain ⟨p, q, k1, _, k3, k4⟩ := hr e0 (List.mem_of_getElem? h2)
    obtain rfl := str_inj (k1.symm.trans h3)
    rw [hk] at k3
    cases k3
end Go.Proofs.Ytigkkelaadbhcaa
