/-
  A map that the call has made, keyed by two strings, with whole numbers in it: read, and counted up ('m[k]++' as the model has it: a look-up, an entry, a store into the entry).
-/
import Derived.Test.YticojnepejboaacGreatChecked
import Derived.WalkKit
import Derived.WalkSpells
import Derived.WalkLawsBesides
import Derived.BigQuiet
import Derived.Deep.QuietTactic
import Derived.Deep.RegionWith
import Derived.Lib.QuietBelow
import Derived.Lib.OthersKept
import Derived.Maps.Own
import Derived.DeepKeys4
import Derived.WideKeyEntry
namespace Go.Proofs.YticojnepejboaacGreat
open Go.RowKit Go.MapKept
open Go.ChangeMaps (setBlock heap_setBlock_same heap_setBlock_other modify_eq_set)
open Go.WideMaps (KeyLaw)

theorem laidOutF : laidOutB Tryz.prog = true := by kernel_rfl
theorem rowFoe : (147 : TypeId) < Tryz.prog.types.size := of_decide_eq_true (by kernel_rfl)
theorem wideFoe : (match Tryz.prog.underlying 147 with | some (.array _ _) | some (.struct _) => true | _ => false) = true := by kernel_rfl
theorem deepFoe : Tryz.prog.keyTypeAt 3 147 = true := by kernel_rfl
theorem keyFoe : Tryz.prog.keyType 147 = true := by kernel_rfl
theorem cellsFoe : Tryz.prog.cellsOf 147 = 2 := by kernel_rfl
theorem cellsStr : Tryz.prog.cellsOf 9 = 1 := by kernel_rfl
set_option maxRecDepth 100000 in
theorem lawFoe : KeyLaw Tryz.prog 147 := deep_law_laid laidOutF (m := 3) (by omega) rowFoe deepFoe wideFoe
theorem zeroN (w : World) : (zeroValue 3).run Tryz.prog w = .ok (.int .i64 0) w := by kernel_rfl

/-- The key of two strings. -/
abbrev kk (x y : ByteArray) : Value := .agg #[.string x, .string y]

theorem kk_inj {x y p q : ByteArray} (h : kk x y = kk p q) : x = p ∧ y = q := by
  simp [kk] at h; exact h

theorem pos_of {k n : Nat} (h : k < n) : ∃ m, n = m + 1 := ⟨n - 1, by omega⟩

theorem keyOf_kk {x y : ByteArray} (hx : x.size ≤ maxLen) (hy : y.size ≤ maxLen) : ∃ l, keyOf Tryz.prog 147 (kk x y) = some l := by
  obtain ⟨m, hm⟩ := pos_of rowFoe
  have hf : (kk x y).formed Tryz.prog 147 = true := by simp [Value.formed, Tryz.underlying147, cellsFoe]
  have hl : ∃ ls, Tryz.prog.keyLits (Tryz.prog.types.size + 1) 147 (kk x y).cells.toList = some ls := by
    rw [hm]
    simp [Value.cells, Program.keyLits, Tryz.underlying147, Tryz.underlying9, cellsFoe, cellsStr, hx, hy]
  obtain ⟨ls, hl⟩ := hl
  unfold keyOf
  simp only [Tryz.underlying147]
  rw [keyFoe, hf, hl]
  exact ⟨_, rfl⟩

/-- Block b of w is a map of such keys that has M of each. -/
def Mp (w : World) (b : Nat) (M : ByteArray → ByteArray → Int) : Prop :=
  ∃ es clock, w.heap[b]? = some (.map es clock) ∧ Stamped es clock ∧
    (∀ e ∈ es.toList, ∃ x y, e.key = kk x y ∧ x.size ≤ maxLen ∧ y.size ≤ maxLen ∧ e.val = .int .i64 (M x y)) ∧
    (∀ x y, (∀ e ∈ es.toList, e.key ≠ kk x y) → M x y = 0)

theorem Mp.made (w : World) : Mp (w.alloc (.map #[] 0)) w.heap.size (fun _ _ => 0) :=
  ⟨#[], 0, (MapKept.heap_alloc w _).1, stamped_empty 0, by simp, fun _ _ _ => rfl⟩

theorem Mp.lt {w : World} {b : Nat} {M : ByteArray → ByteArray → Int} (h : Mp w b M) : b < w.heap.size := by
  obtain ⟨es, clock, hb, _⟩ := h
  exact (Array.getElem?_eq_some_iff.1 hb).1

theorem Mp.of_block {w w' : World} {b : Nat} {M : ByteArray → ByteArray → Int} (h : Mp w b M) (hb : w'.heap[b]? = w.heap[b]?) : Mp w' b M := by
  obtain ⟨es, clock, h1, h2⟩ := h
  exact ⟨es, clock, hb.trans h1, h2⟩

theorem Mp.grown {w w' : World} {b : Nat} {M : ByteArray → ByteArray → Int} {row : Option Nat} (h : Mp w b M) (hg : w.grownBy w' row) (hne : some b ≠ row) : Mp w' b M :=
  h.of_block (hg.block b h.lt hne)

theorem Mp.below {w w' : World} {b : Nat} {B : Nat} {M : ByteArray → ByteArray → Int} (h : Mp w b M) (hb : Below B w w') (hB : b < B) : Mp w' b M :=
  h.of_block (hb.block b hB)

theorem Mp.look {w : World} {b : Nat} {M : ByteArray → ByteArray → Int} (h : Mp w b M) {x y : ByteArray} (hx : x.size ≤ maxLen) (hy : y.size ≤ maxLen) :
    (Instr.lookup 120 (.map (some b)) (kk x y) false).run Tryz.prog w = .ok (.int .i64 (M x y)) w := by
  obtain ⟨es, clock, hb, hs, hr, hz⟩ := h
  obtain ⟨l, hkey⟩ := keyOf_kk hx hy
  rcases lawFoe.find w hkey es.toList (fun e he => by obtain ⟨p, q, h1, h2, h3, _⟩ := hr e he; rw [h1]; exact keyOf_kk h2 h3) with ⟨h1, h2⟩ | ⟨j, e0, h1, h2, h3⟩
  · rw [hz x y h2]
    simp [Instr.lookup, run_underlying Tryz.underlying120, MapKept.run_getObj_map hb, lawFoe.check w _ hkey, h1, zeroN w, Result.andThen]
  · obtain ⟨p, q, k1, _, _, k4⟩ := hr e0 (List.mem_of_getElem? h2)
    obtain ⟨rfl, rfl⟩ := kk_inj (k1.symm.trans h3)
    simp [Instr.lookup, run_underlying Tryz.underlying120, MapKept.run_getObj_map hb, lawFoe.check w _ hkey, h1, k4, Result.andThen]

/-- What a store at a key makes of the numbers. -/
def putN (M : ByteArray → ByteArray → Int) (x y : ByteArray) (n : Int) (p q : ByteArray) : Int := if p = x ∧ q = y then n else M p q

theorem grown_set {w : World} {b : Nat} {es : Array MapEntry} {clock : Nat} {o' : Obj} (hb : w.heap[b]? = some (.map es clock)) : w.grownBy (setBlock w b o') (some b) :=
  ⟨rfl, rfl, rfl, by simp [setBlock], fun i _ hi => heap_setBlock_other hb _ (fun e => hi (by rw [e]))⟩

theorem run_store {w : World} {b : Nat} {es : Array MapEntry} {clock st j : Nat} (v : Value) (hb : w.heap[b]? = some (.map es clock)) (hidx : es.findIdx? (fun e => ((e.born : Nat) : Int) == ((st : Nat) : Int)) = some j) :
    (Instr.entryStore 120 (.map (some b)) (.int .i64 st) v).run Tryz.prog w = .ok () (setBlock w b (.map (es.modify j (fun e => { e with val := v })) clock)) := by
  simp [Instr.entryStore, MapKept.run_getObj_map hb, asInt, asIntOf, hidx, MapKept.run_setObj_map _ hb, Result.andThen, setBlock]

theorem Mp.entry {w : World} {b : Nat} {M : ByteArray → ByteArray → Int} (h : Mp w b M) {x y : ByteArray} (hx : x.size ≤ maxLen) (hy : y.size ≤ maxLen) (n : Int) :
    ∃ (st : Nat) (w1 w3 : World), (Instr.mapEntry 120 (.map (some b)) (kk x y)).run Tryz.prog w = .ok (.tuple #[.int .i64 (M x y), .int .i64 st]) w1 ∧ Mp w1 b M ∧ w.grownBy w1 (some b) ∧
      (Instr.entryStore 120 (.map (some b)) (.int .i64 st) (.int .i64 n)).run Tryz.prog w1 = .ok () w3 ∧ Mp w3 b (putN M x y n) ∧ w.grownBy w3 (some b) := by
  obtain ⟨es, clock, hb, hs, hr, hz⟩ := h
  obtain ⟨l, hkey⟩ := keyOf_kk hx hy
  obtain ⟨s1, s2, s3⟩ := hs
  have hkeys : ∀ e ∈ es.toList, ∃ l, keyOf Tryz.prog 147 e.key = some l := fun e he => by obtain ⟨p, q, h1, h2, h3, _⟩ := hr e he; rw [h1]; exact keyOf_kk h2 h3
  rcases lawFoe.find w hkey es.toList hkeys with ⟨h1, h2⟩ | ⟨j, e0, h1, h2, h3⟩
  · have hM := hz x y h2
    have hpush : ∀ v : Value, (es.push ⟨kk x y, v, clock⟩).toList = es.toList ++ [⟨kk x y, v, clock⟩] := fun v => Array.toList_push
    have hidx : (es.push ⟨kk x y, .int .i64 0, clock⟩).findIdx? (fun e => ((e.born : Nat) : Int) == ((clock : Nat) : Int)) = some es.size := by
      rw [WideElems.findIdx_arr]
      have := WideElems.findIdx_born (l := (es.push ⟨kk x y, .int .i64 0, clock⟩).toList) (j := es.size) (e0 := ⟨kk x y, .int .i64 0, clock⟩) (by
        simp only [Array.toList_push, List.map_append, List.map_cons, List.map_nil]
        refine List.nodup_append.2 ⟨s2, by simp, fun a ha c hc e1 => ?_⟩
        simp only [List.mem_singleton] at hc
        obtain ⟨z, hz, rfl⟩ := List.mem_map.1 ha
        have := s1 z hz
        omega) (by simp)
      exact this
    have hmod : (es.push ⟨kk x y, .int .i64 0, clock⟩).modify es.size (fun e => { e with val := .int .i64 n }) = es.push ⟨kk x y, .int .i64 n, clock⟩ := by
      apply Array.ext'
      rw [Array.toList_modify, Array.toList_push, Array.toList_push, ← Array.length_toList, WideElems.modify_last]
    have hb1 : (setBlock w b (.map (es.push ⟨kk x y, .int .i64 0, clock⟩) (clock + 1))).heap[b]? = some (.map (es.push ⟨kk x y, .int .i64 0, clock⟩) (clock + 1)) := heap_setBlock_same hb _
    refine ⟨clock, setBlock w b (.map (es.push ⟨kk x y, .int .i64 0, clock⟩) (clock + 1)), setBlock (setBlock w b (.map (es.push ⟨kk x y, .int .i64 0, clock⟩) (clock + 1))) b (.map (es.push ⟨kk x y, .int .i64 n, clock⟩) (clock + 1)), ?_, ?_, grown_set hb, ?_, ?_, (grown_set hb).trans (grown_set hb1)⟩
    · simp [Instr.mapEntry, run_underlying Tryz.underlying120, MapKept.run_getObj_map hb, lawFoe.check w false hkey, h1, zeroN w, MapKept.run_setObj_map _ hb, Result.andThen, setBlock, hM, goInt]
    · refine ⟨_, _, hb1, stamped_push ⟨s1, s2, s3⟩ h2, ?_, ?_⟩
      · intro e he
        rw [hpush] at he
        rcases List.mem_append.1 he with he | he
        · exact hr e he
        · simp only [List.mem_singleton] at he
          subst he
          exact ⟨x, y, rfl, hx, hy, by rw [hM]⟩
      · intro p q hne
        exact hz p q (fun e he => hne e (by rw [hpush]; exact List.mem_append.2 (Or.inl he)))
    · rw [run_store _ hb1 hidx, hmod]
    · refine ⟨_, _, heap_setBlock_same hb1 _, stamped_push ⟨s1, s2, s3⟩ h2, ?_, ?_⟩
      · intro e he
        rw [hpush] at he
        rcases List.mem_append.1 he with he | he
        · obtain ⟨p, q, k1, k2, k3, k4⟩ := hr e he
          have hne : ¬ (p = x ∧ q = y) := fun ⟨e1, e2⟩ => h2 e he (by rw [k1, e1, e2])
          exact ⟨p, q, k1, k2, k3, by rw [k4, putN, if_neg hne]⟩
        · simp only [List.mem_singleton] at he
          subst he
          exact ⟨x, y, rfl, hx, hy, by rw [putN, if_pos ⟨rfl, rfl⟩]⟩
      · intro p q hne
        have hn : ¬ (p = x ∧ q = y) := fun ⟨e1, e2⟩ => hne ⟨kk x y, .int .i64 n, clock⟩ (by rw [hpush]; simp) (by rw [e1, e2])
        rw [putN, if_neg hn]
        exact hz p q (fun e he => hne e (by rw [hpush]; exact List.mem_append.2 (Or.inl he)))
  · have hj : es[j]? = some e0 := by simpa using h2
    have hjm : e0 ∈ es.toList := List.mem_of_getElem? h2
    obtain ⟨p0, q0, k1, _, _, k4⟩ := hr e0 hjm
    obtain ⟨rfl, rfl⟩ := kk_inj (k1.symm.trans h3)
    have hsame : es.modify j (fun e => { e with key := kk p0 q0 }) = es := by
      apply Array.ext'
      rw [Array.toList_modify, modify_eq_set _ _ _ _ h2]
      have : ({ e0 with key := kk p0 q0 } : MapEntry) = e0 := by rw [← h3]
      rw [this]
      exact WideElems.set_self _ _ _ h2
    have hidx : es.findIdx? (fun e => ((e.born : Nat) : Int) == ((e0.born : Nat) : Int)) = some j := by
      rw [WideElems.findIdx_arr]
      exact WideElems.findIdx_born s2 h2
    have hlist : (es.modify j (fun e => { e with val := .int .i64 n })).toList = es.toList.set j { e0 with val := .int .i64 n } := by
      rw [Array.toList_modify, modify_eq_set _ _ _ _ h2]
    have hb1 : (setBlock w b (.map es clock)).heap[b]? = some (.map es clock) := heap_setBlock_same hb _
    have hpw := ((stamped_iff es clock).1 ⟨s1, s2, s3⟩).2.2
    refine ⟨e0.born, setBlock w b (.map es clock), setBlock (setBlock w b (.map es clock)) b (.map (es.modify j (fun e => { e with val := .int .i64 n })) clock), ?_, ?_, grown_set hb, ?_, ?_, (grown_set hb).trans (grown_set hb1)⟩
    · simp [Instr.mapEntry, run_underlying Tryz.underlying120, MapKept.run_getObj_map hb, lawFoe.check w false hkey, h1, hj, h3, lawFoe.stays w hkey, hsame, MapKept.run_setObj_map _ hb, Result.andThen, setBlock, k4, goInt]
    · exact ⟨_, _, hb1, ⟨s1, s2, s3⟩, hr, hz⟩
    · exact run_store _ hb1 hidx
    · refine ⟨_, _, heap_setBlock_same hb1 _, stamped_modify ⟨s1, s2, s3⟩ _ _ (fun _ _ => rfl) (fun _ _ _ => rfl), ?_, ?_⟩
      · intro e he
        rw [hlist] at he
        obtain ⟨i, hi, ex⟩ := List.getElem_of_mem he
        rw [List.getElem_set] at ex
        split at ex
        · subst ex
          exact ⟨p0, q0, h3, ‹_›, ‹_›, by rw [putN, if_pos ⟨rfl, rfl⟩]⟩
        · rename_i hne
          have hi' : i < es.toList.length := by simpa using hi
          have hem : e ∈ es.toList := ex ▸ List.getElem_mem hi'
          obtain ⟨p, q, m1, m2, m3, m4⟩ := hr e hem
          have hk : e.key ≠ e0.key := by
            have hjl := (List.getElem?_eq_some_iff.1 h2)
            obtain ⟨hjl, hje⟩ := hjl
            rw [List.pairwise_iff_getElem] at hpw
            rcases Nat.lt_or_gt_of_ne hne with hlt | hlt
            · have := hpw j i hjl hi' hlt
              rw [hje, ex] at this
              exact this.symm
            · have := hpw i j hi' hjl hlt
              rw [hje, ex] at this
              exact this
          have hn : ¬ (p = p0 ∧ q = q0) := fun ⟨e1, e2⟩ => hk (by rw [m1, h3, e1, e2])
          exact ⟨p, q, m1, m2, m3, by rw [m4, putN, if_neg hn]⟩
      · intro p q hne
        have hjl : j < es.toList.length := (List.getElem?_eq_some_iff.1 h2).1
        have hn : ¬ (p = p0 ∧ q = q0) := fun ⟨e1, e2⟩ => hne { e0 with val := .int .i64 n } (by rw [hlist]; exact List.mem_iff_getElem.2 ⟨j, by simpa using hjl, by simp⟩) (by rw [e1, e2]; exact h3)
        rw [putN, if_neg hn]
        refine hz p q (fun e he hk => ?_)
        obtain ⟨i, hi, ex⟩ := List.getElem_of_mem he
        by_cases hij : i = j
        · subst hij
          have : e = e0 := by
            have := List.getElem?_eq_getElem hi
            rw [h2] at this
            rw [← ex]; exact (Option.some.inj this).symm
          subst this
          exact hn (kk_inj (hk.symm.trans h3))
        · exact hne e (by rw [hlist]; exact List.mem_iff_getElem.2 ⟨i, by simpa using hi, by rw [List.getElem_set, if_neg (fun e => hij e.symm)]; exact ex⟩) hk

end Go.Proofs.YticojnepejboaacGreat
