/-
  Several texts in one.
-/
import Derived.Test.YtffmfomonmhkcaaGreatKa
import Derived.Test.YtffmfomonmhkcaaGreatGqk
import Derived.Test.YtffmfomonmhkcaaGreatM4
import Derived.Test.YtffmfomonmhkcaaGreatYd
/-
  Contracts of the model's small functions over places and valves: what a place can hold, what is behind a valve, where a valve stands, whether it lies between two places.
-/
namespace Go.Proofs.YtffmfomonmhkcaaGreat
open Go.RowKit

theorem val_yes {n : Nat} {f : Nat → ByteArray × ByteArray × ByteArray × ByteArray} {x : ByteArray} {k : Nat} (hk : k < n) (h : eqB (f k).1 x = true) (hno : ∀ j, j < k → eqB (f j).1 x = false) : valI n f x = k := by
  have : (List.range n).find? (fun i => eqB (f i).1 x) = some k := by
    rw [List.find?_range_eq_some]
    refine ⟨h, by simpa using hk, fun j hj => by simp [hno j hj]⟩
  simp only [valI, this]
theorem val_no {n : Nat} {f : Nat → ByteArray × ByteArray × ByteArray × ByteArray} {x : ByteArray} (h : ∀ j, j < n → eqB (f j).1 x = false) : valI n f x = -1 := by
  have : (List.range n).find? (fun i => eqB (f i).1 x) = none := by
    rw [List.find?_eq_none]
    intro i hi
    simp [h i (List.mem_range.1 hi)]
  simp only [valI, this]

set_option maxRecDepth 100000 in
set_option maxHeartbeats 1000000 in
theorem valS_any (B : Nat) (v0 v1 v2 v3 : Value) (n : Nat) (f : Nat → ByteArray × ByteArray × ByteArray × ByteArray) (x : ByteArray) (w : World) (h : Lst B w v3 n 4 (cV f)) (hB : B ≤ w.heap.size) :
    Calls Tryz.prog 82 #[.agg #[v0, v1, v2, v3], .string x] w fun e w' => e = .returned (.int .i64 (valI n f x)) ∧ Below w.heap.size w w' := by
  obtain ⟨oa, cap, rfl, hn, hc⟩ := h
  unfold maxLen at hn
  have HC : Hid _ := hc
  clear hc
  go_enter Tryz.func82, Tryz.ntmps82
  go_wp2
  go_loop [5] (fun i => ∃ k : Nat, k ≤ n ∧ i = .int .i64 k ∧ Hid (∀ j, j < k → eqB (f j).1 x = false)) (fun i => n - (intOf i).toNat)
  case atStart => exact ⟨0, Nat.zero_le _, rfl, fun _ h => by omega⟩
  case round =>
    obtain ⟨k, hk, rfl, hno⟩ := hrel
    by_cases hlt : k < n
    · obtain ⟨b, off, rfl, hbB, hcell⟩ := HC.out k hlt
      have hcell := cell_past (hcell 0 (by omega)) (by omega) (.cells #[v0, v1, v2, .slice (some ⟨b, off, none⟩) n cap] 36)
      rw [Nat.add_zero] at hcell
      simp only [cV, if_true] at hcell
      go_wp2
      · have hy : ((f k).1.toList == x.toList) = true := by assumption
        rw [val_yes hlt hy hno.out]
        go_ret
        exact ⟨rfl, (Below.refl _ _).alloc (Nat.le_refl _) _⟩
      · have hy : ((f k).1.toList == x.toList) = false := by assumption
        go_round
        case rel => exact ⟨k + 1, by omega, by go_num, fun j hj => by
          by_cases e : j = k
          · subst e; exact hy
          · exact hno.out j (by omega)⟩
        case measure => simp [intOf]; omega
    · go_wp2
      go_ret
      have hkn : k = n := by omega
      subst hkn
      rw [val_no hno.out]
      exact ⟨rfl, (Below.refl _ _).alloc (Nat.le_refl _) _⟩

end Go.Proofs.YtffmfomonmhkcaaGreat

/-
  What of a want is asked of a station, as data.
-/
namespace Go.Proofs.YtffmfomonmhkcaaGreat
open Go.RowKit

theorem box_stable {w w' : World} {g : Nat} {c : Array Value} {t : TypeId} (hb : Below w.heap.size w w') (h : w.heap[g]? = some (.cells c t (0, 0))) : w'.heap[g]? = some (.cells c t (0, 0)) := (hb.block g (Array.getElem?_eq_some_iff.1 h).1).trans h
theorem row_stable {w w' : World} {base e size k : Nat} {v : Value} {xs : List Value} (hb : Below w.heap.size w w') (h : w.ownsRow base e size v k xs) : w'.ownsRow base e size v k xs := ownsRow_kept h (fun g hg => hb.block g (World.ownsRow.lt h g hg).2)
/-- A row's block and a box of another type are two. -/
theorem row_ne {w : World} {base e size k g : Nat} {v : Value} {xs : List Value} {c : Array Value} {t : TypeId} (h : w.ownsRow base e size v k xs) (hg : w.heap[g]? = some (.cells c t (0, 0))) (ht : ¬ e = t) : v.ownBlock ≠ some g := fun eq => by
  rcases h.2 with ⟨rfl, _⟩ | ⟨g', cap, cur, rfl, _, hgg, _⟩
  · cases eq
  · cases eq
    rw [hg] at hgg
    injection hgg with h1
    injection h1 with _ h2
    exact ht h2.symm
theorem place_ix {n : Nat} {f : Nat → ByteArray × Int × ByteArray} {x : ByteArray} (h : 0 ≤ placeI n f x) : ∃ k, k < n ∧ placeI n f x = (k : Int) ∧ (placeI n f x).toNat = k ∧ eqB (f k).1 x = true := by
  unfold placeI at h ⊢
  cases e : (List.range n).find? (fun i => eqB (f i).1 x) with
  | none => rw [e] at h; exact absurd h (by decide)
  | some k => exact ⟨k, List.mem_range.1 (List.mem_of_find?_eq_some e), rfl, rfl, List.find?_some (p := fun i => eqB (f i).1 x) e⟩
theorem val_ix {n : Nat} {f : Nat → ByteArray × ByteArray × ByteArray × ByteArray} {x : ByteArray} (h : 0 ≤ valI n f x) : ∃ k, k < n ∧ valI n f x = (k : Int) ∧ (valI n f x).toNat = k ∧ eqB (f k).1 x = true := by
  unfold valI at h ⊢
  cases e : (List.range n).find? (fun i => eqB (f i).1 x) with
  | none => rw [e] at h; exact absurd h (by decide)
  | some k => exact ⟨k, List.mem_range.1 (List.mem_of_find?_eq_some e), rfl, rfl, List.find?_some (p := fun i => eqB (f i).1 x) e⟩
open Go.Sort in
theorem val_q (B : Nat) (v0 v1 v2 v3 : Value) (n : Nat) (f : Nat → ByteArray × ByteArray × ByteArray × ByteArray) (x : ByteArray) (wr : World) (h : Lst B wr v3 n 4 (cV f)) (hB : B ≤ wr.heap.size) (d : Nat) (os : Array Obj) : Calls Tryz.prog 82 #[.agg #[v0, v1, v2, v3], .string x] (grow (redrawn wr d) os) fun e w'' => e = .returned (.int .i64 (valI n f x)) ∧ ∃ p : Regrown, w'' = grow (redrawn wr p.d) p.os :=
  Calls.regrown_of (valS_any B v0 v1 v2 v3 n f x _ (h.kept (below_regrown wr d os) hB) (Nat.le_trans hB (below_regrown wr d os).size))
/-- The station of a place, of a valve. -/
def stP (D : PD) (x : ByteArray) : ByteArray := (D.fp (placeI D.np D.fp x).toNat).2.2
def stV (D : PD) (x : ByteArray) : ByteArray := (D.fv (valI D.nv D.fv x).toNat).2.2.2
/-- What of a list of uses, of valves, is a station's. -/
def usL (D : PD) (st : ByteArray) (l : List DClaimUse) : List DClaimUse := l.filter fun u => eqB (stP D u.1) st
def opL (D : PD) (st : ByteArray) (l : List ByteArray) : List ByteArray := l.filter fun v => eqB (stV D v) st
theorem usL_yes {D : PD} {st : ByteArray} {l : List DClaimUse} {y : DClaimUse} (h : eqB (stP D y.1) st = true) : usL D st (l ++ [y]) = usL D st l ++ [y] := by simp [usL, List.filter_append, h]
theorem usL_no {D : PD} {st : ByteArray} {l : List DClaimUse} {y : DClaimUse} (h : eqB (stP D y.1) st = false) : usL D st (l ++ [y]) = usL D st l := by simp [usL, List.filter_append, h]
theorem usL_len (D : PD) (st : ByteArray) (l : List DClaimUse) : (usL D st l).length ≤ l.length := List.length_filter_le _ _
theorem opL_yes {D : PD} {st : ByteArray} {l : List ByteArray} {y : ByteArray} (h : eqB (stV D y) st = true) : opL D st (l ++ [y]) = opL D st l ++ [y] := by simp [opL, List.filter_append, h]
theorem opL_no {D : PD} {st : ByteArray} {l : List ByteArray} {y : ByteArray} (h : eqB (stV D y) st = false) : opL D st (l ++ [y]) = opL D st l := by simp [opL, List.filter_append, h]
theorem opL_len (D : PD) (st : ByteArray) (l : List ByteArray) : (opL D st l).length ≤ l.length := List.length_filter_le _ _
/-- What of a want is asked of a station. -/
def ofD (D : PD) (st : ByteArray) (a : DClaimWant) : DClaimWant := (a.1, a.2.1, a.2.2.1, usL D st a.2.2.2.1, opL D st a.2.2.2.2.1, opL D st a.2.2.2.2.2)
/-- All that a want names stands in the plant. -/
structure WIn (D : PD) (a : DClaimWant) : Prop where
  u : ∀ x ∈ a.2.2.2.1, 0 ≤ placeI D.np D.fp x.1
  o : ∀ x ∈ a.2.2.2.2.1, 0 ≤ valI D.nv D.fv x
  s : ∀ x ∈ a.2.2.2.2.2, 0 ≤ valI D.nv D.fv x

end Go.Proofs.YtffmfomonmhkcaaGreat

/-
  Lists of names that ascend: what an insertion gives, and why such a list is known by what it holds. No program is named here.
-/
namespace Go.Proofs.YtffmfomonmhkcaaGreat
open Go.RowKit

/-- Names that ascend, as a list. -/
def AscL (l : List ByteArray) : Prop := l.Pairwise fun a b => ltB a b = true
theorem AscL.nodup {l : List ByteArray} (h : AscL l) : l.Nodup := by
  refine h.imp fun {a b} hab e => ?_
  rw [e, ltB_irrefl] at hab; cases hab
theorem ltB_tri {a b : ByteArray} (h1 : ltB a b = false) (h2 : eqB a b = false) : ltB b a = true := by
  rw [ltB_iff]
  have n1 : ¬ a.toList < b.toList := fun h => by rw [(ltB_iff _ _).2 h] at h1; cases h1
  have n2 : a.toList ≠ b.toList := fun h => by
    have : eqB a b = true := by unfold eqB; rw [h]; simp
    rw [this] at h2; cases h2
  rcases List.le_iff_lt_or_eq.1 (List.not_lt.1 n1) with h | h
  · exact h
  · exact absurd h.symm n2
theorem ins_mem : ∀ (l : List ByteArray) (x y : ByteArray), y ∈ insR l x ↔ y ∈ l ∨ y = x
  | [], x, y => by simp [insR]
  | z :: l, x, y => by
    have ih := ins_mem l x y
    unfold insR
    cases h1 : ltB z x
    · cases h2 : eqB z x
      · simp only [cond_false, List.mem_cons]
        constructor
        · rintro (h | h | h)
          · exact .inr h
          · exact .inl (.inl h)
          · exact .inl (.inr h)
        · rintro ((h | h) | h)
          · exact .inr (.inl h)
          · exact .inr (.inr h)
          · exact .inl h
      · simp only [cond_false, cond_true, List.mem_cons]
        have := (eqB_iff _ _).1 h2
        constructor
        · exact .inl
        · rintro (h | h)
          · exact h
          · exact .inl (by rw [h, this])
    · simp only [cond_true, List.mem_cons, ih, or_assoc]
theorem ins_asc : ∀ (l : List ByteArray) (x : ByteArray), AscL l → AscL (insR l x)
  | [], x, _ => List.pairwise_singleton _ _
  | z :: l, x, h => by
    obtain ⟨hz, hl⟩ := List.pairwise_cons.1 h
    have ih := ins_asc l x hl
    unfold insR
    cases h1 : ltB z x
    · cases h2 : eqB z x
      · simp only [cond_false]
        have hxz := ltB_tri h1 h2
        refine List.pairwise_cons.2 ⟨fun y hy => ?_, h⟩
        rcases List.mem_cons.1 hy with rfl | hy
        · exact hxz
        · exact ltB_trans hxz (hz y hy)
      · exact h
    · simp only [cond_true]
      refine List.pairwise_cons.2 ⟨fun y hy => ?_, ih⟩
      rcases (ins_mem _ _ _).1 hy with hy | rfl
      · exact hz y hy
      · exact h1
theorem asc_unique : ∀ (l m : List ByteArray), AscL l → AscL m → (∀ y, y ∈ l ↔ y ∈ m) → l = m
  | [], [], _, _, _ => rfl
  | [], b :: m, _, _, h => absurd ((h b).2 List.mem_cons_self) (by simp)
  | a :: l, [], _, _, h => absurd ((h a).1 List.mem_cons_self) (by simp)
  | a :: l, b :: m, hl, hm, h => by
    obtain ⟨ha, hl'⟩ := List.pairwise_cons.1 hl
    obtain ⟨hb, hm'⟩ := List.pairwise_cons.1 hm
    have e : a = b := by
      rcases List.mem_cons.1 ((h a).1 List.mem_cons_self) with e | h1
      · exact e
      · rcases List.mem_cons.1 ((h b).2 List.mem_cons_self) with e | h2
        · exact e.symm
        · have := ltB_asymm (hb a h1)
          rw [ha b h2] at this; cases this
    subst e
    have na : a ∉ l := (List.nodup_cons.1 (AscL.nodup hl)).1
    have nb : a ∉ m := (List.nodup_cons.1 (AscL.nodup hm)).1
    rw [asc_unique l m hl' hm' (fun y => ?_)]
    have := h y
    simp only [List.mem_cons] at this
    constructor
    · intro hy
      rcases this.1 (.inr hy) with e | h'
      · rw [e] at hy; exact absurd hy na
      · exact h'
    · intro hy
      rcases this.2 (.inr hy) with e | h'
      · rw [e] at hy; exact absurd hy nb
      · exact h'

end Go.Proofs.YtffmfomonmhkcaaGreat
