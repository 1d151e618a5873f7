/-
  Several texts in one.
-/
import Derived.Test.YtndacfockllehaaGreatKa
import Derived.Test.YtndacfockllehaaGreatGqk
import Derived.Test.YtndacfockllehaaGreatM3
import Derived.Test.YtndacfockllehaaGreatM2
import Derived.Test.YtndacfockllehaaGreatM20
import Derived.Test.YtndacfockllehaaGreatChecked
import Derived.WalkKit
import Derived.WalkSpells
import Derived.WalkLawsBesides
import Derived.BigQuiet
import Derived.Lib.Bytealg
import Derived.Lib.UnsafeStr
import Derived.Lib.BufferWrite
import Derived.Laws.MakeOwn
import Derived.Laws.Externs
/-
  Contracts of the model's small functions over places and valves: what a place can hold, what is behind a valve.
-/
namespace Go.Proofs.YtndacfockllehaaGreat
open Go.RowKit

theorem place_cases (n : Nat) (f : Nat → ByteArray × Int × ByteArray) (x : ByteArray) : placeI n f x = -1 ∨ ∃ k : Nat, k < n ∧ placeI n f x = k := by
  unfold placeI
  cases hf : (List.range n).find? (fun i => eqB (f i).1 x) with
  | none => exact .inl rfl
  | some k => exact .inr ⟨k, List.mem_range.1 (List.mem_of_find?_eq_some hf), rfl⟩

theorem val_cases (n : Nat) (f : Nat → ByteArray × ByteArray × ByteArray × ByteArray) (x : ByteArray) : valI n f x = -1 ∨ ∃ k : Nat, k < n ∧ valI n f x = k := by
  unfold valI
  cases hf : (List.range n).find? (fun i => eqB (f i).1 x) with
  | none => exact .inl rfl
  | some k => exact .inr ⟨k, List.mem_range.1 (List.mem_of_find?_eq_some hf), rfl⟩

set_option maxRecDepth 100000 in
set_option maxHeartbeats 1000000 in
theorem capS_any (B : Nat) (v0 v1 v2 v3 : Value) (n : Nat) (f : Nat → ByteArray × Int × ByteArray) (x : ByteArray) (w : World) (h : Lst B w v2 n 3 (cP f)) (hB : B ≤ w.heap.size) :
    Calls Tryz.prog 73 #[.agg #[v0, v1, v2, v3], .string x] w fun e w' => e = .returned (.int .i64 (capI n f x)) ∧ Below w.heap.size w w' := by
  have H : Hid (∀ w', Below w.heap.size w w' → Lst B w' v2 n 3 (cP f)) := fun w' hb => h.kept hb hB
  have k0 : Hid (Below (w.heap.size + 1) (w.alloc (.cells #[v0, v1, v2, v3] 40)) (w.alloc (.cells #[v0, v1, v2, v3] 40))) := Below.refl _ _
  rcases place_cases n f x with hk | ⟨k, hkn, hk⟩
  · have hc : capI n f x = -1 := by unfold capI; rw [hk]; rfl
    rw [hc]
    clear h
    go_enter Tryz.func73, Tryz.ntmps73
    go_wp2_with fail
    refine (place_any B v0 v1 v2 v3 n f x _ (H.out _ (below_end k0.out)) (by simp; omega)).mono ?_; rintro e w1 ⟨rfl, hb1⟩
    rw [hk]
    go_wp2_with fail
    go_ret
    exact ⟨rfl, below_end (below_of k0.out hb1)⟩
  · have hc : capI n f x = (f k).2.1 := by unfold capI; rw [hk, if_neg (by omega)]; rfl
    rw [hc]
    obtain ⟨oa, cap, rfl, hm, hcl⟩ := h
    unfold maxLen at hm
    obtain ⟨b, off, rfl, hbB, hcell⟩ := hcl k hkn
    clear hcl
    go_enter Tryz.func73, Tryz.ntmps73
    go_wp2_with fail
    refine (place_any B v0 v1 _ v3 n f x _ (H.out _ (below_end k0.out)) (by simp; omega)).mono ?_; rintro e w1 ⟨rfl, hb1⟩
    rw [hk]
    clear hk hc
    have k1 : Hid (Below (w.heap.size + 1) (w.alloc (.cells #[v0, v1, .slice (some ⟨b, off, none⟩) n cap, v3] 40)) w1) := below_of k0.out hb1
    have a2 := box_in k1.out 2 _ rfl
    simp only [List.getElem_toArray, List.getElem_cons_zero, List.getElem_cons_succ] at a2
    have e1 : w1.cell? ⟨b, off + k * 3 + 1, none⟩ = some (.int .i64 (f k).2.1) := old_in k1.out (by omega) (by simpa [cP] using hcell 1 (by omega))
    clear hcell
    go_wp2_with fail
    go_ret
    exact ⟨rfl, below_end k1.out⟩

set_option maxRecDepth 100000 in
set_option maxHeartbeats 1000000 in
theorem othS_any (n a b s x : ByteArray) (w : World) :
    Calls Tryz.prog 108 #[.agg #[.string n, .string a, .string b, .string s], .string x] w fun e w' => e = .returned (.string (behS (n, a, b, s) x)) ∧ Below w.heap.size w w' := by
  unfold behS
  rw [eqB_comm x a, eqB_comm x b]
  unfold eqB
  cases h1 : (a.toList == x.toList)
  · cases h2 : (b.toList == x.toList)
    · go_enter Tryz.func108, Tryz.ntmps108
      go_wp2
      go_ret
      exact ⟨rfl, (Below.refl _ _).alloc (Nat.le_refl _) _⟩
    · go_enter Tryz.func108, Tryz.ntmps108
      go_wp2
      go_ret
      exact ⟨rfl, (Below.refl _ _).alloc (Nat.le_refl _) _⟩
  · go_enter Tryz.func108, Tryz.ntmps108
    go_wp2
    go_ret
    exact ⟨rfl, (Below.refl _ _).alloc (Nat.le_refl _) _⟩

end Go.Proofs.YtndacfockllehaaGreat

/-
  Contracts of the model's small functions over places and valves: what a place can hold, what is behind a valve, where a valve stands, whether it lies between two places.
-/
namespace Go.Proofs.YtndacfockllehaaGreat
open Go.RowKit

theorem val_yes {n : Nat} {f : Nat → ByteArray × ByteArray × ByteArray × ByteArray} {x : ByteArray} {k : Nat} (hk : k < n) (h : eqB (f k).1 x = true) (hno : ∀ j, j < k → eqB (f j).1 x = false) : valI n f x = k := by
  have : (List.range n).find? (fun i => eqB (f i).1 x) = some k := by
    rw [List.find?_range_eq_some]
    refine ⟨h, by simpa using hk, fun j hj => by simp [hno j hj]⟩
  simp only [valI, this]
theorem val_no {n : Nat} {f : Nat → ByteArray × ByteArray × ByteArray × ByteArray} {x : ByteArray} (h : ∀ j, j < n → eqB (f j).1 x = false) : valI n f x = -1 := by
  have : (List.range n).find? (fun i => eqB (f i).1 x) = none := by
    rw [List.find?_eq_none]
    intro i hi
    simp [h i (List.mem_range.1 hi)]
  simp only [valI, this]

set_option maxRecDepth 100000 in
set_option maxHeartbeats 1000000 in
theorem valS_any (B : Nat) (v0 v1 v2 v3 : Value) (n : Nat) (f : Nat → ByteArray × ByteArray × ByteArray × ByteArray) (x : ByteArray) (w : World) (h : Lst B w v3 n 4 (cV f)) (hB : B ≤ w.heap.size) :
    Calls Tryz.prog 107 #[.agg #[v0, v1, v2, v3], .string x] w fun e w' => e = .returned (.int .i64 (valI n f x)) ∧ Below w.heap.size w w' := by
  obtain ⟨oa, cap, rfl, hn, hc⟩ := h
  unfold maxLen at hn
  have HC : Hid _ := hc
  clear hc
  go_enter Tryz.func107, Tryz.ntmps107
  go_wp2
  go_loop [5] (fun i => ∃ k : Nat, k ≤ n ∧ i = .int .i64 k ∧ Hid (∀ j, j < k → eqB (f j).1 x = false)) (fun i => n - (intOf i).toNat)
  case atStart => exact ⟨0, Nat.zero_le _, rfl, fun _ h => by omega⟩
  case round =>
    obtain ⟨k, hk, rfl, hno⟩ := hrel
    by_cases hlt : k < n
    · obtain ⟨b, off, rfl, hbB, hcell⟩ := HC.out k hlt
      have hcell := cell_past (hcell 0 (by omega)) (by omega) (.cells #[v0, v1, v2, .slice (some ⟨b, off, none⟩) n cap] 40)
      rw [Nat.add_zero] at hcell
      simp only [cV, if_true] at hcell
      go_wp2
      · have hy : ((f k).1.toList == x.toList) = true := by assumption
        rw [val_yes hlt hy hno.out]
        go_ret
        exact ⟨rfl, (Below.refl _ _).alloc (Nat.le_refl _) _⟩
      · have hy : ((f k).1.toList == x.toList) = false := by assumption
        go_round
        case rel => exact ⟨k + 1, by omega, by go_num, fun j hj => by
          by_cases e : j = k
          · subst e; exact hy
          · exact hno.out j (by omega)⟩
        case measure => simp [intOf]; omega
    · go_wp2
      go_ret
      have hkn : k = n := by omega
      subst hkn
      rw [val_no hno.out]
      exact ⟨rfl, (Below.refl _ _).alloc (Nat.le_refl _) _⟩

set_option maxRecDepth 100000 in
set_option maxHeartbeats 1000000 in
theorem joinS_any (B : Nat) (v0 v1 v2 v3 : Value) (n : Nat) (f : Nat → ByteArray × ByteArray × ByteArray × ByteArray) (v a b : ByteArray) (w : World) (h : Lst B w v3 n 4 (cV f)) (hB : B ≤ w.heap.size) :
    Calls Tryz.prog 75 #[.agg #[v0, v1, v2, v3], .string v, .string a, .string b] w fun e w' => e = .returned (.bool (joinB n f v a b)) ∧ Below w.heap.size w w' := by
  have H : Hid (∀ w', Below w.heap.size w w' → Lst B w' v3 n 4 (cV f)) := fun w' hb => h.kept hb hB
  have k0 : Hid (Below (w.heap.size + 1) (w.alloc (.cells #[v0, v1, v2, v3] 40)) (w.alloc (.cells #[v0, v1, v2, v3] 40))) := Below.refl _ _
  rcases val_cases n f v with hk | ⟨k, hkn, hk⟩
  · have hc : joinB n f v a b = false := by unfold joinB; rw [hk]; rfl
    rw [hc]
    clear h
    go_enter Tryz.func75, Tryz.ntmps75
    go_wp2_with fail
    refine (valS_any B v0 v1 v2 v3 n f v _ (H.out _ (below_end k0.out)) (by simp; omega)).mono ?_; rintro e w1 ⟨rfl, hb1⟩
    rw [hk]
    go_wp2_with fail
    go_ret
    exact ⟨rfl, below_end (below_of k0.out hb1)⟩
  · have hc : joinB n f v a b = eqB (behS (f k) a) b := by unfold joinB; rw [hk]; simp
    rw [hc]
    obtain ⟨oa, cap, rfl, hm, hcl⟩ := h
    unfold maxLen at hm
    obtain ⟨bk, off, rfl, hbB, hcell⟩ := hcl k hkn
    clear hcl
    go_enter Tryz.func75, Tryz.ntmps75
    go_wp2_with fail
    refine (valS_any B v0 v1 v2 _ n f v _ (H.out _ (below_end k0.out)) (by simp; omega)).mono ?_; rintro e w1 ⟨rfl, hb1⟩
    rw [hk]
    clear hk hc
    have k1 : Hid (Below (w.heap.size + 1) (w.alloc (.cells #[v0, v1, v2, .slice (some ⟨bk, off, none⟩) n cap] 40)) w1) := below_of k0.out hb1
    have a3 := box_in k1.out 3 _ rfl
    simp only [List.getElem_toArray, List.getElem_cons_zero, List.getElem_cons_succ] at a3
    have e0 : w1.cell? ⟨bk, off + k * 4, none⟩ = some (.string (f k).1) := old_in k1.out (by omega) (by simpa [cV] using hcell 0 (by omega))
    have e1 : w1.cell? ⟨bk, off + k * 4 + 1, none⟩ = some (.string (f k).2.1) := old_in k1.out (by omega) (by simpa [cV] using hcell 1 (by omega))
    have e2 : w1.cell? ⟨bk, off + k * 4 + 2, none⟩ = some (.string (f k).2.2.1) := old_in k1.out (by omega) (by simpa [cV] using hcell 2 (by omega))
    have e3 : w1.cell? ⟨bk, off + k * 4 + 3, none⟩ = some (.string (f k).2.2.2) := old_in k1.out (by omega) (by simpa [cV] using hcell 3 (by omega))
    clear hcell
    go_wp2_with fail
    refine (othS_any _ _ _ _ _ _).mono ?_; rintro e w2 ⟨rfl, hb2⟩
    go_wp2_with fail
    go_ret
    exact ⟨rfl, below_end (below_of k1.out hb2)⟩

end Go.Proofs.YtndacfockllehaaGreat

/-
  What of a want is asked of a station, as data.
-/
namespace Go.Proofs.YtndacfockllehaaGreat
open Go.RowKit

theorem box_stable {w w' : World} {g : Nat} {c : Array Value} {t : TypeId} (hb : Below w.heap.size w w') (h : w.heap[g]? = some (.cells c t (0, 0))) : w'.heap[g]? = some (.cells c t (0, 0)) := (hb.block g (Array.getElem?_eq_some_iff.1 h).1).trans h
theorem row_stable {w w' : World} {base e size k : Nat} {v : Value} {xs : List Value} (hb : Below w.heap.size w w') (h : w.ownsRow base e size v k xs) : w'.ownsRow base e size v k xs := ownsRow_kept h (fun g hg => hb.block g (World.ownsRow.lt h g hg).2)
/-- A row's block and a box of another type are two. -/
theorem row_ne {w : World} {base e size k g : Nat} {v : Value} {xs : List Value} {c : Array Value} {t : TypeId} (h : w.ownsRow base e size v k xs) (hg : w.heap[g]? = some (.cells c t (0, 0))) (ht : ¬ e = t) : v.ownBlock ≠ some g := fun eq => by
  rcases h.2 with ⟨rfl, _⟩ | ⟨g', cap, cur, rfl, _, hgg, _⟩
  · cases eq
  · cases eq
    rw [hg] at hgg
    injection hgg with h1
    injection h1 with _ h2
    exact ht h2.symm
theorem place_ix {n : Nat} {f : Nat → ByteArray × Int × ByteArray} {x : ByteArray} (h : 0 ≤ placeI n f x) : ∃ k, k < n ∧ placeI n f x = (k : Int) ∧ (placeI n f x).toNat = k ∧ eqB (f k).1 x = true := by
  unfold placeI at h ⊢
  cases e : (List.range n).find? (fun i => eqB (f i).1 x) with
  | none => rw [e] at h; exact absurd h (by decide)
  | some k => exact ⟨k, List.mem_range.1 (List.mem_of_find?_eq_some e), rfl, rfl, List.find?_some (p := fun i => eqB (f i).1 x) e⟩
theorem val_ix {n : Nat} {f : Nat → ByteArray × ByteArray × ByteArray × ByteArray} {x : ByteArray} (h : 0 ≤ valI n f x) : ∃ k, k < n ∧ valI n f x = (k : Int) ∧ (valI n f x).toNat = k ∧ eqB (f k).1 x = true := by
  unfold valI at h ⊢
  cases e : (List.range n).find? (fun i => eqB (f i).1 x) with
  | none => rw [e] at h; exact absurd h (by decide)
  | some k => exact ⟨k, List.mem_range.1 (List.mem_of_find?_eq_some e), rfl, rfl, List.find?_some (p := fun i => eqB (f i).1 x) e⟩
open Go.Sort in
theorem val_q (B : Nat) (v0 v1 v2 v3 : Value) (n : Nat) (f : Nat → ByteArray × ByteArray × ByteArray × ByteArray) (x : ByteArray) (wr : World) (h : Lst B wr v3 n 4 (cV f)) (hB : B ≤ wr.heap.size) (d : Nat) (os : Array Obj) : Calls Tryz.prog 107 #[.agg #[v0, v1, v2, v3], .string x] (grow (redrawn wr d) os) fun e w'' => e = .returned (.int .i64 (valI n f x)) ∧ ∃ p : Regrown, w'' = grow (redrawn wr p.d) p.os :=
  Calls.regrown_of (valS_any B v0 v1 v2 v3 n f x _ (h.kept (below_regrown wr d os) hB) (Nat.le_trans hB (below_regrown wr d os).size))
/-- The station of a place, of a valve. -/
def stP (D : PD) (x : ByteArray) : ByteArray := (D.fp (placeI D.np D.fp x).toNat).2.2
def stV (D : PD) (x : ByteArray) : ByteArray := (D.fv (valI D.nv D.fv x).toNat).2.2.2
/-- What of a list of uses, of valves, is a station's. -/
def usL (D : PD) (st : ByteArray) (l : List DClaimUse) : List DClaimUse := l.filter fun u => eqB (stP D u.1) st
def opL (D : PD) (st : ByteArray) (l : List ByteArray) : List ByteArray := l.filter fun v => eqB (stV D v) st
theorem usL_yes {D : PD} {st : ByteArray} {l : List DClaimUse} {y : DClaimUse} (h : eqB (stP D y.1) st = true) : usL D st (l ++ [y]) = usL D st l ++ [y] := by simp [usL, List.filter_append, h]
theorem usL_no {D : PD} {st : ByteArray} {l : List DClaimUse} {y : DClaimUse} (h : eqB (stP D y.1) st = false) : usL D st (l ++ [y]) = usL D st l := by simp [usL, List.filter_append, h]
theorem usL_len (D : PD) (st : ByteArray) (l : List DClaimUse) : (usL D st l).length ≤ l.length := List.length_filter_le _ _
theorem opL_yes {D : PD} {st : ByteArray} {l : List ByteArray} {y : ByteArray} (h : eqB (stV D y) st = true) : opL D st (l ++ [y]) = opL D st l ++ [y] := by simp [opL, List.filter_append, h]
theorem opL_no {D : PD} {st : ByteArray} {l : List ByteArray} {y : ByteArray} (h : eqB (stV D y) st = false) : opL D st (l ++ [y]) = opL D st l := by simp [opL, List.filter_append, h]
theorem opL_len (D : PD) (st : ByteArray) (l : List ByteArray) : (opL D st l).length ≤ l.length := List.length_filter_le _ _
/-- What of a want is asked of a station. -/
def ofD (D : PD) (st : ByteArray) (a : DClaimWant) : DClaimWant := (a.1, a.2.1, a.2.2.1, usL D st a.2.2.2.1, opL D st a.2.2.2.2.1, opL D st a.2.2.2.2.2)
/-- All that a want names stands in the plant. -/
structure WIn (D : PD) (a : DClaimWant) : Prop where
  u : ∀ x ∈ a.2.2.2.1, 0 ≤ placeI D.np D.fp x.1
  o : ∀ x ∈ a.2.2.2.2.1, 0 ≤ valI D.nv D.fv x
  s : ∀ x ∈ a.2.2.2.2.2, 0 ≤ valI D.nv D.fv x

end Go.Proofs.YtndacfockllehaaGreat

/-
  A want that is built in a box: three lists in its cells 3, 4 and 5, each in memory of its own; what a step of building leaves as it was.
-/
namespace Go.Proofs.YtndacfockllehaaGreat
open Go.RowKit

theorem rows_neB {w : World} {base e size k base' e' size' k' : Nat} {v v' : Value} {xs xs' : List Value} (h : w.ownsRow base e size v k xs) (h' : w.ownsRow base' e' size' v' k' xs') (ht : ¬ e = e') (g : Nat) (hg : v.ownBlock = some g) : v'.ownBlock ≠ some g := fun eq => by
  obtain ⟨c1, h1⟩ := row_cells h hg
  obtain ⟨c2, h2⟩ := row_cells h' eq
  rw [h1] at h2
  cases h2
  exact ht rfl

/-- A box's cells: the three lists are its cells 3, 4, 5. -/
structure BF (bf : Value → Value → Value → Array Value) : Prop where
  g3 : ∀ a b c, (bf a b c)[3]? = some a
  g4 : ∀ a b c, (bf a b c)[4]? = some b
  g5 : ∀ a b c, (bf a b c)[5]? = some c
  s3 : ∀ a b c x, (bf a b c).setIfInBounds 3 x = bf x b c
  s4 : ∀ a b c x, (bf a b c).setIfInBounds 4 x = bf a x c
  s5 : ∀ a b c x, (bf a b c).setIfInBounds 5 x = bf a b x
/-- What such a builder owns: the box, and the rows of its three cells. -/
def own3 (gx : Nat) (tb : TypeId) (W : World) (k : Nat) : Prop := k = gx ∨ ∃ (c : Array Value) (j : Nat) (v : Value), W.heap[gx]? = some (.cells c tb (0, 0)) ∧ (j = 3 ∨ j = 4 ∨ j = 5) ∧ c[j]? = some v ∧ v.ownBlock = some k
structure Bx (bf : Value → Value → Value → Array Value) (tb : TypeId) (gx n0 : Nat) (u : List DClaimUse) (o s : List ByteArray) (vu vo vs : Value) (X : World) : Prop where
  box : X.heap[gx]? = some (.cells (bf vu vo vs) tb (0, 0))
  ru : X.ownsRow n0 95 3 vu u.length (enc 3 eU u)
  ro : X.ownsRow n0 9 1 vo o.length (enc 1 eS o)
  rs : X.ownsRow n0 9 1 vs s.length (enc 1 eS s)
  sep : ∀ k, vo.ownBlock = some k → vs.ownBlock ≠ some k
  lo : gx < n0
/-- What a step leaves: all that isn't owned; what is owned then was owned, or is new. -/
structure Stp (gx : Nat) (tb : TypeId) (V W : World) : Prop where
  but : But (own3 gx tb V) V W
  own : ∀ k, own3 gx tb W k → own3 gx tb V k ∨ V.heap.size ≤ k

variable {bf : Value → Value → Value → Array Value} {tb : TypeId} {gx n0 : Nat} {u u' : List DClaimUse} {o s o' s' : List ByteArray} {vu vo vs v' : Value} {A C V W X Y ua u8 : World}
theorem Stp.refl (gx : Nat) (tb : TypeId) (V : World) : Stp gx tb V V := ⟨But.refl _ _, fun _ h => .inl h⟩
theorem Stp.trans (h : Stp gx tb A V) (k : Stp gx tb V W) : Stp gx tb A W := by
  refine ⟨⟨k.but.os.trans h.but.os, k.but.tape.trans h.but.tape, k.but.output.trans h.but.output, Nat.le_trans h.but.size k.but.size, fun b hb hn => (k.but.block b (Nat.lt_of_lt_of_le hb h.but.size) (fun ho => ?_)).trans (h.but.block b hb hn)⟩, fun b hb => ?_⟩
  · rcases h.own b ho with h1 | h1
    · exact hn h1
    · omega
  · rcases k.own b hb with h1 | h1
    · exact h.own b h1
    · exact .inr (Nat.le_trans h.but.size h1)
theorem own3_same (e : W.heap[gx]? = V.heap[gx]?) {k : Nat} : own3 gx tb W k ↔ own3 gx tb V k := by unfold own3; rw [e]
theorem Stp.of_below (h : Below V.heap.size V W) (hg : gx < V.heap.size) : Stp gx tb V W := ⟨But.of_below h, fun _ hk => .inl ((own3_same (h.block gx hg)).1 hk)⟩
theorem Bx.own (hbf : BF bf) (h : Bx bf tb gx n0 u o s vu vo vs X) {k : Nat} : own3 gx tb X k ↔ k = gx ∨ vu.ownBlock = some k ∨ vo.ownBlock = some k ∨ vs.ownBlock = some k := by
  constructor
  · rintro (rfl | ⟨c, j, v, hc, hj, hv, ho⟩)
    · exact .inl rfl
    · rw [h.box] at hc
      cases hc
      rcases hj with rfl | rfl | rfl
      · rw [hbf.g3] at hv; cases hv; exact .inr (.inl ho)
      · rw [hbf.g4] at hv; cases hv; exact .inr (.inr (.inl ho))
      · rw [hbf.g5] at hv; cases hv; exact .inr (.inr (.inr ho))
  · rintro (rfl | ho | ho | ho)
    · exact .inl rfl
    · exact .inr ⟨_, 3, _, h.box, .inl rfl, hbf.g3 _ _ _, ho⟩
    · exact .inr ⟨_, 4, _, h.box, .inr (.inl rfl), hbf.g4 _ _ _, ho⟩
    · exact .inr ⟨_, 5, _, h.box, .inr (.inr rfl), hbf.g5 _ _ _, ho⟩
theorem Bx.rows (hbf : BF bf) (h : Bx bf tb gx n0 u o s vu vo vs X) {k : Nat} (hk : own3 gx tb X k) : k = gx ∨ (n0 ≤ k ∧ k < X.heap.size) := by
  rcases (h.own hbf).1 hk with e | e | e | e
  · exact .inl e
  · exact .inr (World.ownsRow.lt h.ru k e)
  · exact .inr (World.ownsRow.lt h.ro k e)
  · exact .inr (World.ownsRow.lt h.rs k e)
theorem Bx.low (hbf : BF bf) (h : Bx bf tb gx n0 u o s vu vo vs X) (k : Nat) (hk : own3 gx tb X k) : gx ≤ k := by
  have := h.lo
  rcases h.rows hbf hk with e | e <;> omega
theorem Bx.gxlt (h : Bx bf tb gx n0 u o s vu vo vs X) : gx < X.heap.size := (Array.getElem?_eq_some_iff.1 h.box).1
theorem Bx.cells (hbf : BF bf) (h : Bx bf tb gx n0 u o s vu vo vs X) {k : Nat} (hk : own3 gx tb X k) : ∃ c t, X.heap[k]? = some (.cells c t (0, 0)) := by
  rcases (h.own hbf).1 hk with e | e | e | e
  · rw [e]; exact ⟨_, _, h.box⟩
  · exact ⟨_, _, (row_cells h.ru e).choose_spec⟩
  · exact ⟨_, _, (row_cells h.ro e).choose_spec⟩
  · exact ⟨_, _, (row_cells h.rs e).choose_spec⟩
theorem Bx.kept (hbf : BF bf) (h : Bx bf tb gx n0 u o s vu vo vs X) (hb : ∀ k, own3 gx tb X k → Y.heap[k]? = X.heap[k]?) : Bx bf tb gx n0 u o s vu vo vs Y where
  box := (hb gx (.inl rfl)).trans h.box
  ru := ownsRow_kept h.ru (fun g hg => hb g ((h.own hbf).2 (.inr (.inl hg))))
  ro := ownsRow_kept h.ro (fun g hg => hb g ((h.own hbf).2 (.inr (.inr (.inl hg)))))
  rs := ownsRow_kept h.rs (fun g hg => hb g ((h.own hbf).2 (.inr (.inr (.inr hg)))))
  sep := h.sep
  lo := h.lo
theorem Bx.below (hbf : BF bf) (h : Bx bf tb gx n0 u o s vu vo vs X) (hb : Below X.heap.size X Y) : Bx bf tb gx n0 u o s vu vo vs Y :=
  h.kept hbf (fun k hk => hb.block k (by obtain ⟨c, t, hc⟩ := h.cells hbf hk; exact (Array.getElem?_eq_some_iff.1 hc).1))
theorem Bx.grown (hbf : BF bf) (h : Bx bf tb gx n0 u o s vu vo vs A) {row : Option Nat} (hg : A.grownBy C row) (hr : ∀ r, row = some r → ∃ o : Obj, A.heap[r]? = some o ∧ o.isCells = false) : Bx bf tb gx n0 u o s vu vo vs C := by
  refine h.kept hbf (fun k hk => ?_)
  obtain ⟨c, t, hc⟩ := h.cells hbf hk
  refine hg.block k (Array.getElem?_eq_some_iff.1 hc).1 (fun e => ?_)
  obtain ⟨ob, ho, hn⟩ := hr k e.symm
  rw [hc] at ho; cases ho; cases hn
theorem Bx.st (hbf : BF bf) (h : Bx bf tb gx n0 u o s vu vo vs A) : OwnSt (own3 gx tb) A := by
  refine ⟨fun k hk => ?_, fun W' row hg hr k hk => ?_⟩
  · obtain ⟨c, t, hc⟩ := h.cells hbf hk; exact (Array.getElem?_eq_some_iff.1 hc).1
  · have e : W'.heap[gx]? = A.heap[gx]? := hg.block gx h.gxlt (fun e => by
      obtain ⟨ob, ho, hn⟩ := hr gx e.symm
      rw [h.box] at ho; cases ho; cases hn)
    exact (own3_same e).1 hk
theorem Stp.keeps (hbf : BF bf) (h : Bx bf tb gx n0 u o s vu vo vs V) (k : Stp gx tb V W) : KeepsOthers V W :=
  ⟨k.but.size, fun i ob hi ho => (k.but.block i (Array.getElem?_eq_some_iff.1 hi).1 (fun hw => by
    obtain ⟨c, t, hc⟩ := h.cells hbf hw
    rw [hi] at hc; cases hc; cases ho)).trans hi⟩
theorem Stp.kp {n₀ : Nat} (hbf : BF bf) (h : Bx bf tb gx n0 u o s vu vo vs V) (k : Stp gx tb V W) (hn : n₀ ≤ gx) : KpO (own3 gx tb) n₀ V W := by
  have hg := h.gxlt
  exact ⟨k.but.size, k.own, fun i hi => k.but.block i (by omega) (fun ho => by have := h.low hbf i ho; omega), fun i c t z hc ho => (k.but.block i (Array.getElem?_eq_some_iff.1 hc).1 ho).trans hc⟩
theorem Stp.low {B : Nat} (hbf : BF bf) (h : Bx bf tb gx n0 u o s vu vo vs V) (k : Stp gx tb V W) (hB : B ≤ gx) : Below B V W :=
  k.but.below (fun b hb => Nat.le_trans hB (h.low hbf b hb)) (by have := h.gxlt; omega)
theorem Bx.step3 (hbf : BF bf) (h : Bx bf tb gx n0 u o s vu vo vs V) (BA : Below V.heap.size V ua) (hgr : ua.grownBy u8 vu.ownBlock) (hbk : v'.ownBlock = vu.ownBlock ∨ v'.ownBlock = some ua.heap.size) (hown : u8.ownsRow n0 95 3 v' u'.length (enc 3 eU u')) :
    Bx bf tb gx n0 u' o s v' vo vs (u8.setCell ⟨gx, 3, none⟩ v') ∧ Stp gx tb V (u8.setCell ⟨gx, 3, none⟩ v') := by
  have sB := BA.size
  have hgx := h.gxlt
  have lo := h.lo
  have low : ∀ g, vu.ownBlock = some g → n0 ≤ g ∧ g < V.heap.size := fun g hg => World.ownsRow.lt h.ru g hg
  have keep : ∀ k, k < V.heap.size → k ≠ gx → vu.ownBlock ≠ some k → (u8.setCell ⟨gx, 3, none⟩ v').heap[k]? = V.heap[k]? := fun k hk hg hv => (Below.heap_setCell u8 ⟨gx, 3, none⟩ v' k hg).trans ((hgr.block k (by omega) (fun e => hv e.symm)).trans (BA.block k hk))
  have hg8 : u8.heap[gx]? = some (.cells (bf vu vo vs) tb (0, 0)) := (hgr.block gx (by omega) (fun e => by have := (low gx e.symm).1; omega)).trans ((BA.block gx (by omega)).trans h.box)
  have hF : (u8.setCell ⟨gx, 3, none⟩ v').heap[gx]? = some (.cells (bf v' vo vs) tb (0, 0)) := by rw [set_row hg8 3 v', hbf.s3]
  have G : Bx bf tb gx n0 u' o s v' vo vs (u8.setCell ⟨gx, 3, none⟩ v') := ⟨hF, ownsRow_kept hown (fun g hg => Below.heap_setCell _ _ _ _ (by have := (World.ownsRow.lt hown g hg).1; show g ≠ gx; omega)), ownsRow_kept h.ro (fun g hg => keep g (World.ownsRow.lt h.ro g hg).2 (by have := (World.ownsRow.lt h.ro g hg).1; omega) (rows_neB h.ro h.ru (by decide) g hg)), ownsRow_kept h.rs (fun g hg => keep g (World.ownsRow.lt h.rs g hg).2 (by have := (World.ownsRow.lt h.rs g hg).1; omega) (rows_neB h.rs h.ru (by decide) g hg)), h.sep, lo⟩
  refine ⟨G, ⟨?_, ?_, ?_, ?_, fun k hk ho => keep k hk (fun e => ho (.inl e)) (fun e => ho ((h.own hbf).2 (.inr (.inl e))))⟩, fun k hk => ?_⟩
  · exact hgr.os.trans BA.os
  · exact hgr.tape.trans BA.tape
  · exact hgr.output.trans BA.output
  · have := hgr.size; have e : (u8.setCell ⟨gx, 3, none⟩ v').heap.size = u8.heap.size := by simp [World.setCell]
    omega
  · rcases (G.own hbf).1 hk with e | e | e | e
    · exact .inl (.inl e)
    · rcases hbk with e2 | e2
      · exact .inl ((h.own hbf).2 (.inr (.inl (e2.symm.trans e))))
      · rw [e2] at e; cases e; exact .inr (by omega)
    · exact .inl ((h.own hbf).2 (.inr (.inr (.inl e))))
    · exact .inl ((h.own hbf).2 (.inr (.inr (.inr e))))
theorem Bx.step4 (hbf : BF bf) (h : Bx bf tb gx n0 u o s vu vo vs V) (BA : Below V.heap.size V ua) (hgr : ua.grownBy u8 vo.ownBlock) (hbk : v'.ownBlock = vo.ownBlock ∨ v'.ownBlock = some ua.heap.size) (hown : u8.ownsRow n0 9 1 v' o'.length (enc 1 eS o')) :
    Bx bf tb gx n0 u o' s vu v' vs (u8.setCell ⟨gx, 4, none⟩ v') ∧ Stp gx tb V (u8.setCell ⟨gx, 4, none⟩ v') := by
  have sB := BA.size
  have hgx := h.gxlt
  have lo := h.lo
  have low : ∀ g, vo.ownBlock = some g → n0 ≤ g ∧ g < V.heap.size := fun g hg => World.ownsRow.lt h.ro g hg
  have keep : ∀ k, k < V.heap.size → k ≠ gx → vo.ownBlock ≠ some k → (u8.setCell ⟨gx, 4, none⟩ v').heap[k]? = V.heap[k]? := fun k hk hg hv => (Below.heap_setCell u8 ⟨gx, 4, none⟩ v' k hg).trans ((hgr.block k (by omega) (fun e => hv e.symm)).trans (BA.block k hk))
  have hg8 : u8.heap[gx]? = some (.cells (bf vu vo vs) tb (0, 0)) := (hgr.block gx (by omega) (fun e => by have := (low gx e.symm).1; omega)).trans ((BA.block gx (by omega)).trans h.box)
  have hF : (u8.setCell ⟨gx, 4, none⟩ v').heap[gx]? = some (.cells (bf vu v' vs) tb (0, 0)) := by rw [set_row hg8 4 v', hbf.s4]
  have G : Bx bf tb gx n0 u o' s vu v' vs (u8.setCell ⟨gx, 4, none⟩ v') := ⟨hF, ownsRow_kept h.ru (fun g hg => keep g (World.ownsRow.lt h.ru g hg).2 (by have := (World.ownsRow.lt h.ru g hg).1; omega) (rows_neB h.ru h.ro (by decide) g hg)), ownsRow_kept hown (fun g hg => Below.heap_setCell _ _ _ _ (by have := (World.ownsRow.lt hown g hg).1; show g ≠ gx; omega)), ownsRow_kept h.rs (fun g hg => keep g (World.ownsRow.lt h.rs g hg).2 (by have := (World.ownsRow.lt h.rs g hg).1; omega) (fun e2 => h.sep g e2 hg)), (fun k hk hs => by
    rcases hbk with e | e
    · exact h.sep k (e.symm.trans hk) hs
    · rw [e] at hk; cases hk; have := (World.ownsRow.lt h.rs _ hs).2; omega), lo⟩
  refine ⟨G, ⟨?_, ?_, ?_, ?_, fun k hk ho => keep k hk (fun e => ho (.inl e)) (fun e => ho ((h.own hbf).2 (.inr (.inr (.inl e)))))⟩, fun k hk => ?_⟩
  · exact hgr.os.trans BA.os
  · exact hgr.tape.trans BA.tape
  · exact hgr.output.trans BA.output
  · have := hgr.size; have e : (u8.setCell ⟨gx, 4, none⟩ v').heap.size = u8.heap.size := by simp [World.setCell]
    omega
  · rcases (G.own hbf).1 hk with e | e | e | e
    · exact .inl (.inl e)
    · exact .inl ((h.own hbf).2 (.inr (.inl e)))
    · rcases hbk with e2 | e2
      · exact .inl ((h.own hbf).2 (.inr (.inr (.inl (e2.symm.trans e)))))
      · rw [e2] at e; cases e; exact .inr (by omega)
    · exact .inl ((h.own hbf).2 (.inr (.inr (.inr e))))
theorem Bx.step5 (hbf : BF bf) (h : Bx bf tb gx n0 u o s vu vo vs V) (BA : Below V.heap.size V ua) (hgr : ua.grownBy u8 vs.ownBlock) (hbk : v'.ownBlock = vs.ownBlock ∨ v'.ownBlock = some ua.heap.size) (hown : u8.ownsRow n0 9 1 v' s'.length (enc 1 eS s')) :
    Bx bf tb gx n0 u o s' vu vo v' (u8.setCell ⟨gx, 5, none⟩ v') ∧ Stp gx tb V (u8.setCell ⟨gx, 5, none⟩ v') := by
  have sB := BA.size
  have hgx := h.gxlt
  have lo := h.lo
  have low : ∀ g, vs.ownBlock = some g → n0 ≤ g ∧ g < V.heap.size := fun g hg => World.ownsRow.lt h.rs g hg
  have keep : ∀ k, k < V.heap.size → k ≠ gx → vs.ownBlock ≠ some k → (u8.setCell ⟨gx, 5, none⟩ v').heap[k]? = V.heap[k]? := fun k hk hg hv => (Below.heap_setCell u8 ⟨gx, 5, none⟩ v' k hg).trans ((hgr.block k (by omega) (fun e => hv e.symm)).trans (BA.block k hk))
  have hg8 : u8.heap[gx]? = some (.cells (bf vu vo vs) tb (0, 0)) := (hgr.block gx (by omega) (fun e => by have := (low gx e.symm).1; omega)).trans ((BA.block gx (by omega)).trans h.box)
  have hF : (u8.setCell ⟨gx, 5, none⟩ v').heap[gx]? = some (.cells (bf vu vo v') tb (0, 0)) := by rw [set_row hg8 5 v', hbf.s5]
  have G : Bx bf tb gx n0 u o s' vu vo v' (u8.setCell ⟨gx, 5, none⟩ v') := ⟨hF, ownsRow_kept h.ru (fun g hg => keep g (World.ownsRow.lt h.ru g hg).2 (by have := (World.ownsRow.lt h.ru g hg).1; omega) (rows_neB h.ru h.rs (by decide) g hg)), ownsRow_kept h.ro (fun g hg => keep g (World.ownsRow.lt h.ro g hg).2 (by have := (World.ownsRow.lt h.ro g hg).1; omega) (fun e2 => h.sep g hg e2)), ownsRow_kept hown (fun g hg => Below.heap_setCell _ _ _ _ (by have := (World.ownsRow.lt hown g hg).1; show g ≠ gx; omega)), (fun k hk hs => by
    rcases hbk with e | e
    · exact h.sep k hk (e.symm.trans hs)
    · rw [e] at hs; cases hs; have := (World.ownsRow.lt h.ro _ hk).2; omega), lo⟩
  refine ⟨G, ⟨?_, ?_, ?_, ?_, fun k hk ho => keep k hk (fun e => ho (.inl e)) (fun e => ho ((h.own hbf).2 (.inr (.inr (.inr e)))))⟩, fun k hk => ?_⟩
  · exact hgr.os.trans BA.os
  · exact hgr.tape.trans BA.tape
  · exact hgr.output.trans BA.output
  · have := hgr.size; have e : (u8.setCell ⟨gx, 5, none⟩ v').heap.size = u8.heap.size := by simp [World.setCell]
    omega
  · rcases (G.own hbf).1 hk with e | e | e | e
    · exact .inl (.inl e)
    · exact .inl ((h.own hbf).2 (.inr (.inl e)))
    · exact .inl ((h.own hbf).2 (.inr (.inr (.inl e))))
    · rcases hbk with e2 | e2
      · exact .inl ((h.own hbf).2 (.inr (.inr (.inr (e2.symm.trans e)))))
      · rw [e2] at e; cases e; exact .inr (by omega)

end Go.Proofs.YtndacfockllehaaGreat

/-
  A contract of the library's fresh copy of a text.
-/
namespace Go.Proofs.YtndacfockllehaaGreat
open Go.RowKit

theorem under172 : Tryz.prog.underlying 187 = some (.pointer 5) := by kernel_rfl
theorem under135' : Tryz.prog.underlying 116 = some (.slice 5) := by kernel_rfl
theorem info5c : (Tryz.prog.info? 5).map (fun i => (i.zero, i.size, i.bytes)) = some (some (.int .u8 0), 1, 1) := by kernel_rfl

set_option maxHeartbeats 4000000 in
set_option maxRecDepth 100000 in
theorem clone_any (s : ByteArray) (w : World) (hlim : s.size ≤ 1048576) :
    Calls Tryz.prog 140 #[.string s] w fun e w' => e = .returned (.string s) ∧ Below w.heap.size w w' := by
  by_cases h0 : s.size = 0
  · have hs : s = ⟨#[]⟩ := by
      apply ByteArray.ext
      exact Array.eq_empty_of_size_eq_zero h0
    subst hs
    go_enter Tryz.func140, Tryz.ntmps140
    go_wp2
    go_ret
    exact ⟨rfl, Below.refl _ _⟩
  · obtain ⟨i0, hi, hz0, hz1, hz2⟩ := info_parts info5c
    have hinfo : (Tryz.prog.info? 5).map (·.size) = some 1 := by rw [hi]; simp [hz1]
    have hco : Tryz.prog.cellsOf 5 = 1 := by simp [Program.cellsOf, hi, hz1]
    obtain ⟨M, hM⟩ : ∃ M, M = madeCells (Value.int .u8 0).cells (((s.size : Nat) : Int).toNat * i0.size) := ⟨_, rfl⟩
    have hMs : M.size = s.size := by rw [hM, size_madeCells, hz1]; simp
    have hmk : ∀ W : World, (Instr.makeSlice 116 (.int .i64 (s.size : Int)) (.int .i64 (s.size : Int))).run Tryz.prog W = .ok (.slice (some ⟨W.heap.size, 0, none⟩) s.size s.size) (W.alloc (.cells M 5)) := fun W => by
      have h := run_make (P := Tryz.prog) W 116 5 i0 (.int .u8 0) under135' hi hz0 .i64 .i64 (s.size : Int) (s.size : Int) (by omega) (by omega) (by rw [hz2]; omega) (by omega)
      rw [← hM] at h
      simpa using h
    clear hM
    have hcp := Lib.run_copy_row_string (P := Tryz.prog) (w.alloc (.cells M 5)) 116 9 3 5 w.heap.size 0 s.size s.size s M 5 under135' hinfo (heap_alloc_new w _) (Nat.le_refl _) (by omega)
    obtain ⟨Y, hY⟩ : ∃ Y, Y = (M.toList.take 0 ++ Lib.byteCells s.data.toList ++ M.toList.drop (0 + s.size)).toArray := ⟨_, rfl⟩
    rw [← hY] at hcp
    have hYl : Y.toList = Lib.byteCells s.data.toList := by
      rw [hY, List.toList_toArray, List.take_zero, List.nil_append, List.drop_of_length_le (by rw [Array.length_toList]; omega), List.append_nil]
    have hYs : Y.size = s.size := by rw [← Array.length_toList, hYl, Lib.byteCells_length, ← Lib.size_eq]
    have hgY : ((w.alloc (.cells M 5)).setRow w.heap.size Y).heap[w.heap.size]? = some (.cells Y 5 (0, 0)) := setRow_heap _ _ M _ 5 (0, 0) (heap_alloc_new w _)
    have hne : s.data.toList ≠ [] := fun e => h0 (by rw [Lib.size_eq, e]; rfl)
    have hUS := Lib.run_unsafeString_row (P := Tryz.prog) ((w.alloc (.cells M 5)).setRow w.heap.size Y) 187 3 9 5 under172 hco w.heap.size Y.size (by unfold World.shape?; rw [hgY]) s.data.toList hne (by rw [← Lib.size_eq]; omega) (by rw [← Lib.size_eq]; omega)
      (fun j x hx => Lib.cells_of_row hgY Y.size j _ (by rw [List.take_of_length_le (by rw [Array.length_toList]; exact Nat.le_refl _), hYl]; simp [Lib.byteCells, hx]))
    rw [← Lib.size_eq] at hUS
    clear hY
    go_enter Tryz.func140, Tryz.ntmps140
    go_wp2
    go_ret
    have hb1 : Below w.heap.size w (w.alloc (.cells M 5)) := (Below.refl _ w).alloc (Nat.le_refl _) _
    have hb2 : Below w.heap.size (w.alloc (.cells M 5)) ((w.alloc (.cells M 5)).setRow w.heap.size Y) := ⟨rfl, rfl, rfl, by simp, fun k hk => setRow_other _ _ _ _ (by omega)⟩
    exact ⟨rfl, Lib.below_freeze (hb1.trans hb2) (p := ⟨w.heap.size, 0, none⟩) (Nat.le_refl _) _⟩

set_option maxRecDepth 100000 in
set_option maxHeartbeats 1000000 in
theorem clones_any (s : ByteArray) (w : World) (hlim : s.size ≤ 1048576) :
    Calls Tryz.prog 130 #[.string s] w fun e w' => e = .returned (.string s) ∧ Below w.heap.size w w' := by
  go_enter Tryz.func130, Tryz.ntmps130
  go_wp2_with (go_at_call 140; refine (clone_any _ _ hlim).mono ?_; rintro e w1 ⟨rfl, hb⟩)
  go_ret
  exact ⟨rfl, hb⟩

end Go.Proofs.YtndacfockllehaaGreat
