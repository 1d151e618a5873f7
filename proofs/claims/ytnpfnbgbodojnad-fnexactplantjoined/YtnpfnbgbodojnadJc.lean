/-
  The head of a place by an index, and whether two places are joined by it: the model's and the program's contracts.
-/
import Derived.Test.YtnpfnbgbodojnadJb
namespace Go.Proofs.Ytnpfnbgbodojnad
open Go.RowKit

def findI (n : Nat) (p : Nat → Bool) : Int := match (List.range n).find? p with | some i => i | none => -1
theorem find_yes {n : Nat} {p : Nat → Bool} {k : Nat} (hk : k < n) (h : p k = true) (hno : ∀ j, j < k → p j = false) : findI n p = k := by
  have : (List.range n).find? p = some k := by
    rw [List.find?_range_eq_some]
    refine ⟨h, by simpa using hk, fun j hj => by simp [hno j hj]⟩
  simp only [findI, this]
theorem find_no {n : Nat} {p : Nat → Bool} (h : ∀ j, j < n → p j = false) : findI n p = -1 := by
  have : (List.range n).find? p = none := by
    rw [List.find?_eq_none]
    intro i hi
    simp [h i (List.mem_range.1 hi)]
  simp only [findI, this]

/-- The head of the first mark of a place, and whether there is one. -/
def hdS (n : Nat) (f : Nat → ByteArray × ByteArray) (x : ByteArray) : ByteArray := match (List.range n).find? (fun i => eqB (f i).1 x) with | some i => (f i).2 | none => ⟨#[]⟩
def hdB (n : Nat) (f : Nat → ByteArray × ByteArray) (x : ByteArray) : Bool := ((List.range n).find? fun i => eqB (f i).1 x).isSome
theorem hd_yes {n : Nat} {f : Nat → ByteArray × ByteArray} {x : ByteArray} {k : Nat} (hk : k < n) (h : eqB (f k).1 x = true) (hno : ∀ j, j < k → eqB (f j).1 x = false) : hdS n f x = (f k).2 ∧ hdB n f x = true := by
  have : (List.range n).find? (fun i => eqB (f i).1 x) = some k := by
    rw [List.find?_range_eq_some]
    refine ⟨h, by simpa using hk, fun j hj => by simp [hno j hj]⟩
  simp [hdS, hdB, this]
theorem hd_no {n : Nat} {f : Nat → ByteArray × ByteArray} {x : ByteArray} (h : ∀ j, j < n → eqB (f j).1 x = false) : hdS n f x = ⟨#[]⟩ ∧ hdB n f x = false := by
  have : (List.range n).find? (fun i => eqB (f i).1 x) = none := by
    rw [List.find?_eq_none]
    intro i hi
    simp [h i (List.mem_range.1 hi)]
  simp [hdS, hdB, this]
theorem hd_cases (n : Nat) (f : Nat → ByteArray × ByteArray) (x : ByteArray) : (findI n (fun i => eqB (f i).1 x) = -1 ∧ hdS n f x = ⟨#[]⟩ ∧ hdB n f x = false) ∨ ∃ k : Nat, k < n ∧ findI n (fun i => eqB (f i).1 x) = k ∧ hdS n f x = (f k).2 ∧ hdB n f x = true := by
  cases h : (List.range n).find? (fun i => eqB (f i).1 x) with
  | none => exact Or.inl ⟨by simp [findI, h], by simp [hdS, h], by simp [hdB, h]⟩
  | some k => exact Or.inr ⟨k, List.mem_range.1 (List.mem_of_find?_eq_some h), by simp [findI, h], by simp [hdS, h], by simp [hdB, h]⟩

set_option maxRecDepth 100000 in
set_option maxHeartbeats 1000000 in
theorem headS_any (B : Nat) (v0 v1 : Value) (n : Nat) (f : Nat → ByteArray × ByteArray) (x : ByteArray) (w : World) (h : Lst B w v1 n 2 (cF f)) (hB : B ≤ w.heap.size) :
    Calls Try.prog 11 #[.agg #[v0, v1], .string x] w fun e w' => e = .returned (.tuple #[.string (hdS n f x), .bool (hdB n f x)]) ∧ Below w.heap.size w w' := by
  obtain ⟨oa, cap, rfl, hn, hc⟩ := h
  unfold maxLen at hn
  have HC : Hid _ := hc
  clear hc
  go_enter Try.func11, Try.ntmps11
  go_wp2
  go_loop [6] (fun i => ∃ k : Nat, k ≤ n ∧ i = .int .i64 k ∧ Hid (∀ j, j < k → eqB (f j).1 x = false)) (fun i => n - (intOf i).toNat)
  case atStart => exact ⟨0, Nat.zero_le _, rfl, fun _ h => by omega⟩
  case round =>
    obtain ⟨k, hk, rfl, hno⟩ := hrel
    by_cases hlt : k < n
    · obtain ⟨b, off, rfl, hbB, hcell⟩ := HC.out k hlt
      have c0 := cell_past (hcell 0 (by omega)) (by omega) (.cells #[v0, .slice (some ⟨b, off, none⟩) n cap] 30)
      have c1 := cell_past (hcell 1 (by omega)) (by omega) (.cells #[v0, .slice (some ⟨b, off, none⟩) n cap] 30)
      rw [Nat.add_zero] at c0
      simp only [cF, if_true] at c0
      simp only [cF, Nat.succ_ne_self, if_false] at c1
      cases hy : ((f k).1.toList == x.toList)
      · go_wp2
        go_round
        case rel => exact ⟨k + 1, by omega, by go_num, fun j hj => by
          by_cases e : j = k
          · subst e; exact hy
          · exact hno.out j (by omega)⟩
        case measure => simp [intOf]; omega
      · obtain ⟨e1, e2⟩ := hd_yes hlt (show eqB (f k).1 x = true from hy) hno.out
        go_wp2
        go_ret2
        exact ⟨by first | rfl | (rw [e1, e2]; rfl), (Below.refl _ _).alloc (Nat.le_refl _) _⟩
    · have hkn : k = n := by omega
      subst hkn
      obtain ⟨e1, e2⟩ := hd_no hno.out
      go_wp2
      go_ret2
      exact ⟨by first | rfl | (rw [e1, e2]; rfl), (Below.refl _ _).alloc (Nat.le_refl _) _⟩

set_option maxRecDepth 100000 in
set_option maxHeartbeats 1000000 in
theorem head1_any (a s x : ByteArray) (nb : Nat) (w : World) (hx : w.cell? ⟨nb, 0, none⟩ = some (.string x)) (hnb : nb < w.heap.size) :
    Calls Try.prog 20 #[.agg #[.string a, .string s], .pointer (some ⟨nb, 0, none⟩)] w fun e w' => e = .returned (.bool (eqB a x)) ∧ Below w.heap.size w w' := by
  have hx' := fun o => cell_past hx hnb o
  unfold eqB
  go_enter Try.func20, Try.ntmps20
  go_wp2
  go_ret
  exact ⟨rfl, (Below.refl _ _).alloc (Nat.le_refl _) _⟩

set_option maxRecDepth 100000 in
set_option maxHeartbeats 1000000 in
theorem headF_any (B : Nat) (v : Value) (n : Nat) (f : Nat → ByteArray × ByteArray) (x : ByteArray) (nb : Nat) (w : World) (h : Lst B w v n 2 (cF f)) (hB : B ≤ w.heap.size) (hx : w.cell? ⟨nb, 0, none⟩ = some (.string x)) (hnb : nb < w.heap.size) :
    Calls Try.prog 19 #[v, .func (.func 20) #[] #[.pointer (some ⟨nb, 0, none⟩)]] w fun e w' => e = .returned (.int .i64 (findI n fun i => eqB (f i).1 x)) ∧ Below w.heap.size w w' := by
  obtain ⟨oa, cap, rfl, hn, hc⟩ := h
  unfold maxLen at hn
  have HC : Hid _ := hc
  have HX : Hid _ := hx
  clear hc hx
  go_enter Try.func19, Try.ntmps19
  go_wp2
  go_loopw [8] (fun i wr => ∃ k : Nat, k ≤ n ∧ i = .int .i64 k ∧ Hid (∀ j, j < k → eqB (f j).1 x = false) ∧ Hid (Below w.heap.size w wr)) (fun i _ => n - (intOf i).toNat)
  case atStart => exact ⟨0, Nat.zero_le _, rfl, fun _ h => by omega, Below.refl _ _⟩
  case round =>
    obtain ⟨k, hk, rfl, hno, hbel⟩ := hrel
    have hs := hbel.out.size
    by_cases hlt : k < n
    · obtain ⟨b, off, rfl, hbB, hcell⟩ := HC.out k hlt
      have e0 : wr.cell? ⟨b, off + k * 2, none⟩ = some (.string (f k).1) := (hbel.out.cell (p := ⟨b, off + k * 2, none⟩) (by show b < _; omega)).trans (by simpa [cF] using hcell 0 (by omega))
      have e1 : wr.cell? ⟨b, off + k * 2 + 1, none⟩ = some (.string (f k).2) := (hbel.out.cell (p := ⟨b, off + k * 2 + 1, none⟩) (by show b < _; omega)).trans (by simpa [cF] using hcell 1 (by omega))
      have HXR : Hid (wr.cell? ⟨nb, 0, none⟩ = some (.string x)) := (hbel.out.cell (p := ⟨nb, 0, none⟩) hnb).trans HX.out
      cases hy : eqB (f k).1 x
      · have HY : Hid (eqB (f k).1 x = false) := hy
        clear hy
        go_wp2_with (go_at_call 20; refine (head1_any _ _ x nb _ HXR.out (by omega)).mono ?_; rintro e w1 ⟨rfl, hb1⟩; rw [HY.out])
        go_roundw
        case rel => exact ⟨k + 1, by omega, by go_num, fun j hj => by
          by_cases e : j = k
          · subst e; exact HY.out
          · exact hno.out j (by omega), hbel.out.trans (hb1.mono hs)⟩
        case measure => simp [intOf]; omega
      · have HY : Hid (eqB (f k).1 x = true) := hy
        clear hy
        go_wp2_with (go_at_call 20; refine (head1_any _ _ x nb _ HXR.out (by omega)).mono ?_; rintro e w1 ⟨rfl, hb1⟩; rw [HY.out])
        rw [find_yes hlt HY.out hno.out]
        go_ret
        exact ⟨rfl, hbel.out.trans (hb1.mono hs)⟩
    · go_wp2
      go_ret
      have hkn : k = n := by omega
      subst hkn
      rw [find_no hno.out]
      exact ⟨rfl, hbel.out⟩

set_option maxRecDepth 100000 in
set_option maxHeartbeats 1000000 in
theorem headI_any (B : Nat) (v0 v1 : Value) (n : Nat) (f : Nat → ByteArray × ByteArray) (x : ByteArray) (w : World) (h : Lst B w v1 n 2 (cF f)) (hB : B ≤ w.heap.size) :
    Calls Try.prog 14 #[.agg #[v0, v1], .string x] w fun e w' => e = .returned (.tuple #[.string (hdS n f x), .bool (hdB n f x)]) ∧ Below w.heap.size w w' := by
  have hmf : ∀ (fn : Fn) (first cap : Array Value) (w : World), (Instr.makeFunc fn first cap).run Try.prog w = .ok (.func fn first cap) w := fun _ _ _ _ => rfl
  have H : Hid (∀ w', Below w.heap.size w w' → Lst B w' v1 n 2 (cF f)) := fun w' hb => h.kept hb hB
  have k0 : Hid (Below (w.heap.size + 1 + 1) ((w.alloc (.cells #[v0, v1] 30)).alloc (.cells #[.string x] 9)) ((w.alloc (.cells #[v0, v1] 30)).alloc (.cells #[.string x] 9))) := Below.refl _ _
  rcases hd_cases n f x with ⟨hk, hs, hb⟩ | ⟨k, hkn, hk, hs, hb⟩
  · rw [hs, hb]
    clear h
    go_enter Try.func14, Try.ntmps14
    go_wp2_with fail
    refine (headF_any B v1 n f x (w.heap.size + 1) _ (H.out _ (((Below.refl _ _).alloc (Nat.le_refl _) _).alloc (by simp) _)) (by simp; omega) (by simp) (by simp)).mono ?_; rintro e w1 ⟨rfl, hb1⟩
    rw [hk]
    have kk : Hid (Below w.heap.size w w1) := (((Below.refl _ _).alloc (Nat.le_refl _) _).alloc (by simp) _).trans (hb1.mono (by simp; omega))
    go_wp2_with fail
    go_ret2
    exact ⟨rfl, kk.out⟩
  · rw [hs, hb]
    obtain ⟨oa, cap, rfl, hm, hcl⟩ := h
    unfold maxLen at hm
    obtain ⟨b, off, rfl, hbB, hcell⟩ := hcl k hkn
    clear hcl
    go_enter Try.func14, Try.ntmps14
    go_wp2_with fail
    refine (headF_any B _ n f x (w.heap.size + 1) _ (H.out _ (((Below.refl _ _).alloc (Nat.le_refl _) _).alloc (by simp) _)) (by simp; omega) (by simp) (by simp)).mono ?_; rintro e w1 ⟨rfl, hb1⟩
    rw [hk]
    clear hk hs hb
    have kk : Hid (Below w.heap.size w w1) := (((Below.refl _ _).alloc (Nat.le_refl _) _).alloc (by simp) _).trans (hb1.mono (by simp; omega))
    have x1 : w1.cell? ⟨w.heap.size, 1, none⟩ = some (.slice (some ⟨b, off, none⟩) n cap) := (hb1.cell (p := ⟨w.heap.size, 1, none⟩) (by simp; omega)).trans (cell_past (new_cell w #[v0, .slice (some ⟨b, off, none⟩) n cap] 30 1 _ rfl) (by simp) _)
    have e1 : w1.cell? ⟨b, off + k * 2 + 1, none⟩ = some (.string (f k).2) := (kk.out.cell (p := ⟨b, off + k * 2 + 1, none⟩) (by show b < _; omega)).trans (by simpa [cF] using hcell 1 (by omega))
    clear hcell hb1
    go_wp2_with fail
    go_ret2
    exact ⟨rfl, kk.out⟩

/-- Whether two places are joined by an index. -/
def jnB (n : Nat) (f : Nat → ByteArray × ByteArray) (a b : ByteArray) : Bool := hdB n f a && hdB n f b && eqB (hdS n f a) (hdS n f b)

set_option maxRecDepth 100000 in
set_option maxHeartbeats 2000000 in
theorem joinedS_any (B : Nat) (v0 v1 : Value) (n : Nat) (f : Nat → ByteArray × ByteArray) (a b : ByteArray) (w : World) (h : Lst B w v1 n 2 (cF f)) (hB : B ≤ w.heap.size) :
    Calls Try.prog 5 #[.agg #[v0, v1], .string a, .string b] w fun e w' => e = .returned (.bool (jnB n f a b)) ∧ Below w.heap.size w w' := by
  have H : Hid (∀ w', Below w.heap.size w w' → Lst B w' v1 n 2 (cF f)) := fun w' hb => h.kept hb hB
  have k0 : Hid (Below (w.heap.size + 1) (w.alloc (.cells #[v0, v1] 30)) (w.alloc (.cells #[v0, v1] 30))) := Below.refl _ _
  clear h
  cases ha : hdB n f a
  all_goals cases hb : hdB n f b
  all_goals cases he : eqB (hdS n f a) (hdS n f b)
  all_goals
    have E : Hid _ := show jnB n f a b = _ by simp only [jnB, ha, hb, he]; rfl
    unfold eqB at he
    go_enter Try.func5, Try.ntmps5
    go_wp2_with fail
    refine (headS_any B v0 v1 n f a _ (H.out _ (below_end k0.out)) (by simp; omega)).mono ?_; rintro e w1 ⟨rfl, hb1⟩
    rw [ha]
    have k1 : Hid (Below (w.heap.size + 1) (w.alloc (.cells #[v0, v1] 30)) w1) := below_of k0.out hb1
    have x0 := box_in k1.out 0 _ rfl
    have x1 := box_in k1.out 1 _ rfl
    simp only [List.getElem_toArray, List.getElem_cons_zero, List.getElem_cons_succ] at x0 x1
    have s1 : w.heap.size + 1 ≤ w1.heap.size := by have := k1.out.size; simpa using this
    clear hb1
    go_wp2_with fail
    refine (headS_any B v0 v1 n f b _ (H.out _ (below_end k1.out)) (by omega)).mono ?_; rintro e w2 ⟨rfl, hb2⟩
    rw [hb]
    have k2 : Hid (Below (w.heap.size + 1) (w.alloc (.cells #[v0, v1] 30)) w2) := below_of k1.out hb2
    clear hb2 x0 x1
    go_wp2_with fail
    go_ret
    rw [E.out]
    exact ⟨rfl, below_end k2.out⟩

set_option maxRecDepth 100000 in
set_option maxHeartbeats 2000000 in
theorem joinedI_any (B : Nat) (v0 v1 : Value) (n : Nat) (f : Nat → ByteArray × ByteArray) (a b : ByteArray) (w : World) (h : Lst B w v1 n 2 (cF f)) (hB : B ≤ w.heap.size) :
    Calls Try.prog 7 #[.agg #[v0, v1], .string a, .string b] w fun e w' => e = .returned (.bool (jnB n f a b)) ∧ Below w.heap.size w w' := by
  have H : Hid (∀ w', Below w.heap.size w w' → Lst B w' v1 n 2 (cF f)) := fun w' hb => h.kept hb hB
  have k0 : Hid (Below (w.heap.size + 1) (w.alloc (.cells #[v0, v1] 30)) (w.alloc (.cells #[v0, v1] 30))) := Below.refl _ _
  clear h
  cases ha : hdB n f a
  all_goals cases hb : hdB n f b
  all_goals cases he : eqB (hdS n f a) (hdS n f b)
  all_goals
    have E : Hid _ := show jnB n f a b = _ by simp only [jnB, ha, hb, he]; rfl
    unfold eqB at he
    go_enter Try.func7, Try.ntmps7
    go_wp2_with fail
    refine (headI_any B v0 v1 n f a _ (H.out _ (below_end k0.out)) (by simp; omega)).mono ?_; rintro e w1 ⟨rfl, hb1⟩
    rw [ha]
    have k1 : Hid (Below (w.heap.size + 1) (w.alloc (.cells #[v0, v1] 30)) w1) := below_of k0.out hb1
    have x0 := box_in k1.out 0 _ rfl
    have x1 := box_in k1.out 1 _ rfl
    simp only [List.getElem_toArray, List.getElem_cons_zero, List.getElem_cons_succ] at x0 x1
    have s1 : w.heap.size + 1 ≤ w1.heap.size := by have := k1.out.size; simpa using this
    clear hb1
    go_wp2_with fail
    refine (headI_any B v0 v1 n f b _ (H.out _ (below_end k1.out)) (by omega)).mono ?_; rintro e w2 ⟨rfl, hb2⟩
    rw [hb]
    have k2 : Hid (Below (w.heap.size + 1) (w.alloc (.cells #[v0, v1] 30)) w2) := below_of k1.out hb2
    clear hb2 x0 x1
    go_wp2_with fail
    go_ret
    rw [E.out]
    exact ⟨rfl, below_end k2.out⟩

end Go.Proofs.Ytnpfnbgbodojnad
