/-
  Several texts in one.
-/
import Derived.Test.YtigkkelaadbhcabGreatLy
import Derived.Test.YtigkkelaadbhcabGreatM1
namespace Go.Proofs.YtigkkelaadbhcabGreat
open Go.RowKit
def okn (c : Int) : Bool := decide ((97 ≤ c ∧ c ≤ 122) ∨ (48 ≤ c ∧ c ≤ 57) ∨ c = 45)
def nameB (s : ByteArray) : Bool := decide (1 ≤ s.size ∧ s.size ≤ 8) && s.data.toList.all fun c => okn c.toNat
theorem sz_list (s : ByteArray) : s.size = s.data.toList.length := by simp
theorem gt_list (s : ByteArray) (k : Nat) (h : k < s.size) : s.data.toList[k]? = some s[k] := by
  rw [List.getElem?_eq_getElem (by rw [← sz_list]; exact h)]; rfl
theorem name_short {s : ByteArray} (h : ¬ (1 ≤ s.size ∧ s.size ≤ 8)) : nameB s = false := by simp [nameB]; omega
theorem name_bad {s : ByteArray} {k : Nat} (h : k < s.size) (hc : okn s[k].toNat = false) : nameB s = false := by
  have : (s.data.toList.all fun c => okn c.toNat) = false := by
    rw [List.all_eq_false]
    exact ⟨s[k], List.mem_of_getElem? (gt_list s k h), by simp [hc]⟩
  simp only [nameB, this, Bool.and_false]
theorem name_all {s : ByteArray} (h : 1 ≤ s.size ∧ s.size ≤ 8) (ha : ∀ j (hj : j < s.size), okn s[j].toNat = true) : nameB s = true := by
  have : (s.data.toList.all fun c => okn c.toNat) = true := by
    rw [List.all_eq_true]
    intro c hc
    obtain ⟨j, hj, e⟩ := List.mem_iff_getElem.1 hc
    have hj' : j < s.size := by rw [sz_list]; exact hj
    have := ha j hj'
    rw [← e]; exact this
  simp only [nameB, this, Bool.and_true]
  exact decide_eq_true h
def inB (n lo hi : Int) : Bool := decide (lo ≤ n ∧ n ≤ hi)
def eqB (a b : ByteArray) : Bool := a.toList == b.toList
def ltB (a b : ByteArray) : Bool := Op.bytesLess a.toList b.toList
theorem eqB_refl (a : ByteArray) : eqB a a = true := by simp [eqB]
section
variable {α : Type} {p : α → Bool} {l : List α}
theorem any_yes {k : Nat} (hk : k < l.length) (h : p l[k] = true) : l.any p = true := List.any_eq_true.2 ⟨_, List.getElem_mem hk, h⟩
theorem any_no (h : ∀ j (hj : j < l.length), p l[j] = false) : l.any p = false := by
  rw [List.any_eq_false]
  intro x hx
  obtain ⟨j, hj, rfl⟩ := List.mem_iff_getElem.1 hx
  simp [h j hj]
def idxI (l : List α) (p : α → Bool) : Int := match l.findIdx? p with | some i => i | none => -1
theorem idx_yes {k : Nat} (hk : k < l.length) (h : p l[k] = true) (hno : ∀ j (hj : j < l.length), j < k → p l[j] = false) : idxI l p = k := by
  have : l.findIdx? p = some k := by
    rw [List.findIdx?_eq_some_iff_getElem]
    exact ⟨hk, h, fun j hj => by simp [hno j (by omega) hj]⟩
  simp only [idxI, this]
theorem idx_no (h : ∀ j (hj : j < l.length), p l[j] = false) : idxI l p = -1 := by
  have : l.findIdx? p = none := by
    rw [List.findIdx?_eq_none_iff]
    intro x hx
    obtain ⟨j, hj, rfl⟩ := List.mem_iff_getElem.1 hx
    exact h j hj
  simp only [idxI, this]
end
def hasB (l : List ByteArray) (x : ByteArray) : Bool := l.any fun f => eqB f x
section
variable {α : Type}
def prevO (l : List α) (i : Nat) : Option α := if i = 0 then none else l[i - 1]?
theorem prev_zero (l : List α) : prevO l 0 = none := rfl
theorem prev_succ (l : List α) (m : Nat) (h : m < l.length) : prevO l (m + 1) = some l[m] := by
  simp [prevO, List.getElem?_eq_getElem h]
noncomputable def okB (lim : Nat) (T : Option α → α → Bool) (l : List α) : Bool := @decide (l.length ≤ lim ∧ ∀ i (h : i < l.length), T (prevO l i) l[i] = true) (Classical.propDecidable _)
theorem ok_yes {lim : Nat} {T : Option α → α → Bool} {l : List α} (h0 : l.length ≤ lim) (h : ∀ i (h : i < l.length), T (prevO l i) l[i] = true) : okB lim T l = true := by
  unfold okB; exact @decide_eq_true _ (Classical.propDecidable _) ⟨h0, h⟩
theorem ok_long {lim : Nat} {T : Option α → α → Bool} {l : List α} (h0 : ¬ l.length ≤ lim) : okB lim T l = false := by
  unfold okB; exact @decide_eq_false _ (Classical.propDecidable _) (fun h => h0 h.1)
theorem ok_no {lim : Nat} {T : Option α → α → Bool} {l : List α} {k : Nat} (hk : k < l.length) (h : T (prevO l k) l[k] = false) : okB lim T l = false := by
  unfold okB; exact @decide_eq_false _ (Classical.propDecidable _) (fun h' => by have := h'.2 k hk; rw [h] at this; cases this)
theorem ok_iff {lim : Nat} {T : Option α → α → Bool} {l : List α} : okB lim T l = true ↔ l.length ≤ lim ∧ ∀ i (h : i < l.length), T (prevO l i) l[i] = true := by
  unfold okB; exact @decide_eq_true_iff _ (Classical.propDecidable _)
end
section
variable {α : Type}
def asO (R : α → α → Bool) : Option α → α → Bool
  | none, _ => true
  | some p, x => R p x
def tst (P : α → Bool) (R : α → α → Bool) (o : Option α) (x : α) : Bool := P x && asO R o x
theorem as_zero {R : α → α → Bool} {l : List α} (j : Nat) (hj : j < l.length) (h : j = 0) : asO R (prevO l j) l[j] = true := by
  subst h; rw [prev_zero]; rfl
noncomputable def ascB (R : α → α → Bool) (l : List α) : Bool := okB l.length (asO R) l
theorem tst_asc {lim : Nat} {P : α → Bool} {R : α → α → Bool} {l : List α} (h0 : l.length ≤ lim) (hP : ∀ j (hj : j < l.length), P l[j] = true) : okB lim (tst P R) l = ascB R l := by
  rw [Bool.eq_iff_iff, ascB, ok_iff, ok_iff]
  constructor
  · rintro ⟨_, h⟩
    exact ⟨Nat.le_refl _, fun i hi => by have := h i hi; rw [tst, hP i hi, Bool.true_and] at this; exact this⟩
  · rintro ⟨_, h⟩
    exact ⟨h0, fun i hi => by rw [tst, hP i hi, h i hi]; rfl⟩
theorem tst_no {lim : Nat} {P : α → Bool} {R : α → α → Bool} {l : List α} {k : Nat} (hk : k < l.length) (h : P l[k] = false) : okB lim (tst P R) l = false :=
  ok_no hk (by rw [tst, h]; rfl)
end
theorem box_at {w : World} (o : Array Value) (t : TypeId) {wr : World} (hb : Below (w.heap.size + 1) (w.alloc (.cells o t)) wr) (j : Nat) (v : Value) (h : o[j]? = some v) : wr.cell? ⟨w.heap.size, j, none⟩ = some v := by
  refine (hb.cell (p := ⟨w.heap.size, j, none⟩) (by show w.heap.size < _; omega)).trans ?_
  simp only [World.cell?, heap_alloc_new, h]; rfl
theorem below_end {w wr : World} {o : Obj} (hb : Below (w.heap.size + 1) (w.alloc o) wr) : Below w.heap.size w wr :=
  ((Below.refl _ _).alloc (Nat.le_refl _) o).trans (hb.mono (by omega))
theorem below_of {w wr wr' : World} {o : Obj} (hb : Below (w.heap.size + 1) (w.alloc o) wr) (h : Below wr.heap.size wr wr') : Below (w.heap.size + 1) (w.alloc o) wr' :=
  hb.trans (h.mono (by have := hb.size; simp at this; exact this))
end Go.Proofs.YtigkkelaadbhcabGreat

namespace Go.Proofs.YtigkkelaadbhcabGreat
open Go.RowKit
def isT (s : ByteArray) (l : List UInt8) : Bool := s.toList == l
def endI (s : ByteArray) : Int := if isT s [103, 111, 111, 100] = true then 1 else if isT s [115, 97, 118, 101, 100] = true then 2 else if isT s [115, 99, 114, 97, 112, 112, 101, 100] = true then 3 else 0
set_option maxRecDepth 100000 in
set_option maxHeartbeats 4000000 in
theorem endX_any (s : ByteArray) (w : World) : Calls Tryz.prog 100 #[.string s] w fun e w' => e = .returned (.int .i64 (endI s)) ∧ w' = w := by
  unfold endI
  cases h1 : isT s [103, 111, 111, 100]
  · cases h2 : isT s [115, 97, 118, 101, 100]
    · cases h3 : isT s [115, 99, 114, 97, 112, 112, 101, 100]
      · unfold isT at h1 h2 h3
        go_enter Tryz.func100, Tryz.ntmps100
        go_wp2
        go_ret
        exact ⟨rfl, rfl⟩
      · unfold isT at h1 h2 h3
        go_enter Tryz.func100, Tryz.ntmps100
        go_wp2
        go_ret
        exact ⟨rfl, rfl⟩
    · unfold isT at h1 h2
      go_enter Tryz.func100, Tryz.ntmps100
      go_wp2
      go_ret
      exact ⟨rfl, rfl⟩
  · unfold isT at h1
    go_enter Tryz.func100, Tryz.ntmps100
    go_wp2
    go_ret
    exact ⟨rfl, rfl⟩
end Go.Proofs.YtigkkelaadbhcabGreat

namespace Go.Proofs.YtigkkelaadbhcabGreat
open Go.RowKit
def OkN (a : Int) : Prop := -9223372036854775808 ≤ a ∧ a ≤ 9223372036854775807
def plainB (s : ByteArray) : Bool := nameB s && (endI s == 0)
def argsB (p : DRecPhase) : Bool :=
  if p.2.1 = 1 then nameB p.2.2.1 && nameB p.2.2.2.1 && inB p.2.2.2.2.1 1 1000
  else if p.2.1 = 2 then nameB p.2.2.1 && nameB p.2.2.2.1 && !(eqB p.2.2.1 p.2.2.2.1) && inB p.2.2.2.2.1 1 1000
  else if p.2.1 = 3 then nameB p.2.2.1 && isT p.2.2.2.1 [] && inB p.2.2.2.2.1 1 p.2.2.2.2.2.1
  else if p.2.1 = 4 ∨ p.2.1 = 5 then nameB p.2.2.1 && isT p.2.2.2.1 [] && (p.2.2.2.2.1 == 0)
  else false
def phaseB (p : DRecPhase) : Bool := plainB p.1 && inB p.2.2.2.2.2.1 1 1000 && argsB p && nameB p.2.2.2.2.2.2.1 && nameB p.2.2.2.2.2.2.2
set_option maxHeartbeats 400000 in
theorem inX_any (n lo hi : Int) (w : World) : Calls Tryz.prog 34 #[.int .i64 n, .int .i64 lo, .int .i64 hi] w fun e w' => e = .returned (.bool (inB n lo hi)) ∧ w' = w := by
  by_cases h1 : lo ≤ n
  · by_cases h2 : n ≤ hi
    · have hw : inB n lo hi = true := by simp [inB, h1, h2]
      rw [hw]
      go_enter Tryz.func34, Tryz.ntmps34
      go_wp2
      go_ret
      exact ⟨rfl, rfl⟩
    · have hw : inB n lo hi = false := by simp [inB]; omega
      rw [hw]
      go_enter Tryz.func34, Tryz.ntmps34
      go_wp2
      go_ret
      exact ⟨rfl, rfl⟩
  · have hw : inB n lo hi = false := by simp [inB]; omega
    rw [hw]
    go_enter Tryz.func34, Tryz.ntmps34
    go_wp2
    go_ret
    exact ⟨rfl, rfl⟩
set_option maxRecDepth 100000 in
set_option maxHeartbeats 1000000 in
theorem nameX_any (s : ByteArray) (w : World) (hs : s.size ≤ maxLen) : Calls Tryz.prog 61 #[.string s] w fun e w' => e = .returned (.bool (nameB s)) ∧ w' = w := by
  unfold maxLen at hs
  by_cases hl : 1 ≤ s.size ∧ s.size ≤ 8
  · have hin : inB (s.size : Int) 1 8 = true := by simp [inB]; omega
    go_enter Tryz.func61, Tryz.ntmps61
    go_wp2_with (go_at_call 34; refine (inX_any _ _ _ _).mono ?_; rintro e w1 ⟨rfl, rfl⟩; rw [hin])
    go_loop [3] (fun i => ∃ k : Nat, k ≤ s.size ∧ i = .int .i64 k ∧ Hid (∀ j (hj : j < s.size), j < k → okn s[j].toNat = true)) (fun i => s.size - (intOf i).toNat)
    case atStart => exact ⟨0, Nat.zero_le _, rfl, fun _ _ h => by omega⟩
    case round =>
      obtain ⟨k, hk, rfl, hno⟩ := hrel
      by_cases hlt : k < s.size
      · have hb := s[k].toNat_lt
        have HN : Hid (okn s[k].toNat = false → nameB s = false) := fun h => name_bad hlt h
        rcases (show (s[k].toNat : Int) < 45 ∨ (s[k].toNat : Int) = 45 ∨ (45 < (s[k].toNat : Int) ∧ (s[k].toNat : Int) < 48) ∨ (48 ≤ (s[k].toNat : Int) ∧ (s[k].toNat : Int) ≤ 57) ∨ (57 < (s[k].toNat : Int) ∧ (s[k].toNat : Int) < 97) ∨ (97 ≤ (s[k].toNat : Int) ∧ (s[k].toNat : Int) ≤ 122) ∨ 122 < (s[k].toNat : Int) by omega) with h | h | ⟨h, h'⟩ | ⟨h, h'⟩ | ⟨h, h'⟩ | ⟨h, h'⟩ | h
        · have h45 : ((s[k].toNat : Int) == 45) = false := by simp; omega
          have HO : Hid (okn s[k].toNat = false) := by simp [Hid, okn]; omega
          go_wp2
          rw [HN.out HO.out]
          go_ret
          exact ⟨rfl, rfl⟩
        · have h45 : ((s[k].toNat : Int) == 45) = true := by rw [h]; rfl
          have HO : Hid (okn s[k].toNat = true) := by rw [h]; rfl
          have ha : (s[k].toNat : Int) ≤ 45 := by omega
          clear h
          go_wp2
          go_round
          case rel => exact ⟨k + 1, by omega, by go_num, fun j hj hjk => by
            by_cases e : j = k
            · subst e; exact HO.out
            · exact hno.out j hj (by omega)⟩
          case measure => simp [intOf]; omega
        · have h45 : ((s[k].toNat : Int) == 45) = false := by simp; omega
          have HO : Hid (okn s[k].toNat = false) := by simp [Hid, okn]; omega
          go_wp2
          rw [HN.out HO.out]
          go_ret
          exact ⟨rfl, rfl⟩
        · have h45 : ((s[k].toNat : Int) == 45) = false := by simp; omega
          have HO : Hid (okn s[k].toNat = true) := by simp [Hid, okn]; omega
          go_wp2
          go_round
          case rel => exact ⟨k + 1, by omega, by go_num, fun j hj hjk => by
            by_cases e : j = k
            · subst e; exact HO.out
            · exact hno.out j hj (by omega)⟩
          case measure => simp [intOf]; omega
        · have h45 : ((s[k].toNat : Int) == 45) = false := by simp; omega
          have HO : Hid (okn s[k].toNat = false) := by simp [Hid, okn]; omega
          have d57 : decide ((s[k].toNat : Int) ≤ 57) = false := by simp; omega
          go_wp2
          rw [HN.out HO.out]
          go_ret
          exact ⟨rfl, rfl⟩
        · have h45 : ((s[k].toNat : Int) == 45) = false := by simp; omega
          have HO : Hid (okn s[k].toNat = true) := by simp [Hid, okn]; omega
          go_wp2
          go_round
          case rel => exact ⟨k + 1, by omega, by go_num, fun j hj hjk => by
            by_cases e : j = k
            · subst e; exact HO.out
            · exact hno.out j hj (by omega)⟩
          case measure => simp [intOf]; omega
        · have h45 : ((s[k].toNat : Int) == 45) = false := by simp; omega
          have HO : Hid (okn s[k].toNat = false) := by simp [Hid, okn]; omega
          have d57 : decide ((s[k].toNat : Int) ≤ 57) = false := by simp; omega
          have d122 : decide ((s[k].toNat : Int) ≤ 122) = false := by simp; omega
          go_wp2
          rw [HN.out HO.out]
          go_ret
          exact ⟨rfl, rfl⟩
      · go_wp2
        go_ret
        have hkn : k = s.size := by omega
        subst hkn
        rw [name_all hl (fun j hj => hno.out j hj hj)]
        exact ⟨rfl, rfl⟩
  · have hin : inB (s.size : Int) 1 8 = false := by simp [inB]; omega
    rw [name_short hl]
    go_enter Tryz.func61, Tryz.ntmps61
    go_wp2_with (go_at_call 34; refine (inX_any _ _ _ _).mono ?_; rintro e w1 ⟨rfl, rfl⟩; rw [hin])
    go_ret
    exact ⟨rfl, rfl⟩
set_option maxRecDepth 100000 in
set_option maxHeartbeats 4000000 in
theorem plainX_any (s : ByteArray) (w : World) (hs : s.size ≤ maxLen) : Calls Tryz.prog 131 #[.string s] w fun e w' => e = .returned (.bool (plainB s)) ∧ w' = w := by
  cases h1 : nameB s
  · have hw : plainB s = false := by simp [plainB, h1]
    rw [hw]
    go_enter Tryz.func131, Tryz.ntmps131
    go_wp2_with fail
    refine (nameX_any s w hs).mono ?_; rintro e w1 ⟨rfl, rfl⟩; rw [h1]
    go_wp2_with fail
    go_ret
    exact ⟨rfl, rfl⟩
  · by_cases h2 : endI s = 0
    · have hw : plainB s = true := by simp [plainB, h1, h2]
      rw [hw]
      go_enter Tryz.func131, Tryz.ntmps131
      go_wp2_with fail
      refine (nameX_any s w hs).mono ?_; rintro e w1 ⟨rfl, rfl⟩; rw [h1]
      go_wp2_with fail
      refine (endX_any s _).mono ?_; rintro e w2 ⟨rfl, rfl⟩; rw [h2]
      go_wp2_with fail
      go_ret
      exact ⟨rfl, rfl⟩
    · have hw : plainB s = false := by simp [plainB, h1, h2]
      rw [hw]
      go_enter Tryz.func131, Tryz.ntmps131
      go_wp2_with fail
      refine (nameX_any s w hs).mono ?_; rintro e w1 ⟨rfl, rfl⟩; rw [h1]
      go_wp2_with fail
      refine (endX_any s _).mono ?_; rintro e w2 ⟨rfl, rfl⟩
      have h3 : (endI s == 0) = false := by simp [h2]
      go_wp2_with fail
      go_ret
      exact ⟨rfl, rfl⟩
set_option maxRecDepth 100000 in
set_option maxHeartbeats 4000000 in
theorem argsX_any (nm a b th el : ByteArray) (kd n wi : Int) (w : World) (ha : a.size ≤ maxLen) (hb : b.size ≤ maxLen) : Calls Tryz.prog 132 #[.agg #[.string nm, .int .i64 kd, .string a, .string b, .int .i64 n, .int .i64 wi, .string th, .string el]] w fun e w' => e = .returned (.bool (argsB (nm, kd, a, b, n, wi, th, el))) ∧ Below w.heap.size w w' := by
  by_cases k1 : kd = 1
  · subst k1
    cases h1 : nameB a
    · have _u := trivial
      have hw : argsB (nm, 1, a, b, n, wi, th, el) = false := by simp [argsB, h1]
      rw [hw]
      go_enter Tryz.func132, Tryz.ntmps132
      go_wp2_with fail
      refine (nameX_any a _ ha).mono ?_; rintro e w1 ⟨rfl, rfl⟩; rw [h1]
      go_wp2_with fail
      go_ret
      exact ⟨rfl, (Below.refl _ _).alloc (Nat.le_refl _) _⟩
    · have _u := trivial
      cases h2 : nameB b
      · have _u := trivial
        have hw : argsB (nm, 1, a, b, n, wi, th, el) = false := by simp [argsB, h1, h2]
        rw [hw]
        go_enter Tryz.func132, Tryz.ntmps132
        go_wp2_with fail
        refine (nameX_any a _ ha).mono ?_; rintro e w1 ⟨rfl, rfl⟩; rw [h1]
        go_wp2_with fail
        refine (nameX_any b _ hb).mono ?_; rintro e w2 ⟨rfl, rfl⟩; rw [h2]
        go_wp2_with fail
        go_ret
        exact ⟨rfl, (Below.refl _ _).alloc (Nat.le_refl _) _⟩
      · have _u := trivial
        cases h3 : inB n 1 1000
        · have _u := trivial
          have hw : argsB (nm, 1, a, b, n, wi, th, el) = false := by simp [argsB, h1, h2, h3]
          rw [hw]
          go_enter Tryz.func132, Tryz.ntmps132
          go_wp2_with fail
          refine (nameX_any a _ ha).mono ?_; rintro e w1 ⟨rfl, rfl⟩; rw [h1]
          go_wp2_with fail
          refine (nameX_any b _ hb).mono ?_; rintro e w2 ⟨rfl, rfl⟩; rw [h2]
          go_wp2_with fail
          refine (inX_any n 1 1000 _).mono ?_; rintro e w3 ⟨rfl, rfl⟩; rw [h3]
          go_wp2_with fail
          go_ret
          exact ⟨rfl, (Below.refl _ _).alloc (Nat.le_refl _) _⟩
        · have _u := trivial
          have hw : argsB (nm, 1, a, b, n, wi, th, el) = true := by simp [argsB, h1, h2, h3]
          rw [hw]
          go_enter Tryz.func132, Tryz.ntmps132
          go_wp2_with fail
          refine (nameX_any a _ ha).mono ?_; rintro e w1 ⟨rfl, rfl⟩; rw [h1]
          go_wp2_with fail
          refine (nameX_any b _ hb).mono ?_; rintro e w2 ⟨rfl, rfl⟩; rw [h2]
          go_wp2_with fail
          refine (inX_any n 1 1000 _).mono ?_; rintro e w3 ⟨rfl, rfl⟩; rw [h3]
          go_wp2_with fail
          go_ret
          exact ⟨rfl, (Below.refl _ _).alloc (Nat.le_refl _) _⟩
  by_cases k2 : kd = 2
  · subst k2
    cases h1 : nameB a
    · have _u := trivial
      have hw : argsB (nm, 2, a, b, n, wi, th, el) = false := by simp [argsB, h1]
      rw [hw]
      go_enter Tryz.func132, Tryz.ntmps132
      go_wp2_with fail
      refine (nameX_any a _ ha).mono ?_; rintro e w1 ⟨rfl, rfl⟩; rw [h1]
      go_wp2_with fail
      go_ret
      exact ⟨rfl, (Below.refl _ _).alloc (Nat.le_refl _) _⟩
    · have _u := trivial
      cases h2 : nameB b
      · have _u := trivial
        have hw : argsB (nm, 2, a, b, n, wi, th, el) = false := by simp [argsB, h1, h2]
        rw [hw]
        go_enter Tryz.func132, Tryz.ntmps132
        go_wp2_with fail
        refine (nameX_any a _ ha).mono ?_; rintro e w1 ⟨rfl, rfl⟩; rw [h1]
        go_wp2_with fail
        refine (nameX_any b _ hb).mono ?_; rintro e w2 ⟨rfl, rfl⟩; rw [h2]
        go_wp2_with fail
        go_ret
        exact ⟨rfl, (Below.refl _ _).alloc (Nat.le_refl _) _⟩
      · have _u := trivial
        cases h3 : !(eqB a b)
        · have _u := trivial
          have hw : argsB (nm, 2, a, b, n, wi, th, el) = false := by simp [argsB, h1, h2, h3]
          rw [hw]
          unfold eqB at h3
          go_enter Tryz.func132, Tryz.ntmps132
          go_wp2_with fail
          refine (nameX_any a _ ha).mono ?_; rintro e w1 ⟨rfl, rfl⟩; rw [h1]
          go_wp2_with fail
          refine (nameX_any b _ hb).mono ?_; rintro e w2 ⟨rfl, rfl⟩; rw [h2]
          go_wp2_with fail
          go_ret
          exact ⟨rfl, (Below.refl _ _).alloc (Nat.le_refl _) _⟩
        · have _u := trivial
          cases h4 : inB n 1 1000
          · have _u := trivial
            have hw : argsB (nm, 2, a, b, n, wi, th, el) = false := by simp [argsB, h1, h2, h3, h4]
            rw [hw]
            unfold eqB at h3
            go_enter Tryz.func132, Tryz.ntmps132
            go_wp2_with fail
            refine (nameX_any a _ ha).mono ?_; rintro e w1 ⟨rfl, rfl⟩; rw [h1]
            go_wp2_with fail
            refine (nameX_any b _ hb).mono ?_; rintro e w2 ⟨rfl, rfl⟩; rw [h2]
            go_wp2_with fail
            refine (inX_any n 1 1000 _).mono ?_; rintro e w4 ⟨rfl, rfl⟩; rw [h4]
            go_wp2_with fail
            go_ret
            exact ⟨rfl, (Below.refl _ _).alloc (Nat.le_refl _) _⟩
          · have _u := trivial
            have hw : argsB (nm, 2, a, b, n, wi, th, el) = true := by simp [argsB, h1, h2, h3, h4]
            rw [hw]
            unfold eqB at h3
            go_enter Tryz.func132, Tryz.ntmps132
            go_wp2_with fail
            refine (nameX_any a _ ha).mono ?_; rintro e w1 ⟨rfl, rfl⟩; rw [h1]
            go_wp2_with fail
            refine (nameX_any b _ hb).mono ?_; rintro e w2 ⟨rfl, rfl⟩; rw [h2]
            go_wp2_with fail
            refine (inX_any n 1 1000 _).mono ?_; rintro e w4 ⟨rfl, rfl⟩; rw [h4]
            go_wp2_with fail
            go_ret
            exact ⟨rfl, (Below.refl _ _).alloc (Nat.le_refl _) _⟩
  by_cases k3 : kd = 3
  · subst k3
    cases h1 : nameB a
    · have _u := trivial
      have hw : argsB (nm, 3, a, b, n, wi, th, el) = false := by simp [argsB, h1]
      rw [hw]
      go_enter Tryz.func132, Tryz.ntmps132
      go_wp2_with fail
      refine (nameX_any a _ ha).mono ?_; rintro e w1 ⟨rfl, rfl⟩; rw [h1]
      go_wp2_with fail
      go_ret
      exact ⟨rfl, (Below.refl _ _).alloc (Nat.le_refl _) _⟩
    · have _u := trivial
      cases h2 : isT b []
      · have _u := trivial
        have hw : argsB (nm, 3, a, b, n, wi, th, el) = false := by simp [argsB, h1, h2]
        rw [hw]
        unfold isT at h2
        go_enter Tryz.func132, Tryz.ntmps132
        go_wp2_with fail
        refine (nameX_any a _ ha).mono ?_; rintro e w1 ⟨rfl, rfl⟩; rw [h1]
        go_wp2_with fail
        go_ret
        exact ⟨rfl, (Below.refl _ _).alloc (Nat.le_refl _) _⟩
      · have _u := trivial
        cases h3 : inB n 1 wi
        · have _u := trivial
          have hw : argsB (nm, 3, a, b, n, wi, th, el) = false := by simp [argsB, h1, h2, h3]
          rw [hw]
          unfold isT at h2
          go_enter Tryz.func132, Tryz.ntmps132
          go_wp2_with fail
          refine (nameX_any a _ ha).mono ?_; rintro e w1 ⟨rfl, rfl⟩; rw [h1]
          go_wp2_with fail
          refine (inX_any n 1 wi _).mono ?_; rintro e w3 ⟨rfl, rfl⟩; rw [h3]
          go_wp2_with fail
          go_ret
          exact ⟨rfl, (Below.refl _ _).alloc (Nat.le_refl _) _⟩
        · have _u := trivial
          have hw : argsB (nm, 3, a, b, n, wi, th, el) = true := by simp [argsB, h1, h2, h3]
          rw [hw]
          unfold isT at h2
          go_enter Tryz.func132, Tryz.ntmps132
          go_wp2_with fail
          refine (nameX_any a _ ha).mono ?_; rintro e w1 ⟨rfl, rfl⟩; rw [h1]
          go_wp2_with fail
          refine (inX_any n 1 wi _).mono ?_; rintro e w3 ⟨rfl, rfl⟩; rw [h3]
          go_wp2_with fail
          go_ret
          exact ⟨rfl, (Below.refl _ _).alloc (Nat.le_refl _) _⟩
  by_cases k4 : kd = 4
  · subst k4
    cases h1 : nameB a
    · have _u := trivial
      have hw : argsB (nm, 4, a, b, n, wi, th, el) = false := by simp [argsB, h1]
      rw [hw]
      go_enter Tryz.func132, Tryz.ntmps132
      go_wp2_with fail
      refine (nameX_any a _ ha).mono ?_; rintro e w1 ⟨rfl, rfl⟩; rw [h1]
      go_wp2_with fail
      go_ret
      exact ⟨rfl, (Below.refl _ _).alloc (Nat.le_refl _) _⟩
    · have _u := trivial
      cases h2 : isT b []
      · have _u := trivial
        have hw : argsB (nm, 4, a, b, n, wi, th, el) = false := by simp [argsB, h1, h2]
        rw [hw]
        unfold isT at h2
        go_enter Tryz.func132, Tryz.ntmps132
        go_wp2_with fail
        refine (nameX_any a _ ha).mono ?_; rintro e w1 ⟨rfl, rfl⟩; rw [h1]
        go_wp2_with fail
        go_ret
        exact ⟨rfl, (Below.refl _ _).alloc (Nat.le_refl _) _⟩
      · have _u := trivial
        cases h3 : (n == 0)
        · have _u := trivial
          have hw : argsB (nm, 4, a, b, n, wi, th, el) = false := by simp [argsB, h1, h2, h3]
          rw [hw]
          unfold isT at h2
          go_enter Tryz.func132, Tryz.ntmps132
          go_wp2_with fail
          refine (nameX_any a _ ha).mono ?_; rintro e w1 ⟨rfl, rfl⟩; rw [h1]
          go_wp2_with fail
          go_ret
          exact ⟨rfl, (Below.refl _ _).alloc (Nat.le_refl _) _⟩
        · have _u := trivial
          have hw : argsB (nm, 4, a, b, n, wi, th, el) = true := by simp [argsB, h1, h2, h3]
          rw [hw]
          unfold isT at h2
          go_enter Tryz.func132, Tryz.ntmps132
          go_wp2_with fail
          refine (nameX_any a _ ha).mono ?_; rintro e w1 ⟨rfl, rfl⟩; rw [h1]
          go_wp2_with fail
          go_ret
          exact ⟨rfl, (Below.refl _ _).alloc (Nat.le_refl _) _⟩
  by_cases k5 : kd = 5
  · subst k5
    cases h1 : nameB a
    · have _u := trivial
      have hw : argsB (nm, 5, a, b, n, wi, th, el) = false := by simp [argsB, h1]
      rw [hw]
      go_enter Tryz.func132, Tryz.ntmps132
      go_wp2_with fail
      refine (nameX_any a _ ha).mono ?_; rintro e w1 ⟨rfl, rfl⟩; rw [h1]
      go_wp2_with fail
      go_ret
      exact ⟨rfl, (Below.refl _ _).alloc (Nat.le_refl _) _⟩
    · have _u := trivial
      cases h2 : isT b []
      · have _u := trivial
        have hw : argsB (nm, 5, a, b, n, wi, th, el) = false := by simp [argsB, h1, h2]
        rw [hw]
        unfold isT at h2
        go_enter Tryz.func132, Tryz.ntmps132
        go_wp2_with fail
        refine (nameX_any a _ ha).mono ?_; rintro e w1 ⟨rfl, rfl⟩; rw [h1]
        go_wp2_with fail
        go_ret
        exact ⟨rfl, (Below.refl _ _).alloc (Nat.le_refl _) _⟩
      · have _u := trivial
        cases h3 : (n == 0)
        · have _u := trivial
          have hw : argsB (nm, 5, a, b, n, wi, th, el) = false := by simp [argsB, h1, h2, h3]
          rw [hw]
          unfold isT at h2
          go_enter Tryz.func132, Tryz.ntmps132
          go_wp2_with fail
          refine (nameX_any a _ ha).mono ?_; rintro e w1 ⟨rfl, rfl⟩; rw [h1]
          go_wp2_with fail
          go_ret
          exact ⟨rfl, (Below.refl _ _).alloc (Nat.le_refl _) _⟩
        · have _u := trivial
          have hw : argsB (nm, 5, a, b, n, wi, th, el) = true := by simp [argsB, h1, h2, h3]
          rw [hw]
          unfold isT at h2
          go_enter Tryz.func132, Tryz.ntmps132
          go_wp2_with fail
          refine (nameX_any a _ ha).mono ?_; rintro e w1 ⟨rfl, rfl⟩; rw [h1]
          go_wp2_with fail
          go_ret
          exact ⟨rfl, (Below.refl _ _).alloc (Nat.le_refl _) _⟩
  have hw : argsB (nm, kd, a, b, n, wi, th, el) = false := by simp [argsB, k1, k2, k3, k4, k5]
  rw [hw]
  go_enter Tryz.func132, Tryz.ntmps132
  go_wp2_with fail
  go_ret
  exact ⟨rfl, (Below.refl _ _).alloc (Nat.le_refl _) _⟩
set_option maxRecDepth 100000 in
set_option maxHeartbeats 4000000 in
theorem phaseX_any (nm a b th el : ByteArray) (kd n wi : Int) (w : World) (hn : nm.size ≤ maxLen) (ha : a.size ≤ maxLen) (hb : b.size ≤ maxLen) (ht : th.size ≤ maxLen) (he : el.size ≤ maxLen) : Calls Tryz.prog 99 #[.agg #[.string nm, .int .i64 kd, .string a, .string b, .int .i64 n, .int .i64 wi, .string th, .string el]] w fun e w' => e = .returned (.bool (phaseB (nm, kd, a, b, n, wi, th, el))) ∧ Below w.heap.size w w' := by
  cases h1 : plainB nm
  · have _u := trivial
    have hw : phaseB (nm, kd, a, b, n, wi, th, el) = false := by simp [phaseB, h1]
    rw [hw]
    go_enter Tryz.func99, Tryz.ntmps99
    go_wp2_with fail
    refine (plainX_any nm _ hn).mono ?_; rintro e w1 ⟨rfl, rfl⟩; rw [h1]
    go_wp2_with fail
    go_ret
    exact ⟨rfl, (Below.refl _ _).alloc (Nat.le_refl _) _⟩
  · have _u := trivial
    cases h2 : inB wi 1 1000
    · have _u := trivial
      have hw : phaseB (nm, kd, a, b, n, wi, th, el) = false := by simp [phaseB, h1, h2]
      rw [hw]
      go_enter Tryz.func99, Tryz.ntmps99
      go_wp2_with fail
      refine (plainX_any nm _ hn).mono ?_; rintro e w1 ⟨rfl, rfl⟩; rw [h1]
      go_wp2_with fail
      refine (inX_any wi 1 1000 _).mono ?_; rintro e w2 ⟨rfl, rfl⟩; rw [h2]
      go_wp2_with fail
      go_ret
      exact ⟨rfl, (Below.refl _ _).alloc (Nat.le_refl _) _⟩
    · have _u := trivial
      cases h3 : argsB (nm, kd, a, b, n, wi, th, el)
      · have _u := trivial
        have hw : phaseB (nm, kd, a, b, n, wi, th, el) = false := by simp [phaseB, h1, h2, h3]
        rw [hw]
        go_enter Tryz.func99, Tryz.ntmps99
        go_wp2_with fail
        refine (plainX_any nm _ hn).mono ?_; rintro e w1 ⟨rfl, rfl⟩; rw [h1]
        go_wp2_with fail
        refine (inX_any wi 1 1000 _).mono ?_; rintro e w2 ⟨rfl, rfl⟩; rw [h2]
        go_wp2_with fail
        refine (argsX_any nm a b th el kd n wi _ ha hb).mono ?_; rintro e w3 ⟨rfl, hb3⟩; rw [h3]
        have k3 : Hid (Below (w.heap.size + 1) (w.alloc (.cells #[.string nm, .int .i64 kd, .string a, .string b, .int .i64 n, .int .i64 wi, .string th, .string el] 110)) w3) := below_of (Below.refl _ _) hb3
        have x6 := box_at _ _ k3.out 6 (.string th) rfl
        have x7 := box_at _ _ k3.out 7 (.string el) rfl
        clear hb3
        go_wp2_with fail
        go_ret
        exact ⟨rfl, below_end k3.out⟩
      · have _u := trivial
        cases h4 : nameB th
        · have _u := trivial
          have hw : phaseB (nm, kd, a, b, n, wi, th, el) = false := by simp [phaseB, h1, h2, h3, h4]
          rw [hw]
          go_enter Tryz.func99, Tryz.ntmps99
          go_wp2_with fail
          refine (plainX_any nm _ hn).mono ?_; rintro e w1 ⟨rfl, rfl⟩; rw [h1]
          go_wp2_with fail
          refine (inX_any wi 1 1000 _).mono ?_; rintro e w2 ⟨rfl, rfl⟩; rw [h2]
          go_wp2_with fail
          refine (argsX_any nm a b th el kd n wi _ ha hb).mono ?_; rintro e w3 ⟨rfl, hb3⟩; rw [h3]
          have k3 : Hid (Below (w.heap.size + 1) (w.alloc (.cells #[.string nm, .int .i64 kd, .string a, .string b, .int .i64 n, .int .i64 wi, .string th, .string el] 110)) w3) := below_of (Below.refl _ _) hb3
          have x6 := box_at _ _ k3.out 6 (.string th) rfl
          have x7 := box_at _ _ k3.out 7 (.string el) rfl
          clear hb3
          go_wp2_with fail
          refine (nameX_any th _ ht).mono ?_; rintro e w4 ⟨rfl, rfl⟩; rw [h4]
          go_wp2_with fail
          go_ret
          exact ⟨rfl, below_end k3.out⟩
        · have _u := trivial
          cases h5 : nameB el
          · have _u := trivial
            have hw : phaseB (nm, kd, a, b, n, wi, th, el) = false := by simp [phaseB, h1, h2, h3, h4, h5]
            rw [hw]
            go_enter Tryz.func99, Tryz.ntmps99
            go_wp2_with fail
            refine (plainX_any nm _ hn).mono ?_; rintro e w1 ⟨rfl, rfl⟩; rw [h1]
            go_wp2_with fail
            refine (inX_any wi 1 1000 _).mono ?_; rintro e w2 ⟨rfl, rfl⟩; rw [h2]
            go_wp2_with fail
            refine (argsX_any nm a b th el kd n wi _ ha hb).mono ?_; rintro e w3 ⟨rfl, hb3⟩; rw [h3]
            have k3 : Hid (Below (w.heap.size + 1) (w.alloc (.cells #[.string nm, .int .i64 kd, .string a, .string b, .int .i64 n, .int .i64 wi, .string th, .string el] 110)) w3) := below_of (Below.refl _ _) hb3
            have x6 := box_at _ _ k3.out 6 (.string th) rfl
            have x7 := box_at _ _ k3.out 7 (.string el) rfl
            clear hb3
            go_wp2_with fail
            refine (nameX_any th _ ht).mono ?_; rintro e w4 ⟨rfl, rfl⟩; rw [h4]
            go_wp2_with fail
            refine (nameX_any el _ he).mono ?_; rintro e w5 ⟨rfl, rfl⟩; rw [h5]
            go_wp2_with fail
            go_ret
            exact ⟨rfl, below_end k3.out⟩
          · have _u := trivial
            have hw : phaseB (nm, kd, a, b, n, wi, th, el) = true := by simp [phaseB, h1, h2, h3, h4, h5]
            rw [hw]
            go_enter Tryz.func99, Tryz.ntmps99
            go_wp2_with fail
            refine (plainX_any nm _ hn).mono ?_; rintro e w1 ⟨rfl, rfl⟩; rw [h1]
            go_wp2_with fail
            refine (inX_any wi 1 1000 _).mono ?_; rintro e w2 ⟨rfl, rfl⟩; rw [h2]
            go_wp2_with fail
            refine (argsX_any nm a b th el kd n wi _ ha hb).mono ?_; rintro e w3 ⟨rfl, hb3⟩; rw [h3]
            have k3 : Hid (Below (w.heap.size + 1) (w.alloc (.cells #[.string nm, .int .i64 kd, .string a, .string b, .int .i64 n, .int .i64 wi, .string th, .string el] 110)) w3) := below_of (Below.refl _ _) hb3
            have x6 := box_at _ _ k3.out 6 (.string th) rfl
            have x7 := box_at _ _ k3.out 7 (.string el) rfl
            clear hb3
            go_wp2_with fail
            refine (nameX_any th _ ht).mono ?_; rintro e w4 ⟨rfl, rfl⟩; rw [h4]
            go_wp2_with fail
            refine (nameX_any el _ he).mono ?_; rintro e w5 ⟨rfl, rfl⟩; rw [h5]
            go_wp2_with fail
            go_ret
            exact ⟨rfl, below_end k3.out⟩
end Go.Proofs.YtigkkelaadbhcabGreat
