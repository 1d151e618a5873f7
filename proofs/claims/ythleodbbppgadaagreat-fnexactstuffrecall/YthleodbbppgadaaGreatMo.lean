/-
  The model's searches in a book: lots, foes, vessels.
-/
import Derived.Test.YthleodbbppgadaaGreatLa
import Derived.Test.YthleodbbppgadaaGreatMn
namespace Go.Proofs.YthleodbbppgadaaGreat
open Go.RowKit

def eqB (a b : ByteArray) : Bool := a.toList == b.toList
def ltB (a b : ByteArray) : Bool := Op.bytesLess a.toList b.toList
theorem eqB_refl (a : ByteArray) : eqB a a = true := by simp [eqB]

section
variable {α : Type} {p : α → Bool} {l : List α}
theorem any_yes {k : Nat} (hk : k < l.length) (h : p l[k] = true) : l.any p = true := List.any_eq_true.2 ⟨_, List.getElem_mem hk, h⟩
theorem any_no (h : ∀ j (hj : j < l.length), p l[j] = false) : l.any p = false := by
  rw [List.any_eq_false]
  intro x hx
  obtain ⟨j, hj, rfl⟩ := List.mem_iff_getElem.1 hx
  simp [h j hj]
theorem all_yes (h : ∀ j (hj : j < l.length), p l[j] = true) : l.all p = true := by
  rw [List.all_eq_true]
  intro x hx
  obtain ⟨j, hj, rfl⟩ := List.mem_iff_getElem.1 hx
  exact h j hj
theorem all_no {k : Nat} (hk : k < l.length) (h : p l[k] = false) : l.all p = false := List.all_eq_false.2 ⟨_, List.getElem_mem hk, by simp [h]⟩
/-- Where the first stands, -1 if there is none. -/
def idxI (l : List α) (p : α → Bool) : Int := match l.findIdx? p with | some i => i | none => -1
theorem idx_yes {k : Nat} (hk : k < l.length) (h : p l[k] = true) (hno : ∀ j (hj : j < l.length), j < k → p l[j] = false) : idxI l p = k := by
  have : l.findIdx? p = some k := by
    rw [List.findIdx?_eq_some_iff_getElem]
    exact ⟨hk, h, fun j hj => by simp [hno j (by omega) hj]⟩
  simp only [idxI, this]
theorem idx_no (h : ∀ j (hj : j < l.length), p l[j] = false) : idxI l p = -1 := by
  have : l.findIdx? p = none := by
    rw [List.findIdx?_eq_none_iff]
    intro x hx
    obtain ⟨j, hj, rfl⟩ := List.mem_iff_getElem.1 hx
    exact h j hj
  simp only [idxI, this]
theorem find_yes {k : Nat} (hk : k < l.length) (h : p l[k] = true) (hno : ∀ j (hj : j < l.length), j < k → p l[j] = false) : l.find? p = some l[k] := by
  rw [List.find?_eq_some_iff_getElem]
  exact ⟨h, k, hk, rfl, fun j hj => by simp [hno j (by omega) hj]⟩
theorem find_no (h : ∀ j (hj : j < l.length), p l[j] = false) : l.find? p = none := by
  rw [List.find?_eq_none]
  intro x hx
  obtain ⟨j, hj, rfl⟩ := List.mem_iff_getElem.1 hx
  simp [h j hj]
end

/-- Of what stuff a lot is. -/
def stuffOf (lots : List DStuffLot) (x : ByteArray) : ByteArray := match lots.find? (fun p => eqB p.1 x) with | some p => p.2 | none => ⟨#[]⟩
/-- Must two stuffs not meet? -/
def foeB (foes : List DStuffFoe) (x y : ByteArray) : Bool := foes.any fun f => eqB f.1 x && eqB f.2 y || eqB f.1 y && eqB f.2 x
def hasB (l : List ByteArray) (x : ByteArray) : Bool := l.any fun f => eqB f x

set_option maxRecDepth 100000 in
set_option maxHeartbeats 4000000 in
theorem hasS_any (S : Nat → Prop) (v : Value) (l : List ByteArray) (x : ByteArray) (w : World) (h : AtL S w l v) :
    Calls Tryz.prog 21 #[v, .string x] w fun e w' => e = .returned (.bool (hasB l x)) ∧ Below w.heap.size w w' := by
  obtain ⟨oa, cap, rfl, hn, hc⟩ := h
  obtain ⟨n, en⟩ : ∃ n, l.length = n := ⟨_, rfl⟩
  rw [en] at hn
  rw [en]
  unfold maxLen at hn
  have HC : Hid _ := hc
  clear hc
  go_enter Tryz.func21, Tryz.ntmps21
  go_wp2
  go_loop [5] (fun i => ∃ k : Nat, k ≤ n ∧ i = .int .i64 k ∧ Hid (∀ j (hj : j < l.length), j < k → (fun f => eqB f x) l[j] = false)) (fun i => n - (intOf i).toNat)
  case atStart => exact ⟨0, Nat.zero_le _, rfl, fun _ _ h => by omega⟩
  case round =>
    obtain ⟨k, hk, rfl, hno⟩ := hrel
    by_cases hlt : k < n
    · obtain ⟨b, off, rfl, hbS, cc, hcell, hat⟩ := HC.out k (by omega)
      rw [width_str] at hcell
      have e0 : w.cell? ⟨b, off + k, none⟩ = some (cc 0) := by simpa using hcell 0 (by omega)
      clear hcell
      rw [at_str] at hat
      rw [hat.1] at e0
      clear hat
      obtain ⟨f, ef⟩ : ∃ f, l[k]'(by omega) = f := ⟨_, rfl⟩
      rw [ef] at e0
      cases c0 : (f.toList == x.toList)
      · have hp : (fun f => eqB f x) (l[k]'(by omega)) = false := by rw [ef]; simp [eqB, c0]
        go_wp2
        go_round
        case rel => exact ⟨k + 1, by omega, by go_num, fun j hj hjk => by
          by_cases e : j = k
          · subst e; exact hp
          · exact hno.out j hj (by omega)⟩
        case measure => simp [intOf]; omega
      · have hp : (fun f => eqB f x) (l[k]'(by omega)) = true := by rw [ef]; simp [eqB, c0]
        go_wp2
        have hr : hasB l x = true := any_yes (p := fun f => eqB f x) (by omega) hp
        rw [hr]
        go_ret
        exact ⟨rfl, (Below.refl _ _)⟩
    · have hkn : k = n := by omega
      subst hkn
      go_wp2
      go_ret
      have hr : hasB l x = false := any_no (p := fun f => eqB f x) (fun j hj => hno.out j hj (by omega))
      rw [hr]
      exact ⟨rfl, (Below.refl _ _)⟩

set_option maxRecDepth 100000 in
set_option maxHeartbeats 4000000 in
theorem stuffS_any (S : Nat → Prop) (v0 v1 v2 v3 : Value) (l : List DStuffLot) (x : ByteArray) (w : World) (h : AtL S w l v1) (hS : ∀ b, S b → b < w.heap.size) :
    Calls Tryz.prog 75 #[.agg #[v0, v1, v2, v3], .string x] w fun e w' => e = .returned (.string (stuffOf l x)) ∧ Below w.heap.size w w' := by
  obtain ⟨oa, cap, rfl, hn, hc⟩ := h
  obtain ⟨n, en⟩ : ∃ n, l.length = n := ⟨_, rfl⟩
  rw [en] at hn
  rw [en]
  unfold maxLen at hn
  have HC : Hid _ := hc
  clear hc
  go_enter Tryz.func75, Tryz.ntmps75
  go_wp2
  go_loop [5] (fun i => ∃ k : Nat, k ≤ n ∧ i = .int .i64 k ∧ Hid (∀ j (hj : j < l.length), j < k → (fun p => eqB p.1 x) l[j] = false)) (fun i => n - (intOf i).toNat)
  case atStart => exact ⟨0, Nat.zero_le _, rfl, fun _ _ h => by omega⟩
  case round =>
    obtain ⟨k, hk, rfl, hno⟩ := hrel
    by_cases hlt : k < n
    · obtain ⟨b, off, rfl, hbS, cc, hcell, hat⟩ := HC.out k (by omega)
      have hb := hS b hbS
      rw [width_DStuffLot] at hcell
      have e0 : (w.alloc (.cells #[v0, .slice (some ⟨b, off, none⟩) n cap, v2, v3] 36)).cell? ⟨b, off + k * 2, none⟩ = some (cc 0) := cell_past (by simpa using hcell 0 (by omega)) hb _
      have e1 : (w.alloc (.cells #[v0, .slice (some ⟨b, off, none⟩) n cap, v2, v3] 36)).cell? ⟨b, off + k * 2 + 1, none⟩ = some (cc 1) := cell_past (by simpa using hcell 1 (by omega)) hb _
      clear hcell
      rw [at_DStuffLot] at hat
      rw [hat.1.1] at e0
      rw [hat.2.1] at e1
      clear hat
      obtain ⟨f, ef⟩ : ∃ f, l[k]'(by omega) = f := ⟨_, rfl⟩
      rw [ef] at e0 e1
      cases c0 : (f.1.toList == x.toList)
      · have hp : (fun p => eqB p.1 x) (l[k]'(by omega)) = false := by rw [ef]; simp [eqB, c0]
        go_wp2
        go_round
        case rel => exact ⟨k + 1, by omega, by go_num, fun j hj hjk => by
          by_cases e : j = k
          · subst e; exact hp
          · exact hno.out j hj (by omega)⟩
        case measure => simp [intOf]; omega
      · have hp : (fun p => eqB p.1 x) (l[k]'(by omega)) = true := by rw [ef]; simp [eqB, c0]
        go_wp2
        have hr : stuffOf l x = f.2 := by unfold stuffOf; rw [find_yes (p := fun p : DStuffLot => eqB p.1 x) (by omega) hp hno.out, ef]
        rw [hr]
        go_ret
        exact ⟨rfl, ((Below.refl _ _).alloc (Nat.le_refl _) _)⟩
    · have hkn : k = n := by omega
      subst hkn
      go_wp2
      go_ret
      have hr : stuffOf l x = ⟨#[]⟩ := by unfold stuffOf; rw [find_no (p := fun p : DStuffLot => eqB p.1 x) (fun j hj => hno.out j hj (by omega))]
      rw [hr]
      exact ⟨rfl, ((Below.refl _ _).alloc (Nat.le_refl _) _)⟩

set_option maxRecDepth 100000 in
set_option maxHeartbeats 4000000 in
theorem vesselS_any (S : Nat → Prop) (v0 v1 v2 v3 : Value) (l : List DStuffVessel) (x : ByteArray) (w : World) (h : AtL S w l v2) (hS : ∀ b, S b → b < w.heap.size) :
    Calls Tryz.prog 49 #[.agg #[v0, v1, v2, v3], .string x] w fun e w' => e = .returned (.int .i64 (idxI l (fun p : DStuffVessel => eqB p.1 x))) ∧ Below w.heap.size w w' := by
  obtain ⟨oa, cap, rfl, hn, hc⟩ := h
  obtain ⟨n, en⟩ : ∃ n, l.length = n := ⟨_, rfl⟩
  rw [en] at hn
  rw [en]
  unfold maxLen at hn
  have HC : Hid _ := hc
  clear hc
  go_enter Tryz.func49, Tryz.ntmps49
  go_wp2
  go_loop [5] (fun i => ∃ k : Nat, k ≤ n ∧ i = .int .i64 k ∧ Hid (∀ j (hj : j < l.length), j < k → (fun p : DStuffVessel => eqB p.1 x) l[j] = false)) (fun i => n - (intOf i).toNat)
  case atStart => exact ⟨0, Nat.zero_le _, rfl, fun _ _ h => by omega⟩
  case round =>
    obtain ⟨k, hk, rfl, hno⟩ := hrel
    by_cases hlt : k < n
    · obtain ⟨b, off, rfl, hbS, cc, hcell, hat⟩ := HC.out k (by omega)
      have hb := hS b hbS
      rw [width_DStuffVessel] at hcell
      have e0 : (w.alloc (.cells #[v0, v1, .slice (some ⟨b, off, none⟩) n cap, v3] 36)).cell? ⟨b, off + k * 4, none⟩ = some (cc 0) := cell_past (by simpa using hcell 0 (by omega)) hb _
      have e1 : (w.alloc (.cells #[v0, v1, .slice (some ⟨b, off, none⟩) n cap, v3] 36)).cell? ⟨b, off + k * 4 + 1, none⟩ = some (cc 1) := cell_past (by simpa using hcell 1 (by omega)) hb _
      have e2 : (w.alloc (.cells #[v0, v1, .slice (some ⟨b, off, none⟩) n cap, v3] 36)).cell? ⟨b, off + k * 4 + 2, none⟩ = some (cc 2) := cell_past (by simpa using hcell 2 (by omega)) hb _
      have e3 : (w.alloc (.cells #[v0, v1, .slice (some ⟨b, off, none⟩) n cap, v3] 36)).cell? ⟨b, off + k * 4 + 3, none⟩ = some (cc 3) := cell_past (by simpa using hcell 3 (by omega)) hb _
      clear hcell
      rw [at_DStuffVessel] at hat
      rw [hat.1.1] at e0
      clear hat
      obtain ⟨f, ef⟩ : ∃ f, l[k]'(by omega) = f := ⟨_, rfl⟩
      rw [ef] at e0
      cases c0 : (f.1.toList == x.toList)
      · have hp : (fun p : DStuffVessel => eqB p.1 x) (l[k]'(by omega)) = false := by rw [ef]; simp [eqB, c0]
        go_wp2
        go_round
        case rel => exact ⟨k + 1, by omega, by go_num, fun j hj hjk => by
          by_cases e : j = k
          · subst e; exact hp
          · exact hno.out j hj (by omega)⟩
        case measure => simp [intOf]; omega
      · have hp : (fun p : DStuffVessel => eqB p.1 x) (l[k]'(by omega)) = true := by rw [ef]; simp [eqB, c0]
        go_wp2
        have hr : idxI l (fun p : DStuffVessel => eqB p.1 x) = k := idx_yes (p := fun p : DStuffVessel => eqB p.1 x) (by omega) hp hno.out
        rw [hr]
        go_ret
        exact ⟨rfl, ((Below.refl _ _).alloc (Nat.le_refl _) _)⟩
    · have hkn : k = n := by omega
      subst hkn
      go_wp2
      go_ret
      have hr : idxI l (fun p : DStuffVessel => eqB p.1 x) = -1 := idx_no (p := fun p : DStuffVessel => eqB p.1 x) (fun j hj => hno.out j hj (by omega))
      rw [hr]
      exact ⟨rfl, ((Below.refl _ _).alloc (Nat.le_refl _) _)⟩

set_option maxRecDepth 100000 in
set_option maxHeartbeats 4000000 in
theorem foesS_any (S : Nat → Prop) (v0 v1 v2 v3 : Value) (l : List DStuffFoe) (x y : ByteArray) (w : World) (h : AtL S w l v0) (hS : ∀ b, S b → b < w.heap.size) :
    Calls Tryz.prog 76 #[.agg #[v0, v1, v2, v3], .string x, .string y] w fun e w' => e = .returned (.bool (foeB l x y)) ∧ Below w.heap.size w w' := by
  obtain ⟨oa, cap, rfl, hn, hc⟩ := h
  obtain ⟨n, en⟩ : ∃ n, l.length = n := ⟨_, rfl⟩
  rw [en] at hn
  rw [en]
  unfold maxLen at hn
  have HC : Hid _ := hc
  clear hc
  go_enter Tryz.func76, Tryz.ntmps76
  go_wp2
  go_loop [7] (fun i => ∃ k : Nat, k ≤ n ∧ i = .int .i64 k ∧ Hid (∀ j (hj : j < l.length), j < k → (fun f : DStuffFoe => eqB f.1 x && eqB f.2 y || eqB f.1 y && eqB f.2 x) l[j] = false)) (fun i => n - (intOf i).toNat)
  case atStart => exact ⟨0, Nat.zero_le _, rfl, fun _ _ h => by omega⟩
  case round =>
    obtain ⟨k, hk, rfl, hno⟩ := hrel
    by_cases hlt : k < n
    · obtain ⟨b, off, rfl, hbS, cc, hcell, hat⟩ := HC.out k (by omega)
      have hb := hS b hbS
      rw [width_DStuffFoe] at hcell
      have e0 : (w.alloc (.cells #[.slice (some ⟨b, off, none⟩) n cap, v1, v2, v3] 36)).cell? ⟨b, off + k * 2, none⟩ = some (cc 0) := cell_past (by simpa using hcell 0 (by omega)) hb _
      have e1 : (w.alloc (.cells #[.slice (some ⟨b, off, none⟩) n cap, v1, v2, v3] 36)).cell? ⟨b, off + k * 2 + 1, none⟩ = some (cc 1) := cell_past (by simpa using hcell 1 (by omega)) hb _
      clear hcell
      rw [at_DStuffFoe] at hat
      rw [hat.1.1] at e0
      rw [hat.2.1] at e1
      clear hat
      obtain ⟨f, ef⟩ : ∃ f, l[k]'(by omega) = f := ⟨_, rfl⟩
      rw [ef] at e0 e1
      cases c0 : (f.1.toList == x.toList)
      · cases c1 : (f.1.toList == y.toList)
        · have hp : (fun f : DStuffFoe => eqB f.1 x && eqB f.2 y || eqB f.1 y && eqB f.2 x) (l[k]'(by omega)) = false := by rw [ef]; simp [eqB, c0, c1]
          go_wp2
          go_round
          case rel => exact ⟨k + 1, by omega, by go_num, fun j hj hjk => by
            by_cases e : j = k
            · subst e; exact hp
            · exact hno.out j hj (by omega)⟩
          case measure => simp [intOf]; omega
        · cases c2 : (f.2.toList == x.toList)
          · have hp : (fun f : DStuffFoe => eqB f.1 x && eqB f.2 y || eqB f.1 y && eqB f.2 x) (l[k]'(by omega)) = false := by rw [ef]; simp [eqB, c0, c1, c2]
            go_wp2
            go_round
            case rel => exact ⟨k + 1, by omega, by go_num, fun j hj hjk => by
              by_cases e : j = k
              · subst e; exact hp
              · exact hno.out j hj (by omega)⟩
            case measure => simp [intOf]; omega
          · have hp : (fun f : DStuffFoe => eqB f.1 x && eqB f.2 y || eqB f.1 y && eqB f.2 x) (l[k]'(by omega)) = true := by rw [ef]; simp [eqB, c0, c1, c2]
            go_wp2
            have hr : foeB l x y = true := any_yes (p := fun f : DStuffFoe => eqB f.1 x && eqB f.2 y || eqB f.1 y && eqB f.2 x) (by omega) hp
            rw [hr]
            go_ret
            exact ⟨rfl, ((Below.refl _ _).alloc (Nat.le_refl _) _)⟩
      · cases c1 : (f.2.toList == y.toList)
        · cases c2 : (f.1.toList == y.toList)
          · have hp : (fun f : DStuffFoe => eqB f.1 x && eqB f.2 y || eqB f.1 y && eqB f.2 x) (l[k]'(by omega)) = false := by rw [ef]; simp [eqB, c0, c1, c2]
            go_wp2
            go_round
            case rel => exact ⟨k + 1, by omega, by go_num, fun j hj hjk => by
              by_cases e : j = k
              · subst e; exact hp
              · exact hno.out j hj (by omega)⟩
            case measure => simp [intOf]; omega
          · cases c3 : (f.2.toList == x.toList)
            · have hp : (fun f : DStuffFoe => eqB f.1 x && eqB f.2 y || eqB f.1 y && eqB f.2 x) (l[k]'(by omega)) = false := by rw [ef]; simp [eqB, c0, c1, c2, c3]
              go_wp2
              go_round
              case rel => exact ⟨k + 1, by omega, by go_num, fun j hj hjk => by
                by_cases e : j = k
                · subst e; exact hp
                · exact hno.out j hj (by omega)⟩
              case measure => simp [intOf]; omega
            · have hp : (fun f : DStuffFoe => eqB f.1 x && eqB f.2 y || eqB f.1 y && eqB f.2 x) (l[k]'(by omega)) = true := by rw [ef]; simp [eqB, c0, c1, c2, c3]
              go_wp2
              have hr : foeB l x y = true := any_yes (p := fun f : DStuffFoe => eqB f.1 x && eqB f.2 y || eqB f.1 y && eqB f.2 x) (by omega) hp
              rw [hr]
              go_ret
              exact ⟨rfl, ((Below.refl _ _).alloc (Nat.le_refl _) _)⟩
        · have hp : (fun f : DStuffFoe => eqB f.1 x && eqB f.2 y || eqB f.1 y && eqB f.2 x) (l[k]'(by omega)) = true := by rw [ef]; simp [eqB, c0, c1]
          go_wp2
          have hr : foeB l x y = true := any_yes (p := fun f : DStuffFoe => eqB f.1 x && eqB f.2 y || eqB f.1 y && eqB f.2 x) (by omega) hp
          rw [hr]
          go_ret
          exact ⟨rfl, ((Below.refl _ _).alloc (Nat.le_refl _) _)⟩
    · have hkn : k = n := by omega
      subst hkn
      go_wp2
      go_ret
      have hr : foeB l x y = false := any_no (p := fun f : DStuffFoe => eqB f.1 x && eqB f.2 y || eqB f.1 y && eqB f.2 x) (fun j hj => hno.out j hj (by omega))
      rw [hr]
      exact ⟨rfl, ((Below.refl _ _).alloc (Nat.le_refl _) _)⟩

end Go.Proofs.YthleodbbppgadaaGreat
