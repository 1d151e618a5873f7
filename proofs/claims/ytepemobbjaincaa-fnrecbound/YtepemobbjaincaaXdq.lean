/-
  The laws' own tests of lists of texts: is a text among them, are all of one among the other.
-/
import Derived.Test.YtepemobbjaincaaXo
namespace Go.Proofs.Ytepemobbjaincaa
open Go.RowKit

def hasT (l : List ByteArray) (x : ByteArray) : Bool := l.any fun y => eqB y x
theorem has_yes {l : List ByteArray} {x : ByteArray} {k : Nat} (hk : k < l.length) (h : eqB l[k] x = true) : hasT l x = true :=
  List.any_eq_true.2 ⟨_, List.getElem_mem hk, h⟩
theorem has_no {l : List ByteArray} {x : ByteArray} (h : ∀ j (hj : j < l.length), eqB l[j] x = false) : hasT l x = false := by
  unfold hasT
  rw [List.any_eq_false]
  intro y hy
  obtain ⟨j, hj, rfl⟩ := List.getElem_of_mem hy
  rw [h j hj]
  exact Bool.false_ne_true
def allT (a b : List ByteArray) : Bool := a.all fun y => hasT b y
theorem allT_no {a b : List ByteArray} {k : Nat} (hk : k < a.length) (h : hasT b a[k] = false) : allT a b = false := by
  unfold allT
  rw [List.all_eq_false]
  exact ⟨_, List.getElem_mem hk, by rw [h]; exact Bool.false_ne_true⟩
theorem allT_yes {a b : List ByteArray} (h : ∀ j (hj : j < a.length), hasT b a[j] = true) : allT a b = true := by
  unfold allT
  rw [List.all_eq_true]
  intro y hy
  obtain ⟨j, hj, rfl⟩ := List.getElem_of_mem hy
  exact h j hj

set_option maxRecDepth 100000 in
set_option maxHeartbeats 4000000 in
theorem has_any (S : Nat → Prop) (l : List ByteArray) (v : Value) (x : ByteArray) (w : World) (h : AtL S w l v) :
    Calls Try.prog 31 #[v, .string x] w fun e w' => e = .returned (.bool (hasT l x)) ∧ w' = w := by
  obtain ⟨oa, cap, rfl, hn, hc⟩ := h
  obtain ⟨n, en⟩ : ∃ n, l.length = n := ⟨_, rfl⟩
  rw [en] at hn
  rw [en]
  unfold maxLen at hn
  have HC : Hid _ := hc
  clear hc
  obtain ⟨A, hA⟩ : ∃ A, hasT l x = A := ⟨_, rfl⟩
  have HA : Hid (hasT l x = A) := hA
  rw [hA]
  clear hA
  go_enter Try.func31, Try.ntmps31
  go_wp2
  go_loop [5] (fun i => ∃ k : Nat, k ≤ n ∧ i = .int .i64 k ∧ Hid (∀ j (hj : j < l.length), j < k → eqB l[j] x = false)) (fun i => n - (intOf i).toNat)
  case atStart => exact ⟨0, Nat.zero_le _, rfl, fun _ _ h => by omega⟩
  case round =>
    obtain ⟨k, hk, rfl, hno⟩ := hrel
    by_cases hlt : k < n
    · obtain ⟨b, off, rfl, _, cc, hcell, hat⟩ := HC.out k (by omega)
      rw [width_str] at hcell
      have e0 : w.cell? ⟨b, off + k, none⟩ = some (cc 0) := by simpa using hcell 0 (by omega)
      clear hcell
      rw [at_str] at hat
      rw [hat.1] at e0
      clear hat
      obtain ⟨f, ef⟩ : ∃ f, l[k]'(by omega) = f := ⟨_, rfl⟩
      rw [ef] at e0
      cases c0 : (f.toList == x.toList)
      · have hp : eqB (l[k]'(by omega)) x = false := by rw [ef]; simp [eqB, c0]
        clear ef
        go_wp2
        go_round
        case rel => exact ⟨k + 1, by omega, by go_num, fun j hj hjk => by
          by_cases e : j = k
          · subst e; exact hp
          · exact hno.out j hj (by omega)⟩
        case measure => simp [intOf]; omega
      · have hp : eqB (l[k]'(by omega)) x = true := by rw [ef]; simp [eqB, c0]
        have hr : A = true := HA.out.symm.trans (has_yes (by omega) hp)
        clear ef hp
        go_wp2
        go_ret
        exact ⟨rfl, rfl⟩
    · have hkn : k = n := by omega
      subst hkn
      have hr : A = false := HA.out.symm.trans (has_no (fun j hj => hno.out j hj (by omega)))
      go_wp2
      go_ret
      exact ⟨rfl, rfl⟩

set_option maxRecDepth 100000 in
set_option maxHeartbeats 4000000 in
theorem all_anyT (S S' : Nat → Prop) (a b : List ByteArray) (v u : Value) (w : World) (h : AtL S w a v) (h2 : AtL S' w b u) :
    Calls Try.prog 12 #[v, u] w fun e w' => e = .returned (.bool (allT a b)) ∧ w' = w := by
  obtain ⟨oa, cap, rfl, hn, hc⟩ := h
  obtain ⟨ou, cau, ev, hx⟩ := id h2
  clear hx
  subst ev
  obtain ⟨nb, eb⟩ : ∃ n, b.length = n := ⟨_, rfl⟩
  rw [eb] at h2
  rw [eb]
  have H2 : Hid _ := h2
  clear h2 eb
  obtain ⟨n, en⟩ : ∃ n, a.length = n := ⟨_, rfl⟩
  rw [en] at hn
  rw [en]
  unfold maxLen at hn
  have HC : Hid _ := hc
  clear hc
  obtain ⟨A, hA⟩ : ∃ A, allT a b = A := ⟨_, rfl⟩
  have HA : Hid (allT a b = A) := hA
  rw [hA]
  clear hA
  go_enter Try.func12, Try.ntmps12
  go_wp2
  go_loop [5] (fun i => ∃ k : Nat, k ≤ n ∧ i = .int .i64 k ∧ Hid (∀ j (hj : j < a.length), j < k → hasT b a[j] = true)) (fun i => n - (intOf i).toNat)
  case atStart => exact ⟨0, Nat.zero_le _, rfl, fun _ _ h => by omega⟩
  case round =>
    obtain ⟨k, hk, rfl, hno⟩ := hrel
    by_cases hlt : k < n
    · obtain ⟨g, off, rfl, _, cc, hcell, hat⟩ := HC.out k (by omega)
      rw [width_str] at hcell
      have e0 : w.cell? ⟨g, off + k, none⟩ = some (cc 0) := by simpa using hcell 0 (by omega)
      clear hcell
      rw [at_str] at hat
      rw [hat.1] at e0
      clear hat
      obtain ⟨f, ef⟩ : ∃ f, a[k]'(by omega) = f := ⟨_, rfl⟩
      have EF : Hid (a[k]'(by omega) = f) := ef
      rw [ef] at e0
      clear ef
      have C : Hid _ := has_any S' b _ f w H2.out
      cases c0 : hasT b f
      · have hr : A = false := HA.out.symm.trans (allT_no (k := k) (by omega) (by rw [EF.out]; exact c0))
        rw [c0] at C
        go_wp2_with fail
        refine Calls.mono C.out ?_; rintro e' w1 ⟨rfl, rfl⟩
        go_wp2_with fail
        rw [hr]
        go_ret
        exact ⟨rfl, rfl⟩
      · have hp : Hid (hasT b (a[k]'(by omega)) = true) := by rw [EF.out]; exact c0
        rw [c0] at C
        go_wp2_with fail
        refine Calls.mono C.out ?_; rintro e' w1 ⟨rfl, rfl⟩
        go_wp2_with fail
        go_round
        case rel => exact ⟨k + 1, by omega, by go_num, fun j hj hjk => by
          by_cases e : j = k
          · subst e; exact hp.out
          · exact hno.out j hj (by omega)⟩
        case measure => simp [intOf]; omega
    · have hkn : k = n := by omega
      subst hkn
      have hr : A = true := HA.out.symm.trans (allT_yes (fun j hj => hno.out j hj (by omega)))
      go_wp2
      go_ret
      exact ⟨rfl, rfl⟩

end Go.Proofs.Ytepemobbjaincaa
