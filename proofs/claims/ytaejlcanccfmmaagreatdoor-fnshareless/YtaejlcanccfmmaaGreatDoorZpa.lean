import Derived.Test.YtaejlcanccfmmaaGreatDoorM1
import Derived.Test.YtaejlcanccfmmaaGreatDoorM2
import Derived.Test.YtaejlcanccfmmaaGreatDoorZma
import Derived.Test.YtaejlcanccfmmaaGreatDoorM5
import Derived.Laws.EntriesVeiled
namespace Go.Proofs.YtaejlcanccfmmaaGreatDoor
open Go.RowKit
open Go.Sort in
theorem cmpSr (a b : ByteArray) (wr : World) (r : Int) (hr : cmpB a b = r) (d : Nat) (os : Array Obj) : Calls Tryz.prog 88 #[.string a, .string b] (grow (redrawn wr d) os) fun e w'' => e = .returned (.int .i64 r) ∧ ∃ p : Regrown, w'' = grow (redrawn wr p.d) p.os :=
  Calls.regrown_of (by subst hr; exact (cmpS_any a b _).mono fun _ _ ⟨he, hw⟩ => ⟨he, by subst hw; exact Below.refl _ _⟩)
theorem idx_has (l : List ByteArray) (x : ByteArray) : decide (0 ≤ idxI l (fun f => eqB f x)) = hasB l x := by
  cases h : hasB l x
  · have hn : ∀ j (hj : j < l.length), eqB l[j] x = false := fun j hj => by
      have := (List.any_eq_false.1 h) _ (List.getElem_mem hj)
      simpa using this
    rw [idx_no hn]; decide
  · obtain ⟨y, hy, hp⟩ := List.any_eq_true.1 h
    have : l.findIdx? (fun f => eqB f x) ≠ none := by
      rw [ne_eq, List.findIdx?_eq_none_iff]
      intro h'
      have := h' y hy
      rw [hp] at this; cases this
    unfold idxI
    cases e : l.findIdx? (fun f => eqB f x) with
    | none => exact absurd e this
    | some i => simp
set_option maxRecDepth 100000 in
set_option maxHeartbeats 4000000 in
theorem index_any (S : Nat → Prop) (v : Value) (l : List ByteArray) (x : ByteArray) (w : World) (h : AtL S w l v) :
    Calls Tryz.prog 82 #[v, .string x] w fun e w' => e = .returned (.int .i64 (idxI l (fun f => eqB f x))) ∧ w' = w := by
  obtain ⟨oa, cap, rfl, hn, hc⟩ := h
  obtain ⟨n, en⟩ : ∃ n, l.length = n := ⟨_, rfl⟩
  rw [en] at hn
  rw [en]
  unfold maxLen at hn
  have HC : Hid _ := hc
  clear hc
  go_enter Tryz.func82, Tryz.ntmps82
  go_wp2
  go_loop [8] (fun i => ∃ k : Nat, k ≤ n ∧ i = .int .i64 k ∧ Hid (∀ j (hj : j < l.length), j < k → eqB l[j] x = false)) (fun i => n - (intOf i).toNat)
  case atStart => exact ⟨0, Nat.zero_le _, rfl, fun _ _ h => by omega⟩
  case round =>
    obtain ⟨k, hk, rfl, hno⟩ := hrel
    by_cases hlt : k < n
    · obtain ⟨b, off, rfl, _, cc, hcell, hat⟩ := HC.out k (by omega)
      rw [width_str] at hcell
      have hcell := hcell 0 (by omega)
      rw [Nat.mul_one, Nat.add_zero] at hcell
      rw [at_str] at hat
      rw [hat.1] at hcell
      go_wp2
      · have hy : (x.toList == (l[k]'(by omega)).toList) = true := by assumption
        rw [idx_yes (k := k) (by omega) (by rw [eqB_comm]; exact hy) hno.out]
        go_ret
        exact ⟨rfl, rfl⟩
      · have hy : (x.toList == (l[k]'(by omega)).toList) = false := by assumption
        go_round
        case rel => exact ⟨k + 1, by omega, by go_num, fun j hj hjk => by
          by_cases e : j = k
          · subst e; rw [eqB_comm]; exact hy
          · exact hno.out j hj (by omega)⟩
        case measure => simp [intOf]; omega
    · go_wp2
      go_ret
      rw [idx_no (fun j hj => hno.out j hj (by omega))]
      exact ⟨rfl, rfl⟩
set_option maxRecDepth 100000 in
set_option maxHeartbeats 4000000 in
theorem hasI_any (S : Nat → Prop) (v : Value) (l : List ByteArray) (x : ByteArray) (w : World) (h : AtL S w l v) :
    Calls Tryz.prog 100 #[v, .string x] w fun e w' => e = .returned (.bool (hasB l x)) ∧ w' = w := by
  rw [← idx_has]
  go_enter Tryz.func100, Tryz.ntmps100
  go_wp2_with (go_at_call 82; refine (index_any S v l x _ h).mono ?_; rintro e w1 ⟨rfl, rfl⟩)
  go_ret
  exact ⟨rfl, rfl⟩
set_option maxRecDepth 100000 in
set_option maxHeartbeats 4000000 in
theorem hasN_any (S : Nat → Prop) (v : Value) (l : List ByteArray) (x : ByteArray) (w : World) (h : AtL S w l v) :
    Calls Tryz.prog 80 #[v, .string x] w fun e w' => e = .returned (.bool (hasB l x)) ∧ w' = w := by
  have H : Hid _ := hasI_any S v l x w h
  clear h
  go_enter Tryz.func80, Tryz.ntmps80
  go_wp2_with fail
  refine Calls.mono H.out ?_
  rintro e w1 ⟨rfl, rfl⟩
  go_wp2_with fail
  go_ret
  exact ⟨rfl, rfl⟩
set_option maxRecDepth 100000 in
set_option maxHeartbeats 4000000 in
theorem ascstring_any (S : Nat → Prop) (v : Value) (l : List ByteArray) (w : World) (h : AtL S w l v) (hS : ∀ b, S b → b < w.heap.size) :
    Calls Tryz.prog 104 #[v, .func (.func 88) #[] #[]] w fun e w' => e = .returned (.bool (ascB (fun p f : ByteArray => ltB p f) l)) ∧ Below w.heap.size w w' := by
  obtain ⟨oa, cap, rfl, hn, hc⟩ := h
  obtain ⟨n, en⟩ : ∃ n, l.length = n := ⟨_, rfl⟩
  rw [en] at hn
  rw [en]
  unfold maxLen at hn
  have HC : Hid _ := hc
  clear hc
  go_enter Tryz.func104, Tryz.ntmps104
  go_wp2
  go_loopw [5] (fun i wr => ∃ k : Nat, i = .int .i64 ((k : Int) + 1) ∧ (k + 1 ≤ n ∨ k = 0) ∧ Hid (∀ j (hj : j < l.length), j < k + 1 → asO (fun p f : ByteArray => ltB p f) (prevO l j) l[j] = true) ∧ Hid (Below w.heap.size w wr)) (fun i _ => n - (intOf i).toNat)
  case atStart => exact ⟨0, rfl, Or.inr rfl, fun j hj h => as_zero j hj (by omega), Below.refl _ _⟩
  case round =>
    obtain ⟨k, rfl, hk, hall, hbel⟩ := hrel
    have hs := hbel.out.size
    by_cases hlt : k + 1 < n
    · clear hk
      obtain ⟨b, off, rfl, hbS, ce, hcelle, hate⟩ := HC.out (k + 1) (by omega)
      obtain ⟨b', off', e', hbS', ca, hcella, hata⟩ := HC.out k (by omega)
      cases e'
      have hbb := hS b hbS
      have hbw := hbel.out
      rw [width_str] at hcella
      have a0 : wr.cell? ⟨b, off + k, none⟩ = some (ca 0) := (hbw.cell (p := ⟨b, off + k, none⟩) (by show b < _; omega)).trans (by have hq := hcella 0 (by omega); first | exact hq | simpa using hq)
      clear hcella
      have hata := Lay.same hata (Same.of_below hbw hS)
      rw [at_str] at hata
      obtain ⟨af, eaf⟩ : ∃ f, l[k]'(by omega) = f := ⟨_, rfl⟩
      rw [eaf] at hata
      obtain ⟨ta0, za0⟩ := hata
      rw [ta0] at a0
      clear ta0
      rw [width_str] at hcelle
      have e0 : wr.cell? ⟨b, off + (k + 1), none⟩ = some (ce 0) := (hbw.cell (p := ⟨b, off + (k + 1), none⟩) (by show b < _; omega)).trans (by have hq := hcelle 0 (by omega); first | exact hq | simpa using hq)
      clear hcelle
      have hate := Lay.same hate (Same.of_below hbw hS)
      rw [at_str] at hate
      obtain ⟨ef, eef⟩ : ∃ f, l[k + 1]'(by omega) = f := ⟨_, rfl⟩
      rw [eef] at hate
      obtain ⟨te0, ze0⟩ := hate
      rw [te0] at e0
      clear te0
      clear hbw
      have qa0 := fun d os => cell_regrown a0 d os
      have qe0 := fun d os => cell_regrown e0 d os
      have hrl : asO (fun p f : ByteArray => ltB p f) (prevO l (k + 1)) (l[k + 1]'(by omega)) = ltB af ef := by
        rw [prev_succ l k (by omega), eaf, eef]; rfl
      have hge : decide (0 ≤ cmpB af ef) = !ltB af ef := cmpB_ge _ _
      cases hlb : ltB af ef
      · rw [hlb] at hrl
        rw [hlb, Bool.not_false] at hge
        go_wp2
        refine wp_region_quiet_below (by kernel_rfl) (by kernel_rfl) ?_
        repeat (first | go_big_quiet_step (with_reducible exact cmpSr _ _ _ _ rfl _ _) | quiet_step (with_reducible exact cmpSr _ _ _ _ rfl _ _))
        refine wpQuiet_nil ?_
        intro _ hw'
        obtain ⟨⟨dq, osq⟩, hw''⟩ := hw'
        subst hw''
        go_wp2
        rw [show ascB (fun p f : ByteArray => ltB p f) l = false from ok_no (k := k + 1) (by omega) hrl]
        go_ret
        exact ⟨rfl, hbel.out.trans ((below_regrown _ dq osq).mono hs)⟩
      · rw [hlb] at hrl
        rw [hlb, Bool.not_true] at hge
        go_wp2
        refine wp_region_quiet_below (by kernel_rfl) (by kernel_rfl) ?_
        repeat (first | go_big_quiet_step (with_reducible exact cmpSr _ _ _ _ rfl _ _) | quiet_step (with_reducible exact cmpSr _ _ _ _ rfl _ _))
        refine wpQuiet_nil ?_
        intro _ hw'
        obtain ⟨⟨dq, osq⟩, hw''⟩ := hw'
        subst hw''
        go_wp2
        go_roundw
        case rel => exact ⟨k + 1, by go_num, Or.inl (by omega), fun j hj hjk => by
          by_cases e : j = k + 1
          · subst e; exact hrl
          · exact hall.out j hj (by omega), hbel.out.trans ((below_regrown _ dq osq).mono hs)⟩
        case measure => simp [intOf]; omega
    · go_wp2
      rw [show ascB (fun p f : ByteArray => ltB p f) l = true from ok_yes (Nat.le_refl _) (fun j hj => hall.out j hj (by omega))]
      go_ret
      exact ⟨rfl, hbel.out⟩
set_option maxRecDepth 100000 in
set_option maxHeartbeats 4000000 in
theorem liststring_any (S : Nat → Prop) (v : Value) (l : List ByteArray) (lim : Nat) (w : World) (h : AtL S w l v) (hS : ∀ b, S b → b < w.heap.size) :
    Calls Tryz.prog 87 #[v, .int .i64 lim, .func (.func 88) #[] #[], .func (.func 69) #[] #[]] w fun e w' => e = .returned (.bool (okB lim (tst (fun f : ByteArray => nameB f) (fun p f : ByteArray => ltB p f)) l)) ∧ Below w.heap.size w w' := by
  have H : Hid (AtL S w l v) := h
  obtain ⟨oa, cap, hv, hn, hc⟩ := h
  rw [hv] at H
  subst hv
  obtain ⟨n, en⟩ : ∃ n, l.length = n := ⟨_, rfl⟩
  rw [en] at hn H
  rw [en]
  unfold maxLen at hn
  have HC : Hid _ := hc
  clear hc
  by_cases hl : n ≤ lim
  · have dl : decide (lim < n) = false := by simp; omega
    go_enter Tryz.func87, Tryz.ntmps87
    go_wp2
    go_loopw [17] (fun i wr => ∃ k : Nat, k ≤ n ∧ i = .int .i64 k ∧ Hid (∀ j (hj : j < l.length), j < k → (fun f : ByteArray => nameB f) l[j] = true) ∧ Hid (Below w.heap.size w wr)) (fun i _ => n - (intOf i).toNat)
    case atStart => exact ⟨0, Nat.zero_le _, rfl, fun _ _ h => by omega, Below.refl _ _⟩
    case round =>
      obtain ⟨k, hk, rfl, hall, hbel⟩ := hrel
      have hs := hbel.out.size
      have hSr : ∀ b, S b → b < wr.heap.size := fun b hb => by have := hS b hb; omega
      by_cases hlt : k < n
      · obtain ⟨b, off, rfl, hbS, ce, hcelle, hate⟩ := HC.out k (by omega)
        have hbb := hS b hbS
        have hbw := hbel.out
        rw [width_str] at hcelle
        have e0 : wr.cell? ⟨b, off + k, none⟩ = some (ce 0) := (hbw.cell (p := ⟨b, off + k, none⟩) (by show b < _; omega)).trans (by have hq := hcelle 0 (by omega); first | exact hq | simpa using hq)
        clear hcelle
        have hate := Lay.same hate (Same.of_below hbw hS)
        rw [at_str] at hate
        obtain ⟨ef, eef⟩ : ∃ f, l[k]'(by omega) = f := ⟨_, rfl⟩
        rw [eef] at hate
        obtain ⟨te0, ze0⟩ := hate
        rw [te0] at e0
        clear te0
        clear hbw
        have hB1 : Hid (Below w.heap.size w wr) := hbel
        have hP : (fun f : ByteArray => nameB f) (l[k]'(by omega)) = (nameB ef) := by rw [eef]
        cases hy : (nameB ef)
        · rw [hy] at hP
          go_wp2_with (go_at_call 69; refine (nameI_any _ _ ze0).mono ?_; rintro e w1 ⟨rfl, hb1⟩; rw [hy])
          rw [tst_no (k := k) (by omega) hP]
          go_ret
          exact ⟨rfl, hB1.out.trans (hb1.mono hB1.out.size)⟩
        · rw [hy] at hP
          go_wp2_with (go_at_call 69; refine (nameI_any _ _ ze0).mono ?_; rintro e w1 ⟨rfl, hb1⟩; rw [hy])
          go_roundw
          case rel => exact ⟨k + 1, by omega, by go_num, fun j hj hjk => by
            by_cases e : j = k
            · subst e; exact hP
            · exact hall.out j hj (by omega), hB1.out.trans (hb1.mono hB1.out.size)⟩
          case measure => simp [intOf]; omega
      · go_wp2_with (go_at_call 104; refine (ascstring_any S _ l _ (H.out.same (Same.of_below hbel.out hS)) hSr).mono ?_; rintro e w1 ⟨rfl, hb1⟩)
        rw [tst_asc (by omega) (fun j hj => hall.out j hj (by omega))]
        go_ret
        exact ⟨rfl, hbel.out.trans (hb1.mono hs)⟩
  · have dl : decide (lim < n) = true := by simp; omega
    rw [ok_long (by omega)]
    go_enter Tryz.func87, Tryz.ntmps87
    go_wp2
    go_ret
    exact ⟨rfl, Below.refl _ _⟩
set_option maxRecDepth 100000 in
set_option maxHeartbeats 4000000 in
theorem listOf_any (S SA : Nat → Prop) (v va : Value) (l all : List ByteArray) (lim : Nat) (w : World) (h : AtL S w l v) (hS : ∀ b, S b → b < w.heap.size) (ha : AtL SA w all va) (hSA : ∀ b, SA b → b < w.heap.size) :
    Calls Tryz.prog 87 #[v, .int .i64 lim, .func (.func 88) #[] #[], .func (.func 80) #[va] #[]] w fun e w' => e = .returned (.bool (okB lim (tst (fun f : ByteArray => hasB all f) (fun p f : ByteArray => ltB p f)) l)) ∧ Below w.heap.size w w' := by
  have HA : Hid _ := ha.ups hSA
  clear ha
  have H : Hid (AtL S w l v) := h
  obtain ⟨oa, cap, hv, hn, hc⟩ := h
  rw [hv] at H
  subst hv
  obtain ⟨n, en⟩ : ∃ n, l.length = n := ⟨_, rfl⟩
  rw [en] at hn H
  rw [en]
  unfold maxLen at hn
  have HC : Hid _ := hc
  clear hc
  by_cases hl : n ≤ lim
  · have dl : decide (lim < n) = false := by simp; omega
    go_enter Tryz.func87, Tryz.ntmps87
    go_wp2
    go_loopw [17] (fun i wr => ∃ k : Nat, k ≤ n ∧ i = .int .i64 k ∧ Hid (∀ j (hj : j < l.length), j < k → (fun f : ByteArray => hasB all f) l[j] = true) ∧ Hid (Below w.heap.size w wr)) (fun i _ => n - (intOf i).toNat)
    case atStart => exact ⟨0, Nat.zero_le _, rfl, fun _ _ h => by omega, Below.refl _ _⟩
    case round =>
      obtain ⟨k, hk, rfl, hall, hbel⟩ := hrel
      have hs := hbel.out.size
      have hSr : ∀ b, S b → b < wr.heap.size := fun b hb => by have := hS b hb; omega
      by_cases hlt : k < n
      · obtain ⟨b, off, rfl, hbS, ce, hcelle, hate⟩ := HC.out k (by omega)
        have hbb := hS b hbS
        have hbw := hbel.out
        rw [width_str] at hcelle
        have e0 : wr.cell? ⟨b, off + k, none⟩ = some (ce 0) := (hbw.cell (p := ⟨b, off + k, none⟩) (by show b < _; omega)).trans (by have hq := hcelle 0 (by omega); first | exact hq | simpa using hq)
        clear hcelle
        have hate := Lay.same hate (Same.of_below hbw hS)
        rw [at_str] at hate
        obtain ⟨ef, eef⟩ : ∃ f, l[k]'(by omega) = f := ⟨_, rfl⟩
        rw [eef] at hate
        obtain ⟨te0, _⟩ := hate
        rw [te0] at e0
        clear te0
        clear hbw
        have hB1 : Hid (Below w.heap.size w wr) := hbel
        have hP : (fun f : ByteArray => hasB all f) (l[k]'(by omega)) = (hasB all ef) := by rw [eef]
        cases hy : (hasB all ef)
        · rw [hy] at hP
          go_wp2_with (go_at_call 80; refine (hasN_any SA va all _ _ (HA.out _ hbel.out)).mono ?_; rintro e w1 ⟨rfl, rfl⟩; rw [hy])
          rw [tst_no (k := k) (by omega) hP]
          go_ret
          exact ⟨rfl, hB1.out⟩
        · rw [hy] at hP
          go_wp2_with (go_at_call 80; refine (hasN_any SA va all _ _ (HA.out _ hbel.out)).mono ?_; rintro e w1 ⟨rfl, rfl⟩; rw [hy])
          go_roundw
          case rel => exact ⟨k + 1, by omega, by go_num, fun j hj hjk => by
            by_cases e : j = k
            · subst e; exact hP
            · exact hall.out j hj (by omega), hB1.out⟩
          case measure => simp [intOf]; omega
      · go_wp2_with (go_at_call 104; refine (ascstring_any S _ l _ (H.out.same (Same.of_below hbel.out hS)) hSr).mono ?_; rintro e w1 ⟨rfl, hb1⟩)
        rw [tst_asc (by omega) (fun j hj => hall.out j hj (by omega))]
        go_ret
        exact ⟨rfl, hbel.out.trans (hb1.mono hs)⟩
  · have dl : decide (lim < n) = true := by simp; omega
    rw [ok_long (by omega)]
    go_enter Tryz.func87, Tryz.ntmps87
    go_wp2
    go_ret
    exact ⟨rfl, Below.refl _ _⟩
set_option maxRecDepth 100000 in
set_option maxHeartbeats 4000000 in
theorem names_any (S : Nat → Prop) (v : Value) (l : List ByteArray) (lim : Nat) (w : World) (h : AtL S w l v) (hS : ∀ b, S b → b < w.heap.size) :
    Calls Tryz.prog 65 #[v, .int .i64 lim] w fun e w' => e = .returned (.bool (okB lim (tst (fun f : ByteArray => nameB f) (fun p f : ByteArray => ltB p f)) l)) ∧ Below w.heap.size w w' := by
  have H : Hid (Calls Tryz.prog _ _ w _) := liststring_any S v l lim _ h hS
  clear h
  go_enter Tryz.func65, Tryz.ntmps65
  go_wp2_with fail
  refine Calls.mono H.out ?_
  rintro e w1 ⟨rfl, hb1⟩
  go_wp2_with fail
  go_ret
  exact ⟨rfl, hb1⟩
set_option maxRecDepth 100000 in
set_option maxHeartbeats 4000000 in
theorem isOkN_any (S : Nat → Prop) (v : Value) (l : List ByteArray) (lim : Nat) (w : World) (h : AtL S w l v) (hS : ∀ b, S b → b < w.heap.size) :
    Calls Tryz.prog 45 #[v, .int .i64 lim] w fun e w' => e = .returned (.bool (okB lim (tst (fun f : ByteArray => nameB f) (fun p f : ByteArray => ltB p f)) l)) ∧ Below w.heap.size w w' := by
  have H : Hid (Calls Tryz.prog _ _ w _) := names_any S v l lim _ h hS
  clear h
  go_enter Tryz.func45, Tryz.ntmps45
  go_wp2_with fail
  refine Calls.mono H.out ?_
  rintro e w1 ⟨rfl, hb1⟩
  go_wp2_with fail
  go_ret
  exact ⟨rfl, hb1⟩
theorem hasB_iff (l : List ByteArray) (x : ByteArray) : hasB l x = true ↔ x ∈ l := by
  unfold hasB
  rw [List.any_eq_true]
  constructor
  · rintro ⟨y, hy, he⟩; rw [eqB_iff] at he; exact he ▸ hy
  · intro h; exact ⟨x, h, (eqB_iff _ _).2 rfl⟩
theorem asc_far {α : Type} {R : α → α → Bool} (tr : ∀ {a b c : α}, R a b = true → R b c = true → R a c = true) {l : List α} (h : ∀ i (hi : i < l.length), asO R (prevO l i) l[i] = true) : ∀ (j i : Nat) (hj : j < l.length) (hij : i < j), R (l[i]'(by omega)) l[j] = true
  | 0, i, _, hij => by omega
  | j + 1, i, hj, hij => by
    have h1 := h (j + 1) hj
    rw [prev_succ l j (by omega)] at h1
    have h2 : R (l[j]'(by omega)) l[j + 1] = true := h1
    by_cases e : i = j
    · subst e; exact h2
    · have h3 := asc_far (R := R) (l := l) tr h j i (by omega) (by omega)
      exact tr h3 h2
theorem asc_nodup {l : List ByteArray} (h : ∀ i (hi : i < l.length), asO ltB (prevO l i) l[i] = true) : l.Nodup := by
  refine List.pairwise_iff_getElem.2 fun i j hi hj hij e => ?_
  have := asc_far (R := ltB) ltB_trans h j i hj hij
  rw [e, ltB_irrefl] at this
  cases this
theorem sub_parts {all l : List ByteArray} (h : subB all l = true) : l.Nodup ∧ ∀ x ∈ l, x ∈ all := by
  rw [subB, ok_iff] at h
  refine ⟨asc_nodup fun i hi => ?_, fun x hx => ?_⟩
  · have := h.2 i hi; rw [tst, Bool.and_eq_true] at this; exact this.2
  · obtain ⟨i, hi, rfl⟩ := List.getElem_of_mem hx
    have := h.2 i hi; rw [tst, Bool.and_eq_true] at this; exact (hasB_iff _ _).1 this.1
theorem sub_lim (all l : List ByteArray) : okB all.length (tst (fun f => hasB all f) (fun p f => ltB p f)) l = subB all l := by
  rw [Bool.eq_iff_iff]
  constructor
  · intro h; rw [ok_iff] at h; rw [subB, ok_iff]; exact ⟨Nat.le_refl _, h.2⟩
  · intro h
    obtain ⟨h1, h2⟩ := sub_parts h
    rw [subB, ok_iff] at h
    rw [ok_iff]
    exact ⟨h1.length_le_of_subset h2, h.2⟩
set_option maxRecDepth 100000 in
set_option maxHeartbeats 4000000 in
theorem isOf_any (S SA : Nat → Prop) (v va : Value) (l all : List ByteArray) (w : World) (h : AtL S w l v) (ha : AtL SA w all va) (hS : ∀ b, S b → b < w.heap.size) (hSA : ∀ b, SA b → b < w.heap.size) :
    Calls Tryz.prog 70 #[v, va] w fun e w' => e = .returned (.bool (subB all l)) ∧ Below w.heap.size w w' := by
  have hmf : ∀ (fn : Fn) (first cap : Array Value) (w : World), (Instr.makeFunc fn first cap).run Tryz.prog w = .ok (.func fn first cap) w := fun _ _ _ _ => rfl
  rw [← sub_lim]
  have H : Hid (Calls Tryz.prog _ _ w _) := listOf_any S SA v va l all all.length w h hS ha hSA
  obtain ⟨oa, ca, rfl, _⟩ := ha
  clear h
  go_enter Tryz.func70, Tryz.ntmps70
  go_wp2_with fail
  refine Calls.mono H.out ?_
  rintro e w1 ⟨rfl, hb1⟩
  go_wp2_with fail
  go_ret
  exact ⟨rfl, hb1⟩
end Go.Proofs.YtaejlcanccfmmaaGreatDoor
