/-
  Contracts of the program's firstThatCan, areAllGone and inTurn.
-/
import Derived.Test.YtomfooddehddhaeZpi
import Derived.Laws.EntriesVeiled
namespace Go.Proofs.Ytomfooddehddhae
open Go.RowKit Go.Sort

set_option maxRecDepth 100000 in
set_option maxHeartbeats 8000000 in
theorem first_any {T : List ByteArray} {Bs : List DShareBatch} (hok : BokP (T, Bs)) (B g : Nat) (v : Value) (gone : List ByteArray) (w : World) (h : Lv B w g v (lvL T Bs gone) (freM T Bs gone)) :
    Calls Try.prog 38 #[.pointer (some ⟨g, 0, none⟩)] w fun e w' => ((nxtI Bs gone < 0 ∧ e = .returned (.tuple #[.int .i64 0, .bool false])) ∨ (¬ nxtI Bs gone < 0 ∧ e = .returned (.tuple #[.int .i64 (nxtI Bs gone), .bool true]))) ∧ Below w.heap.size w w' := by
  obtain ⟨ov, kv, hv⟩ := Row.form h.row
  rw [lv_len] at hv
  obtain ⟨n, en⟩ : ∃ n, Bs.length = n := ⟨_, rfl⟩
  have EN : Hid (Bs.length ≤ n ∧ n ≤ Bs.length) := ⟨by omega, by omega⟩
  have hn5 : n ≤ 5 := by have := hok.len; simp only at this; omega
  rw [en] at hv
  subst hv
  obtain ⟨y0, _⟩ := cell_row h.box 0 _ rfl
  have N8 := (bok_things hok).1
  have HL : Hid (Lv B w g (.slice ov n kv) (lvL T Bs gone) (freM T Bs gone)) := h
  have CAN : Hid (∀ q (hq : q < Bs.length) u, Below w.heap.size w u → Calls Try.prog 51 #[.pointer (some ⟨g, 0, none⟩), .int .i64 q] u fun e w' => e = .returned (.bool (freeB Bs gone q)) ∧ Below u.heap.size u w') := fun q hq u hu => by
    have eL := lv_at T gone hq
    have := canGo_any _ g _ _ _ q u (HL.out.below hu) (by rw [lv_len]; exact hq) (by rw [eL]; exact hasM_lt N8 _) (by rw [eL]; exact hasM_lt N8 _) (freM_lt N8 _ _)
    rw [eL, go_can hok hq] at this
    rw [show freeB Bs gone q = (!(hasB gone Bs[q].1) && canB Bs q gone) by unfold freeB; rw [btN_at hq]]
    exact this
  have OK : Hid _ := hok
  clear h en hok
  go_enter Try.func38, Try.ntmps38
  go_wp2_with fail
  go_loopw [10] (fun i wr => ∃ k : Nat, k ≤ n ∧ i = .int .i64 k ∧ Hid (∀ j, j < k → freeB Bs gone j = false) ∧ Hid (Below w.heap.size w wr)) (fun i _ => n - (intOf i).toNat)
  case atStart => exact ⟨0, Nat.zero_le _, rfl, fun _ h => by omega, Below.refl _ _⟩
  case round =>
    obtain ⟨k, hk, rfl, hno, hbel⟩ := hrel
    by_cases hlt : k < n
    case neg =>
      go_wp2_with fail
      have e1 : nxtI Bs gone = -1 := nxt_no fun j hj => hno.out j (by have := EN.out; omega)
      exact bodyPost_ret (v := .tuple #[.int .i64 0, .bool false]) (by simp [results, Try.results38, go_sem]) rfl ⟨.inl ⟨by rw [e1]; omega, rfl⟩, hbel.out⟩
    have hkb : k < Bs.length := by have := EN.out; omega
    cases hf : freeB Bs gone k
    · have C := CAN.out k hkb wr hbel.out
      rw [hf] at C
      have HC : Hid _ := C
      clear C
      go_wp2_with fail
      refine Calls.mono HC.out ?_
      rintro e w1 ⟨rfl, hb1⟩
      go_wp2_with fail
      go_roundw
      case rel => exact ⟨k + 1, by omega, by go_num, fun j hj => by
        by_cases e : j = k
        · subst e; exact hf
        · exact hno.out j (by omega), hbel.out.trans (hb1.mono hbel.out.size)⟩
      case measure => simp [intOf]; omega
    · have C := CAN.out k hkb wr hbel.out
      rw [hf] at C
      have HC : Hid _ := C
      clear C
      go_wp2_with fail
      refine Calls.mono HC.out ?_
      rintro e w1 ⟨rfl, hb1⟩
      go_wp2_with fail
      have e1 : nxtI Bs gone = (k : Int) := nxt_yes hkb hf hno.out
      exact bodyPost_ret (v := .tuple #[.int .i64 k, .bool true]) (by simp [results, Try.results38, go_sem]) rfl ⟨.inr ⟨by rw [e1]; omega, by rw [e1]⟩, hbel.out.trans (hb1.mono hbel.out.size)⟩

set_option maxRecDepth 100000 in
set_option maxHeartbeats 4000000 in
theorem there_any (x y : Nat) (b : Bool) (w : World) : Calls Try.prog 42 #[.agg #[.int .u32 x, .int .u32 y, .bool b]] w fun e w' => e = .returned (.bool (!b)) ∧ Below w.heap.size w w' := by
  cases b
  · go_enter Try.func42, Try.ntmps42
    go_wp2
    go_ret
    exact ⟨rfl, (Below.refl _ _).alloc (Nat.le_refl _) _⟩
  · go_enter Try.func42, Try.ntmps42
    go_wp2
    go_ret
    exact ⟨rfl, (Below.refl _ _).alloc (Nat.le_refl _) _⟩

set_option maxRecDepth 100000 in
set_option maxHeartbeats 4000000 in
theorem thereIdx_any (B : Nat) (v : Value) (L : List (Nat × Nat × Bool)) (w : World) (h : Row w B 73 3 eG v L) :
    Calls Try.prog 52 #[v, .func (.func 42) #[] #[]] w fun e w' => e = .returned (.int .i64 (idxI L (fun p => !p.2.2))) ∧ Below w.heap.size w w' := by
  have hlen := Row.len h
  have HR : Hid (Row w B 73 3 eG v L) := h
  obtain ⟨ov, kv, hv⟩ := Row.form h
  obtain ⟨n, en⟩ : ∃ n, L.length = n := ⟨_, rfl⟩
  have EN : Hid (L.length ≤ n ∧ n ≤ L.length) := ⟨by omega, by omega⟩
  rw [en] at hv hlen
  unfold maxLen at hlen
  rw [hv] at HR
  rw [hv]
  clear h hv en
  go_enter Try.func52, Try.ntmps52
  go_wp2_with fail
  go_loopw [8] (fun i wr => ∃ k : Nat, k ≤ n ∧ i = .int .i64 k ∧ Hid (∀ j (hj : j < L.length), j < k → (!L[j].2.2) = false) ∧ Hid (Below w.heap.size w wr)) (fun i _ => n - (intOf i).toNat)
  case atStart => exact ⟨0, Nat.zero_le _, rfl, fun _ _ h => by omega, Below.refl _ _⟩
  case round =>
    obtain ⟨k, hk, rfl, hno, hbel⟩ := hrel
    by_cases hlt : k < n
    case neg =>
      go_wp2_with fail
      go_ret
      rw [idx_no (fun j hj => hno.out j hj (by have := EN.out; omega))]
      exact ⟨rfl, hbel.out⟩
    have hkL : k < L.length := by have := EN.out; omega
    obtain ⟨r, cap, e', _, _, hc⟩ := Row.cell (Row.below HR.out hbel.out) hkL
    have hov : ov = some ⟨r, 0, none⟩ := by injection e'
    subst hov
    obtain ⟨⟨x, y, b⟩, ep⟩ : ∃ p, L[k] = p := ⟨_, rfl⟩
    have c0 := (hc 0 (by omega)).1
    have c1 := (hc 1 (by omega)).1
    have c2 := (hc 2 (by omega)).1
    rw [ep] at c0 c1 c2
    rw [Nat.add_zero] at c0
    have c0' : wr.cell? ⟨r, k * 3, none⟩ = some (.int .u32 x) := c0
    have c1' : wr.cell? ⟨r, k * 3 + 1, none⟩ = some (.int .u32 y) := c1
    have c2' : wr.cell? ⟨r, k * 3 + 2, none⟩ = some (.bool b) := c2
    have EP : Hid ((!L[k].2.2) = !b) := by show _ = _; rw [ep]
    clear c0 c1 c2 hc ep e'
    go_wp2_with fail
    refine (there_any x y b wr).mono ?_
    rintro e w1 ⟨rfl, hb1⟩
    clear c0' c1' c2'
    cases b
    · go_wp2_with fail
      go_ret
      rw [idx_yes (k := k) hkL EP.out hno.out]
      exact ⟨rfl, hbel.out.trans (hb1.mono hbel.out.size)⟩
    · go_wp2_with fail
      go_roundw
      case rel => exact ⟨k + 1, by omega, by go_num, fun j hj hjk => by
        by_cases e : j = k
        · subst e; exact EP.out
        · exact hno.out j hj (by omega), hbel.out.trans (hb1.mono hbel.out.size)⟩
      case measure => simp [intOf]; omega

theorem idx_anyG (l : List (Nat × Nat × Bool)) (p : Nat × Nat × Bool → Bool) : decide (0 ≤ idxI l p) = l.any p := by
  unfold idxI
  cases e : l.findIdx? p with
  | none =>
    rw [List.findIdx?_eq_none_iff] at e
    have : l.any p = false := List.any_eq_false.2 (fun x hx => by rw [e x hx]; simp)
    rw [this]; decide
  | some i =>
    obtain ⟨hi, h1, _⟩ := List.findIdx?_eq_some_iff_getElem.1 e
    rw [List.any_eq_true.2 ⟨_, List.getElem_mem hi, h1⟩]
    simp
theorem all_lv (T : List ByteArray) (Bs : List DShareBatch) (gone : List ByteArray) : (!((lvL T Bs gone).any fun p => !p.2.2)) = allG Bs gone := by
  unfold lvL allG
  rw [List.any_map]
  rfl

set_option maxRecDepth 100000 in
set_option maxHeartbeats 4000000 in
theorem allGone_any (T : List ByteArray) (Bs : List DShareBatch) (B g : Nat) (v : Value) (gone : List ByteArray) (fr : Nat) (w : World) (h : Lv B w g v (lvL T Bs gone) fr) :
    Calls Try.prog 25 #[.pointer (some ⟨g, 0, none⟩)] w fun e w' => e = .returned (.bool (allG Bs gone)) ∧ Below w.heap.size w w' := by
  rw [← all_lv T Bs gone, ← idx_anyG]
  obtain ⟨X, hX⟩ : ∃ X, X = idxI (lvL T Bs gone) (fun p => !p.2.2) := ⟨_, rfl⟩
  have HI : Hid (Calls Try.prog 52 #[v, .func (.func 42) #[] #[]] w fun e w' => e = .returned (.int .i64 X) ∧ Below w.heap.size w w') := by
    rw [hX]; exact thereIdx_any B v _ w h.row
  rw [← hX]
  clear hX
  have HC : Hid (Calls Try.prog 41 #[v, .func (.func 42) #[] #[]] w fun e w' => e = .returned (.bool (decide (0 ≤ X))) ∧ Below w.heap.size w w') := by
    show Calls _ _ _ _ _
    go_enter Try.func41, Try.ntmps41
    go_wp2_with fail
    refine Calls.mono HI.out ?_
    rintro e w1 ⟨rfl, hb1⟩
    go_wp2_with fail
    go_ret
    exact ⟨rfl, hb1⟩
  obtain ⟨ov, kv, hv⟩ := Row.form h.row
  obtain ⟨n, en⟩ : ∃ n, (lvL T Bs gone).length = n := ⟨_, rfl⟩
  rw [en] at hv
  subst hv
  obtain ⟨y0, _⟩ := cell_row h.box 0 _ rfl
  clear h en HI
  go_enter Try.func25, Try.ntmps25
  go_wp2_with fail
  refine Calls.mono HC.out ?_
  rintro e w1 ⟨rfl, hb1⟩
  go_wp2_with fail
  go_ret
  exact ⟨rfl, hb1⟩

set_option maxRecDepth 100000 in
set_option maxHeartbeats 4000000 in
theorem inTurn_any (p : Value) (hp : ∃ a, p = .pointer (some a)) (w : World) : Calls Try.prog 23 #[p] w fun e w' => e = .returned (.func (.func 37) #[] #[.pointer (some ⟨w.heap.size, 0, none⟩)]) ∧ w' = w.alloc (.cells #[p] 48) := by
  obtain ⟨a, rfl⟩ := hp
  have hmf : ∀ (fn : Fn) (first cap : Array Value) (w : World), (Instr.makeFunc fn first cap).run Try.prog w = .ok (.func fn first cap) w := fun _ _ _ _ => rfl
  go_enter Try.func23, Try.ntmps23
  go_wp2
  go_ret
  exact ⟨rfl, rfl⟩

end Go.Proofs.Ytomfooddehddhae
