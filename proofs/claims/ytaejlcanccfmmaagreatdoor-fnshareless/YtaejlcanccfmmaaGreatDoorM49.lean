/-
  Several texts in one.
-/
import Derived.Test.YtaejlcanccfmmaaGreatDoorM12
import Derived.Laws.EntriesVeiled
import Derived.Test.YtaejlcanccfmmaaGreatDoorM48
import Derived.RangeFuncCalls
import Derived.Shelf.Abstract
import Derived.Shelf.RegionOpen
import Derived.OwnWalkIn
import Derived.TacticsInMore
import Derived.LoopNIn
import Derived.LoopIn
import Derived.Sort.CutIn
namespace Go.Proofs.YtaejlcanccfmmaaGreatDoor
open Go.RowKit Go.Sort
set_option maxRecDepth 100000 in
set_option maxHeartbeats 8000000 in
theorem first_any {T : List ByteArray} {Bs : List DShareBatch} (hok : BokP (T, Bs)) (B g : Nat) (v : Value) (gone : List ByteArray) (w : World) (h : Lv B w g v (lvL T Bs gone) (freM T Bs gone)) :
    Calls Tryz.prog 56 #[.pointer (some ⟨g, 0, none⟩)] w fun e w' => ((nxtI Bs gone < 0 ∧ e = .returned (.tuple #[.int .i64 0, .bool false])) ∨ (¬ nxtI Bs gone < 0 ∧ e = .returned (.tuple #[.int .i64 (nxtI Bs gone), .bool true]))) ∧ Below w.heap.size w w' := by
  obtain ⟨ov, kv, hv⟩ := Row.form h.row
  rw [lv_len] at hv
  obtain ⟨n, en⟩ : ∃ n, Bs.length = n := ⟨_, rfl⟩
  have EN : Hid (Bs.length ≤ n ∧ n ≤ Bs.length) := ⟨by omega, by omega⟩
  have hn5 : n ≤ 5 := by have := hok.len; simp only at this; omega
  rw [en] at hv
  subst hv
  obtain ⟨y0, _⟩ := cell_row h.box 0 _ rfl
  have N8 := (bok_things hok).1
  have HL : Hid (Lv B w g (.slice ov n kv) (lvL T Bs gone) (freM T Bs gone)) := h
  have CAN : Hid (∀ q (hq : q < Bs.length) u, Below w.heap.size w u → Calls Tryz.prog 83 #[.pointer (some ⟨g, 0, none⟩), .int .i64 q] u fun e w' => e = .returned (.bool (freeB Bs gone q)) ∧ Below u.heap.size u w') := fun q hq u hu => by
    have eL := lv_at T gone hq
    have := canGo_any _ g _ _ _ q u (HL.out.below hu) (by rw [lv_len]; exact hq) (by rw [eL]; exact hasM_lt N8 _) (by rw [eL]; exact hasM_lt N8 _) (freM_lt N8 _ _)
    rw [eL, go_can hok hq] at this
    rw [show freeB Bs gone q = (!(hasB gone Bs[q].1) && canB Bs q gone) by unfold freeB; rw [btN_at hq]]
    exact this
  have OK : Hid _ := hok
  clear h en hok
  go_enter Tryz.func56, Tryz.ntmps56
  go_wp2_with fail
  go_loopw [10] (fun i wr => ∃ k : Nat, k ≤ n ∧ i = .int .i64 k ∧ Hid (∀ j, j < k → freeB Bs gone j = false) ∧ Hid (Below w.heap.size w wr)) (fun i _ => n - (intOf i).toNat)
  case atStart => exact ⟨0, Nat.zero_le _, rfl, fun _ h => by omega, Below.refl _ _⟩
  case round =>
    obtain ⟨k, hk, rfl, hno, hbel⟩ := hrel
    by_cases hlt : k < n
    case neg =>
      go_wp2_with fail
      have e1 : nxtI Bs gone = -1 := nxt_no fun j hj => hno.out j (by have := EN.out; omega)
      exact bodyPost_ret (v := .tuple #[.int .i64 0, .bool false]) (by simp [results, Tryz.results56, go_sem]) rfl ⟨.inl ⟨by rw [e1]; omega, rfl⟩, hbel.out⟩
    have hkb : k < Bs.length := by have := EN.out; omega
    cases hf : freeB Bs gone k
    · have C := CAN.out k hkb wr hbel.out
      rw [hf] at C
      have HC : Hid _ := C
      clear C
      go_wp2_with fail
      refine Calls.mono HC.out ?_
      rintro e w1 ⟨rfl, hb1⟩
      go_wp2_with fail
      go_roundw
      case rel => exact ⟨k + 1, by omega, by go_num, fun j hj => by
        by_cases e : j = k
        · subst e; exact hf
        · exact hno.out j (by omega), hbel.out.trans (hb1.mono hbel.out.size)⟩
      case measure => simp [intOf]; omega
    · have C := CAN.out k hkb wr hbel.out
      rw [hf] at C
      have HC : Hid _ := C
      clear C
      go_wp2_with fail
      refine Calls.mono HC.out ?_
      rintro e w1 ⟨rfl, hb1⟩
      go_wp2_with fail
      have e1 : nxtI Bs gone = (k : Int) := nxt_yes hkb hf hno.out
      exact bodyPost_ret (v := .tuple #[.int .i64 k, .bool true]) (by simp [results, Tryz.results56, go_sem]) rfl ⟨.inr ⟨by rw [e1]; omega, by rw [e1]⟩, hbel.out.trans (hb1.mono hbel.out.size)⟩
set_option maxRecDepth 100000 in
set_option maxHeartbeats 4000000 in
theorem there_any (x y : Nat) (b : Bool) (w : World) : Calls Tryz.prog 60 #[.agg #[.int .u32 x, .int .u32 y, .bool b]] w fun e w' => e = .returned (.bool (!b)) ∧ Below w.heap.size w w' := by
  cases b
  · go_enter Tryz.func60, Tryz.ntmps60
    go_wp2
    go_ret
    exact ⟨rfl, (Below.refl _ _).alloc (Nat.le_refl _) _⟩
  · go_enter Tryz.func60, Tryz.ntmps60
    go_wp2
    go_ret
    exact ⟨rfl, (Below.refl _ _).alloc (Nat.le_refl _) _⟩
set_option maxRecDepth 100000 in
set_option maxHeartbeats 4000000 in
theorem thereIdx_any (B : Nat) (v : Value) (L : List (Nat × Nat × Bool)) (w : World) (h : Row w B 104 3 eG v L) :
    Calls Tryz.prog 84 #[v, .func (.func 60) #[] #[]] w fun e w' => e = .returned (.int .i64 (idxI L (fun p => !p.2.2))) ∧ Below w.heap.size w w' := by
  have hlen := Row.len h
  have HR : Hid (Row w B 104 3 eG v L) := h
  obtain ⟨ov, kv, hv⟩ := Row.form h
  obtain ⟨n, en⟩ : ∃ n, L.length = n := ⟨_, rfl⟩
  have EN : Hid (L.length ≤ n ∧ n ≤ L.length) := ⟨by omega, by omega⟩
  rw [en] at hv hlen
  unfold maxLen at hlen
  rw [hv] at HR
  rw [hv]
  clear h hv en
  go_enter Tryz.func84, Tryz.ntmps84
  go_wp2_with fail
  go_loopw [8] (fun i wr => ∃ k : Nat, k ≤ n ∧ i = .int .i64 k ∧ Hid (∀ j (hj : j < L.length), j < k → (!L[j].2.2) = false) ∧ Hid (Below w.heap.size w wr)) (fun i _ => n - (intOf i).toNat)
  case atStart => exact ⟨0, Nat.zero_le _, rfl, fun _ _ h => by omega, Below.refl _ _⟩
  case round =>
    obtain ⟨k, hk, rfl, hno, hbel⟩ := hrel
    by_cases hlt : k < n
    case neg =>
      go_wp2_with fail
      go_ret
      rw [idx_no (fun j hj => hno.out j hj (by have := EN.out; omega))]
      exact ⟨rfl, hbel.out⟩
    have hkL : k < L.length := by have := EN.out; omega
    obtain ⟨r, cap, e', _, _, hc⟩ := Row.cell (Row.below HR.out hbel.out) hkL
    have hov : ov = some ⟨r, 0, none⟩ := by injection e'
    subst hov
    obtain ⟨⟨x, y, b⟩, ep⟩ : ∃ p, L[k] = p := ⟨_, rfl⟩
    have c0 := (hc 0 (by omega)).1
    have c1 := (hc 1 (by omega)).1
    have c2 := (hc 2 (by omega)).1
    rw [ep] at c0 c1 c2
    rw [Nat.add_zero] at c0
    have c0' : wr.cell? ⟨r, k * 3, none⟩ = some (.int .u32 x) := c0
    have c1' : wr.cell? ⟨r, k * 3 + 1, none⟩ = some (.int .u32 y) := c1
    have c2' : wr.cell? ⟨r, k * 3 + 2, none⟩ = some (.bool b) := c2
    have EP : Hid ((!L[k].2.2) = !b) := by show _ = _; rw [ep]
    clear c0 c1 c2 hc ep e'
    go_wp2_with fail
    refine (there_any x y b wr).mono ?_
    rintro e w1 ⟨rfl, hb1⟩
    clear c0' c1' c2'
    cases b
    · go_wp2_with fail
      go_ret
      rw [idx_yes (k := k) hkL EP.out hno.out]
      exact ⟨rfl, hbel.out.trans (hb1.mono hbel.out.size)⟩
    · go_wp2_with fail
      go_roundw
      case rel => exact ⟨k + 1, by omega, by go_num, fun j hj hjk => by
        by_cases e : j = k
        · subst e; exact EP.out
        · exact hno.out j hj (by omega), hbel.out.trans (hb1.mono hbel.out.size)⟩
      case measure => simp [intOf]; omega
theorem idx_anyG (l : List (Nat × Nat × Bool)) (p : Nat × Nat × Bool → Bool) : decide (0 ≤ idxI l p) = l.any p := by
  unfold idxI
  cases e : l.findIdx? p with
  | none =>
    rw [List.findIdx?_eq_none_iff] at e
    have : l.any p = false := List.any_eq_false.2 (fun x hx => by rw [e x hx]; simp)
    rw [this]; decide
  | some i =>
    obtain ⟨hi, h1, _⟩ := List.findIdx?_eq_some_iff_getElem.1 e
    rw [List.any_eq_true.2 ⟨_, List.getElem_mem hi, h1⟩]
    simp
theorem all_lv (T : List ByteArray) (Bs : List DShareBatch) (gone : List ByteArray) : (!((lvL T Bs gone).any fun p => !p.2.2)) = allG Bs gone := by
  unfold lvL allG
  rw [List.any_map]
  rfl
set_option maxRecDepth 100000 in
set_option maxHeartbeats 4000000 in
theorem allGone_any (T : List ByteArray) (Bs : List DShareBatch) (B g : Nat) (v : Value) (gone : List ByteArray) (fr : Nat) (w : World) (h : Lv B w g v (lvL T Bs gone) fr) :
    Calls Tryz.prog 40 #[.pointer (some ⟨g, 0, none⟩)] w fun e w' => e = .returned (.bool (allG Bs gone)) ∧ Below w.heap.size w w' := by
  rw [← all_lv T Bs gone, ← idx_anyG]
  obtain ⟨X, hX⟩ : ∃ X, X = idxI (lvL T Bs gone) (fun p => !p.2.2) := ⟨_, rfl⟩
  have HI : Hid (Calls Tryz.prog 84 #[v, .func (.func 60) #[] #[]] w fun e w' => e = .returned (.int .i64 X) ∧ Below w.heap.size w w') := by
    rw [hX]; exact thereIdx_any B v _ w h.row
  rw [← hX]
  clear hX
  have HC : Hid (Calls Tryz.prog 59 #[v, .func (.func 60) #[] #[]] w fun e w' => e = .returned (.bool (decide (0 ≤ X))) ∧ Below w.heap.size w w') := by
    show Calls _ _ _ _ _
    go_enter Tryz.func59, Tryz.ntmps59
    go_wp2_with fail
    refine Calls.mono HI.out ?_
    rintro e w1 ⟨rfl, hb1⟩
    go_wp2_with fail
    go_ret
    exact ⟨rfl, hb1⟩
  obtain ⟨ov, kv, hv⟩ := Row.form h.row
  obtain ⟨n, en⟩ : ∃ n, (lvL T Bs gone).length = n := ⟨_, rfl⟩
  rw [en] at hv
  subst hv
  obtain ⟨y0, _⟩ := cell_row h.box 0 _ rfl
  clear h en HI
  go_enter Tryz.func40, Tryz.ntmps40
  go_wp2_with fail
  refine Calls.mono HC.out ?_
  rintro e w1 ⟨rfl, hb1⟩
  go_wp2_with fail
  go_ret
  exact ⟨rfl, hb1⟩
set_option maxRecDepth 100000 in
set_option maxHeartbeats 4000000 in
theorem inTurn_any (p : Value) (hp : ∃ a, p = .pointer (some a)) (w : World) : Calls Tryz.prog 38 #[p] w fun e w' => e = .returned (.func (.func 55) #[] #[.pointer (some ⟨w.heap.size, 0, none⟩)]) ∧ w' = w.alloc (.cells #[p] 70) := by
  obtain ⟨a, rfl⟩ := hp
  have hmf : ∀ (fn : Fn) (first cap : Array Value) (w : World), (Instr.makeFunc fn first cap).run Tryz.prog w = .ok (.func fn first cap) w := fun _ _ _ _ => rfl
  go_enter Tryz.func38, Tryz.ntmps38
  go_wp2
  go_ret
  exact ⟨rfl, rfl⟩
end Go.Proofs.YtaejlcanccfmmaaGreatDoor

namespace Go.Proofs.YtaejlcanccfmmaaGreatDoor
open Go.RowKit Go.Shelf
attribute [local go_sem] Oper.semAt_some
abbrev LvG (T : List ByteArray) (Bs : List DShareBatch) (B g : Nat) (v : Value) (u : World) (k : Nat) : Prop := Lv B u g v (lvL T Bs (gnS Bs k)) (freM T Bs (gnS Bs k))
def Goes (Bs : List DShareBatch) (k : Nat) : Prop := ¬ nxtI Bs (gnS Bs k) < 0
def Ends (Bs : List DShareBatch) (k : Nat) : Prop := nxtI Bs (gnS Bs k) < 0
structure ItZ (J : Nat → World → Prop) (own : World → Nat → Prop) (T : List ByteArray) (Bs : List DShareBatch) (cb B g : Nat) (v : Value) (X : World) (k m : Nat) : Prop where
  j : J k X
  cbx : X.heap[cb]? = some (.cells #[.pointer (some ⟨g, 0, none⟩)] 70 (0, 0))
  lv : LvG T Bs B g v X m
  no : ∀ q, (q = cb ∨ lvS g v q) → ¬ own X q
section
variable {J : Nat → World → Prop} {own : World → Nat → Prop} {T : List ByteArray} {Bs : List DShareBatch} {cb B g n₀ : Nat} {v : Value} {X Y : World} {k m : Nat}
theorem ItZ.lt (h : ItZ J own T Bs cb B g v X k m) : ∀ q, (q = cb ∨ lvS g v q) → q < X.heap.size := fun q hq => by
  rcases hq with rfl | rfl | hq
  · exact (Array.getElem?_eq_some_iff.1 h.cbx).1
  · exact h.lv.lt
  · exact (World.ownsRow.lt h.lv.row q hq).2
theorem lv_apart {L : List (Nat × Nat × Bool)} {fr : Nat} (h : Lv B X g v L fr) {c : Array Value} (hc : X.heap[cb]? = some (.cells c 70 (0, 0))) : ¬ lvS g v cb := fun e => by
  rcases e with rfl | e
  · have := h.box
    rw [hc] at this
    injection this with h1
    injection h1 with _ h2
    revert h2
    decide
  · obtain ⟨c', hc'⟩ := Row.typed h.row cb e
    rw [hc] at hc'
    injection hc' with h1
    injection h1 with _ h2
    revert h2
    decide
theorem ItZ.yield (h : ItZ J own T Bs cb B g v X k m) (hk : KpO own n₀ X Y) (hj : J (k + 1) Y) : ItZ J own T Bs cb B g v Y (k + 1) m :=
  ⟨hj, hk.blk _ _ _ _ h.cbx (h.no _ (.inl rfl)), ⟨Row.block h.lv.row (fun q hq => by
    obtain ⟨c, hc⟩ := Row.typed h.lv.row q hq
    rw [hc]; exact hk.blk _ _ _ _ hc (h.no q (.inr (.inr hq)))), hk.blk _ _ _ _ h.lv.box (h.no _ (.inr (.inl rfl))), h.lv.low⟩, fun q hq ho => by
    rcases hk.old q ho with h1 | h1
    · exact h.no q hq h1
    · have := h.lt q hq
      omega⟩
theorem ItZ.below (h : ItZ J own T Bs cb B g v X k m) (hb : Below X.heap.size X Y) (hJ : ∀ k A C, J k A → But (lvS g v) A C → J k C) (hst : ∀ k A, J k A → (∀ q, own A q → q < A.heap.size) ∧ ∀ C, But (lvS g v) A C → ∀ q, own C q → own A q) : ItZ J own T Bs cb B g v Y k m :=
  ⟨hJ k X Y h.j (But.of_below hb), (hb.block _ (h.lt cb (.inl rfl))).trans h.cbx, h.lv.below hb, fun q hq ho => h.no q hq ((hst k X h.j).2 Y (But.of_below hb) q ho)⟩
theorem ItZ.go {m' : Nat} (h : ItZ J own T Bs cb B g v X k m) (hb : But (lvS g v) X Y) (hl : LvG T Bs B g v Y m') (hJ : ∀ k A C, J k A → But (lvS g v) A C → J k C) (hst : ∀ k A, J k A → (∀ q, own A q → q < A.heap.size) ∧ ∀ C, But (lvS g v) A C → ∀ q, own C q → own A q) : ItZ J own T Bs cb B g v Y k m' :=
  ⟨hJ k X Y h.j hb, (hb.block _ (h.lt cb (.inl rfl)) (lv_apart h.lv h.cbx)).trans h.cbx, hl, fun q hq ho => h.no q hq ((hst k X h.j).2 Y hb q ho)⟩
end
def mzV (v : Value) (w : World) : Nat := match v with
  | .slice (some a) n _ => ((List.range n).map fun i => match w.cell? ⟨a.block, i * 3 + 2, none⟩ with
    | some (.bool b) => b
    | _ => false).countP (fun b => !b)
  | _ => 0
theorem mzV_at {B g : Nat} {w : World} {v : Value} {L : List (Nat × Nat × Bool)} {fr : Nat} (h : Lv B w g v L fr) : mzV v w = (L.map (·.2.2)).countP (fun b => !b) := by
  obtain ⟨ov, kv, hv⟩ := Row.form h.row
  cases hL : L with
  | nil =>
    rw [hL] at hv
    rw [hv]
    cases ov <;> rfl
  | cons p L' =>
    rw [← hL]
    obtain ⟨r, cap, hv', _⟩ := h.cell (a := 0) (by rw [hL]; simp)
    rw [hv']
    unfold mzV
    simp only
    congr 1
    apply List.ext_getElem
    · simp
    · intro i h1 h2
      have hi : i < L.length := by simpa using h2
      obtain ⟨r', cap', hv'', _, _, _, _, _, c2, _⟩ := h.cell hi
      rw [hv'] at hv''
      injection hv'' with e1
      injection e1 with e1
      injection e1 with e1
      subst e1
      simp only [List.getElem_map, List.getElem_range]
      rw [c2]
theorem cnt_less {α : Type} {P Q : α → Bool} : ∀ {l : List α}, (∀ x ∈ l, Q x = true → P x = true) → (∃ x ∈ l, P x = true ∧ Q x = false) → l.countP Q < l.countP P
  | [], _, ⟨x, hx, _⟩ => by cases hx
  | y :: l, h, ⟨x, hx, h1, h2⟩ => by
    have le : l.countP Q ≤ l.countP P := List.countP_mono_left (fun z hz => h z (by simp [hz]))
    rw [List.countP_cons, List.countP_cons]
    rcases List.mem_cons.1 hx with rfl | hx
    · rw [h1, h2]; simp; omega
    · have ih := cnt_less (P := P) (Q := Q) (fun z hz => h z (by simp [hz])) ⟨x, hx, h1, h2⟩
      have := h y (by simp)
      cases hq : Q y
      · simp; omega
      · rw [this hq]; simp; omega
theorem lv_cnt (T : List ByteArray) (Bs : List DShareBatch) (gone : List ByteArray) : ((lvL T Bs gone).map (·.2.2)).countP (fun b => !b) = Bs.countP (fun f => !(hasB gone f.1)) := by
  unfold lvL
  rw [List.map_map, List.countP_map]
  rfl
theorem cnt_next {Bs : List DShareBatch} {k : Nat} (h : ¬ nxtI Bs (gnS Bs k) < 0) : Bs.countP (fun f => !(hasB (gnS Bs (k + 1)) f.1)) < Bs.countP (fun f => !(hasB (gnS Bs k) f.1)) := by
  obtain ⟨q, eq, hq, hg, _⟩ := nxt_free h
  refine cnt_less (fun f _ hf => ?_) ⟨Bs[q], List.getElem_mem hq, by rw [hg]; rfl, ?_⟩
  · rw [gnS, hasB_snoc] at hf
    cases e : hasB (gnS Bs k) f.1
    · rfl
    · rw [e] at hf; simp at hf
  · rw [gnS, hasB_snoc, eq, Int.toNat_natCast, btN_at hq, eqB_refl, Bool.or_true]; rfl
set_option maxRecDepth 100000 in
set_option maxHeartbeats 16000000 in
theorem turns_any (n cb g B n₀ N : Nat) (hn : 2 ≤ n) {T : List ByteArray} {Bs : List DShareBatch} (hok : BokP (T, Bs)) (v : Value) (own : World → Nat → Prop) (w : World)
    (hcb : w.heap[cb]? = some (.cells #[.pointer (some ⟨g, 0, none⟩)] 70 (0, 0))) (hlv : LvG T Bs B g v w 0) :
    SeqZ Fence.wide n Tryz.prog 55 #[.pointer (some ⟨cb, 0, none⟩)] (fun k => #[.int .i64 (nxtI Bs (gnS Bs k))]) own n₀ (lvS g v) (fun q => q = cb ∨ lvS g v q) (fun k u => Vd Bs (k + 1) ∧ LvG T Bs B g v u (k + 1)) (fun k u => (Vd Bs k ∧ Ends Bs k) ∧ LvG T Bs B g v u k) N w := by
  intro l J Jx W hW hJ hst hno hN hY h0
  have lcb : cb < w.heap.size := (Array.getElem?_eq_some_iff.1 hcb).1
  have B0 : Hid (ItZ J own T Bs cb B g v W 0 0) := ⟨h0, (hW.block cb lcb).trans hcb, hlv.below hW, hno⟩
  have HY : Hid _ := hY
  have HJ : Hid _ := hJ
  have HST : Hid _ := hst
  have OK : Hid (BokP (T, Bs)) := hok
  have FIRST : Hid (∀ (m : Nat) (u : World), LvG T Bs B g v u m → Calls Tryz.prog 56 #[.pointer (some ⟨g, 0, none⟩)] u fun e w' => ((Ends Bs m ∧ e = .returned (.tuple #[.int .i64 0, .bool false])) ∨ (Goes Bs m ∧ e = .returned (.tuple #[.int .i64 (nxtI Bs (gnS Bs m)), .bool true]))) ∧ Below u.heap.size u w') := fun m u hu => first_any OK.out B g v (gnS Bs m) u hu
  have LETGO : Hid (∀ (m : Nat) (u : World), LvG T Bs B g v u m → Goes Bs m → Calls Tryz.prog 57 #[.pointer (some ⟨g, 0, none⟩), .int .i64 (nxtI Bs (gnS Bs m))] u fun e w' => e = .returned (.tuple #[]) ∧ LvG T Bs B g v w' (m + 1) ∧ But (lvS g v) u w') := fun m u hu hn => by
    obtain ⟨q, eq, hq, hg, _⟩ := nxt_free hn
    have N8 := (bok_things OK.out).1
    have eL := lv_at T (gnS Bs m) hq
    rw [eq]
    refine (letGo_any B g v _ _ q u hu (by rw [lv_len]; exact hq) (by rw [eL]; exact hasM_lt N8 _) (freM_lt N8 _ _)).mono fun e w' ⟨h1, h2, h3⟩ => ⟨h1, ?_, h3⟩
    rw [eL] at h2
    have := Lv.gone OK.out hq hg h2
    show Lv _ _ _ _ _ _
    rw [gnS, eq, Int.toNat_natCast, btN_at hq]
    exact this
  clear hY hJ hst hno hN hlv hcb h0 hW hok lcb
  have x0 := (cell_row B0.out.cbx 0 (.pointer (some ⟨g, 0, none⟩)) rfl).1
  refine callsIn_of_wp Tryz.func55 rfl trivial ?_ rfl
  simp only [Tryz.ntmps55, List.size_toArray, List.length_cons, List.length_nil, Nat.reduceAdd, Nat.reduceSub, Array.replicate_succ, Array.replicate_zero, List.push_toArray, List.append_toArray, List.nil_append, List.cons_append]
  gi_upto_region 0 with fail
  refine wpIn_wide.2 ?_
  go_wp2_with fail
  refine Calls.mono (FIRST.out 0 W B0.out.lv) ?_
  rintro e u0 ⟨hcase, hb0⟩
  have I0 : Hid (ItZ J own T Bs cb B g v u0 0 0) := B0.out.below hb0 HJ.out HST.out
  clear hb0 x0
  obtain ⟨ax, ox, rfl, hax⟩ : ∃ (a : Int) (o : Bool), e = .returned (.tuple #[.int .i64 a, .bool o]) ∧ ((o = false ∧ Ends Bs 0) ∨ (o = true ∧ Goes Bs 0 ∧ a = nxtI Bs (gnS Bs 0))) := by
    rcases hcase with ⟨h1, h2⟩ | ⟨h1, h2⟩
    · exact ⟨0, false, h2, .inl ⟨rfl, h1⟩⟩
    · exact ⟨_, true, h2, .inr ⟨rfl, h1, rfl⟩⟩
  have HAX : Hid _ := hax
  clear hcase hax
  go_wp2_with fail
  gi_wp2
  gi_loopw [3, 4] (fun a o wr => ∃ (k : Nat) (ax : Int) (ox : Bool), a = .int .i64 ax ∧ o = .bool ox ∧ Hid ((ox = false ∧ Ends Bs k) ∨ (ox = true ∧ Goes Bs k ∧ ax = nxtI Bs (gnS Bs k))) ∧ Hid (Vd Bs k) ∧ Hid (ItZ J own T Bs cb B g v wr k k)) (fun _ _ wr => mzV v wr)
  case atStart => exact ⟨0, ax, ox, rfl, rfl, HAX, fun j hj => by omega, I0⟩
  case round =>
    obtain ⟨k, ay, oy, rfl, rfl, hay, hvd, HB⟩ := hrel
    cases oy
    · have hneg : Ends Bs k := by
        rcases hay.out with ⟨_, h⟩ | ⟨h, _⟩
        · exact h
        · cases h
      have HNEG : Hid (Ends Bs k) := hneg
      clear hneg hay
      gi_wp2
      go_end0
      exact ⟨⟨_, rfl⟩, .inl ⟨k, HB.out.j, ⟨hvd.out, HNEG.out⟩, HB.out.lv⟩⟩
    · obtain ⟨hpos, rfl⟩ : Goes Bs k ∧ ay = nxtI Bs (gnS Bs k) := by
        rcases hay.out with ⟨h, _⟩ | ⟨_, h⟩
        · cases h
        · exact h
      have HPOS : Hid (Goes Bs k) := hpos
      have CL : Hid _ := LETGO.out k wr HB.out.lv hpos
      clear hpos hay
      have x0 := (cell_row HB.out.cbx 0 (.pointer (some ⟨g, 0, none⟩)) rfl).1
      gi_upto_region 3 with fail
      refine wpIn_wide.2 ?_
      go_wp2_with fail
      refine Calls.mono CL.out ?_
      rintro e W2 ⟨rfl, hl2, hb2⟩
      have I2 : Hid (ItZ J own T Bs cb B g v W2 k (k + 1)) := HB.out.go hb2 hl2 HJ.out HST.out
      have V1 : Hid (Vd Bs (k + 1)) := hvd.out.up HPOS.out
      have M2 : Hid (mzV v W2 < mzV v wr) := by
        show _ < _
        rw [mzV_at hl2, mzV_at HB.out.lv, lv_cnt, lv_cnt]
        exact cnt_next HPOS.out
      clear hl2 hb2 CL x0
      go_wp2_with fail
      have hY := HY.out k W2 I2.out.j ⟨V1.out, I2.out.lv⟩
      obtain ⟨fn, tmps, assign, body, hy, hR⟩ := hY
      gi_wp2
      refine ⟨(fun _ => by omega), hR.mono ?_⟩
      rintro e W3 (⟨rfl, hJ3, hk3⟩ | ⟨rfl, hJx3⟩)
      · have I3 : Hid (ItZ J own T Bs cb B g v W3 (k + 1) (k + 1)) := I2.out.yield hk3 hJ3
        clear hk3 hJ3 hR hy
        have x0 := (cell_row I3.out.cbx 0 (.pointer (some ⟨g, 0, none⟩)) rfl).1
        gi_upto_region 2 with fail
        refine wpIn_wide.2 ?_
        go_wp2_with fail
        refine Calls.mono (FIRST.out (k + 1) W3 I3.out.lv) ?_
        rintro e u4 ⟨hcase, hb4⟩
        have I4 : Hid (ItZ J own T Bs cb B g v u4 (k + 1) (k + 1)) := I3.out.below hb4 HJ.out HST.out
        clear hb4 x0
        obtain ⟨az, oz, rfl, haz⟩ : ∃ (a : Int) (o : Bool), e = .returned (.tuple #[.int .i64 a, .bool o]) ∧ ((o = false ∧ Ends Bs (k + 1)) ∨ (o = true ∧ Goes Bs (k + 1) ∧ a = nxtI Bs (gnS Bs (k + 1)))) := by
          rcases hcase with ⟨h1, h2⟩ | ⟨h1, h2⟩
          · exact ⟨0, false, h2, .inl ⟨rfl, h1⟩⟩
          · exact ⟨_, true, h2, .inr ⟨rfl, h1, rfl⟩⟩
        have HAZ : Hid _ := haz
        clear hcase haz
        go_wp2_with fail
        go_roundw
        case rel => exact ⟨k + 1, az, oz, rfl, rfl, HAZ, V1, I4⟩
        case measure =>
          have h1 := M2.out
          rw [mzV_at I2.out.lv] at h1
          show mzV v u4 < mzV v wr
          rw [mzV_at I4.out.lv]
          exact h1
      · gi_wp2
        exact bodyPost_ret (results_none rfl _ _ _) rfl ⟨⟨_, rfl⟩, .inr ⟨k, hJx3⟩⟩
end Go.Proofs.YtaejlcanccfmmaaGreatDoor

namespace Go.Proofs.YtaejlcanccfmmaaGreatDoor
open Go.RowKit
def ownO (g5 : Nat) : World → Nat → Prop := fun W q => q = g5 ∨ ∃ pv, W.heap[g5]? = some (.cells #[pv] 23 (0, 0)) ∧ pv.ownBlock = some q
structure OrI (U : World) (g5 : Nat) (Tt : Nat → Prop) (l : List ByteArray) (X : World) (pv : Value) : Prop where
  row : Row X U.heap.size 9 1 eS pv l
  b5 : X.heap[g5]? = some (.cells #[pv] 23 (0, 0))
  but : But (fun b => b = g5 ∨ Tt b) U X
theorem rowO_cells {w : World} {B t : Nat} {v : Value} {l : List ByteArray} (h : Row w B t 1 eS v l) {g : Nat} (hg : v.ownBlock = some g) : ∃ cur, w.heap[g]? = some (.cells cur t (0, 0)) := by
  rcases h.2 with ⟨rfl, _⟩ | ⟨g', cap, cur, rfl, _, hgg, _⟩
  · cases hg
  · cases hg; exact ⟨cur, hgg⟩
section
variable {U A C V : World} {g5 n₀ : Nat} {Tt : Nat → Prop} {l l' : List ByteArray} {pv pv' : Value}
theorem OrI.lt (h : OrI U g5 Tt l A pv) {q : Nat} (hq : pv.ownBlock = some q) : U.heap.size ≤ q ∧ q < A.heap.size := World.ownsRow.lt h.row q hq
theorem OrI.own (h : OrI U g5 Tt l A pv) {q : Nat} : ownO g5 A q ↔ q = g5 ∨ pv.ownBlock = some q := by
  constructor
  · rintro (e | ⟨u, hu, ho⟩)
    · exact .inl e
    · rw [h.b5] at hu; cases hu; exact .inr ho
  · rintro (e | ho)
    · exact .inl e
    · exact .inr ⟨pv, h.b5, ho⟩
theorem OrI.butR {T' : Nat → Prop} (h : OrI U g5 Tt l A pv) (h5 : g5 < U.heap.size) (ht : ∀ b, T' b → Tt b ∧ b < U.heap.size) (ne : ¬ Tt g5) (hb : ButR T' U.heap.size A C) : OrI U g5 Tt l C pv := by
  have sA := h.but.size
  refine ⟨Row.block h.row (fun q hq => ?_), ?_, ⟨hb.os.trans h.but.os, hb.tape.trans h.but.tape, hb.output.trans h.but.output, Nat.le_trans sA hb.size, fun b hb1 hn => ?_⟩⟩
  · obtain ⟨cur, hc⟩ := rowO_cells h.row hq
    have hl := h.lt hq
    exact hb.block q hl.2 (fun e => by have := (ht q e).2; omega) (fun hr => by obtain ⟨_, o, ho, hoc⟩ := hr; rw [hc] at ho; cases ho; cases hoc)
  · exact (hb.block g5 (by omega) (fun e => ne (ht _ e).1) (fun hr => by omega)).trans h.b5
  · exact (hb.block b (by omega) (fun e => hn (.inr (ht _ e).1)) (fun hr => by omega)).trans (h.but.block b hb1 hn)
theorem OrI.st (h : OrI U g5 Tt l A pv) (h5 : g5 < U.heap.size) (ht : ∀ b, Tt b → b < U.heap.size) (ne : ¬ Tt g5) : (∀ q, ownO g5 A q → q < A.heap.size) ∧ ∀ C, ButR Tt U.heap.size A C → ∀ q, ownO g5 C q → ownO g5 A q := by
  have sA := h.but.size
  refine ⟨fun q hq => ?_, fun C hb q hq => ?_⟩
  · rcases h.own.1 hq with e | e
    · omega
    · exact (h.lt e).2
  · exact h.own.2 ((h.butR h5 (fun b hb => ⟨hb, ht b hb⟩) ne hb).own.1 hq)
theorem OrI.push (h : OrI U g5 Tt l V pv) (h5 : g5 < U.heap.size) (hn : n₀ ≤ g5) {V2 V3 : World} (hb : Below V.heap.size V V2) (hg : V2.grownBy V3 pv.ownBlock) (hrow : Row V3 U.heap.size 9 1 eS pv' l') (hbk : pv'.ownBlock = pv.ownBlock ∨ pv'.ownBlock = some V2.heap.size) :
    KeepsOthers V (V3.setCell ⟨g5, 0, none⟩ pv') ∧ KpO (ownO g5) n₀ V (V3.setCell ⟨g5, 0, none⟩ pv') ∧ OrI U g5 Tt l' (V3.setCell ⟨g5, 0, none⟩ pv') pv' := by
  have sB := hb.size
  have sU := h.but.size
  have s3 := hg.size
  obtain ⟨V4, hV⟩ : ∃ V4, V4 = V3.setCell ⟨g5, 0, none⟩ pv' := ⟨_, rfl⟩
  have s4 : V4.heap.size = V3.heap.size := by rw [hV]; simp
  have oth : ∀ q, q ≠ g5 → V4.heap[q]? = V3.heap[q]? := fun q hq => by rw [hV]; exact Below.heap_setCell V3 ⟨g5, 0, none⟩ pv' q hq
  have keep3 : ∀ q, q < V.heap.size → pv.ownBlock ≠ some q → V3.heap[q]? = V.heap[q]? := fun q hq hv => (hg.block q (by omega) (fun e => hv e.symm)).trans (hb.block q hq)
  have keep : ∀ q, q < V.heap.size → q ≠ g5 → pv.ownBlock ≠ some q → V4.heap[q]? = V.heap[q]? := fun q hq h7' hv => (oth q h7').trans (keep3 q hq hv)
  have n5 : pv.ownBlock ≠ some g5 := fun e => by have := h.lt e; omega
  have f5 : V4.heap[g5]? = some (.cells #[pv'] 23 (0, 0)) := by
    rw [hV, set_row ((keep3 g5 (by omega) n5).trans h.b5) 0 pv']; rfl
  have B4 : But (fun b => b = g5 ∨ Tt b) U V4 := by
    rw [hV]
    refine But.set ?_ (.inl rfl) 0 pv'
    exact ⟨hg.os.trans (hb.os.trans h.but.os), hg.tape.trans (hb.tape.trans h.but.tape), hg.output.trans (hb.output.trans h.but.output), by omega, fun q hq hno => (keep3 q (by omega) (fun e => by have := h.lt e; omega)).trans (h.but.block q hq hno)⟩
  rw [← hV]
  clear hV
  have G : OrI U g5 Tt l' V4 pv' := ⟨Row.block hrow (fun q hq => oth q (by have := World.ownsRow.lt hrow q hq; omega)), f5, B4⟩
  refine ⟨⟨by omega, fun k o hk ho => (keep k (Array.getElem?_eq_some_iff.1 hk).1 (fun e => ?_) (fun e => ?_)).trans hk⟩, ⟨by omega, fun q hq => ?_, fun q hq => keep q (by omega) (by omega) (fun e => by have := h.lt e; omega), fun q cc t z hcc ho => (keep q (Array.getElem?_eq_some_iff.1 hcc).1 (fun e => ho (.inl e)) (fun e => ho (h.own.2 (.inr e)))).trans hcc⟩, G⟩
  · subst e; rw [h.b5] at hk; cases hk; cases ho
  · obtain ⟨cur, hcur⟩ := rowO_cells h.row e
    rw [hcur] at hk; cases hk; cases ho
  · rcases G.own.1 hq with e | e
    · exact .inl (.inl e)
    · rcases hbk with e2 | e2
      · exact .inl (h.own.2 (.inr (e2.symm.trans e)))
      · rw [e2] at e; cases e; exact .inr (by omega)
end
theorem Lv.butR {B g N : Nat} {A C : World} {v : Value} {L : List (Nat × Nat × Bool)} {fr : Nat} (h : Lv B A g v L fr) (hb : ButR (fun _ => False) N A C) : Lv B C g v L fr :=
  ⟨Row.block h.row fun q hq => by
    obtain ⟨c, hc⟩ := Row.typed h.row q hq
    exact hb.block q (World.ownsRow.lt h.row q hq).2 (fun e => e) (fun hr => by obtain ⟨_, o, ho, hoc⟩ := hr; rw [hc] at ho; cases ho; cases hoc), (hb.block g h.lt (fun e => e) (fun hr => by obtain ⟨_, o, ho, hoc⟩ := hr; rw [h.box] at ho; cases ho; cases hoc)).trans h.box, h.low⟩
end Go.Proofs.YtaejlcanccfmmaaGreatDoor
