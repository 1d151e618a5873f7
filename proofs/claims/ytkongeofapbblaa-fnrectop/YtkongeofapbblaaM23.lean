/-
  Several texts in one.
-/
import Derived.Test.YtkongeofapbblaaM22
import Derived.Test.YtkongeofapbblaaM13
import Derived.Deep.Cut
import Derived.Test.YtkongeofapbblaaM2
/-
  What the law FnRecTop draws: a recipe, and how its phases go.
-/
namespace Go.Proofs.Ytkongeofapbblaa
open Go.RowKit Go.Sort

/-- The cells of a saying. -/
def eY (p : DRecSay) (j : Nat) : Value := cs [.int .i64 p.1, .bool p.2] j
abbrev OkY (p : DRecSay) : Prop := -9223372036854775808 ≤ p.1 ∧ p.1 ≤ 9223372036854775807
theorem eY_one (p : DRecSay) (j : Nat) : (eY p j).oneCell' = true := by
  by_cases h : j < 2
  · rcases (show j = 0 ∨ j = 1 by omega) with rfl | rfl <;> rfl
  · have : eY p j = .bool false := by
      unfold eY cs
      rw [List.getD_eq_getElem?_getD, List.getElem?_eq_none (by simp; omega)]; rfl
    rw [this]; rfl
theorem flatY : Flat 2 eY OkY := ⟨rfl, fun {S w a c} h => by
  rw [at_DRecSay] at h
  obtain ⟨⟨h0, z0⟩, h1⟩ := h
  refine ⟨fun j hj => ?_, z0⟩
  rcases (show j = 0 ∨ j = 1 by omega) with rfl | rfl
  · exact h0
  · exact h1, fun h => at_DRecSay.2 ⟨⟨rfl, h⟩, rfl⟩, eY_one⟩
theorem infY : (Try.prog.info? 41).map (fun i => (i.zero, i.size, i.bytes)) = some (some (.agg #[.int .i64 0, .bool false]), 2, 16) := by kernel_rfl
theorem elY : ElT Try.prog 24 41 2 16 := by
  obtain ⟨i0, hi, hz0, hz1, hz2⟩ := info_parts infY
  exact ⟨by kernel_rfl, ⟨i0, _, hi, hz0, hz1, hz2, rfl⟩, by decide⟩
theorem one_atY (W : World) (t : Int) (b : Bool) (h : OkN t) : AtL (fun q => q = W.heap.size) (W.alloc (.cells #[.int .i64 t, .bool b] 41)) ([(t, b)] : List DRecSay) (.slice (some ⟨W.heap.size, 0, none⟩) 1 1) := by
  have h2 := heap_alloc_new W (.cells #[.int .i64 t, .bool b] 41)
  refine ⟨_, _, rfl, ⟨by unfold maxLen; simp, by simp, fun h => by cases h⟩, fun i hi => ⟨_, _, rfl, rfl, eY (t, b), fun j hj => ?_, ?_⟩⟩
  · have hi0 : i = 0 := by simpa using hi
    subst hi0
    rw [width_DRecSay] at hj
    rw [Nat.zero_mul, Nat.add_zero, Nat.zero_add]
    rcases (show j = 0 ∨ j = 1 by omega) with rfl | rfl
    all_goals exact (cell_row h2 _ _ rfl).1
  · have hi0 : i = 0 := by simpa using hi
    subst hi0
    exact flatY.at_ h
/-- What is drawn for a run. -/
def DnE (w : World) (e : Ending) (w' : World) : Prop := ∃ v M q L, e = .returned (.tuple #[v, q]) ∧ M.length ≤ 14 ∧ (∀ x ∈ M, PzL 2000 x) ∧ L.length ≤ 12 ∧ (∀ x ∈ L, OkY x) ∧ Hid (Row w' w.heap.size 37 8 eR v M) ∧ Hid (Row w' w.heap.size 41 2 eY q L) ∧ Hid (Below w.heap.size w w')
theorem DnE.of {w : World} {e : Ending} {w' : World} (h : ∃ v M q L, e = .returned (.tuple #[v, q]) ∧ M.length ≤ 14 ∧ (∀ x ∈ M, PzL 2000 x) ∧ L.length ≤ 12 ∧ (∀ x ∈ L, OkY x) ∧ Hid (Row w' w.heap.size 37 8 eR v M) ∧ Hid (Row w' w.heap.size 41 2 eY q L) ∧ Hid (Below w.heap.size w w')) : DnE w e w' := h

set_option maxRecDepth 100000 in
set_option maxHeartbeats 4000000 in
theorem drawR_any (ob : Option Addr) (n cb : Nat) (f : Nat → Int) (w : World) (hn : n ≤ maxLen) (hnc : n ≤ cb) (fb : ∀ i, 0 ≤ f i ∧ f i ≤ 255)
    (ce : ∀ i, i < n → ∃ b off, ob = some ⟨b, off, none⟩ ∧ b < w.heap.size ∧ w.cell? ⟨b, off + i, none⟩ = some (.int .u8 (f i))) :
    Calls Try.prog 4 #[.slice ob n cb] w fun e w' => DnE w e w' := by
  have HOP : Hid (1 ≤ n → ∃ a, ob = some a) := fun h => by obtain ⟨b, off, h1, _⟩ := ce 0 (by omega); exact ⟨_, h1⟩
  have HCE : Hid _ := ce
  have HFB : Hid _ := fb
  clear ce fb
  go_enter Try.func4, Try.ntmps4
  go_wp2_with fail
  refine (open_any ob n cb w hn hnc HOP.out).mono ?_
  rintro e W1 ⟨n', hn1, hn2, rfl, hW1⟩
  obtain ⟨R, hR⟩ : ∃ R, R = w.heap.size := ⟨_, rfl⟩
  have hrd : Rd R W1 ob n' cb 0 f := by
    rw [hW1, hR]
    refine ⟨heap_alloc_new w _, hn1, by omega, by omega, HFB.out, fun i hi => ?_⟩
    obtain ⟨b, off, h1, h2, h3⟩ := HCE.out i (by omega)
    exact ⟨b, off, h1, by omega, (World.cell?_of_block (w := w) (a := ⟨b, off + i, none⟩) (Below.heap_alloc w _ b (by omega))).trans h3⟩
  have RD1 : Hid (Rd R W1 ob n' cb 0 f) := hrd
  have B1 : Hid (Below w.heap.size w W1) := by show Below w.heap.size w W1; rw [hW1]; exact (Below.refl _ _).alloc (Nat.le_refl _) _
  have s1 : w.heap.size + 1 ≤ W1.heap.size := by rw [hW1]; simp
  have rlo : w.heap.size ≤ R ∧ R ≤ w.heap.size := by omega
  rw [← hR]
  clear hR hW1 hrd hn2 hn hnc HCE HFB HOP
  have C : Hid _ := any_rd R ob n' cb f 0 W1 RD1.out (by omega)
  go_wp2_with fail
  refine Calls.mono C.out ?_
  rintro e W2 ⟨v, M, rfl, hm, hz, p2, hp2, RD2, BT2, RW2⟩
  have HZ : Hid (∀ x ∈ M, PzL 2000 x) := hz
  clear C hz RD1
  obtain ⟨oo, ko, hf⟩ := Row.form RW2.out
  subst hf
  obtain ⟨nl, hnl⟩ : ∃ nl, M.length = nl := ⟨_, rfl⟩
  have HLK : Hid (M.length = nl) := hnl
  rw [hnl] at hm RW2
  rw [hnl]
  clear hnl
  have s2 := BT2.out.size
  obtain ⟨X, hX⟩ : ∃ X, X = W2.alloc (.cells #[] 41) := ⟨_, rfl⟩
  have EX : Hid (X = W2.alloc (.cells #[] 41)) := hX
  have RDX : Hid (Rd R X ob n' cb p2 f) := by rw [hX]; exact RD2.out.but (fun b hb => Below.heap_alloc W2 _ b (by omega))
  have BTX : Hid (But (fun q => q = R) W1 X) := by rw [hX]; exact but_alloc BT2.out _
  have RMX : Hid (Row X W1.heap.size 37 8 eR (.slice oo nl ko) M) := by rw [hX]; exact Row.block RW2.out (fun q hq => Below.heap_alloc W2 _ q (World.ownsRow.lt RW2.out q hq).2)
  have RLX : Hid (Row X W2.heap.size 41 2 eY (.slice (some ⟨W2.heap.size, 0, none⟩) 0 0) []) := by
    rw [hX]
    exact own_built (base := W2.heap.size) (e := 41) (size := 2) (k := 0) (w := W2) (c := #[]) (Nat.le_refl _) (by decide) rfl
  have sX : X.heap.size = W2.heap.size + 1 := by rw [hX]; simp
  have MLT : Hid (∀ q, (Value.slice oo nl ko).ownBlock = some q → W1.heap.size ≤ q ∧ q < W2.heap.size) := fun q hq => World.ownsRow.lt RW2.out q hq
  clear hX RD2 BT2 RW2
  have C : Hid _ := pick_rd R ob n' cb f p2 12 X RDX.out (by omega) (by omega) (by omega)
  go_upto_region 4 with fail
  rw [← EX.out]
  clear EX
  go_wp2_with fail
  refine Calls.mono C.out ?_
  rintro e W3 ⟨z, rfl, z0, z1, p3, hp3, RD3, BT3⟩
  have BT3' : Hid (But (fun q => q = R) W1 W3) := BTX.out.trans BT3.out
  have s3 := BT3.out.size
  have RM3 : Hid (Row W3 W1.heap.size 37 8 eR (.slice oo nl ko) M) := Row.block RMX.out (fun q hq => BT3.out.block q (by have := MLT.out q hq; omega) (by have := MLT.out q hq; omega))
  have RL3 : Hid (Row W3 W2.heap.size 41 2 eY (.slice (some ⟨W2.heap.size, 0, none⟩) 0 0) []) := Row.block RLX.out (fun q hq => BT3.out.block q (World.ownsRow.lt RLX.out q hq).2 (by have := (World.ownsRow.lt RLX.out q hq).1; omega))
  have B3 : Hid (Below w.heap.size w W3) := B1.out.trans (BT3'.out.below (B := w.heap.size) (fun b hb => by omega) (by omega))
  clear C RDX BTX RMX RLX BT3 BT3'
  obtain ⟨c, rfl⟩ : ∃ c : Nat, z = c := ⟨z.toNat, by omega⟩
  go_wp2_with fail
  go_loopw [6, 7] (fun uv i wr => ∃ (j : Nat) (L : List DRecSay) (us : Value) (p4 : Int), us = uv ∧ j ≤ 12 ∧ i = .int .i64 j ∧ L.length + j ≤ 12 ∧ p4 + 4 * j ≤ 4000 ∧ Hid (∀ x ∈ L, OkY x) ∧ Hid (Rd R wr ob n' cb p4 f) ∧ Hid (Row wr W1.heap.size 37 8 eR (.slice oo nl ko) M) ∧ Hid (Row wr W2.heap.size 41 2 eY us L) ∧ Hid (Below w.heap.size w wr) ∧ W2.heap.size ≤ wr.heap.size) (fun _ i _ => (intOf i).toNat)
  case atStart => exact ⟨c, [], _, p3, rfl, by omega, rfl, by simp; omega, by omega, (fun x hx => by cases hx), RD3, RM3, RL3, B3, by omega⟩
  case round =>
    clear RD3 RM3 RL3 B3
    obtain ⟨j, L, us, p4, rfl, hj, rfl, hL, hp4, HO, RD4, RM4, RL4, B4, hs4⟩ := hrel
    by_cases hj0 : 0 < j
    · have C : Hid _ := say_rd R ob n' cb f p4 wr RD4.out (by omega)
      go_wp2_with fail
      refine Calls.mono C.out ?_
      rintro e W5 ⟨t, b, rfl, hok, p5, hp5, RD5, BT5⟩
      have s5 := BT5.out.size
      have RM5 : Hid (Row W5 W1.heap.size 37 8 eR (.slice oo nl ko) M) := Row.block RM4.out (fun q hq => BT5.out.block q (by have := MLT.out q hq; omega) (by have := MLT.out q hq; omega))
      have RL5 : Hid (Row W5 W2.heap.size 41 2 eY us L) := Row.block RL4.out (fun q hq => BT5.out.block q (World.ownsRow.lt RL4.out q hq).2 (by have := (World.ownsRow.lt RL4.out q hq).1; omega))
      have B5 : Hid (Below w.heap.size w W5) := B4.out.trans (BT5.out.below (B := w.heap.size) (fun b hb => by omega) (by have := B4.out.size; omega))
      have OKT : Hid (OkN t) := hok
      clear C RD4 RM4 RL4 B4 BT5 hok
      have AW : Hid (Below W5.heap.size W5 (W5.alloc (.cells #[.int .i64 t, .bool b] 41))) := (Below.refl _ _).alloc (Nat.le_refl _) _
      have HOWN : Hid ((W5.alloc (.cells #[.int .i64 t, .bool b] 41)).ownsRow W2.heap.size 41 2 us L.length (enc 2 eY L)) := Row.block RL5.out (fun q hq => Below.heap_alloc W5 _ q (World.ownsRow.lt RL5.out q hq).2)
      have SR : Hid (Src (W5.alloc (.cells #[.int .i64 t, .bool b] 41)) (.slice (some ⟨W5.heap.size, 0, none⟩) 1 1) 1 2 (enc 2 eY [(t, b)])) := flatY.src (one_atY W5 t b OKT.out)
      have rl5 := RD5.out.lt
      have sw5 := B5.out.size
      go_wp2_with (at_builtin; refine wpList_app elY rfl _ _ rfl rfl rfl HOWN.out SR.out (flatY.enc_one _) (by unfold maxLen; omega) (by omega) (by simp; omega) ?_; intro vE u5 hown hgE hbk; have OL : Hid (∀ q, us.ownBlock = some q → W2.heap.size ≤ q) := (fun q hq => (World.ownsRow.lt HOWN.out q hq).1); have R5 : Hid (Row u5 W2.heap.size 41 2 eY vE (L ++ [(t, b)])) := (by show World.ownsRow _ _ _ _ _ _ _; rw [List.length_append, enc_append]; exact hown); have BE : Hid (Below w.heap.size w u5) := ((B5.out.trans (AW.out.mono sw5))).grown hgE (by simp; omega) (fun q hq => by have := OL.out q hq; omega); have RME : Hid (Row u5 W1.heap.size 37 8 eR (.slice oo nl ko) M) := Row.block RM5.out (fun q hq => (hgE.block q (by have := MLT.out q hq; simp; omega) (fun e => by have := MLT.out q hq; have := OL.out q e.symm; omega)).trans (Below.heap_alloc W5 _ q (by have := MLT.out q hq; omega))); have RDE : Hid (Rd R u5 ob n' cb p5 f) := RD5.out.but (fun q hq => (hgE.block q (by simp; omega) (fun e => by have := OL.out q e.symm; omega)).trans (Below.heap_alloc W5 _ q (by omega))); have sE : W2.heap.size ≤ u5.heap.size := (by have := hgE.size; simp at this; omega); clear hown hgE hbk SR HOWN AW OL)
      go_roundw
      case rel => exact ⟨j - 1, L ++ [(t, b)], _, p5, rfl, by omega, by first | go_num | (congr 1; omega), by simp; omega, by omega, (fun x hx => (List.mem_append.1 hx).elim (HO.out x) (fun h => by rw [List.mem_singleton.1 h]; exact OKT.out)), RDE, RME, R5, BE, sE⟩
      case measure => simp [intOf]; omega
    · obtain rfl : 0 = j := by omega
      have RMF : Hid (Row wr w.heap.size 37 8 eR (.slice oo nl ko) M) := Row.low RM4.out (by omega)
      have RLF : Hid (Row wr w.heap.size 41 2 eY us L) := Row.low RL4.out (by omega)
      go_wp2_with fail
      exact bodyPost_ret (v := .tuple #[.slice oo nl ko, us]) (by simp [results, Try.results4, go_sem]) rfl (DnE.of ⟨_, M, us, L, rfl, by have := HLK.out; omega, HZ.out, by omega, HO.out, RMF, RLF, B4⟩)

end Go.Proofs.Ytkongeofapbblaa

/-
  The laws' own tests of lists of texts: is a text among them, are all of one among the other.
-/
namespace Go.Proofs.Ytkongeofapbblaa
open Go.RowKit

def hasT (l : List ByteArray) (x : ByteArray) : Bool := l.any fun y => eqB y x
theorem has_yes {l : List ByteArray} {x : ByteArray} {k : Nat} (hk : k < l.length) (h : eqB l[k] x = true) : hasT l x = true :=
  List.any_eq_true.2 ⟨_, List.getElem_mem hk, h⟩
theorem has_no {l : List ByteArray} {x : ByteArray} (h : ∀ j (hj : j < l.length), eqB l[j] x = false) : hasT l x = false := by
  unfold hasT
  rw [List.any_eq_false]
  intro y hy
  obtain ⟨j, hj, rfl⟩ := List.getElem_of_mem hy
  rw [h j hj]
  exact Bool.false_ne_true
def allT (a b : List ByteArray) : Bool := a.all fun y => hasT b y
theorem allT_no {a b : List ByteArray} {k : Nat} (hk : k < a.length) (h : hasT b a[k] = false) : allT a b = false := by
  unfold allT
  rw [List.all_eq_false]
  exact ⟨_, List.getElem_mem hk, by rw [h]; exact Bool.false_ne_true⟩
theorem allT_yes {a b : List ByteArray} (h : ∀ j (hj : j < a.length), hasT b a[j] = true) : allT a b = true := by
  unfold allT
  rw [List.all_eq_true]
  intro y hy
  obtain ⟨j, hj, rfl⟩ := List.getElem_of_mem hy
  exact h j hj

set_option maxRecDepth 100000 in
set_option maxHeartbeats 4000000 in
theorem has_any (S : Nat → Prop) (l : List ByteArray) (v : Value) (x : ByteArray) (w : World) (h : AtL S w l v) :
    Calls Try.prog 43 #[v, .string x] w fun e w' => e = .returned (.bool (hasT l x)) ∧ w' = w := by
  obtain ⟨oa, cap, rfl, hn, hc⟩ := h
  obtain ⟨n, en⟩ : ∃ n, l.length = n := ⟨_, rfl⟩
  rw [en] at hn
  rw [en]
  unfold maxLen at hn
  have HC : Hid _ := hc
  clear hc
  obtain ⟨A, hA⟩ : ∃ A, hasT l x = A := ⟨_, rfl⟩
  have HA : Hid (hasT l x = A) := hA
  rw [hA]
  clear hA
  go_enter Try.func43, Try.ntmps43
  go_wp2
  go_loop [5] (fun i => ∃ k : Nat, k ≤ n ∧ i = .int .i64 k ∧ Hid (∀ j (hj : j < l.length), j < k → eqB l[j] x = false)) (fun i => n - (intOf i).toNat)
  case atStart => exact ⟨0, Nat.zero_le _, rfl, fun _ _ h => by omega⟩
  case round =>
    obtain ⟨k, hk, rfl, hno⟩ := hrel
    by_cases hlt : k < n
    · obtain ⟨b, off, rfl, _, cc, hcell, hat⟩ := HC.out k (by omega)
      rw [width_str] at hcell
      have e0 : w.cell? ⟨b, off + k, none⟩ = some (cc 0) := by simpa using hcell 0 (by omega)
      clear hcell
      rw [at_str] at hat
      rw [hat.1] at e0
      clear hat
      obtain ⟨f, ef⟩ : ∃ f, l[k]'(by omega) = f := ⟨_, rfl⟩
      rw [ef] at e0
      cases c0 : (f.toList == x.toList)
      · have hp : eqB (l[k]'(by omega)) x = false := by rw [ef]; simp [eqB, c0]
        clear ef
        go_wp2
        go_round
        case rel => exact ⟨k + 1, by omega, by go_num, fun j hj hjk => by
          by_cases e : j = k
          · subst e; exact hp
          · exact hno.out j hj (by omega)⟩
        case measure => simp [intOf]; omega
      · have hp : eqB (l[k]'(by omega)) x = true := by rw [ef]; simp [eqB, c0]
        have hr : A = true := HA.out.symm.trans (has_yes (by omega) hp)
        clear ef hp
        go_wp2
        go_ret
        exact ⟨rfl, rfl⟩
    · have hkn : k = n := by omega
      subst hkn
      have hr : A = false := HA.out.symm.trans (has_no (fun j hj => hno.out j hj (by omega)))
      go_wp2
      go_ret
      exact ⟨rfl, rfl⟩

set_option maxRecDepth 100000 in
set_option maxHeartbeats 4000000 in
theorem all_anyT (S S' : Nat → Prop) (a b : List ByteArray) (v u : Value) (w : World) (h : AtL S w a v) (h2 : AtL S' w b u) :
    Calls Try.prog 14 #[v, u] w fun e w' => e = .returned (.bool (allT a b)) ∧ w' = w := by
  obtain ⟨oa, cap, rfl, hn, hc⟩ := h
  obtain ⟨ou, cau, ev, hx⟩ := id h2
  clear hx
  subst ev
  obtain ⟨nb, eb⟩ : ∃ n, b.length = n := ⟨_, rfl⟩
  rw [eb] at h2
  rw [eb]
  have H2 : Hid _ := h2
  clear h2 eb
  obtain ⟨n, en⟩ : ∃ n, a.length = n := ⟨_, rfl⟩
  rw [en] at hn
  rw [en]
  unfold maxLen at hn
  have HC : Hid _ := hc
  clear hc
  obtain ⟨A, hA⟩ : ∃ A, allT a b = A := ⟨_, rfl⟩
  have HA : Hid (allT a b = A) := hA
  rw [hA]
  clear hA
  go_enter Try.func14, Try.ntmps14
  go_wp2
  go_loop [5] (fun i => ∃ k : Nat, k ≤ n ∧ i = .int .i64 k ∧ Hid (∀ j (hj : j < a.length), j < k → hasT b a[j] = true)) (fun i => n - (intOf i).toNat)
  case atStart => exact ⟨0, Nat.zero_le _, rfl, fun _ _ h => by omega⟩
  case round =>
    obtain ⟨k, hk, rfl, hno⟩ := hrel
    by_cases hlt : k < n
    · obtain ⟨g, off, rfl, _, cc, hcell, hat⟩ := HC.out k (by omega)
      rw [width_str] at hcell
      have e0 : w.cell? ⟨g, off + k, none⟩ = some (cc 0) := by simpa using hcell 0 (by omega)
      clear hcell
      rw [at_str] at hat
      rw [hat.1] at e0
      clear hat
      obtain ⟨f, ef⟩ : ∃ f, a[k]'(by omega) = f := ⟨_, rfl⟩
      have EF : Hid (a[k]'(by omega) = f) := ef
      rw [ef] at e0
      clear ef
      have C : Hid _ := has_any S' b _ f w H2.out
      cases c0 : hasT b f
      · have hr : A = false := HA.out.symm.trans (allT_no (k := k) (by omega) (by rw [EF.out]; exact c0))
        rw [c0] at C
        go_wp2_with fail
        refine Calls.mono C.out ?_; rintro e' w1 ⟨rfl, rfl⟩
        go_wp2_with fail
        rw [hr]
        go_ret
        exact ⟨rfl, rfl⟩
      · have hp : Hid (hasT b (a[k]'(by omega)) = true) := by rw [EF.out]; exact c0
        rw [c0] at C
        go_wp2_with fail
        refine Calls.mono C.out ?_; rintro e' w1 ⟨rfl, rfl⟩
        go_wp2_with fail
        go_round
        case rel => exact ⟨k + 1, by omega, by go_num, fun j hj hjk => by
          by_cases e : j = k
          · subst e; exact hp.out
          · exact hno.out j hj (by omega)⟩
        case measure => simp [intOf]; omega
    · have hkn : k = n := by omega
      subst hkn
      have hr : A = true := HA.out.symm.trans (allT_yes (fun j hj => hno.out j hj (by omega)))
      go_wp2
      go_ret
      exact ⟨rfl, rfl⟩

end Go.Proofs.Ytkongeofapbblaa
