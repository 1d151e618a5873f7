/-
  Several texts in one.
-/
import Derived.Test.YtgjcppdeljoimaaM36
import Derived.RangeFuncCalls
import Derived.OwnWalkIn
import Derived.OrdersIn
import Derived.TacticsIn
import Derived.Test.YtgjcppdeljoimaaRz
import Derived.RangeFuncNested
import Derived.RangeFuncBound
import Derived.RangeFuncLeaves
import Derived.RangeFuncBox
import Derived.Shelf.Abstract
import Derived.Shelf.RegionOpen
import Derived.TacticsInMore
import Derived.LoopNIn
import Derived.LoopIn
import Derived.Maps.AppendAt
import Derived.Test.YtgjcppdeljoimaaM37
import Derived.Test.YtgjcppdeljoimaaVb
import Derived.Test.YtgjcppdeljoimaaM27
import Derived.Test.YtgjcppdeljoimaaM32
import Derived.Test.YtgjcppdeljoimaaRva
namespace Go.Proofs.Ytgjcppdeljoimaa
open Go.Sort
section
variable {P : Program} {md : Region.Mode} {ops : Array Oper} {C : World → Prop} {n : Nat} {L : Array Bool → Act → World → Prop} {l' m : Nat}
def noDeferB (ops : Array Oper) : Bool := ops.all fun o => match o.op with | .defer _ => false | _ => true
theorem no_defer (h : noDeferB ops = true) {i : Nat} {o : Oper} (ho : ops[i]? = some o) (c : Call) : o.op ≠ .defer c := fun e => by
  have hm : o ∈ ops := Array.mem_of_getElem? ho
  have := (Array.all_eq_true'.1 h) o hm
  rw [e] at this; cases this
theorem anyIn_of_C {Q : Exit → Act → World → Prop} {g : Nat} (hnd : noDeferB ops = true) (hL : ∀ listed a w, L listed a w → wpAnyIn (Fence.wide.inRound l') m P md ops Q g listed a w) :
    ∀ (f : Nat) (listed : Array Bool) (a : Act) (w : World), anyC P md ops C n L f listed a w → wpAnyIn (Fence.wide.inRound l') m P md ops Q (f + g) listed a w
  | 0, listed, a, w, h => by rw [Nat.zero_add]; exact hL _ _ _ h
  | f + 1, listed, a, w, h => by
    rw [show f + 1 + g = (f + g) + 1 by omega]
    refine ⟨fun h0 => absurd h0 h.1, fun i hi => ?_⟩
    rcases (h.2 i hi).2 with ⟨o, ho, hg, u, w', hr, _, hk⟩ | ⟨o, ho, hg, fn, args, hr, hk⟩
    · unfold wpOpIn
      simp only [ho, wanted_none hg, if_true]
      refine ⟨fun _ _ => trivial, ?_⟩
      rw [Oper.semAt_plain _ _ _ (no_defer hnd ho), hr, Oper.uponIn_value]
      exact anyIn_of_C hnd hL f _ _ _ hk
    · unfold wpOpIn
      simp only [ho, wanted_none hg, if_true]
      refine ⟨fun _ _ => trivial, ?_⟩
      rw [Oper.semAt_plain _ _ _ (no_defer hnd ho), hr, Oper.uponIn_enter]
      refine ⟨(fun h => by cases h), (CallsIn.inRound l' (callsIn_wide.2 hk)).mono fun e w'' ⟨u, he, _, hk'⟩ => ?_⟩
      subst he
      exact anyIn_of_C hnd hL f _ _ _ hk'
theorem wpAnyIn_of_seq {F : Fence} {Q' : Exit → Act → World → Prop} : ∀ (l : List Oper) (k : Nat) (listed : Array Bool) (a : Act) (w : World), (∀ j, l[j]? = ops[k + j]?) →
    Region.seqB md ops l.length k listed = true → wpListIn F m P ops Q' l a w → wpAnyIn F m P md ops Q' l.length listed a w
  | [], _, _, _, _, _, hB, h => ⟨by simpa [Region.seqB] using hB, h⟩
  | o :: l, k, listed, a, w, hl, hB, h => by
    have h0 : ops[k]? = some o := by simpa using (hl 0).symm
    simp only [List.length_cons, Region.seqB, Bool.and_eq_true, decide_eq_true_eq] at hB
    refine ⟨fun h1 => (by rw [hB.1] at h1; cases h1), fun i hi => ?_⟩
    rw [hB.1] at hi
    have hik : i = k := by simpa using hi
    subst hik
    have hw : wpOpIn F m P ops Q' i (wpListIn F m P ops Q' l) a w := by unfold wpOpIn; simp only [h0]; exact h
    exact wpOpIn_mono (fun a' w' h' => wpAnyIn_of_seq l (i + 1) _ a' w' (fun j => by have := hl (j + 1); simpa [Nat.add_assoc, Nat.add_comm 1 j] using this) hB.2 h') hw
def tailI (F : Fence) (m : Nat) (P : Program) (Q : Exit → Act → World → Prop) (l : List Oper) (n : Nat) (listed : Array Bool) (a : Act) (w : World) : Prop :=
  Region.seqB .any l.toArray (l.length - n) n listed = true ∧ wpListIn F m P l.toArray Q (l.drop n) a w
theorem wpIn_region_mix {id : Nat} {Q : Exit → Act → World → Prop} {a : Act} {w : World} {l : List Oper} (n : Nat) (ks : List Nat) (hm : P.follows .mixedOrders = true) (hB : mixTailB l n ks = true) (hnd : noDeferB l.toArray = true)
    (h : wpQuiet P l.toArray (fun w' => ∃ p : Regrown, w' = grow (redrawn w p.d) p.os) (fun a' => anyC P .any l.toArray (fun w' => ∃ p : Regrown, w' = grow (redrawn w p.d) p.os) n (tailI (Fence.wide.inRound l') m P Q l n) (n - ks.length) (listAll ks (Array.replicate l.length false)) a' w.drew) (ks.filterMap fun k => l[k]?) a) :
    (Code.region id l.toArray true).wpIn (Fence.wide.inRound l') m P Q a w := by
  have hB' := hB
  simp only [mixTailB, Bool.and_eq_true, decide_eq_true_eq] at hB
  obtain ⟨⟨⟨⟨⟨hsel, hn⟩, hkn⟩, hs⟩, hc⟩, hmix⟩ := hB
  have hn' : n < l.toArray.size := by simpa using hn
  have hdl : (l.drop n).length = l.length - n := by simp
  have inv0 : HeadInv .any l.toArray n (Array.replicate l.length false) :=
    ⟨by simp, fun j oj _ hl => (by rw [getD_replicate_false] at hl; cases hl), fun t _ ht => getD_in (by simpa using ht) (getD_replicate_false _ _)⟩
  have H := anyC_lex (P := P) (md := .any) (L := tailI (Fence.wide.inRound l') m P Q l n) hsel hs hc hn' (fun listed a w hL => seqB_ready hL.1) (n - ks.length) w.drew ⟨⟨w.drawn + 1, #[]⟩, by rw [grow_empty]; rfl⟩ ks _ _ a (mix_ops ks _ hmix) inv0 hmix h
  have G := anyIn_of_C (Q := Q) (g := l.length - n) hnd (fun listed a' w' hL => by
    have := wpAnyIn_of_seq (P := P) (md := .any) (ops := l.toArray) (F := Fence.wide.inRound l') (m := m) (Q' := Q) (l.drop n) n listed a' w' (fun j => by simp [List.getElem?_drop]) (by rw [hdl]; exact hL.1) hL.2
    rwa [hdl] at this) _ _ _ _ H
  rw [show ks.length + (n - ks.length) + (l.length - n) = l.toArray.size by simp; omega] at G
  refine wpIn_region_any hm ?_
  simpa using G
end
end Go.Proofs.Ytgjcppdeljoimaa

namespace Go.Proofs.Ytgjcppdeljoimaa
open Go.RowKit Go.Shelf
attribute [local go_sem] Oper.semAt_some
set_option maxRecDepth 100000 in
set_option maxHeartbeats 1000000 in
theorem behind_any (n a b s x : ByteArray) (w : World) :
    Calls Try.prog 47 #[.agg #[.string n, .string a, .string b, .string s], .string x] w fun e w' => e = .returned (.tuple #[.string (behS (n, a, b, s) x), .bool (endB (n, a, b, s) x)]) ∧ w' = w.alloc (.cells #[.string n, .string a, .string b, .string s] 53) := by
  cases h1 : (x.toList == a.toList)
  · cases h2 : (x.toList == b.toList)
    · have e1 : behS (n, a, b, s) x = ⟨#[]⟩ := by simp only [behS, eqB, h1, h2, cond_false]
      have e2 : endB (n, a, b, s) x = false := by simp only [endB, eqB, h1, h2, Bool.or_false]
      rw [e1, e2]
      go_enter Try.func47, Try.ntmps47
      go_wp2
      go_ret2
      exact ⟨rfl, rfl⟩
    · have e1 : behS (n, a, b, s) x = a := by simp only [behS, eqB, h1, h2, cond_false, cond_true]
      have e2 : endB (n, a, b, s) x = true := by simp only [endB, eqB, h1, h2, Bool.or_true]
      rw [e1, e2]
      go_enter Try.func47, Try.ntmps47
      go_wp2
      go_ret2
      exact ⟨rfl, rfl⟩
  · have e1 : behS (n, a, b, s) x = b := by simp only [behS, eqB, h1, cond_true]
    have e2 : endB (n, a, b, s) x = true := by simp only [endB, eqB, h1, Bool.true_or]
    rw [e1, e2]
    go_enter Try.func47, Try.ntmps47
    go_wp2
    go_ret2
    exact ⟨rfl, rfl⟩
set_option maxRecDepth 100000 in
set_option maxHeartbeats 1000000 in
theorem valvesAt_any (v0 v1 v2 v3 : Value) (x : ByteArray) (w : World) :
    Calls Try.prog 24 #[.agg #[v0, v1, v2, v3], .string x] w fun e w' => e = .returned (.func (.func 46) #[] #[.pointer (some ⟨w.heap.size, 0, none⟩), .pointer (some ⟨w.heap.size + 1, 0, none⟩)]) ∧
      w' = (w.alloc (.cells #[v0, v1, v2, v3] 28)).alloc (.cells #[.string x] 9) := by
  go_enter Try.func24, Try.ntmps24
  go_wp2
  go_ret
  exact ⟨by simp, rfl⟩
abbrev Two := { s : ByteArray × ByteArray // s.1.size ≤ 8 ∧ s.2.size ≤ 8 }
def two (a b : ByteArray) : Two := if h : a.size ≤ 8 ∧ b.size ≤ 8 then ⟨(a, b), h⟩ else ⟨(⟨#[]⟩, ⟨#[]⟩), by decide⟩
theorem two_of {a b : ByteArray} (ha : a.size ≤ 8) (hb : b.size ≤ 8) : (two a b).1 = (a, b) := by
  unfold two; rw [dif_pos ⟨ha, hb⟩]
def vAt (f : Nat → ByteArray × ByteArray × ByteArray × ByteArray) (x : ByteArray) (k : Nat) : List Two := ((List.range k).filter fun i => endB (f i) x).map fun i => two (f i).1 (behS (f i) x)
theorem vAt_yes {f : Nat → ByteArray × ByteArray × ByteArray × ByteArray} {x : ByteArray} {k : Nat} (h : endB (f k) x = true) : vAt f x (k + 1) = vAt f x k ++ [two (f k).1 (behS (f k) x)] := by
  simp [vAt, List.range_succ, List.filter_append, h]
theorem vAt_no {f : Nat → ByteArray × ByteArray × ByteArray × ByteArray} {x : ByteArray} {k : Nat} (h : endB (f k) x = false) : vAt f x (k + 1) = vAt f x k := by
  simp [vAt, List.range_succ, List.filter_append, h]
theorem vAt_len (f : Nat → ByteArray × ByteArray × ByteArray × ByteArray) (x : ByteArray) (k : Nat) : (vAt f x k).length ≤ k := by
  have := List.length_filter_le (fun i => endB (f i) x) (List.range k)
  simp only [vAt, List.length_map]
  simpa using this
theorem vAt_pre (f : Nat → ByteArray × ByteArray × ByteArray × ByteArray) (x : ByteArray) {k n : Nat} (h : k ≤ n) : vAt f x k <+: vAt f x n := by
  induction n with
  | zero => have : k = 0 := by omega
            subst this; exact List.prefix_refl _
  | succ n ih =>
    by_cases e : k = n + 1
    · subst e; exact List.prefix_refl _
    · refine (ih (by omega)).trans ?_
      cases hb : endB (f n) x
      · rw [vAt_no hb]; exact List.prefix_refl _
      · rw [vAt_yes hb]; exact List.prefix_append _ _
structure KpV (n₀ b : Nat) (W W' : World) : Prop where
  size : W.heap.size ≤ W'.heap.size
  blk : ∀ k, k < n₀ ∨ k = b → W'.heap[k]? = W.heap[k]?
theorem KpV.refl (n₀ b : Nat) (W : World) : KpV n₀ b W W := ⟨Nat.le_refl _, fun _ _ => rfl⟩
theorem KpV.trans {n₀ b : Nat} {A B C : World} (h : KpV n₀ b A B) (k : KpV n₀ b B C) : KpV n₀ b A C := ⟨Nat.le_trans h.size k.size, fun i hi => (k.blk i hi).trans (h.blk i hi)⟩
theorem KpV.alloc {n₀ b : Nat} {A W : World} (h : KpV n₀ b A W) (hn : n₀ ≤ A.heap.size) (hb : b < A.heap.size) (o : Obj) : KpV n₀ b A (W.alloc o) := by
  have := h.size
  exact ⟨by simp; omega, fun k hk => (Below.heap_alloc W o k (by rcases hk with hk | rfl <;> omega)).trans (h.blk k hk)⟩
theorem KpV.put {n₀ b : Nat} {w : World} (hn : n₀ ≤ w.heap.size) (hb : b < w.heap.size) (W : World) (l : Nat) (o o' : Obj) (hl : w.heap.size ≤ l) (_ : W.heap[l]? = some o) (_ : o.isCells = false) (_ : o.isWalk = false) : KpV n₀ b W (W.putObj l o') :=
  ⟨by simp, fun k hk => World.putObj_heap_other (by rcases hk with hk | rfl <;> omega)⟩
set_option maxRecDepth 100000 in
set_option maxHeartbeats 4000000 in
theorem vals_in (n l b1 b2 n₀ : Nat) (hn : 2 ≤ n) (v3 : Value) (nv : Nat) (f : Nat → ByteArray × ByteArray × ByteArray × ByteArray) (x : ByteArray) (J Jx : List Two → World → Prop) (W : World) (hJ : AbidesFrom W.heap.size J)
    (hY : ∀ pre (y : Two) W1, J pre W1 → pre.length < nv → YieldAt Fence.wide (n - 1) Try.prog l #[.string y.1.1, .string y.1.2] W1 fun e W' =>
      (e = .returned (.bool true) ∧ J (pre ++ [y]) W' ∧ KpV n₀ b2 W1 W') ∨ (e = .returned (.bool false) ∧ Jx (pre ++ [y]) W'))
    (hb1 : W.cell? ⟨b1, 3, none⟩ = some v3) (hb2 : W.cell? ⟨b2, 0, none⟩ = some (.string x)) (h : Lst n₀ W v3 nv 4 (cV f)) (h8 : ∀ i, i < nv → (f i).1.size ≤ 8 ∧ (f i).2.1.size ≤ 8 ∧ (f i).2.2.1.size ≤ 8)
    (hs2 : b2 < W.heap.size) (hn₀ : n₀ ≤ W.heap.size) (h0 : J [] W) :
    CallsIn Fence.wide n Try.prog 46 #[.func (.yield l) #[] #[], .pointer (some ⟨b1, 0, none⟩), .pointer (some ⟨b2, 0, none⟩)] W fun e W' => (∃ v, e = .returned v) ∧
      ((∃ ys, ys = vAt f x nv ∧ J ys W') ∨ (∃ pre, pre <+: vAt f x nv ∧ Jx pre W')) := by
  obtain ⟨oa, cap, rfl, hm, hc⟩ := h
  unfold maxLen at hm
  have HC : Hid _ := hc
  have H8 : Hid _ := h8
  have HY : Hid _ := hY
  have HJ : Hid _ := hJ
  clear hc h8 hY hJ
  refine callsIn_of_wp Try.func46 rfl trivial ?_ rfl
  simp only [Try.ntmps46, List.size_toArray, List.length_cons, List.length_nil, Nat.reduceAdd, Nat.reduceSub, Array.replicate_succ, Array.replicate_zero, List.push_toArray, List.append_toArray, List.nil_append, List.cons_append]
  gi_wp2
  gi_loopw [11] (fun i wr => ∃ k : Nat, k ≤ nv ∧ i = .int .i64 k ∧ Hid (J (vAt f x k) wr) ∧ Hid (KpV n₀ b2 W wr))
    (fun i _ => nv - (intOf i).toNat)
  case atStart => exact ⟨0, Nat.zero_le _, rfl, h0, KpV.refl _ _ _⟩
  case round =>
    obtain ⟨k, hk, rfl, hJs, hkp⟩ := hrel
    by_cases hlt : k < nv
    · obtain ⟨b, off, rfl, hbB, hcell⟩ := HC.out k hlt
      have hsz := hkp.out.size
      have rd : ∀ j, j < 4 → wr.cell? ⟨b, off + k * 4 + j, none⟩ = some (cV f k j) := fun j hj => (World.cell?_of_block (w := W) (a := ⟨b, off + k * 4 + j, none⟩) (hkp.out.blk b (Or.inl hbB))).trans (hcell j hj)
      have e0 : wr.cell? ⟨b, off + k * 4, none⟩ = some (.string (f k).1) := by simpa [cV] using rd 0 (by omega)
      have e1 : wr.cell? ⟨b, off + k * 4 + 1, none⟩ = some (.string (f k).2.1) := by simpa [cV] using rd 1 (by omega)
      have e2 : wr.cell? ⟨b, off + k * 4 + 2, none⟩ = some (.string (f k).2.2.1) := by simpa [cV] using rd 2 (by omega)
      have e3 : wr.cell? ⟨b, off + k * 4 + 3, none⟩ = some (.string (f k).2.2.2) := by simpa [cV] using rd 3 (by omega)
      clear rd hcell
      have ep : wr.cell? ⟨b2, 0, none⟩ = some (.string x) := (World.cell?_of_block (w := W) (a := ⟨b2, 0, none⟩) (hkp.out.blk b2 (Or.inr rfl))).trans hb2
      have ep' := cell_past ep (by omega) (.cells #[.string (f k).1, .string (f k).2.1, .string (f k).2.2.1, .string (f k).2.2.2] 53)
      have hK2 : Hid (KpV n₀ b2 wr ((wr.alloc (.cells #[.string (f k).1, .string (f k).2.1, .string (f k).2.2.1, .string (f k).2.2.2] 53)).alloc (.cells #[.string (f k).1, .string (f k).2.1, .string (f k).2.2.1, .string (f k).2.2.2] 53))) :=
        ((KpV.refl n₀ b2 wr).alloc (by omega) (by omega) _).alloc (by omega) (by omega) _
      have hJ2 : Hid (J (vAt f x k) ((wr.alloc (.cells #[.string (f k).1, .string (f k).2.1, .string (f k).2.2.1, .string (f k).2.2.2] 53)).alloc (.cells #[.string (f k).1, .string (f k).2.1, .string (f k).2.2.1, .string (f k).2.2.2] 53))) :=
        HJ.out _ _ _ none (HJ.out _ _ _ none hJs.out (World.grownBy_alloc _ _ none) (fun r e => by cases e)) (World.grownBy_alloc _ _ none) (fun r e => by cases e)
      have n0 := cell_past (new_cell wr #[.string (f k).1, .string (f k).2.1, .string (f k).2.2.1, .string (f k).2.2.2] 53 0 _ rfl) (by simp) (.cells #[.string (f k).1, .string (f k).2.1, .string (f k).2.2.1, .string (f k).2.2.2] 53)
      simp only [List.getElem_toArray, List.getElem_cons_zero] at n0
      have hbe := behind_any (f k).1 (f k).2.1 (f k).2.2.1 (f k).2.2.2 x
      have HL : Hid (endB (f k) x = false → vAt f x (k + 1) = vAt f x k) := vAt_no
      cases hE : endB ((f k).1, (f k).2.1, (f k).2.2.1, (f k).2.2.2) x
      · rw [hE] at hbe
        have HB : Hid _ := hbe
        clear hbe
        gi_wp2_with (refine ⟨trivial, (fun _ => by omega), ?_⟩; gi_at_call 47; refine (callsIn_wide.2 (HB.out _)).mono ?_; rintro e w' ⟨rfl, rfl⟩)
        refine ⟨fun _ h => (by cases h), ?_⟩
        gi_wp2
        go_roundw
        case rel => exact ⟨k + 1, by omega, by go_num, by show J _ _; rw [HL.out hE]; exact hJ2.out, hkp.out.trans hK2.out⟩
        case measure => simp [intOf]; omega
      · rw [hE] at hbe
        have HB : Hid _ := hbe
        clear hbe
        have hz := H8.out k hlt
        have hbs : (behS (f k) x).size ≤ 8 := by
          unfold behS
          cases eqB x (f k).2.1 <;> cases eqB x (f k).2.2.1 <;> simp only [cond_true, cond_false] <;> first | omega | exact (by decide : (0 : Nat) ≤ 8)
        obtain ⟨fn, tmps, assign, body, hy, hR⟩ := HY.out _ (two (f k).1 (behS (f k) x)) _ hJ2.out (by have := vAt_len f x k; omega)
        rw [two_of hz.1 hbs] at hy
        dsimp only at hy
        gi_wp2_with (refine ⟨trivial, (fun _ => by omega), ?_⟩; gi_at_call 47; refine (callsIn_wide.2 (HB.out _)).mono ?_; rintro e w' ⟨rfl, rfl⟩)
        refine ⟨(fun _ => by omega), hR.mono ?_⟩
        rintro e W3 (⟨rfl, hJ3, hk3⟩ | ⟨rfl, hJx3⟩)
        · gi_wp2
          go_roundw
          case rel => exact ⟨k + 1, by omega, by go_num, by show J _ _; rw [vAt_yes hE]; exact hJ3, hkp.out.trans (hK2.out.trans hk3)⟩
          case measure => simp [intOf]; omega
        · gi_wp2
          refine bodyPost_ret (results_none rfl _ _ _) rfl ?_
          exact ⟨⟨_, rfl⟩, .inr ⟨_, by rw [← vAt_yes hE]; exact vAt_pre f x (by omega), hJx3⟩⟩
    · obtain rfl : k = nv := by omega
      gi_wp2
      go_end0
      exact ⟨⟨_, rfl⟩, .inl ⟨_, rfl, hJs.out⟩⟩
end Go.Proofs.Ytgjcppdeljoimaa

namespace Go.Proofs.Ytgjcppdeljoimaa
open Go.RowKit Go.Shelf
theorem round_wide {m m' l' l : Nat} {P : Program} {f : FuncId} {tmps : Array Value} {assign body : Code} {w : World} {R : Ending → World → Prop} (h : RoundIn Fence.wide m P l f tmps assign body w R) : RoundIn (Fence.wide.inRound l') m' P l f tmps assign body w R :=
  ⟨h.1, fun c cs _ => h.2 c cs (by simp [Fence.room, Fence.wide])⟩
theorem vals_seq (n b1 b2 n₀ : Nat) (hn : 2 ≤ n) (v3 : Value) (nv : Nat) (f : Nat → ByteArray × ByteArray × ByteArray × ByteArray) (x : ByteArray) (w : World)
    (hb1 : w.cell? ⟨b1, 3, none⟩ = some v3) (hb2 : w.cell? ⟨b2, 0, none⟩ = some (.string x)) (h : Lst n₀ w v3 nv 4 (cV f)) (h8 : ∀ i, i < nv → (f i).1.size ≤ 8 ∧ (f i).2.1.size ≤ 8 ∧ (f i).2.2.1.size ≤ 8)
    (hs1 : b1 < w.heap.size) (hs2 : b2 < w.heap.size) (hn₀ : n₀ ≤ w.heap.size) :
    SeqStopsK Fence.wide n Try.prog 46 #[.pointer (some ⟨b1, 0, none⟩), .pointer (some ⟨b2, 0, none⟩)] (fun y : Two => #[Value.string y.1.1, Value.string y.1.2]) (KpV n₀ b2) (fun ys => ys = vAt f x nv) (fun pre => pre <+: vAt f x nv) nv w := fun l J Jx W hW hJ _ hY h0 =>
  vals_in n l b1 b2 n₀ hn v3 nv f x J Jx W hJ hY ((hW.cell (p := ⟨b1, 3, none⟩) hs1).trans hb1) ((hW.cell (p := ⟨b2, 0, none⟩) hs2).trans hb2) (h.kept hW hn₀) h8 (Nat.lt_of_lt_of_le hs2 hW.size) (Nat.le_trans hn₀ hW.size) h0
end Go.Proofs.Ytgjcppdeljoimaa

namespace Go.Proofs.Ytgjcppdeljoimaa
open Go.RowKit Go.Shelf
structure MarksOk (b : Nat) (W : World) (Ds : List Nat) : Prop where
  once : Ds.Nodup
  all : ∀ D ∈ Ds, b ≤ D ∧ W.heap[D]? = some (.deferred (some []))
def markOf (D : Nat) : Deferred := { target := .collected D, args := #[] }
def closeM (W : World) : List Nat → World
  | [] => W
  | D :: Ds => closeM (W.putObj D (.deferred none)) Ds
theorem leaves_marks {F : Fence} {n : Nat} {P : Program} {fn : Func} {tmps : Array Value} {R : Ending → World → Prop} {b : Nat} : ∀ (Ds : List Nat) (W : World), MarksOk b W Ds → LeavesIn F n P fn tmps R [] .returning (closeM W Ds) → LeavesInM F n P fn tmps R (Ds.map markOf) .returning W
  | [], _, _, h => h
  | D :: Ds, W, hm, h => by
    have hn := List.nodup_cons.1 hm.once
    refine ⟨by simp, .inl ⟨D, _, rfl, run_takeDeferred (hm.all D List.mem_cons_self).2, leaves_marks (b := b) Ds _ ⟨hn.2, fun E hE => ?_⟩ h⟩⟩
    have := hm.all E (List.mem_cons_of_mem _ hE)
    exact ⟨this.1, (World.putObj_heap_other (fun e => hn.1 (by rw [← e]; exact hE))).trans this.2⟩
theorem close_below {b : Nat} {w : World} : ∀ (Ds : List Nat) (W : World), (∀ D ∈ Ds, b ≤ D) → Below b w W → Below b w (closeM W Ds)
  | [], _, _, h => h
  | D :: Ds, W, hm, h => by
    refine close_below Ds _ (fun E hE => hm E (List.mem_cons_of_mem _ hE)) (h.trans ⟨rfl, rfl, rfl, by simp, fun k hk => World.putObj_heap_other ?_⟩)
    have := hm D List.mem_cons_self
    omega
def ownR (B : Nat) (X : World) (k : Nat) : Prop := k = B ∨ ∃ v : Value, X.cell? ⟨B, 0, none⟩ = some v ∧ v.ownBlock = some k
theorem ownR_st {B base t e size : Nat} {X : World} {v : Value} {k : Nat} {xs : List Value} (hb : Boxed X B t v) (hr : X.ownsRow base e size v k xs) : OwnSt (ownR B) X := by
  refine ⟨fun k hk => ?_, fun X' row hg hrow k hk => ?_⟩
  · rcases hk with rfl | ⟨u, hu, ho⟩
    · exact hb.lt
    · rw [hb.cell] at hu; cases hu
      exact (hr.lt k ho).2
  · rcases hk with rfl | ⟨u, hu, ho⟩
    · exact .inl rfl
    · have hb' : Boxed X' B t v := hb.kept hg (fun e' => by obtain ⟨o, ho', hc⟩ := hrow B e'.symm; rw [show X.heap[B]? = _ from hb] at ho'; cases ho'; cases hc)
      rw [hb'.cell] at hu; cases hu
      exact .inr ⟨_, hb.cell, ho⟩
end Go.Proofs.Ytgjcppdeljoimaa
