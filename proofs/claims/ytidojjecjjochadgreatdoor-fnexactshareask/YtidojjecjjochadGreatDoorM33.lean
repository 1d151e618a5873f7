/-
  Several texts in one.
-/
import Derived.Test.YtidojjecjjochadGreatDoorM26
import Derived.Test.YtidojjecjjochadGreatDoorM21
import Derived.Test.YtidojjecjjochadGreatDoorM25
import Derived.Laws.EntriesVeiled
import Derived.RangeFuncNested
import Derived.RangeFuncBound
import Derived.RangeFuncLeaves
import Derived.RangeFuncBox
/-
  Whether another batch has one of some things, by the program: isHadByOthers.
-/
namespace Go.Proofs.YtidojjecjjochadGreatDoor
open Go.RowKit

theorem bokU_nodup {T : List ByteArray} {Bs : List DShareBatch} (h : bokB (T, Bs) = true) : ∀ x ∈ Bs, x.2.1.Nodup := bat_nodup ((bok_parts T Bs).1 (bok_iff.1 h)).2.1
/-- Is a thing had by another than this one? -/
def othB (M : ByteArray → Option Nat) (a : Nat) (t : ByteArray) : Bool := match M t with | some i => !(i == a) | none => false
theorem oth_tak {Bs : List DShareBatch} {M : ByteArray → Option Nat} (h : WhoP Bs M) (a : Nat) (th : List ByteArray) : (th.any fun t => othB M a t) = takB Bs a th := by
  rw [Bool.eq_iff_iff, List.any_eq_true]
  unfold takB
  rw [List.any_eq_true]
  constructor
  · rintro ⟨t, ht, ho⟩
    unfold othB at ho
    cases hm : M t with
    | none => rw [hm] at ho; cases ho
    | some i =>
      rw [hm] at ho
      obtain ⟨hi, hx⟩ := (h t i).1 hm
      refine ⟨i, List.mem_range.2 hi, ?_⟩
      rw [Bool.and_eq_true, btN_at hi]
      exact ⟨ho, (share_iff _ _).2 ⟨t, hx, ht⟩⟩
  · rintro ⟨i, hi, ho⟩
    rw [List.mem_range] at hi
    rw [Bool.and_eq_true, btN_at hi] at ho
    obtain ⟨t, hx, ht⟩ := (share_iff _ _).1 ho.2
    refine ⟨t, ht, ?_⟩
    have hm := (h t i).2 ⟨hi, hx⟩
    unfold othB
    rw [hm]
    exact ho.1

set_option maxRecDepth 100000 in
set_option maxHeartbeats 4000000 in
theorem hadIs_any (x : ByteArray) (mb ab m a : Nat) (M : ByteArray → Option Nat) (w : World) (hx : x.size ≤ maxLen) (hM : Ms w m M) (hm : w.cell? ⟨mb, 0, none⟩ = some (.map (some m))) (ha : w.cell? ⟨ab, 0, none⟩ = some (.int .i64 a)) :
    Calls Tryz.prog 125 #[.string x, .pointer (some ⟨mb, 0, none⟩), .pointer (some ⟨ab, 0, none⟩)] w fun e w' => e = .returned (.bool (othB M a x)) ∧ w' = w := by
  cases eM : M x with
  | none =>
    have l0 := hM.look_no hx eM
    have E : Hid (othB M a x = false) := by show _ = _; unfold othB; rw [eM]
    clear eM hM
    rw [E.out]
    go_enter Tryz.func125, Tryz.ntmps125
    go_wp2_with fail
    go_ret
    exact ⟨rfl, rfl⟩
  | some i =>
    have l0 := hM.look_yes hx eM
    obtain ⟨bb, ebb⟩ : ∃ b, (!(i == a)) = b := ⟨_, rfl⟩
    have E : Hid (othB M a x = bb) := by show _ = _; unfold othB; rw [eM]; exact ebb
    have e2 : (!((i : Int) == (a : Int))) = bb := by rw [← ebb]; congr 1; rw [Bool.eq_iff_iff, beq_iff_eq, beq_iff_eq]; omega
    clear eM hM
    rw [E.out]
    cases bb
    all_goals
      go_enter Tryz.func125, Tryz.ntmps125
      go_wp2_with fail
      go_ret
      refine ⟨?_, rfl⟩
      first
        | rfl
        | (simp at e2 ⊢; exact e2)

set_option maxRecDepth 100000 in
set_option maxHeartbeats 4000000 in
theorem hadIdx_any (S : Nat → Prop) (v : Value) (l : List ByteArray) (mb ab m a : Nat) (M : ByteArray → Option Nat) (w : World) (h : AtL S w l v) (hz : ∀ s ∈ l, s.size ≤ maxLen) (hM : Ms w m M) (hm : w.cell? ⟨mb, 0, none⟩ = some (.map (some m))) (ha : w.cell? ⟨ab, 0, none⟩ = some (.int .i64 a)) :
    Calls Tryz.prog 127 #[v, .func (.func 125) #[] #[.pointer (some ⟨mb, 0, none⟩), .pointer (some ⟨ab, 0, none⟩)]] w fun e w' => e = .returned (.int .i64 (idxI l (fun x => othB M a x))) ∧ w' = w := by
  obtain ⟨oa, cap, rfl, hn, hc⟩ := h
  obtain ⟨n, en⟩ : ∃ n, l.length = n := ⟨_, rfl⟩
  rw [en] at hn
  rw [en]
  unfold maxLen at hn
  have HC : Hid _ := hc
  have HI : Hid (∀ x ∈ l, Calls Tryz.prog 125 #[.string x, .pointer (some ⟨mb, 0, none⟩), .pointer (some ⟨ab, 0, none⟩)] w fun e w' => e = .returned (.bool (othB M a x)) ∧ w' = w) := fun x hx => hadIs_any x mb ab m a M w (hz x hx) hM hm ha
  clear hc hz hM hm ha
  go_enter Tryz.func127, Tryz.ntmps127
  go_wp2
  go_loop [8] (fun i => ∃ k : Nat, k ≤ n ∧ i = .int .i64 k ∧ Hid (∀ j (hj : j < l.length), j < k → othB M a l[j] = false)) (fun i => n - (intOf i).toNat)
  case atStart => exact ⟨0, Nat.zero_le _, rfl, fun _ _ h => by omega⟩
  case round =>
    obtain ⟨k, hk, rfl, hno⟩ := hrel
    by_cases hlt : k < n
    · obtain ⟨q, off, rfl, _, cc, hcell, hat⟩ := HC.out k (by omega)
      rw [width_str] at hcell
      have hcell := hcell 0 (by omega)
      rw [Nat.mul_one, Nat.add_zero] at hcell
      rw [at_str] at hat
      rw [hat.1] at hcell
      clear hat
      have HF : Hid (∃ h : k < l.length, l[k]'h = l[k]'(by omega)) := ⟨by omega, rfl⟩
      obtain ⟨f, ef⟩ : ∃ f, l[k]'(by omega) = f := ⟨_, rfl⟩
      have CI : Hid _ := HI.out f (by rw [← ef]; exact List.getElem_mem _)
      rw [ef] at hcell
      cases hy : othB M a f
      all_goals
        go_wp2_with (go_at_call 125; refine Calls.mono CI.out ?_; rintro e w1 ⟨rfl, rfl⟩; rw [hy])
      · go_round
        case rel => exact ⟨k + 1, by omega, by go_num, fun j hj hjk => by
          by_cases e : j = k
          · subst e; rw [ef]; exact hy
          · exact hno.out j hj (by omega)⟩
        case measure => simp [intOf]; omega
      · rw [idx_yes (k := k) (by omega) (by rw [ef]; exact hy) hno.out]
        go_ret
        exact ⟨rfl, rfl⟩
    · go_wp2
      go_ret
      rw [idx_no (fun j hj => hno.out j hj (by omega))]
      exact ⟨rfl, rfl⟩

theorem idx_anyU (l : List ByteArray) (p : ByteArray → Bool) : decide (0 ≤ idxI l p) = l.any p := by
  unfold idxI
  cases hf : l.findIdx? p with
  | none =>
    rw [List.findIdx?_eq_none_iff] at hf
    have : l.any p = false := by rw [List.any_eq_false]; intro x hx; rw [hf x hx]; decide
    rw [this]; rfl
  | some i =>
    obtain ⟨h1, h2, _⟩ := List.findIdx?_eq_some_iff_getElem.1 hf
    have : l.any p = true := List.any_eq_true.2 ⟨_, List.getElem_mem h1, h2⟩
    rw [this]; simp
theorem hadCF_any (S : Nat → Prop) (v : Value) (l : List ByteArray) (mb ab m a : Nat) (M : ByteArray → Option Nat) (w : World) (h : AtL S w l v) (hz : ∀ s ∈ l, s.size ≤ maxLen) (hM : Ms w m M) (hm : w.cell? ⟨mb, 0, none⟩ = some (.map (some m))) (ha : w.cell? ⟨ab, 0, none⟩ = some (.int .i64 a)) :
    Calls Tryz.prog 124 #[v, .func (.func 125) #[] #[.pointer (some ⟨mb, 0, none⟩), .pointer (some ⟨ab, 0, none⟩)]] w fun e w' => e = .returned (.bool (l.any fun x => othB M a x)) ∧ w' = w := by
  rw [← idx_anyU]
  have H : Hid _ := hadIdx_any S v l mb ab m a M w h hz hM hm ha
  clear h hz hM hm ha
  go_enter Tryz.func124, Tryz.ntmps124
  go_wp2_with fail
  refine Calls.mono H.out ?_
  rintro e w1 ⟨rfl, rfl⟩
  go_wp2_with fail
  go_ret
  exact ⟨rfl, rfl⟩

set_option maxRecDepth 100000 in
set_option maxHeartbeats 8000000 in
theorem hadO_any (S SN : Nat → Prop) (T : List ByteArray) (Bs : List DShareBatch) (o0 oa : Option Addr) (n0 k0 nb kb : Nat) (x : ByteArray) (th : List ByteArray) (on : Option Addr) (nn kn q : Nat) (w : World) (h1 : AtL S w Bs (.slice oa nb kb)) (hS : ∀ b, S b → b < w.heap.size) (hN : AtL SN w th (.slice on nn kn)) (hSN : ∀ b, SN b → b < w.heap.size) (hok : bokB (T, Bs) = true) (hq : atI Bs x = (q : Int)) :
    Calls Tryz.prog 121 #[.agg #[.slice o0 n0 k0, .slice oa nb kb], .string x, .slice on nn kn] w fun e w' => e = .returned (.bool (takB Bs q th)) ∧ Below w.heap.size w w' := by
  have H1 : Hid (∀ u, Below w.heap.size w u → AtL S u Bs (.slice oa nb kb)) := fun u hu => h1.same (Same.of_below hu hS)
  have HS : Hid (∀ u, Below w.heap.size w u → ∀ b, S b → b < u.heap.size) := fun u hu b hb => Nat.lt_of_lt_of_le (hS b hb) hu.size
  have HN : Hid (∀ u, Below w.heap.size w u → AtL SN u th (.slice on nn kn)) := fun u hu => hN.same (Same.of_below hu hSN)
  have HZ : Hid (∀ s ∈ th, s.size ≤ maxLen) := fun s hs => by
    obtain ⟨oa, cap, _, _, hc⟩ := hN
    obtain ⟨i, hi, rfl⟩ := List.getElem_of_mem hs
    obtain ⟨b, off, _, _, c, _, hat⟩ := hc i hi
    exact (at_str.1 hat).2
  have hmf : ∀ (fn : Fn) (first cap : Array Value) (w : World), (Instr.makeFunc fn first cap).run Tryz.prog w = .ok (.func fn first cap) w := fun _ _ _ _ => rfl
  have HQ : Hid (idxI Bs (fun p : DShareBatch => eqB p.1 x) = (q : Int)) := hq
  obtain ⟨W, hW⟩ : ∃ W, W = w.alloc (.cells #[.slice o0 n0 k0, .slice oa nb kb] 30) := ⟨_, rfl⟩
  have EW : Hid (W = w.alloc (.cells #[.slice o0 n0 k0, .slice oa nb kb] 30)) := hW
  have BW : Hid (Below w.heap.size w W) := by rw [hW]; exact (Below.refl _ _).alloc (Nat.le_refl _) _
  have R1 : Hid (W.heap[w.heap.size]? = some (.cells #[.slice o0 n0 k0, .slice oa nb kb] 30 (0, 0))) := by rw [hW]; exact heap_alloc_new w _
  have sW : w.heap.size + 1 ≤ W.heap.size := by rw [hW]; simp
  obtain ⟨RB, eRB⟩ : ∃ b, takB Bs q th = b := ⟨_, rfl⟩
  rw [eRB]
  have ERB : Hid (takB Bs q th = RB) := eRB
  clear h1 hN hW eRB hq
  have y0 := (cell_row R1.out 0 (.slice o0 n0 k0) rfl).1
  have y1 := (cell_row R1.out 1 (.slice oa nb kb) rfl).1
  go_enter Tryz.func121, Tryz.ntmps121
  go_upto_region 1 with fail
  rw [← EW.out]
  go_wp2_with fail
  refine (batchAtI_any S _ _ Bs x W (H1.out W BW.out) (HS.out W BW.out)).mono ?_
  rintro e w1 ⟨rfl, hb1⟩
  rw [HQ.out]
  have B1 : Hid (Below W.heap.size W w1) := hb1
  have s1 := hb1.size
  clear hb1 y0 y1
  obtain ⟨V, hV⟩ : ∃ V, V = w1.alloc (.cells #[.int .i64 q] 3) := ⟨_, rfl⟩
  have EV : Hid (V = w1.alloc (.cells #[.int .i64 q] 3)) := hV
  have bV : Below w1.heap.size w1 V := by rw [hV]; exact (Below.refl _ _).alloc (Nat.le_refl _) _
  have RV : Hid (V.heap[w1.heap.size]? = some (.cells #[.int .i64 q] 3 (0, 0))) := by rw [hV]; exact heap_alloc_new w1 _
  have sV : w1.heap.size + 1 ≤ V.heap.size := by rw [hV]; simp
  have BV : Hid (Below W.heap.size W V) := B1.out.trans (bV.mono s1)
  have BWV : Hid (Below w.heap.size w V) := BW.out.trans (BV.out.mono BW.out.size)
  have XV : Hid (V.heap[w.heap.size]? = some (.cells #[.slice o0 n0 k0, .slice oa nb kb] 30 (0, 0))) := (BV.out.block _ (by omega)).trans R1.out
  clear hV bV
  obtain ⟨ab, hab⟩ : ∃ g, g = w1.heap.size := ⟨_, rfl⟩
  have EAB : Hid (ab = w1.heap.size) := hab
  rw [← hab] at RV
  have hav : ab < V.heap.size := by omega
  clear hab
  go_upto_region 2 with fail
  rw [← EV.out, ← EAB.out]
  have y0 := (cell_row XV.out 0 (.slice o0 n0 k0) rfl).1
  have y1 := (cell_row XV.out 1 (.slice oa nb kb) rfl).1
  go_wp2_with fail
  refine (who_any S Bs _ _ V (H1.out V BWV.out) (HS.out V BWV.out) (bokU_nodup hok)).mono ?_
  rintro e w2 ⟨hw2, hb2⟩
  rcases hw2 with ⟨rfl, hA⟩ | ⟨m, M, rfl, hMs, hM⟩
  · exact absurd ((bok_parts T Bs).1 (bok_iff.1 hok)).2.2 hA
  have HMS : Hid (Ms w2 m M) := hMs
  have HM : Hid (WhoP Bs M) := hM
  have s2 := hb2.size
  have BW2 : Hid (Below w.heap.size w w2) := BWV.out.trans (hb2.mono BWV.out.size)
  have RV2 : Hid (w2.heap[ab]? = some (.cells #[.int .i64 q] 3 (0, 0))) := (hb2.block _ hav).trans RV.out
  clear hb2 hMs hM y0 y1
  obtain ⟨U, hU⟩ : ∃ U, U = w2.alloc (.cells #[.map (some m)] 78) := ⟨_, rfl⟩
  have EU : Hid (U = w2.alloc (.cells #[.map (some m)] 78)) := hU
  have bU : Below w2.heap.size w2 U := by rw [hU]; exact (Below.refl _ _).alloc (Nat.le_refl _) _
  have RU : Hid (U.heap[w2.heap.size]? = some (.cells #[.map (some m)] 78 (0, 0))) := by rw [hU]; exact heap_alloc_new w2 _
  have BWU : Hid (Below w.heap.size w U) := BW2.out.trans (bU.mono BW2.out.size)
  have RVU : Hid (U.heap[ab]? = some (.cells #[.int .i64 q] 3 (0, 0))) := (bU.block _ (by omega)).trans RV2.out
  have CF : Hid (Calls Tryz.prog 124 #[.slice on nn kn, .func (.func 125) #[] #[.pointer (some ⟨w2.heap.size, 0, none⟩), .pointer (some ⟨ab, 0, none⟩)]] U fun e w' => e = .returned (.bool RB) ∧ w' = U) := by
    have := hadCF_any SN (.slice on nn kn) th w2.heap.size ab m q M U (HN.out U BWU.out) HZ.out (HMS.out.below bU HMS.out.lt) (cell_row RU.out 0 _ rfl).1 (cell_row RVU.out 0 _ rfl).1
    rw [oth_tak HM.out, ERB.out] at this
    exact this
  clear hU bU
  go_upto_region 3 with fail
  rw [← EU.out]
  go_wp2_with fail
  refine Calls.mono CF.out ?_
  rintro e w3 ⟨rfl, hw3⟩
  have hw4 := hw3.symm
  subst hw4
  clear hw3
  go_wp2_with fail
  go_ret
  exact ⟨rfl, BWU.out⟩

end Go.Proofs.YtidojjecjjochadGreatDoor

/-
  A law for a range over a function whose iterator ranges over another one and hands on what that gives: the iterator's contract speaks of what a caller owns, whatever records of loops come and go beside it. No program is named here.
-/
namespace Go.Proofs.YtidojjecjjochadGreatDoor
open Go.RowKit

/-- What a round leaves: all below n₀, and blocks of cells that the caller doesn't own, lie as they lay; what it owns then it owned, or it is new. -/
structure KpO (own : World → Nat → Prop) (n₀ : Nat) (W W' : World) : Prop where
  size : W.heap.size ≤ W'.heap.size
  old : ∀ k, own W' k → own W k ∨ W.heap.size ≤ k
  low : ∀ k, k < n₀ → W'.heap[k]? = W.heap[k]?
  blk : ∀ (k : Nat) (c : Array Value) (t : TypeId) (z : Nat × Nat), W.heap[k]? = some (.cells c t z) → ¬ own W k → W'.heap[k]? = some (.cells c t z)
theorem KpO.refl (own : World → Nat → Prop) (n₀ : Nat) (W : World) : KpO own n₀ W W := ⟨Nat.le_refl _, fun _ h => .inl h, fun _ _ => rfl, fun _ _ _ _ h _ => h⟩
theorem KpO.trans {own : World → Nat → Prop} {n₀ : Nat} {A B C : World} (h : KpO own n₀ A B) (k : KpO own n₀ B C) : KpO own n₀ A C := by
  refine ⟨Nat.le_trans h.size k.size, fun i hi => ?_, fun i hi => (k.low i hi).trans (h.low i hi), fun i c t z hc ho => k.blk i c t z (h.blk i c t z hc ho) (fun hB => ?_)⟩
  · rcases k.old i hi with h1 | h1
    · exact h.old i h1
    · exact .inr (Nat.le_trans h.size h1)
  · rcases h.old i hB with h1 | h1
    · exact ho h1
    · exact absurd (Array.getElem?_eq_some_iff.1 hc).1 (by omega)

/-- What a caller owns is there, and records of loops and new blocks add nothing to it. -/
def OwnSt (own : World → Nat → Prop) (W : World) : Prop :=
  (∀ k, own W k → k < W.heap.size) ∧ ∀ W' row, W.grownBy W' row → (∀ r, row = some r → ∃ o : Obj, W.heap[r]? = some o ∧ o.isCells = false) → ∀ k, own W' k → own W k
theorem OwnSt.kp {own : World → Nat → Prop} {n₀ : Nat} {W W' : World} {row : Option Nat} (h : OwnSt own W) (hn : n₀ ≤ W.heap.size) (hg : W.grownBy W' row) (hr : ∀ r, row = some r → n₀ ≤ r ∧ ∃ o : Obj, W.heap[r]? = some o ∧ o.isCells = false) : KpO own n₀ W W' := by
  refine ⟨hg.size, fun k hk => .inl (h.2 W' row hg (fun r e => (hr r e).2) k hk), fun k hk => hg.block k (by omega) (fun e => by have := (hr k e.symm).1; omega), fun k c t z hc _ => (hg.block k (Array.getElem?_eq_some_iff.1 hc).1 (fun e => ?_)).trans hc⟩
  obtain ⟨o, ho, hn⟩ := (hr k e.symm).2
  rw [hc] at ho
  cases ho; cases hn

/-- An iterator's contract, for callers that own what they speak of and hear all that comes. -/
def SeqOwn {α : Type} (F : Fence) (n : Nat) (P : Program) (g : Nat) (lb : Array Value) (encs : α → Array Value) (own : World → Nat → Prop) (n₀ : Nat) (S : List α → Prop) (N : Nat) (w : World) : Prop :=
  ∀ (l : Nat) (J : List α → World → Prop) (W : World), Below w.heap.size w W → OwnFrom W.heap.size J → (∀ pre W1, J pre W1 → OwnSt own W1) → (∀ k, k < n₀ → ¬ own W k) →
    (∀ pre x W1, J pre W1 → pre.length < N → YieldAt F (n - 1) P l (encs x) W1 fun e W' => e = .returned (.bool true) ∧ J (pre ++ [x]) W' ∧ KpO own n₀ W1 W' ∧ KeepsFrom W.heap.size W1 W') →
    J [] W →
    CallsIn F n P g (#[.func (.yield l) #[] #[]] ++ lb) W fun e W' => (∃ v, e = .returned v) ∧ ∃ xs, S xs ∧ J xs W'

theorem keeps_put {w W : World} {l : Nat} (h : KeepsOthers w W) (hl : w.heap.size ≤ l) (o' : Obj) : KeepsOthers w (W.putObj l o') :=
  ⟨by have := h.size; simpa using this, fun k o hk ho => (World.putObj_heap_other (by have := (Array.getElem?_eq_some_iff.1 hk).1; omega)).trans (h.same k o hk ho)⟩
theorem from_put {W : World} {l B : Nat} (hl : l < B) (o' : Obj) : KeepsFrom B W (W.putObj l o') :=
  ⟨by simp, fun k o hk h0 _ => (World.putObj_heap_other (by omega)).trans h0⟩
theorem from_trans {A B C : World} {b : Nat} (h : KeepsFrom b A B) (k : KeepsFrom b B C) : KeepsFrom b A C :=
  ⟨Nat.le_trans h.size k.size, fun i o hi h0 ho => k.same i o hi (h.same i o hi h0 ho) ho⟩

/-- How a round of such a loop goes on: no way out of it is taken. -/
def postO {α : Type} (own : World → Nat → Prop) (n₀ : Nat) (I : List α → World → Prop) (xs : List α) (W : World) : Exit → Act → World → Prop
  | .normal, _, W' => KeepsOthers W W' ∧ KpO own n₀ W W' ∧ I xs W'
  | _, _, _ => False

variable {F : Fence} {n : Nat} {P : Program}

theorem wpIn_range_own {α : Type} {g : Operand} {ps : Array Tmp} {assign body : Code} {Q : Exit → Act → World → Prop} {a : Act} {w : World}
    (hro : F.round = none) (h1 : 1 ≤ n) {gf : Nat} {lb : Array Value} (hg : a.eval g = .func (.func gf) #[] lb) (hFg : F.fn gf) (eg : ∀ args w, (callFunc gf args).run P w = .ok (.enter gf args) w)
    {encs : α → Array Value} {own : World → Nat → Prop} {n₀ : Nat} {S : List α → Prop} {N : Nat} {w0 : World} (hseq : SeqOwn F (n - 1) P gf lb encs own n₀ S N w0)
    (hb0 : Below w0.heap.size w0 w) (hps : ∀ x, (encs x).size = ps.size) (hn₀ : ∀ k, k < n₀ → ¬ own w k) (hlo : n₀ ≤ w.heap.size)
    (I : List α → World → Prop) (hI : OwnFrom w.heap.size I) (hst : ∀ pre W, I pre W → OwnSt own W) (h0 : I [] w) (a₁ : α → Act)
    (hassign : ∀ (l : Nat) (x : α) (W : World) (K : Act → World → Prop), K (a₁ x) W →
      assign.wpIn (F.inRound l) (n - 1 - 1) P (Exit.then K (fun _ _ _ => False)) { tmps := (ps.zip (encs x)).foldl (fun t (p, v) => t.setIfInBounds p v) a.tmps, defers := [] } W)
    (hbody : ∀ (l : Nat) (pre : List α) (x : α) (W : World), I pre W → pre.length < N → body.wpIn (F.inRound l) (n - 1 - 1) P (postO own n₀ I (pre ++ [x]) W) (a₁ x) W)
    (hdone : ∀ (D : Nat) (xs : List α) (W : World), w.heap.size ≤ D → D < W.heap.size → S xs → I xs W → W.heap[D]? = some (.deferred (some [])) → KeepsOthers w W → Q .normal { a with defers := { target := .collected D, args := #[] } :: a.defers } W) :
    (Code.rangeFunc g ps assign body).wpIn F n P Q a w := by
  refine wpIn_rangeFunc fun fn hfn => ?_
  rw [hro]
  let rec' : LoopState → Option Code → Loop := fun st pe => { state := st, pending := pe, fn, tmps := a.tmps, params := ps, assign, body, defers := w.heap.size }
  obtain ⟨W1, hW1⟩ : ∃ W1, (w.alloc (.deferred (some []))).alloc (.loop (rec' .ready none)) = W1 := ⟨_, rfl⟩
  have sW1 : W1.heap.size = w.heap.size + 1 + 1 := by rw [← hW1]; simp
  have hL1 : W1.heap[w.heap.size + 1]? = some (.loop (rec' .ready none)) := by
    rw [← hW1]; have := World.alloc_heap_new (w.alloc (.deferred (some []))) (.loop (rec' .ready none)); rwa [World.size_alloc] at this
  have hD1 : W1.heap[w.heap.size]? = some (.deferred (some [])) := by
    rw [← hW1]; exact (Below.heap_alloc _ _ _ (by simp)).trans (World.alloc_heap_new w _)
  have hI1 : I [] W1 := by rw [← hW1]; exact hI.alloc _ (hI.alloc _ h0)
  have hk1 : KeepsOthers w W1 := by rw [← hW1]; exact (KeepsOthers.alloc _ _).trans (KeepsOthers.alloc _ _)
  have hb1 : Below w0.heap.size w0 W1 := by
    rw [← hW1]; exact hb0.trans ((((Below.refl _ w).alloc (Nat.le_refl _) _).alloc (by simp) _).mono hb0.size)
  have hno : ∀ k, k < n₀ → ¬ own W1 k := fun k hk ho => by
    have g1 := (hst [] w h0).2 _ none (World.grownBy_alloc w (.deferred (some [])) none) (fun r e => by cases e)
    have hs2 := hst [] _ (hI.alloc (.deferred (some [])) h0)
    rw [← hW1] at ho
    exact hn₀ k hk (g1 k (hs2.2 _ none (World.grownBy_alloc _ _ none) (fun r e => by cases e) k ho))
  refine ⟨w.heap.size + 1, [{ target := .collected w.heap.size, args := #[] }], W1, { target := .fn (.func gf) lb, args := #[.func (.yield (w.heap.size + 1)) #[] #[]] }, W1, gf,
    #[.func (.yield (w.heap.size + 1)) #[] #[]] ++ lb, W1, ?_, ?_, ?_, ?_, fun _ => h1, ?_⟩
  · rw [← hW1]; exact run_enterLoop_outer _ _ _ _ _
  · simp only [resolve, hg]
    simp [go_sem]
  · intro f' hf'; simp [Target.leads] at hf'; subst hf'; exact hFg
  · simp [invoke, go_sem, eg]
  · -- the three facts that stand beside the caller's own
    let Bk : LoopState → World → Prop := fun st W => W.heap[w.heap.size + 1]? = some (.loop (rec' st none)) ∧ W.heap[w.heap.size]? = some (.deferred (some [])) ∧ KeepsOthers w W
    have bk_own : ∀ (st : LoopState) (A B : World) (row : Option Nat), Bk st A → A.grownBy B row → (∀ r, row = some r → W1.heap.size ≤ r ∧ ∃ o : Obj, A.heap[r]? = some o ∧ o.isCells = false) → Bk st B := fun st A B row hs hg' hr => by
      have no : ∀ k, k < W1.heap.size → some k ≠ row := fun k hk e => by have := (hr k e.symm).1; omega
      refine ⟨(hg'.block _ (Array.getElem?_eq_some_iff.1 hs.1).1 (no _ (by omega))).trans hs.1, (hg'.block _ (Array.getElem?_eq_some_iff.1 hs.2.1).1 (no _ (by omega))).trans hs.2.1, Nat.le_trans hs.2.2.size hg'.size, fun k o hk ho => ?_⟩
      have hA := hs.2.2.same k o hk ho
      exact (hg'.block k (Array.getElem?_eq_some_iff.1 hA).1 (no k (by have := (Array.getElem?_eq_some_iff.1 hk).1; omega))).trans hA
    refine (hseq (w.heap.size + 1) (fun pre W => I pre W ∧ Bk .ready W) W1 hb1
      (fun s A B row hs hg' hr => ⟨hI s A B row hs.1 hg' (fun r e => ⟨by have := (hr r e).1; omega, (hr r e).2⟩), bk_own _ A B row hs.2 hg' hr⟩)
      (fun pre W h => hst pre W h.1) hno ?_ ⟨hI1, hL1, hD1, hk1⟩).mono ?_
    · rintro pre x W ⟨hi, hl, hd, hkf⟩ hlen
      have hlt : w.heap.size + 1 < W.heap.size := (Array.getElem?_eq_some_iff.1 hl).1
      refine ⟨fn, _, assign, body, run_yield (P := P) (args := encs x) hl (hps x), roundIn_of_wpIn hfn (hassign _ x W _ ?_)⟩
      refine ⟨_, run_beginRound hl rfl, ?_⟩
      have hl2 : (W.putObj (w.heap.size + 1) (.loop (rec' .busy none))).heap[w.heap.size + 1]? = some (.loop (rec' .busy none)) := World.putObj_heap_same hlt
      have hi2 : I pre (W.putObj (w.heap.size + 1) (.loop (rec' .busy none))) := hI.putObj _ hi (by omega) hl rfl
      have hw2 : KpO own n₀ W (W.putObj (w.heap.size + 1) (.loop (rec' .busy none))) := (hst pre W hi).kp (by omega) (grownBy_putObj' W _ _) (fun r e => by cases e; exact ⟨by omega, _, hl, rfl⟩)
      refine wpIn_mono (hbody _ pre x _ hi2 hlen) ?_
      rintro e a3 W3 hp
      cases e with
      | normal =>
        obtain ⟨hk3, hkp3, hi3⟩ := hp
        have hl3 := hk3.same _ _ hl2 rfl
        have hd2 : (W.putObj (w.heap.size + 1) (.loop (rec' .busy none))).heap[w.heap.size]? = some (.deferred (some [])) := (World.putObj_heap_other (by omega)).trans hd
        have hd3 := hk3.same _ _ hd2 rfl
        have hi4 : I (pre ++ [x]) (W3.putObj (w.heap.size + 1) (.loop (rec' .ready none))) := hI.putObj _ hi3 (by omega) hl3 rfl
        have hlt3 := (Array.getElem?_eq_some_iff.1 hl3).1
        refine ⟨_, _, run_endRound (P := P) none hl3, rfl, ⟨hi4, World.putObj_heap_same hlt3, (World.putObj_heap_other (by omega)).trans hd3, ?_⟩, (hw2.trans hkp3).trans ((hst _ _ hi3).kp (by omega) (grownBy_putObj' W3 _ _) (fun r e => by cases e; exact ⟨by omega, _, hl3, rfl⟩)), ?_⟩
        · exact keeps_put ((keeps_put hkf (by omega) _).trans hk3) (by omega) _
        · exact from_trans (from_trans (from_put (by omega) _) (hk3.from _)) (from_put (by omega) _)
      | ret => exact hp.elim
      | exit id => exact hp.elim
      | goto t => exact hp.elim
      | panic ch => exact hp.elim
      | outgrown => exact hp.elim
    · rintro e W2 ⟨⟨v, rfl⟩, xs, hS, hi, hl, hd, hkf⟩
      have hlt2 := (Array.getElem?_eq_some_iff.1 hl).1
      exact ⟨none, _, run_endLoop (P := P) hl (by simp [rec']), hdone _ xs _ (Nat.le_refl _) (by simp; omega) hS (hI.putObj _ hi (by omega) hl rfl) ((World.putObj_heap_other (by omega)).trans hd) (keeps_put hkf (by omega) _)⟩

end Go.Proofs.YtidojjecjjochadGreatDoor
