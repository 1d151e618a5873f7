/-
  A run's states, told one by one by the program's iterator: what it hands on, and that it may be left.
-/
import Derived.Test.YtkongeofapbblaaM47
import Derived.Test.YtkongeofapbblaaM48
import Derived.Test.YtkongeofapbblaaM43
import Derived.Test.YtkongeofapbblaaXpt
import Derived.Test.YtkongeofapbblaaM45
import Derived.RangeFuncCalls
import Derived.Shelf.Abstract
import Derived.Shelf.RegionOpen
import Derived.OwnWalkIn
import Derived.TacticsInMore
import Derived.LoopNIn
import Derived.LoopIn
import Derived.Sort.CutIn
namespace Go.Proofs.Ytkongeofapbblaa
open Go.RowKit Go.Shelf

attribute [local go_sem] Oper.semAt_some

/-- A state as a value. -/
noncomputable def stV (r : List DRecPhase) (L : List DRecSay) (k : Nat) : Array Value := #[.agg #[.string (stG r L k).1, .int .i64 (stG r L k).2.1, .int .i64 (stG r L k).2.2]]
/-- What the iterator knows between two rounds. -/
structure ItB (J : Nat → World → Prop) (own : World → Nat → Prop) (n₀ b1 b2 tb sb : Nat) (v vs : Value) (W X : World) (k : Nat) (tv : Int) : Prop where
  j : J k X
  low : ∀ q, q < n₀ → X.heap[q]? = W.heap[q]?
  size : W.heap.size ≤ X.heap.size
  r1 : X.heap[b1]? = some (.cells #[v] 23 (0, 0))
  r2 : X.heap[b2]? = some (.cells #[.func (.func 53) #[] #[.pointer (some ⟨tb, 0, none⟩), .pointer (some ⟨sb, 0, none⟩)]] 54 (0, 0))
  rs : X.heap[sb]? = some (.cells #[vs] 24 (0, 0))
  rt : X.heap[tb]? = some (.cells #[.int .i64 tv] 3 (0, 0))
  no : ∀ q, (q < n₀ ∨ q = b1 ∨ q = b2 ∨ q = tb ∨ q = sb) → ¬ own X q
section
variable {J : Nat → World → Prop} {own : World → Nat → Prop} {n₀ b1 b2 tb sb : Nat} {v vs : Value} {W X Y : World} {k : Nat} {tv tv' : Int}
theorem ItB.yield (h : ItB J own n₀ b1 b2 tb sb v vs W X k tv) (hn : n₀ ≤ W.heap.size) (hk : KpO own n₀ X Y) (hj : J (k + 1) Y) : ItB J own n₀ b1 b2 tb sb v vs W Y (k + 1) tv :=
  have lt : ∀ {q : Nat} {o : Obj}, X.heap[q]? = some o → q < X.heap.size := fun h => (Array.getElem?_eq_some_iff.1 h).1
  ⟨hj, fun q hq => (hk.low q hq).trans (h.low q hq), Nat.le_trans h.size hk.size, hk.blk _ _ _ _ h.r1 (h.no _ (.inr (.inl rfl))), hk.blk _ _ _ _ h.r2 (h.no _ (.inr (.inr (.inl rfl)))), hk.blk _ _ _ _ h.rs (h.no _ (.inr (.inr (.inr (.inr rfl))))), hk.blk _ _ _ _ h.rt (h.no _ (.inr (.inr (.inr (.inl rfl))))), fun q hq ho => by
    rcases hk.old q ho with h1 | h1
    · exact h.no q hq h1
    · have l1 := lt h.r1; have l2 := lt h.r2; have l3 := lt h.rs; have l4 := lt h.rt; have := h.size
      omega⟩
theorem ItB.step (h : ItB J own n₀ b1 b2 tb sb v vs W X k tv) (hn : n₀ ≤ tb) (ne : tb ≠ sb ∧ tb ≠ b1 ∧ tb ≠ b2) (hb : But (fun b => b = tb) X Y) (hn₀ : n₀ ≤ W.heap.size) (hJ : ∀ k A C, J k A → But (fun b => b = tb) A C → J k C) (hst : ∀ k A, J k A → (∀ q, own A q → q < A.heap.size) ∧ ∀ C, But (fun b => b = tb) A C → ∀ q, own C q → own A q) (rt : Y.heap[tb]? = some (.cells #[.int .i64 tv'] 3 (0, 0))) : ItB J own n₀ b1 b2 tb sb v vs W Y k tv' :=
  have lt : ∀ {q : Nat} {o : Obj}, X.heap[q]? = some o → q < X.heap.size := fun h => (Array.getElem?_eq_some_iff.1 h).1
  ⟨hJ k X Y h.j hb, fun q hq => (hb.block q (by have := h.size; omega) (by omega)).trans (h.low q hq), Nat.le_trans h.size hb.size, (hb.block _ (lt h.r1) (fun e => ne.2.1 e.symm)).trans h.r1, (hb.block _ (lt h.r2) (fun e => ne.2.2 e.symm)).trans h.r2, (hb.block _ (lt h.rs) (fun e => ne.1 e.symm)).trans h.rs, rt, fun q hq ho => h.no q hq ((hst k X h.j).2 Y hb q ho)⟩
end
def mzP (r : List DRecPhase) (p : Value) (w : World) : Nat := match p with
  | .pointer (some a) => (match w.cell? a with
    | some (.string x) => mzG r x
    | _ => 0)
  | _ => 0
theorem mzP_at {r : List DRecPhase} {w : World} {sx : Nat} {x : ByteArray} {b c : Value} {t : TypeId} (h : w.heap[sx]? = some (.cells #[.string x, b, c] t (0, 0))) : mzP r (.pointer (some ⟨sx, 0, none⟩)) w = mzG r x := by
  simp only [mzP]
  rw [(cell_row h 0 (.string x) rfl).1]
/-- A chain of calls beside a box that is made meanwhile, where nothing else is left. -/
theorem chainH_box1 {P : Program} {ops : Array Oper} {C : World → Prop} {n : Nat} {Q : Array Bool → Act → World → Prop} {listed : Array Bool} {a : Act} {w : World} (Φ : Act → Option Nat → Nat → Act → World → Prop) (is : List Nat) (ia da : Nat) (oa : Oper) (z : Array Value) (t : TypeId) (ha : ops[ia]? = some oa ∧ oa.guard = none ∧ oa.dst = some da ∧ ia < n) (hia : ia ∉ is) (hn : ∀ i ∈ is, i < n)
    (exa : ∀ (b : Act) (u : World), (execOp b.eval oa).run P u = .ok (.value (.pointer (some ⟨u.heap.size, 0, none⟩))) (u.alloc (.cells z t)))
    (hr : ((List.range is.length).all fun j => Region.ready .any ops (listAll (is.take j) listed) == [is.getD j 0, ia] && Region.ready .any ops (listAll (is.take j) (listed.setIfInBounds ia true)) == [is.getD j 0]) = true)
    (hr2 : Region.ready .any ops (listAll is listed) = [ia]) (hcm : (listAll is listed).setIfInBounds ia true = listAll is (listed.setIfInBounds ia true))
    (hal : ∀ k b u, Φ a none k b u → C (u.alloc (.cells z t)) ∧ Φ a (some u.heap.size) k (b.put (some da) (.pointer (some ⟨u.heap.size, 0, none⟩))) (u.alloc (.cells z t)))
    (hs : ∀ o j (hj : j < is.length) b u, Φ a o j b u → stepH P ops is[j] (fun a' w' => C w' ∧ Φ a o (j + 1) a' w') b u)
    (h0 : Φ a none 0 a w) (he1 : ∀ p b u, Φ a (some p) is.length b u → anyH P .any ops C n Q 0 (listAll is (listed.setIfInBounds ia true)) b u) : anyH P .any ops C n Q (is.length + (0 + 1)) listed a w := by
  refine chainH_box0 (g := 0) Φ is ia da oa z t ha hia hn exa hr hal hs h0 (fun b u h => ?_) he1
  obtain ⟨ha1, ha2, ha3, ha4⟩ := ha
  obtain ⟨hC, hk⟩ := hal is.length b u h
  refine oneH (f := 0) (i := ia) (.pointer (some ⟨u.heap.size, 0, none⟩)) (u.alloc (.cells z t)) ⟨ha1, ha4⟩ hr2 (wanted_none ha2 _) (exa b u) hC ?_
  rw [ha3, hcm]
  exact he1 _ _ _ hk

set_option maxRecDepth 100000 in
set_option maxHeartbeats 16000000 in
theorem it_any (n b1 b2 tb sb n₀ m : Nat) (hn : 2 ≤ n) (S S2 : Nat → Prop) (r : List DRecPhase) (L : List DRecSay) (v vs : Value) (own : World → Nat → Prop) (w : World)
    (hb1 : w.heap[b1]? = some (.cells #[v] 23 (0, 0))) (hb2 : w.heap[b2]? = some (.cells #[.func (.func 53) #[] #[.pointer (some ⟨tb, 0, none⟩), .pointer (some ⟨sb, 0, none⟩)]] 54 (0, 0))) (hsb : w.heap[sb]? = some (.cells #[vs] 24 (0, 0))) (htb : w.heap[tb]? = some (.cells #[.int .i64 0] 3 (0, 0)))
    (h : AtL S w r v) (hL : AtL S2 w L vs) (hS : ∀ b, S b → b < n₀) (hS2 : ∀ b, S2 b → b < n₀) (hn₀ : n₀ ≤ w.heap.size) (hlow : n₀ ≤ tb) (hne : tb ≠ sb ∧ tb ≠ b1 ∧ tb ≠ b2) (ht : totL r ≤ 1048576) (hl : L.length ≤ 1048576) (hmm : recB r = true → RunG r L m) :
    SeqIt Fence.wide n Try.prog 52 #[.pointer (some ⟨b1, 0, none⟩), .pointer (some ⟨b2, 0, none⟩)] (stV r L) own n₀ (fun b => b = tb) (fun q => q < n₀ ∨ q = b1 ∨ q = b2 ∨ q = tb ∨ q = sb) (fun k => recB r = false ∧ k = 0) (recB r = true) (m + 1) w := by
  obtain ⟨bb, hr⟩ : ∃ b, recB r = b := ⟨_, rfl⟩
  have hbb := hr
  intro l J Jx W hW hJ hJx hst hno hN hY h0
  have B0 : Hid (ItB J own n₀ b1 b2 tb sb v vs W W 0 0) := ⟨h0, fun _ _ => rfl, Nat.le_refl _, (hW.block b1 (Array.getElem?_eq_some_iff.1 hb1).1).trans hb1, (hW.block b2 (Array.getElem?_eq_some_iff.1 hb2).1).trans hb2, (hW.block sb (Array.getElem?_eq_some_iff.1 hsb).1).trans hsb, (hW.block tb (Array.getElem?_eq_some_iff.1 htb).1).trans htb, hno⟩
  have hnW : n₀ ≤ W.heap.size := Nat.le_trans hn₀ hW.size
  have HA : Hid (∀ u, (∀ q, q < n₀ → u.heap[q]? = W.heap[q]?) → AtL S u r v) := fun u hu => (h.same (Same.of_below hW (fun b hb => Nat.lt_of_lt_of_le (hS b hb) hn₀))).same (fun b hb => hu b (hS b hb))
  have HAL : Hid (∀ u, (∀ q, q < n₀ → u.heap[q]? = W.heap[q]?) → AtL S2 u L vs) := fun u hu => (hL.same (Same.of_below hW (fun b hb => Nat.lt_of_lt_of_le (hS2 b hb) hn₀))).same (fun b hb => hu b (hS2 b hb))
  obtain ⟨oa, cap, ev, _⟩ := id h
  obtain ⟨nl, en⟩ : ∃ nl, r.length = nl := ⟨_, rfl⟩
  rw [en] at ev
  subst ev
  have HS : Hid _ := hS
  have HS2 : Hid _ := hS2
  have HY : Hid _ := hY
  have HJ : Hid _ := hJ
  have HST : Hid _ := hst
  have HN : Hid _ := hN
  obtain ⟨x1, _⟩ := cell_row B0.out.r1 0 (.slice oa nl cap) rfl
  have q1 := fun d os => cell_regrown x1 d os
  obtain ⟨R, hR⟩ : ∃ R, R = begS r := ⟨_, rfl⟩
  have CB : Hid (∀ u, Below W.heap.size W u → Calls Try.prog 12 #[.slice oa nl cap] u fun e w' => e = .returned (.agg #[.string R.1, .int .i64 R.2.1, .int .i64 R.2.2]) ∧ Below u.heap.size u w') := fun u hu => by
    rw [hR]
    exact begI_any S r _ u (HA.out u (fun q hq => hu.block q (by omega))) (fun b hb => by have := HS.out b hb; have := hu.size; omega) ht
  have CO : Hid (∀ u, Below W.heap.size W u → Calls Try.prog 28 #[.slice oa nl cap] u fun e w' => e = .returned (.bool bb) ∧ Below u.heap.size u w') := fun u hu => by
    have hh := okI_any S r _ u (HA.out u (fun q hq => hu.block q (by omega))) (fun b hb => by have := HS.out b hb; have := hu.size; omega) ht
    rw [hr] at hh
    exact hh
  have HR : Hid (R = begS r) := hR
  clear hR hY hJ hst hno hN h hL hb1 hb2 hsb htb h0 hW hS en hS2
  refine callsIn_of_wp Try.func52 rfl trivial ?_ rfl
  simp only [Try.ntmps52, List.size_toArray, List.length_cons, List.length_nil, Nat.reduceAdd, Nat.reduceSub, Array.replicate_succ, Array.replicate_zero, List.push_toArray, List.append_toArray, List.nil_append, List.cons_append]
  gi_upto_region 0 with fail
  refine wpIn_wide.2 ?_
  have hdr : Hid (Below W.heap.size W W.drew) := (Below.refl _ _).drew
  refine wp_region_head 5 [0, 2] (by kernel_rfl) (by kernel_rfl) ?_
  simp only [List.filterMap_cons, List.filterMap_nil, List.getElem?_cons_succ, List.getElem?_cons_zero]
  repeat (first | go_big_quiet_step (fail) | quiet_step (fail))
  refine wpQuiet_nil ?_
  clear q1 x1
  refine chainH_box1 (fun a0 o k a u => Below W.heap.size W u ∧ (∀ p, o = some p → u.heap[p]? = some (.cells #[.string ⟨#[]⟩, .int .i64 0, .int .i64 0] 28 (0, 0)) ∧ W.heap.size ≤ p) ∧ (match k with
    | 0 => a = bx 4 o a0
    | 1 => a = bx 4 o (a0.put (some 7) (.agg #[.string R.1, .int .i64 R.2.1, .int .i64 R.2.2]))
    | _ => a = bx 4 o ((a0.put (some 7) (.agg #[.string R.1, .int .i64 R.2.1, .int .i64 R.2.2])).put (some 9) (.bool bb)))) [1, 3] 4 4 _ #[.string ⟨#[]⟩, .int .i64 0, .int .i64 0] 28 ⟨rfl, rfl, rfl, by decide⟩ (by decide) (by decide) ?exb (by kernel_rfl) (by kernel_rfl) (by kernel_rfl) ?halb ?hsb ?h0b ?heb1
  case exb => intro b u; go_simp
  case h0b => exact ⟨hdr.out, fun p hp => (by cases hp), rfl⟩
  case halb =>
    intro k b u h
    obtain ⟨hb, _, h⟩ := h
    have hal := hb.alloc hb.size (.cells #[.string ⟨#[]⟩, .int .i64 0, .int .i64 0] 28)
    refine ⟨regrown_of_below hal, hal, fun p hp => (by cases hp; exact ⟨heap_alloc_new u _, hb.size⟩), ?_⟩
    match k, h with
    | 0, h => subst h; rfl
    | 1, h => subst h; rfl
    | _ + 2, h => subst h; rfl
  case hsb =>
    intro o j hj b u h
    obtain ⟨hb, hp, h⟩ := h
    have ROW : ∀ w', Below u.heap.size u w' → ∀ p, o = some p → w'.heap[p]? = some (.cells #[.string ⟨#[]⟩, .int .i64 0, .int .i64 0] 28 (0, 0)) ∧ W.heap.size ≤ p := fun w' hb' p hp' => ⟨(hb'.block p (Array.getElem?_eq_some_iff.1 (hp p hp').1).1).trans (hp p hp').1, (hp p hp').2⟩
    have BB : ∀ w', Below u.heap.size u w' → Below W.heap.size W w' := fun w' hb' => hb.trans (hb'.mono hb.size)
    have : j = 0 ∨ j = 1 := (by simp at hj; omega)
    rcases this with rfl | rfl
    · simp only at h
      subst h
      refine stepH_call (fn := 12) (args := #[.slice oa nl cap]) rfl (wanted_none rfl _) (by cases o <;> simp only [bx, Act.put, List.setIfInBounds_toArray, List.set_cons_zero, List.set_cons_succ] <;> go_simp) ((CB.out u hb).mono fun e w' ⟨he, hb'⟩ => ⟨_, he, regrown_of_below (BB w' hb'), BB w' hb', ROW w' hb', bx_put (by decide) o _ _⟩)
    · simp only at h
      subst h
      refine stepH_call (fn := 28) (args := #[.slice oa nl cap]) rfl (wanted_none rfl _) (by cases o <;> simp only [bx, Act.put, List.setIfInBounds_toArray, List.set_cons_zero, List.set_cons_succ] <;> go_simp) ((CO.out u hb).mono fun e w' ⟨he, hb'⟩ => ⟨_, he, regrown_of_below (BB w' hb'), BB w' hb', ROW w' hb', bx_put (by decide) o _ _⟩)
  case heb1 =>
    intro sx b Y h
    obtain ⟨hbu, hp, h⟩ := h
    obtain ⟨row, hge⟩ := hp sx rfl
    subst h
    clear hp
    simp only [bx, Act.put, List.setIfInBounds_toArray, List.set_cons_zero, List.set_cons_succ]
    refine ⟨by kernel_rfl, ?_⟩
    simp only [List.drop_succ_cons, List.drop_zero]
    obtain ⟨e0, f0⟩ := cell_row row 0 _ rfl
    obtain ⟨e1, f1⟩ := cell_row row 1 _ rfl
    obtain ⟨e2, f2⟩ := cell_row row 2 _ rfl
    have fin := set_row (set_row (set_row row 0 (.string R.1)) 1 (.int .i64 R.2.1)) 2 (.int .i64 R.2.2)
    have bF := ((hbu.setCell (p := ⟨sx, 0, none⟩) hge (.string R.1)).setCell (p := ⟨sx, 1, none⟩) hge (.int .i64 R.2.1)).setCell (p := ⟨sx, 2, none⟩) hge (.int .i64 R.2.2)
    go_wp2_with fail
    gi_wp2
    cases bb
    · gi_loopw [4, 5] (fun _ o wr => o = .bool false ∧ Hid (J 0 wr)) (fun _ _ _ => 0)
      case atStart => exact ⟨rfl, HJ.out 0 W _ B0.out.j (But.of_below bF)⟩
      case round =>
        obtain ⟨rfl, hj⟩ := hrel
        gi_wp2
        go_end0
        exact ⟨⟨_, rfl⟩, .inl ⟨0, ⟨hbb, rfl⟩, hj.out⟩⟩
    · have hm := hmm hbb
      have ltb := (Array.getElem?_eq_some_iff.1 B0.out.rt).1
      gi_loopw [4, 5] (fun p o wr => ∃ k sx, k ≤ m ∧ p = .pointer (some ⟨sx, 0, none⟩) ∧ o = .bool true ∧ Hid (ItB J own n₀ b1 b2 tb sb (.slice oa nl cap) vs W wr k ((min k L.length : Nat) : Int)) ∧ Hid (wr.heap[sx]? = some (.cells #[.string (stG r L k).1, .int .i64 (stG r L k).2.1, .int .i64 (stG r L k).2.2] 28 (0, 0))) ∧ Hid (¬ own wr sx) ∧ tb ≠ sx) (fun p _ wr => mzP r p wr)
      case atStart =>
        refine ⟨0, sx, Nat.zero_le _, rfl, rfl, ?_, ?_, fun ho => ?_, by omega⟩
        · have e0 : ((min 0 L.length : Nat) : Int) = 0 := by simp
          rw [e0]
          exact B0.out.step hlow hne (But.of_below bF) hnW HJ.out HST.out ((bF.block tb ltb).trans B0.out.rt)
        · show _ = _
          rw [show stG r L 0 = R from HR.out.symm]
          exact fin
        · have h1 := (HST.out 0 W B0.out.j).2 _ (But.of_below bF) _ ho
          have h2 := (HST.out 0 W B0.out.j).1 _ h1
          omega
      case round =>
        obtain ⟨k, sx', hk, rfl, rfl, HB, HX, HO, hts⟩ := hrel
        obtain ⟨⟨x, now, lf⟩, hs0⟩ : ∃ s, stG r L k = s := ⟨_, rfl⟩
        have HS0 : Hid (stG r L k = (x, now, lf)) := hs0
        have hY := HY.out k wr HB.out.j hbb
        unfold stV at hY
        rw [hs0] at hY HX
        simp only at hY HX
        clear hs0
        obtain ⟨fn, tmps, assign, body, hy, hR⟩ := hY
        have c0 := (cell_row HX.out 0 (.string x) rfl).1
        have c1 := (cell_row HX.out 1 (.int .i64 now) rfl).1
        have c2 := (cell_row HX.out 2 (.int .i64 lf) rfl).1
        gi_wp2
        clear c0 c1 c2
        refine ⟨(fun _ => by omega), hR.mono ?_⟩
        rintro e W3 (⟨rfl, hJ3, hk3⟩ | ⟨rfl, hJx3⟩)
        · have hkm : k < m := by have := HN.out (k + 1) W3 hJ3; omega
          have B3 : Hid (ItB J own n₀ b1 b2 tb sb (.slice oa nl cap) vs W W3 (k + 1) ((min k L.length : Nat) : Int)) := HB.out.yield hnW hk3 hJ3
          have row3 := hk3.blk _ _ _ _ HX.out HO.out
          have c0 := (cell_row row3 0 (.string x) rfl).1
          have c1 := (cell_row row3 1 (.int .i64 now) rfl).1
          have c2 := (cell_row row3 2 (.int .i64 lf) rfl).1
          obtain ⟨X, hX⟩ : ∃ X, X = W3.alloc (.cells #[.string x, .int .i64 now, .int .i64 lf] 28) := ⟨_, rfl⟩
          have EX : Hid (X = W3.alloc (.cells #[.string x, .int .i64 now, .int .i64 lf] 28)) := hX
          have BX : Hid (Below W3.heap.size W3 X) := by rw [hX]; exact (Below.refl _ _).alloc (Nat.le_refl _) _
          have RX : Hid (X.heap[W3.heap.size]? = some (.cells #[.string x, .int .i64 now, .int .i64 lf] 28 (0, 0))) := by rw [hX]; exact heap_alloc_new W3 _
          clear hX row3 hk3 hJ3 HB hR hy
          gi_upto_region 2 with fail
          rw [← EX.out]
          clear c0 c1 c2
          refine wpIn_wide.2 ?_
          have hdX : Hid (Below X.heap.size X X.drew) := (Below.refl _ _).drew
          have l1 := (Array.getElem?_eq_some_iff.1 B3.out.r1).1
          have l2 := (Array.getElem?_eq_some_iff.1 B3.out.r2).1
          have l3 := (Array.getElem?_eq_some_iff.1 B3.out.rs).1
          have l4 := (Array.getElem?_eq_some_iff.1 B3.out.rt).1
          have sX := BX.out.size
          have ne1 : ¬ b1 = tb := fun e => hne.2.1 e.symm
          have ne2 : ¬ b2 = tb := fun e => hne.2.2 e.symm
          obtain ⟨⟨x', now', lf'⟩, hs1⟩ : ∃ s, stG r L (k + 1) = s := ⟨_, rfl⟩
          have HS1 : Hid (stG r L (k + 1) = (x', now', lf')) := hs1
          obtain ⟨⟨ty, wl⟩, hsy⟩ : ∃ s, sayT L k = s := ⟨_, rfl⟩
          have hst := hm.st k hk
          rw [HS0.out] at hst
          have hgo : goS r x now lf ty wl = ((x', now', lf'), true) := by
            have h1 := hm.go k hkm
            have h2 : stG r L (k + 1) = (goS r (stG r L k).1 (stG r L k).2.1 (stG r L k).2.2 (sayT L k).1 (sayT L k).2).1 := rfl
            rw [HS0.out, hsy] at h1 h2
            rw [hs1] at h2
            exact Prod.ext h2.symm h1
          have LOW : Hid (∀ u, But (fun b => b = tb) W3 u → ∀ q, q < n₀ → u.heap[q]? = W.heap[q]?) := fun u hu q hq => (hu.block q (by have := B3.out.size; omega) (by omega)).trans (B3.out.low q hq)
          have GO : Hid (∀ u, But (fun b => b = tb) W3 u → Calls Try.prog 13 #[.slice oa nl cap, .agg #[.string x, .int .i64 now, .int .i64 lf], .agg #[.int .i64 ty, .bool wl]] u fun e w' => e = .returned (.tuple #[.agg #[.string x', .int .i64 now', .int .i64 lf'], .bool true]) ∧ Below u.heap.size u w') := fun u hu => by
            have hh := goI_any S r _ x now lf ty wl u (HA.out u (LOW.out u hu)) (fun b hb => by have := HS.out b hb; have := hu.size; have := B3.out.size; omega) ht (by have := hst.sz; simp only at this; omega)
            rw [hgo] at hh
            exact hh
          have SA : Hid (∀ u, But (fun b => b = tb) W3 u → u.heap[tb]? = some (.cells #[.int .i64 ((min k L.length : Nat) : Int)] 3 (0, 0)) → Calls Try.prog 53 #[.pointer (some ⟨tb, 0, none⟩), .pointer (some ⟨sb, 0, none⟩)] u fun e w' => e = .returned (.agg #[.int .i64 ty, .bool wl]) ∧ But (fun b => b = tb) u w' ∧ w'.heap[tb]? = some (.cells #[.int .i64 ((min (k + 1) L.length : Nat) : Int)] 3 (0, 0))) := fun u hu ht' => by
            have hh := sayI_any S2 L vs tb sb k u (HAL.out u (LOW.out u hu)) (fun b hb => by have := HS2.out b hb; have := hu.size; have := B3.out.size; omega) (fun hb => by have := HS2.out tb hb; omega) hne.1 hl ht' ((hu.block sb l3 (fun e => hne.1 e.symm)).trans B3.out.rs)
            rw [hsy] at hh
            exact hh
          clear hgo hst hsy hs1
          have bX0 : But (fun b => b = tb) W3 X.drew := But.of_below (BX.out.trans (hdX.out.mono sX))
          have CS := SA.out X.drew bX0 (((BX.out.block tb l4)).trans B3.out.rt)
          have HCS : Hid _ := CS
          have CW : (fun u : World => u.heap[b1]? = some (.cells #[.slice oa nl cap] 23 (0, 0)) ∧ u.heap[b2]? = some (.cells #[.func (.func 53) #[] #[.pointer (some ⟨tb, 0, none⟩), .pointer (some ⟨sb, 0, none⟩)]] 54 (0, 0))) X.drew := ⟨(bX0.block b1 l1 ne1).trans B3.out.r1, (bX0.block b2 l2 ne2).trans B3.out.r2⟩
          clear CS
          refine wp_region_all (fun u : World => u.heap[b1]? = some (.cells #[.slice oa nl cap] 23 (0, 0)) ∧ u.heap[b2]? = some (.cells #[.func (.func 53) #[] #[.pointer (some ⟨tb, 0, none⟩), .pointer (some ⟨sb, 0, none⟩)]] 54 (0, 0))) (by kernel_rfl) ?_
          refine takeA (f := 9) (i := 0) (.slice oa nl cap) ⟨rfl, rfl⟩ (by kernel_rfl) rfl CW ?r0 ?_
          case r0 => intro u hu; have k0 := (cell_row hu.1 0 (.slice oa nl cap) rfl).1; go_simp
          simp only [Act.put, List.setIfInBounds_toArray, List.set_cons_zero, List.set_cons_succ]
          refine takeA (f := 8) (i := 2) (.func (.func 53) #[] #[.pointer (some ⟨tb, 0, none⟩), .pointer (some ⟨sb, 0, none⟩)]) ⟨rfl, rfl⟩ (by kernel_rfl) rfl CW ?r2 ?_
          case r2 => intro u hu; have k0 := (cell_row hu.2 0 (.func (.func 53) #[] #[.pointer (some ⟨tb, 0, none⟩), .pointer (some ⟨sb, 0, none⟩)]) rfl).1; go_simp
          simp only [Act.put, List.setIfInBounds_toArray, List.set_cons_zero, List.set_cons_succ]
          refine twoH (f := 7) 1 3 (by kernel_rfl) ⟨by decide, by decide⟩ ?c1 ?c3
          case c1 =>
            have k0 : X.drew.cell? ⟨W3.heap.size, 0, none⟩ = some (.string x) := (cell_row RX.out 0 (.string x) rfl).1
            have k1 : X.drew.cell? ⟨W3.heap.size, 1, none⟩ = some (.int .i64 now) := (cell_row RX.out 1 (.int .i64 now) rfl).1
            have k2 : X.drew.cell? ⟨W3.heap.size, 2, none⟩ = some (.int .i64 lf) := (cell_row RX.out 2 (.int .i64 lf) rfl).1
            refine stepHd (.agg #[.string x, .int .i64 now, .int .i64 lf]) X.drew ⟨rfl, rfl⟩ rfl ?r1 ⟨CW, ?_⟩
            case r1 => go_simp
            simp only [Act.put, List.setIfInBounds_toArray, List.set_cons_zero, List.set_cons_succ]
            clear k0 k1 k2 CW
            refine callHd (f := 6) (i := 3) ⟨rfl, rfl⟩ (by decide) (by kernel_rfl) rfl ?r3 (Calls.mono HCS.out ?_)
            case r3 => go_simp
            rintro e u1 ⟨rfl, hbs, hrt⟩
            have bu1 : Hid (But (fun b => b = tb) W3 u1) := (But.of_below BX.out).trans ((But.of_below hdX.out).trans hbs)
            have rt1 : Hid (u1.heap[tb]? = some (.cells #[.int .i64 ((min (k + 1) L.length : Nat) : Int)] 3 (0, 0))) := hrt
            have rx1 : Hid (u1.heap[W3.heap.size]? = some (.cells #[.string x, .int .i64 now, .int .i64 lf] 28 (0, 0))) := (hbs.block _ (Array.getElem?_eq_some_iff.1 RX.out).1 (by omega)).trans RX.out
            clear hbs hrt
            have CW : (fun u : World => u.heap[b1]? = some (.cells #[.slice oa nl cap] 23 (0, 0)) ∧ u.heap[b2]? = some (.cells #[.func (.func 53) #[] #[.pointer (some ⟨tb, 0, none⟩), .pointer (some ⟨sb, 0, none⟩)]] 54 (0, 0))) u1 := ⟨(bu1.out.block b1 l1 ne1).trans B3.out.r1, (bu1.out.block b2 l2 ne2).trans B3.out.r2⟩
            refine ⟨_, rfl, CW, ?_⟩
            simp only [Act.put, List.setIfInBounds_toArray, List.set_cons_zero, List.set_cons_succ]
            clear CW
            refine callHd (f := 5) (i := 4) ⟨rfl, rfl⟩ (by decide) (by kernel_rfl) rfl ?r4 (Calls.mono (GO.out u1 bu1.out) ?_)
            case r4 => go_simp
            rintro e u2 ⟨rfl, hb2⟩
            have bu2 : Hid (But (fun b => b = tb) W3 u2) := bu1.out.trans (But.of_below hb2)
            have rt2 : Hid (u2.heap[tb]? = some (.cells #[.int .i64 ((min (k + 1) L.length : Nat) : Int)] 3 (0, 0))) := (hb2.block tb (Array.getElem?_eq_some_iff.1 rt1.out).1).trans rt1.out
            have rx2 : Hid (u2.heap[W3.heap.size]? = some (.cells #[.string x, .int .i64 now, .int .i64 lf] 28 (0, 0))) := (hb2.block _ (Array.getElem?_eq_some_iff.1 rx1.out).1).trans rx1.out
            have CW : (fun u : World => u.heap[b1]? = some (.cells #[.slice oa nl cap] 23 (0, 0)) ∧ u.heap[b2]? = some (.cells #[.func (.func 53) #[] #[.pointer (some ⟨tb, 0, none⟩), .pointer (some ⟨sb, 0, none⟩)]] 54 (0, 0))) u2 := ⟨(bu2.out.block b1 l1 ne1).trans B3.out.r1, (bu2.out.block b2 l2 ne2).trans B3.out.r2⟩
            refine ⟨_, rfl, CW, ?_⟩
            simp only [Act.put, List.setIfInBounds_toArray, List.set_cons_zero, List.set_cons_succ]
            refine takeA (f := 4) (i := 5) (.tuple #[.agg #[.string x', .int .i64 now', .int .i64 lf'], .bool true]) ⟨rfl, rfl⟩ (by kernel_rfl) rfl CW ?r5 ?_
            case r5 => intro u hu; go_simp
            simp only [Act.put, List.setIfInBounds_toArray, List.set_cons_zero, List.set_cons_succ]
            refine takeA (f := 3) (i := 6) (.agg #[.string x', .int .i64 now', .int .i64 lf']) ⟨rfl, rfl⟩ (by kernel_rfl) rfl CW ?r6 ?_
            case r6 => intro u hu; go_simp
            simp only [Act.put, List.setIfInBounds_toArray, List.set_cons_zero, List.set_cons_succ]
            refine takeA (f := 2) (i := 7) (.bool true) ⟨rfl, rfl⟩ (by kernel_rfl) rfl CW ?r7 ?_
            case r7 => intro u hu; go_simp
            simp only [Act.put, List.setIfInBounds_toArray, List.set_cons_zero, List.set_cons_succ]
            obtain ⟨e0, f0⟩ := cell_row rx2.out 0 _ rfl
            obtain ⟨e1, f1⟩ := cell_row rx2.out 1 _ rfl
            obtain ⟨e2, f2⟩ := cell_row rx2.out 2 _ rfl
            have fin := set_row (set_row (set_row rx2.out 0 (.string x')) 1 (.int .i64 now')) 2 (.int .i64 lf')
            have oth : ∀ b, b ≠ W3.heap.size → (((u2.setCell ⟨W3.heap.size, 0, none⟩ (.string x')).setCell ⟨W3.heap.size, 1, none⟩ (.int .i64 now')).setCell ⟨W3.heap.size, 2, none⟩ (.int .i64 lf')).heap[b]? = u2.heap[b]? := fun b hb => (Below.heap_setCell _ _ _ _ hb).trans ((Below.heap_setCell _ _ _ _ hb).trans (Below.heap_setCell _ _ _ _ hb))
            have bF3 : But (fun b => b = tb) W3 (((u2.setCell ⟨W3.heap.size, 0, none⟩ (.string x')).setCell ⟨W3.heap.size, 1, none⟩ (.int .i64 now')).setCell ⟨W3.heap.size, 2, none⟩ (.int .i64 lf')) := But.of_below_of bu2.out ((((Below.refl W3.heap.size u2).setCell (p := ⟨W3.heap.size, 0, none⟩) (Nat.le_refl _) _).setCell (p := ⟨W3.heap.size, 1, none⟩) (Nat.le_refl _) _).setCell (p := ⟨W3.heap.size, 2, none⟩) (Nat.le_refl _) _)
            have CW3 : (fun u : World => u.heap[b1]? = some (.cells #[.slice oa nl cap] 23 (0, 0)) ∧ u.heap[b2]? = some (.cells #[.func (.func 53) #[] #[.pointer (some ⟨tb, 0, none⟩), .pointer (some ⟨sb, 0, none⟩)]] 54 (0, 0))) (((u2.setCell ⟨W3.heap.size, 0, none⟩ (.string x')).setCell ⟨W3.heap.size, 1, none⟩ (.int .i64 now')).setCell ⟨W3.heap.size, 2, none⟩ (.int .i64 lf')) := ⟨(oth b1 (by omega)).trans CW.1, (oth b2 (by omega)).trans CW.2⟩
            refine storeHd (f := 1) (i := 8) (((u2.setCell ⟨W3.heap.size, 0, none⟩ (.string x')).setCell ⟨W3.heap.size, 1, none⟩ (.int .i64 now')).setCell ⟨W3.heap.size, 2, none⟩ (.int .i64 lf')) ⟨rfl, rfl⟩ (by decide) (by kernel_rfl) rfl ?r8 CW3 ?_
            case r8 => go_simp
            have rtF := (oth tb (by omega)).trans rt2.out
            generalize ((u2.setCell ⟨W3.heap.size, 0, none⟩ (.string x')).setCell ⟨W3.heap.size, 1, none⟩ (.int .i64 now')).setCell ⟨W3.heap.size, 2, none⟩ (.int .i64 lf') = Z at fin oth bF3 CW3 rtF ⊢
            clear CW
            have CW := CW3
            refine takeA (f := 0) (i := 9) (.bool true) ⟨rfl, rfl⟩ (by kernel_rfl) rfl CW ?r9 ?_
            case r9 => intro u hu; go_simp
            simp only [Act.put, List.setIfInBounds_toArray, List.set_cons_zero, List.set_cons_succ]
            refine ⟨by kernel_rfl, ?_⟩
            gi_wp2
            go_roundw
            case rel =>
              refine ⟨k + 1, W3.heap.size, by omega, rfl, rfl, B3.out.step hlow hne bF3 hnW HJ.out HST.out rtF, ?_, fun ho => ?_, by omega⟩
              · rw [HS1.out]; exact fin
              · have h1 := (HST.out (k + 1) W3 B3.out.j).2 Z bF3 _ ho
                have h2 := (HST.out (k + 1) W3 B3.out.j).1 _ h1
                omega
            case measure =>
              show mzP r _ _ < mzP r _ _
              rw [mzP_at fin, mzP_at HX.out]
              have hl2 := hm.less k hkm
              rw [HS1.out, HS0.out] at hl2
              exact hl2
          case c3 =>
            refine stepHc ⟨rfl, rfl⟩ rfl ?r3 (Calls.mono HCS.out ?_)
            case r3 => go_simp
            clear CW
            rintro e u1 ⟨rfl, hbs, hrt⟩
            have bu1 : Hid (But (fun b => b = tb) W3 u1) := (But.of_below BX.out).trans ((But.of_below hdX.out).trans hbs)
            have rt1 : Hid (u1.heap[tb]? = some (.cells #[.int .i64 ((min (k + 1) L.length : Nat) : Int)] 3 (0, 0))) := hrt
            have rx1 : Hid (u1.heap[W3.heap.size]? = some (.cells #[.string x, .int .i64 now, .int .i64 lf] 28 (0, 0))) := (hbs.block _ (Array.getElem?_eq_some_iff.1 RX.out).1 (by omega)).trans RX.out
            clear hbs hrt
            have CW : (fun u : World => u.heap[b1]? = some (.cells #[.slice oa nl cap] 23 (0, 0)) ∧ u.heap[b2]? = some (.cells #[.func (.func 53) #[] #[.pointer (some ⟨tb, 0, none⟩), .pointer (some ⟨sb, 0, none⟩)]] 54 (0, 0))) u1 := ⟨(bu1.out.block b1 l1 ne1).trans B3.out.r1, (bu1.out.block b2 l2 ne2).trans B3.out.r2⟩
            refine ⟨_, rfl, CW, ?_⟩
            simp only [Act.put, List.setIfInBounds_toArray, List.set_cons_zero, List.set_cons_succ]
            have k0 := (cell_row rx1.out 0 (.string x) rfl).1
            have k1 := (cell_row rx1.out 1 (.int .i64 now) rfl).1
            have k2 := (cell_row rx1.out 2 (.int .i64 lf) rfl).1
            refine oneHd (f := 6) (i := 1) (.agg #[.string x, .int .i64 now, .int .i64 lf]) u1 ⟨rfl, rfl⟩ (by decide) (by kernel_rfl) rfl ?r1 CW ?_
            case r1 => go_simp
            simp only [Act.put, List.setIfInBounds_toArray, List.set_cons_zero, List.set_cons_succ]
            clear k0 k1 k2 CW
            refine callHd (f := 5) (i := 4) ⟨rfl, rfl⟩ (by decide) (by kernel_rfl) rfl ?r4 (Calls.mono (GO.out u1 bu1.out) ?_)
            case r4 => go_simp
            rintro e u2 ⟨rfl, hb2⟩
            have bu2 : Hid (But (fun b => b = tb) W3 u2) := bu1.out.trans (But.of_below hb2)
            have rt2 : Hid (u2.heap[tb]? = some (.cells #[.int .i64 ((min (k + 1) L.length : Nat) : Int)] 3 (0, 0))) := (hb2.block tb (Array.getElem?_eq_some_iff.1 rt1.out).1).trans rt1.out
            have rx2 : Hid (u2.heap[W3.heap.size]? = some (.cells #[.string x, .int .i64 now, .int .i64 lf] 28 (0, 0))) := (hb2.block _ (Array.getElem?_eq_some_iff.1 rx1.out).1).trans rx1.out
            have CW : (fun u : World => u.heap[b1]? = some (.cells #[.slice oa nl cap] 23 (0, 0)) ∧ u.heap[b2]? = some (.cells #[.func (.func 53) #[] #[.pointer (some ⟨tb, 0, none⟩), .pointer (some ⟨sb, 0, none⟩)]] 54 (0, 0))) u2 := ⟨(bu2.out.block b1 l1 ne1).trans B3.out.r1, (bu2.out.block b2 l2 ne2).trans B3.out.r2⟩
            refine ⟨_, rfl, CW, ?_⟩
            simp only [Act.put, List.setIfInBounds_toArray, List.set_cons_zero, List.set_cons_succ]
            refine takeA (f := 4) (i := 5) (.tuple #[.agg #[.string x', .int .i64 now', .int .i64 lf'], .bool true]) ⟨rfl, rfl⟩ (by kernel_rfl) rfl CW ?r5 ?_
            case r5 => intro u hu; go_simp
            simp only [Act.put, List.setIfInBounds_toArray, List.set_cons_zero, List.set_cons_succ]
            refine takeA (f := 3) (i := 6) (.agg #[.string x', .int .i64 now', .int .i64 lf']) ⟨rfl, rfl⟩ (by kernel_rfl) rfl CW ?r6 ?_
            case r6 => intro u hu; go_simp
            simp only [Act.put, List.setIfInBounds_toArray, List.set_cons_zero, List.set_cons_succ]
            refine takeA (f := 2) (i := 7) (.bool true) ⟨rfl, rfl⟩ (by kernel_rfl) rfl CW ?r7 ?_
            case r7 => intro u hu; go_simp
            simp only [Act.put, List.setIfInBounds_toArray, List.set_cons_zero, List.set_cons_succ]
            obtain ⟨e0, f0⟩ := cell_row rx2.out 0 _ rfl
            obtain ⟨e1, f1⟩ := cell_row rx2.out 1 _ rfl
            obtain ⟨e2, f2⟩ := cell_row rx2.out 2 _ rfl
            have fin := set_row (set_row (set_row rx2.out 0 (.string x')) 1 (.int .i64 now')) 2 (.int .i64 lf')
            have oth : ∀ b, b ≠ W3.heap.size → (((u2.setCell ⟨W3.heap.size, 0, none⟩ (.string x')).setCell ⟨W3.heap.size, 1, none⟩ (.int .i64 now')).setCell ⟨W3.heap.size, 2, none⟩ (.int .i64 lf')).heap[b]? = u2.heap[b]? := fun b hb => (Below.heap_setCell _ _ _ _ hb).trans ((Below.heap_setCell _ _ _ _ hb).trans (Below.heap_setCell _ _ _ _ hb))
            have bF3 : But (fun b => b = tb) W3 (((u2.setCell ⟨W3.heap.size, 0, none⟩ (.string x')).setCell ⟨W3.heap.size, 1, none⟩ (.int .i64 now')).setCell ⟨W3.heap.size, 2, none⟩ (.int .i64 lf')) := But.of_below_of bu2.out ((((Below.refl W3.heap.size u2).setCell (p := ⟨W3.heap.size, 0, none⟩) (Nat.le_refl _) _).setCell (p := ⟨W3.heap.size, 1, none⟩) (Nat.le_refl _) _).setCell (p := ⟨W3.heap.size, 2, none⟩) (Nat.le_refl _) _)
            have CW3 : (fun u : World => u.heap[b1]? = some (.cells #[.slice oa nl cap] 23 (0, 0)) ∧ u.heap[b2]? = some (.cells #[.func (.func 53) #[] #[.pointer (some ⟨tb, 0, none⟩), .pointer (some ⟨sb, 0, none⟩)]] 54 (0, 0))) (((u2.setCell ⟨W3.heap.size, 0, none⟩ (.string x')).setCell ⟨W3.heap.size, 1, none⟩ (.int .i64 now')).setCell ⟨W3.heap.size, 2, none⟩ (.int .i64 lf')) := ⟨(oth b1 (by omega)).trans CW.1, (oth b2 (by omega)).trans CW.2⟩
            refine storeHd (f := 1) (i := 8) (((u2.setCell ⟨W3.heap.size, 0, none⟩ (.string x')).setCell ⟨W3.heap.size, 1, none⟩ (.int .i64 now')).setCell ⟨W3.heap.size, 2, none⟩ (.int .i64 lf')) ⟨rfl, rfl⟩ (by decide) (by kernel_rfl) rfl ?r8 CW3 ?_
            case r8 => go_simp
            have rtF := (oth tb (by omega)).trans rt2.out
            generalize ((u2.setCell ⟨W3.heap.size, 0, none⟩ (.string x')).setCell ⟨W3.heap.size, 1, none⟩ (.int .i64 now')).setCell ⟨W3.heap.size, 2, none⟩ (.int .i64 lf') = Z at fin oth bF3 CW3 rtF ⊢
            clear CW
            have CW := CW3
            refine takeA (f := 0) (i := 9) (.bool true) ⟨rfl, rfl⟩ (by kernel_rfl) rfl CW ?r9 ?_
            case r9 => intro u hu; go_simp
            simp only [Act.put, List.setIfInBounds_toArray, List.set_cons_zero, List.set_cons_succ]
            refine ⟨by kernel_rfl, ?_⟩
            gi_wp2
            go_roundw
            case rel =>
              refine ⟨k + 1, W3.heap.size, by omega, rfl, rfl, B3.out.step hlow hne bF3 hnW HJ.out HST.out rtF, ?_, fun ho => ?_, by omega⟩
              · rw [HS1.out]; exact fin
              · have h1 := (HST.out (k + 1) W3 B3.out.j).2 Z bF3 _ ho
                have h2 := (HST.out (k + 1) W3 B3.out.j).1 _ h1
                omega
            case measure =>
              show mzP r _ _ < mzP r _ _
              rw [mzP_at fin, mzP_at HX.out]
              have hl2 := hm.less k hkm
              rw [HS1.out, HS0.out] at hl2
              exact hl2
        · gi_wp2
          exact bodyPost_ret (results_none rfl _ _ _) rfl ⟨⟨_, rfl⟩, .inr ⟨k, hJx3⟩⟩

end Go.Proofs.Ytkongeofapbblaa
