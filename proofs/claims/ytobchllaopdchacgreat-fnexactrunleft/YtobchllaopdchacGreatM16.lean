/-
  Several texts in one.
-/
import Derived.Test.YtobchllaopdchacGreatM5
import Derived.RangeFuncCalls
import Derived.OwnWalkIn
import Derived.OrdersIn
import Derived.TacticsIn
import Derived.Test.YtobchllaopdchacGreatM11
import Derived.Test.YtobchllaopdchacGreatXsu
import Derived.Test.YtobchllaopdchacGreatM15
import Derived.Test.YtobchllaopdchacGreatM2
import Derived.Test.YtobchllaopdchacGreatM3
import Derived.Deep.Cut
import Derived.Laws.EntriesVeiled
import Derived.Maps.OwnIn
namespace Go.Proofs.YtobchllaopdchacGreat
open Go.Sort
section
variable {P : Program} {md : Region.Mode} {ops : Array Oper} {C : World → Prop} {n : Nat} {L : Array Bool → Act → World → Prop} {l' m : Nat}
def noDeferB (ops : Array Oper) : Bool := ops.all fun o => match o.op with | .defer _ => false | _ => true
theorem no_defer (h : noDeferB ops = true) {i : Nat} {o : Oper} (ho : ops[i]? = some o) (c : Call) : o.op ≠ .defer c := fun e => by
  have hm : o ∈ ops := Array.mem_of_getElem? ho
  have := (Array.all_eq_true'.1 h) o hm
  rw [e] at this; cases this
theorem anyIn_of_C {Q : Exit → Act → World → Prop} {g : Nat} (hnd : noDeferB ops = true) (hL : ∀ listed a w, L listed a w → wpAnyIn (Fence.wide.inRound l') m P md ops Q g listed a w) :
    ∀ (f : Nat) (listed : Array Bool) (a : Act) (w : World), anyC P md ops C n L f listed a w → wpAnyIn (Fence.wide.inRound l') m P md ops Q (f + g) listed a w
  | 0, listed, a, w, h => by rw [Nat.zero_add]; exact hL _ _ _ h
  | f + 1, listed, a, w, h => by
    rw [show f + 1 + g = (f + g) + 1 by omega]
    refine ⟨fun h0 => absurd h0 h.1, fun i hi => ?_⟩
    rcases (h.2 i hi).2 with ⟨o, ho, hg, u, w', hr, _, hk⟩ | ⟨o, ho, hg, fn, args, hr, hk⟩
    · unfold wpOpIn
      simp only [ho, wanted_none hg, if_true]
      refine ⟨fun _ _ => trivial, ?_⟩
      rw [Oper.semAt_plain _ _ _ (no_defer hnd ho), hr, Oper.uponIn_value]
      exact anyIn_of_C hnd hL f _ _ _ hk
    · unfold wpOpIn
      simp only [ho, wanted_none hg, if_true]
      refine ⟨fun _ _ => trivial, ?_⟩
      rw [Oper.semAt_plain _ _ _ (no_defer hnd ho), hr, Oper.uponIn_enter]
      refine ⟨(fun h => by cases h), (CallsIn.inRound l' (callsIn_wide.2 hk)).mono fun e w'' ⟨u, he, _, hk'⟩ => ?_⟩
      subst he
      exact anyIn_of_C hnd hL f _ _ _ hk'
theorem wpAnyIn_of_seq {F : Fence} {Q' : Exit → Act → World → Prop} : ∀ (l : List Oper) (k : Nat) (listed : Array Bool) (a : Act) (w : World), (∀ j, l[j]? = ops[k + j]?) →
    Region.seqB md ops l.length k listed = true → wpListIn F m P ops Q' l a w → wpAnyIn F m P md ops Q' l.length listed a w
  | [], _, _, _, _, _, hB, h => ⟨by simpa [Region.seqB] using hB, h⟩
  | o :: l, k, listed, a, w, hl, hB, h => by
    have h0 : ops[k]? = some o := by simpa using (hl 0).symm
    simp only [List.length_cons, Region.seqB, Bool.and_eq_true, decide_eq_true_eq] at hB
    refine ⟨fun h1 => (by rw [hB.1] at h1; cases h1), fun i hi => ?_⟩
    rw [hB.1] at hi
    have hik : i = k := by simpa using hi
    subst hik
    have hw : wpOpIn F m P ops Q' i (wpListIn F m P ops Q' l) a w := by unfold wpOpIn; simp only [h0]; exact h
    exact wpOpIn_mono (fun a' w' h' => wpAnyIn_of_seq l (i + 1) _ a' w' (fun j => by have := hl (j + 1); simpa [Nat.add_assoc, Nat.add_comm 1 j] using this) hB.2 h') hw
def tailI (F : Fence) (m : Nat) (P : Program) (Q : Exit → Act → World → Prop) (l : List Oper) (n : Nat) (listed : Array Bool) (a : Act) (w : World) : Prop :=
  Region.seqB .any l.toArray (l.length - n) n listed = true ∧ wpListIn F m P l.toArray Q (l.drop n) a w
theorem wpIn_region_mix {id : Nat} {Q : Exit → Act → World → Prop} {a : Act} {w : World} {l : List Oper} (n : Nat) (ks : List Nat) (hm : P.follows .mixedOrders = true) (hB : mixTailB l n ks = true) (hnd : noDeferB l.toArray = true)
    (h : wpQuiet P l.toArray (fun w' => ∃ p : Regrown, w' = grow (redrawn w p.d) p.os) (fun a' => anyC P .any l.toArray (fun w' => ∃ p : Regrown, w' = grow (redrawn w p.d) p.os) n (tailI (Fence.wide.inRound l') m P Q l n) (n - ks.length) (listAll ks (Array.replicate l.length false)) a' w.drew) (ks.filterMap fun k => l[k]?) a) :
    (Code.region id l.toArray true).wpIn (Fence.wide.inRound l') m P Q a w := by
  have hB' := hB
  simp only [mixTailB, Bool.and_eq_true, decide_eq_true_eq] at hB
  obtain ⟨⟨⟨⟨⟨hsel, hn⟩, hkn⟩, hs⟩, hc⟩, hmix⟩ := hB
  have hn' : n < l.toArray.size := by simpa using hn
  have hdl : (l.drop n).length = l.length - n := by simp
  have inv0 : HeadInv .any l.toArray n (Array.replicate l.length false) :=
    ⟨by simp, fun j oj _ hl => (by rw [getD_replicate_false] at hl; cases hl), fun t _ ht => getD_in (by simpa using ht) (getD_replicate_false _ _)⟩
  have H := anyC_lex (P := P) (md := .any) (L := tailI (Fence.wide.inRound l') m P Q l n) hsel hs hc hn' (fun listed a w hL => seqB_ready hL.1) (n - ks.length) w.drew ⟨⟨w.drawn + 1, #[]⟩, by rw [grow_empty]; rfl⟩ ks _ _ a (mix_ops ks _ hmix) inv0 hmix h
  have G := anyIn_of_C (Q := Q) (g := l.length - n) hnd (fun listed a' w' hL => by
    have := wpAnyIn_of_seq (P := P) (md := .any) (ops := l.toArray) (F := Fence.wide.inRound l') (m := m) (Q' := Q) (l.drop n) n listed a' w' (fun j => by simp [List.getElem?_drop]) (by rw [hdl]; exact hL.1) hL.2
    rwa [hdl] at this) _ _ _ _ H
  rw [show ks.length + (n - ks.length) + (l.length - n) = l.toArray.size by simp; omega] at G
  refine wpIn_region_any hm ?_
  simpa using G
end
end Go.Proofs.YtobchllaopdchacGreat

namespace Go.Proofs.YtobchllaopdchacGreat
open Go.RowKit Go.Sort
attribute [local go_sem] Oper.semAt_some
theorem endP_qs (x : ByteArray) (wr : World) (d : Nat) (os : Array Obj) : Calls Tryz.prog 124 #[.string x] (grow (redrawn wr d) os) fun e w'' => e = .returned (.int .i64 (endI x)) ∧ ∃ p : Regrown, w'' = grow (redrawn wr p.d) p.os :=
  (endP_any x _).mono fun _ _ h => ⟨h.1, ⟨d, os⟩, h.2⟩
set_option maxRecDepth 100000 in
set_option maxHeartbeats 4000000 in
theorem noneS_any (e : Int) (w : World) : Calls Tryz.prog 181 #[.int .i64 e] w fun e w' => e = .returned (.slice none 0 0) ∧ w' = w := by
  go_enter Tryz.func181, Tryz.ntmps181
  go_wp2
  go_ret
  exact ⟨rfl, rfl⟩
set_option maxRecDepth 100000 in
set_option maxHeartbeats 4000000 in
theorem ofS_any (S : Nat → Prop) (r : List DRecPhase) (oa : Option Addr) (n cap : Nat) (x : ByteArray) (g : Nat) (ob : Option Addr) (nb cb : Nat) (w : World) (h : AtL S w r (.slice oa n cap)) (hl : r.length = n) (hS : ∀ b, S b → b < w.heap.size) (hg : g < w.heap.size)
    (hk : ∀ k : Nat, atI r x = (k : Int) → w.cell? ⟨g, k, none⟩ = some (.slice ob nb cb)) (h0 : atI r x = -1 → Value.slice ob nb cb = .slice none 0 0) :
    Calls Tryz.prog 185 #[.agg #[.slice oa n cap, .slice (some ⟨g, 0, none⟩) n n, .func (.func 181) #[] #[]], .string x] w fun e w' => e = .returned (.slice ob nb cb) ∧ Below w.heap.size w w' := by
  have H : Hid (AtL S (w.alloc (.cells #[.slice oa n cap, .slice (some ⟨g, 0, none⟩) n n, .func (.func 181) #[] #[]] 224)) r (.slice oa n cap)) := h.same (Same.of_below ((Below.refl _ _).alloc (Nat.le_refl _) _) hS)
  have HS : Hid (∀ b, S b → b < (w.alloc (.cells #[.slice oa n cap, .slice (some ⟨g, 0, none⟩) n n, .func (.func 181) #[] #[]] 224)).heap.size) := fun b hb => by have := hS b hb; simp; omega
  have k0 : Hid (Below (w.heap.size + 1) (w.alloc (.cells #[.slice oa n cap, .slice (some ⟨g, 0, none⟩) n n, .func (.func 181) #[] #[]] 224)) (w.alloc (.cells #[.slice oa n cap, .slice (some ⟨g, 0, none⟩) n n, .func (.func 181) #[] #[]] 224))) := Below.refl _ _
  have HK : Hid _ := hk
  have HZ : Hid _ := h0
  have hn : n ≤ 9223372036854775807 := by obtain ⟨_, _, e, hx, _⟩ := h; rw [hl] at hx; have := hx.1; unfold maxLen at this; omega
  clear h hk h0 hS
  go_enter Tryz.func185, Tryz.ntmps185
  go_wp2_with fail
  refine (phAt_any S r _ x _ H.out HS.out).mono ?_; rintro e w1 ⟨rfl, hb1⟩
  have k1 : Hid (Below (w.heap.size + 1) (w.alloc (.cells #[.slice oa n cap, .slice (some ⟨g, 0, none⟩) n n, .func (.func 181) #[] #[]] 224)) w1) := below_of k0.out hb1
  have kb : Hid (Below w.heap.size w w1) := below_end k1.out
  clear hb1
  have y0 := box_at _ _ k1.out 0 (.slice oa n cap) rfl
  have y1 := box_at _ _ k1.out 1 (.slice (some ⟨g, 0, none⟩) n n) rfl
  have y2 := box_at _ _ k1.out 2 (.func (.func 181) #[] #[]) rfl
  rcases at_cases r x with e | ⟨k, hk, e, _⟩
  · have hB := HZ.out e
    injection hB with hB1 hB2 hB3
    subst hB1 hB2 hB3
    rw [e]
    have q2 := fun d os => cell_regrown y2 d os
    go_upto_region 4 with fail
    refine wp_region_head_tail 4 (by kernel_rfl) (by kernel_rfl) ?_
    simp only [List.take_succ_cons, List.take_zero]
    repeat (first | go_big_quiet_step (with_reducible exact endP_qs x _ _ _) | quiet_step (with_reducible exact endP_qs x _ _ _))
    refine wpQuiet_nil ?_
    rintro w2 ⟨p, rfl⟩
    simp only [List.drop_succ_cons, List.drop_zero]
    obtain ⟨w3, hw3⟩ : ∃ w3, w3 = grow (redrawn w1 p.d) p.os := ⟨_, rfl⟩
    have b3 : Hid (Below w.heap.size w w3) := by rw [hw3]; exact kb.out.trans ((below_regrown w1 p.d p.os).mono kb.out.size)
    rw [← hw3]
    clear hw3
    go_wp2_with fail
    refine (noneS_any _ _).mono ?_; rintro e w4 ⟨rfl, rfl⟩
    go_wp2_with fail
    go_ret
    exact ⟨rfl, b3.out⟩
  · rw [e]
    have hkn : k < n := by omega
    have yk : w1.cell? ⟨g, k, none⟩ = some (.slice ob nb cb) := (kb.out.cell (p := ⟨g, k, none⟩) hg).trans (HK.out k e)
    go_wp2_with fail
    go_ret
    exact ⟨rfl, kb.out⟩
theorem underTS : Tryz.prog.underlying 222 = some (.slice 22) := by kernel_rfl
theorem infoTS : (Tryz.prog.info? 22).map (fun i => (i.zero, i.size, i.bytes)) = some (some (.slice none 0 0), 1, 24) := by kernel_rfl
structure TbS (U : World) (g n : Nat) (r : List DRecPhase) (m : Nat) (X : World) : Prop where
  row : ∃ c : Array Value, X.heap[g]? = some (.cells c 22 (0, 0)) ∧ c.size = n * 1 ∧ ∀ i, i < n → n ≤ i + m → ∃ v, c[i]? = some v ∧ Row X U.heap.size 9 1 eS v (sltF 12 r (phN r i).1)
  but : But (fun k => k = g) U X
theorem TbS.grown {U : World} {g n : Nat} {r : List DRecPhase} {m : Nat} {A C : World} {row : Option Nat} (h : TbS U g n r m A) (hg : A.grownBy C row) (hr : ∀ q, row = some q → U.heap.size ≤ q ∧ ∃ o : Obj, A.heap[q]? = some o ∧ o.isCells = false) (hU : g < U.heap.size) : TbS U g n r m C := by
  obtain ⟨⟨c, h1, h2⟩, hb⟩ := h
  refine ⟨⟨c, (hg.block g (Array.getElem?_eq_some_iff.1 h1).1 (fun e => by have := (hr g e.symm).1; omega)).trans h1, h2.1, fun i hi him => ?_⟩, but_grown hb hg (fun q e => (hr q e).1)⟩
  obtain ⟨v, hv, hrow⟩ := h2.2 i hi him
  refine ⟨v, hv, Row.block hrow (fun q hq => hg.block q (World.ownsRow.lt hrow q hq).2 (fun e => ?_))⟩
  obtain ⟨o, ho, hn⟩ := (hr q e.symm).2
  obtain ⟨cur, hcur⟩ := Row.typed hrow q hq
  rw [hcur] at ho
  cases ho; cases hn
set_option maxRecDepth 100000 in
set_option maxHeartbeats 4000000 in
theorem tabS_any (S : Nat → Prop) (r : List DRecPhase) (oa : Option Addr) (n cap : Nat) (w : World) (hR : RecP r) (h : AtL S w r (.slice oa n cap)) (hl : r.length = n) (hS : ∀ b, S b → b < w.heap.size) :
    Calls Tryz.prog 184 #[.slice oa n cap, .func (.func 181) #[] #[], .func (.func 182) #[] #[]] w fun e w' => ∃ g, e = .returned (.agg #[.slice oa n cap, .slice (some ⟨g, 0, none⟩) n n, .func (.func 181) #[] #[]]) ∧ (g < w'.heap.size ∧ ∀ i, i < n → ∃ v, w'.cell? ⟨g, i, none⟩ = some v ∧ Row w' w.heap.size 9 1 eS v (sltF 12 r (phN r i).1)) ∧ Below w.heap.size w w' := by
  have h1 := hR.1.1
  have h2 := hR.1.2
  rw [hl] at h1 h2
  have HR : Hid (RecP r) := hR
  have HL : Hid (r.length = n) := hl
  have H : Hid _ := h.ups hS
  have HS : Hid (∀ b, S b → b < w.heap.size) := hS
  clear h hS hl hR
  obtain ⟨i0, hi, hz0, hz1, hz2⟩ := info_parts infoTS
  obtain ⟨M, hM⟩ : ∃ M, M = madeCells (.slice none 0 0 : Value).cells ((n : Int).toNat * i0.size) := ⟨_, rfl⟩
  have hMs : M.size = n * 1 := by rw [hM, size_madeCells, hz1]; simp
  have hmk : ∀ W : World, (Instr.makeSlice 222 (.int .i64 (n : Int)) (.int .i64 (n : Int))).run Tryz.prog W = .ok (.slice (some ⟨W.heap.size, 0, none⟩) n n) (W.alloc (.cells M 22)) := fun W => by
    have h := run_make (P := Tryz.prog) W 222 22 i0 (.slice none 0 0) underTS hi hz0 .i64 .i64 (n : Int) (n : Int) (by omega) (by omega) (by rw [hz2]; omega) (by omega)
    rw [← hM] at h
    simpa using h
  have HMS : Hid (M.size = n * 1) := hMs
  clear hM hMs hi hz0 hz1 hz2 i0
  obtain ⟨U, hU⟩ : ∃ u, u = ((((w.alloc (.cells #[.func (.func 182) #[] #[]] 221)).alloc (.cells #[.slice none 0 0, .slice none 0 0, .nilFunc] 224)).alloc (.cells M 22)).alloc (.cells #[.slice oa n cap, .slice (some ⟨w.heap.size + 1 + 1, 0, none⟩) n n, .func (.func 181) #[] #[]] 224)).alloc (.cells #[.slice oa n cap] 46) := ⟨_, rfl⟩
  have EU : Hid (U = ((((w.alloc (.cells #[.func (.func 182) #[] #[]] 221)).alloc (.cells #[.slice none 0 0, .slice none 0 0, .nilFunc] 224)).alloc (.cells M 22)).alloc (.cells #[.slice oa n cap, .slice (some ⟨w.heap.size + 1 + 1, 0, none⟩) n n, .func (.func 181) #[] #[]] 224)).alloc (.cells #[.slice oa n cap] 46)) := hU
  have sU : w.heap.size + 5 ≤ U.heap.size ∧ U.heap.size ≤ w.heap.size + 5 := by rw [hU]; simp
  have BU : Hid (Below w.heap.size w U) := by rw [hU]; exact (((((Below.refl _ _).alloc (Nat.le_refl _) _).alloc (by simp) _).alloc (by simp; omega) _).alloc (by simp; omega) _).alloc (by simp; omega) _
  have P5 : Hid (U.heap[w.heap.size]? = some (.cells #[.func (.func 182) #[] #[]] 221 (0, 0))) := by rw [hU]; exact alloc_up _ (alloc_up _ (alloc_up _ (alloc_up _ (alloc_at _ rfl))))
  have P6 : Hid (U.heap[w.heap.size + 1]? = some (.cells #[.slice none 0 0, .slice none 0 0, .nilFunc] 224 (0, 0))) := by rw [hU]; exact alloc_up _ (alloc_up _ (alloc_up _ (alloc_at _ (by simp))))
  have PG : Hid (U.heap[w.heap.size + 1 + 1]? = some (.cells M 22 (0, 0))) := by rw [hU]; exact alloc_up _ (alloc_up _ (alloc_at _ (by simp)))
  have P7 : Hid (U.heap[w.heap.size + 1 + 1 + 1]? = some (.cells #[.slice oa n cap, .slice (some ⟨w.heap.size + 1 + 1, 0, none⟩) n n, .func (.func 181) #[] #[]] 224 (0, 0))) := by rw [hU]; exact alloc_up _ (alloc_at _ (by simp))
  have PB : Hid (U.heap[w.heap.size + 1 + 1 + 1 + 1]? = some (.cells #[.slice oa n cap] 46 (0, 0))) := by rw [hU]; exact alloc_at _ (by simp)
  clear hU
  refine (callsIn_wide (n := 6)).1 ?_
  refine callsIn_of_wp_marks Tryz.func184 rfl trivial ?_ rfl
  simp only [Tryz.ntmps184, List.size_toArray, List.length_cons, List.length_nil, Nat.reduceAdd, Nat.reduceSub, Array.replicate_succ, Array.replicate_zero, List.push_toArray, List.append_toArray, List.nil_append, List.cons_append]
  refine wpIn_wide.2 ?_
  go_wp2_with fail
  refine (back_any oa n cap _).mono ?_; rintro e w' ⟨rfl, hw'⟩
  rw [← EU.out] at hw'
  subst hw'
  go_wp2_with fail
  refine (wpIn_wide (n := 5)).1 ?_
  refine wpIn_range_fitp (F := Fence.wide) rfl (by omega) (gf := 169) (lb := #[.pointer (some ⟨w.heap.size + 1 + 1 + 1 + 1, 0, none⟩)]) rfl trivial (enters_of Tryz.func169 (by kernel_rfl) rfl)
    (back_fit 4 (w.heap.size + 1 + 1 + 1 + 1) w.heap.size (by omega) S oa cap n r (fun _ k => k = w.heap.size + 1 + 1) w' PB.out (H.out _ BU.out) HS.out BU.out.size HL.out (by omega)) (fun _ _ _ _ _ _ _ h _ _ => h) (Below.refl _ _) (fun _ => rfl) (fun k hk e => by omega) BU.out.size
    (fun pre X => TbS w' (w.heap.size + 1 + 1) n r pre.length X) (fun pre A C row hI hg hr => hI.grown hg hr (by omega)) (fun pre X hI => st_one (by have := hI.but.size; omega)) ⟨⟨M, PG.out, by have := HMS.out; omega, fun i h1 h2 => by simp at h2; omega⟩, But.refl _ _⟩ (fun _ _ _ _ _ h _ => h) ?round ?done
  case round =>
    intro l pre y X hI hlen
    obtain ⟨f, ef⟩ : ∃ f, phN r y = f := ⟨_, rfl⟩
    have hv : phV2 r y = #[.int .i64 (y : Int), phC f] := by unfold phV2; rw [ef]
    obtain ⟨nm, kd, a, b', n', wi, th, el⟩ := f
    simp only [phC] at hv
    rw [hv]
    clear hv
    apply Exists.intro
    apply Exists.intro
    refine ⟨?ba, ?assign, ?body⟩
    case assign =>
      intro K hK
      gi_wp2
      exact hK
    case ba => exact (Below.refl _ _).alloc (Nat.le_refl _) _
    case body =>
      intro X0 V _ hV hy hput
      obtain ⟨kk, oo, oo', hk1, hk2, hV2⟩ := hput
      have hne : kk ≠ X.heap.size := fun e => by
        subst e
        rw [heap_alloc_new] at hk1
        cases hk1; cases hk2
      have XP : V.heap[X.heap.size]? = some (.cells #[.string nm, .int .i64 kd, .string a, .string b', .int .i64 n', .int .i64 wi, .string th, .string el] 75 (0, 0)) := by rw [hV2]; exact (World.putObj_heap_other (by omega)).trans (heap_alloc_new X _)
      clear hV2 hk1 hk2 hne hI
      obtain ⟨z0, _⟩ := cell_row XP 0 (.string nm) rfl
      obtain ⟨z1, _⟩ := cell_row XP 1 (.int .i64 kd) rfl
      obtain ⟨z2, _⟩ := cell_row XP 2 (.string a) rfl
      obtain ⟨z3, _⟩ := cell_row XP 3 (.string b') rfl
      obtain ⟨z4, _⟩ := cell_row XP 4 (.int .i64 n') rfl
      obtain ⟨z5, _⟩ := cell_row XP 5 (.int .i64 wi) rfl
      obtain ⟨z6, _⟩ := cell_row XP 6 (.string th) rfl
      obtain ⟨z7, _⟩ := cell_row XP 7 (.string el) rfl
      obtain ⟨⟨c, hc, hcs, hct⟩, hbut⟩ := hV
      have sV := hbut.size
      have yn : y < n := by omega
      have V5 := (hbut.block w.heap.size (by omega) (by omega)).trans P5.out
      have V7 := (hbut.block (w.heap.size + 1 + 1 + 1) (by omega) (by omega)).trans P7.out
      obtain ⟨p5, _⟩ := cell_row V5 0 (.func (.func 182) #[] #[]) rfl
      obtain ⟨t0, _⟩ := cell_row V7 0 (.slice oa n cap) rfl
      obtain ⟨t1, _⟩ := cell_row V7 1 (.slice (some ⟨w.heap.size + 1 + 1, 0, none⟩) n n) rfl
      obtain ⟨t2, _⟩ := cell_row V7 2 (.func (.func 181) #[] #[]) rfl
      have qz0 := fun d os => cell_regrown z0 d os
      have qz1 := fun d os => cell_regrown z1 d os
      have qz2 := fun d os => cell_regrown z2 d os
      have qz3 := fun d os => cell_regrown z3 d os
      have qz4 := fun d os => cell_regrown z4 d os
      have qz5 := fun d os => cell_regrown z5 d os
      have qz6 := fun d os => cell_regrown z6 d os
      have qz7 := fun d os => cell_regrown z7 d os
      have qt0 := fun d os => cell_regrown t0 d os
      have qt1 := fun d os => cell_regrown t1 d os
      have qt2 := fun d os => cell_regrown t2 d os
      have q5 := fun d os => cell_regrown p5 d os
      clear XP V5 V7
      have BUT : Hid (But (fun k => k = w.heap.size + 1 + 1) w' V) := hbut
      have HC : Hid (V.heap[w.heap.size + 1 + 1]? = some (.cells c 22 (0, 0))) := hc
      have HCT : Hid (∀ i, i < n → n ≤ i + pre.length → ∃ v, c[i]? = some v ∧ Row V w'.heap.size 9 1 eS v (sltF 12 r (phN r i).1)) := hct
      have HCS : Hid (c.size = n * 1) := by show _ = _; omega
      have HY : Hid (y = n - 1 - pre.length) := hy
      have BV : Hid (Below w.heap.size w V) := BU.out.trans (hbut.below (B := w.heap.size) (fun b hb => by omega) (by omega))
      have hdV : Hid (Below V.heap.size V V.drew) := (Below.refl _ _).drew
      have hyr : y < r.length := by have := HL.out; omega
      have hri : Hid (r[y]'hyr = (nm, kd, a, b', n', wi, th, el)) := by show _ = _; rw [← ef, phN_at hyr]
      have HLT := later_of HR.out (i := y) hyr
      rw [hri.out] at HLT
      have LAT : Hid _ := HLT
      have HWI := (ph_name (step_of HR.out (k := y) hyr).1).2.2.1
      rw [hri.out] at HWI
      have hwi : 1 ≤ wi ∧ wi ≤ 1000 := HWI
      have HP := (step_of HR.out (k := y) hyr).1
      rw [hri.out] at HP
      have HKD : Hid (kd = 1 ∨ kd = 2 ∨ kd = 3 ∨ kd = 4 ∨ kd = 5) := kind_of HP
      have HZA : Hid (a.size ≤ 8) := name_le (ph_args HP).1
      have HZB : Hid (kd = 2 → b'.size ≤ 8) := fun e => name_le ((ph_args HP).2 e)
      clear HP
      have TOLD : Hid (∀ x, (∀ j : Nat, atI r x = (j : Int) → y < j) → ∃ o m k, (∀ u, Below V.heap.size V u → ∀ j : Nat, atI r x = (j : Int) → u.cell? ⟨w.heap.size + 1 + 1, j, none⟩ = some (.slice o m k)) ∧ (atI r x = -1 → Value.slice o m k = .slice none 0 0) ∧ Row V w'.heap.size 9 1 eS (.slice o m k) (sltF 12 r x)) := fun x hlater => by
        rcases at_cases r x with e | ⟨k', hk', e, _⟩
        · refine ⟨none, 0, 0, fun u hu j hj => by omega, fun _ => rfl, ?_⟩
          rw [slt_none e 12]; exact Row.nil _ _ _ _ _
        · have hkl := hlater k' e
          have hlen := HL.out
          have hyy := HY.out
          obtain ⟨v, hv, hrow⟩ := HCT.out k' (by omega) (by omega)
          rw [phN_at hk', ← slt_at HR.out hk' e 11] at hrow
          obtain ⟨o, k, hf⟩ := Row.form hrow
          subst hf
          refine ⟨o, _, k, fun u hu j hj => ?_, fun h => by omega, hrow⟩
          obtain rfl : j = k' := by omega
          exact (hu.cell (p := ⟨w.heap.size + 1 + 1, j, none⟩) (show w.heap.size + 1 + 1 < V.heap.size by omega)).trans (cell_row HC.out j _ hv).1
      have HSV : Hid (∀ u, Below V.heap.size V u → ∀ b, S b → b < u.heap.size) := fun u hu b hb => by have := HS.out b hb; have := hu.size; omega
      have HAV : Hid (∀ u, Below V.heap.size V u → AtL S u r (.slice oa n cap)) := fun u hu => H.out u (BV.out.trans (hu.mono BV.out.size))
      clear hbut hc hcs hct hy ef HLT HWI
      gi_wp2
      refine wpIn_region_mix 14 [0, 1, 2, 3, 4, 5, 6, 7, 9, 10, 11] (by kernel_rfl) (by kernel_rfl) (by kernel_rfl) ?_
      simp only [List.filterMap_cons, List.filterMap_nil, List.getElem?_cons_succ, List.getElem?_cons_zero]
      repeat (first | go_big_quiet_step (fail) | quiet_step (fail))
      refine wpQuiet_nil ?_
      clear p5 t0 t1 t2 q5 qt0 qt1 qt2 z0 z1 z2 z3 z4 z5 z6 z7 qz0 qz1 qz2 qz3 qz4 qz5 qz6 qz7
      obtain ⟨o1, m1, k1, ta1, tb1, tr1⟩ := TOLD.out th LAT.out.1
      obtain ⟨o2, m2, k2, ta2, tb2, tr2⟩ := TOLD.out el LAT.out.2
      have TA1 : Hid _ := ta1
      have TB1 : Hid _ := tb1
      have TR1 : Hid (Row V w'.heap.size 9 1 eS (.slice o1 m1 k1) (sltF 12 r th)) := tr1
      have TA2 : Hid _ := ta2
      have TB2 : Hid _ := tb2
      have TR2 : Hid (Row V w'.heap.size 9 1 eS (.slice o2 m2 k2) (sltF 12 r el)) := tr2
      clear ta1 tb1 tr1 ta2 tb2 tr2
      have C1 : Hid _ := ofS_any S r oa n cap th (w.heap.size + 1 + 1) o1 m1 k1 V.drew (HAV.out _ hdV.out) HL.out (HSV.out _ hdV.out) (by have := hdV.out.size; omega) (TA1.out _ hdV.out) TB1.out
      refine call1 (md := .any) (f := 2) (i := 8) (dc := 28) (fn := 185) ⟨rfl, rfl, rfl, by decide⟩ (by kernel_rfl) ?run1 (Calls.mono C1.out ?_)
      case run1 => go_simp
      rintro e u1 ⟨rfl, hb1⟩
      have B1 : Hid (Below V.heap.size V u1) := hdV.out.trans hb1
      clear hb1
      refine ⟨_, rfl, regrown_of_below B1.out, ?_⟩
      simp only [Act.put, List.setIfInBounds_toArray, List.set_cons_zero, List.set_cons_succ]
      have C2 : Hid _ := ofS_any S r oa n cap el (w.heap.size + 1 + 1) o2 m2 k2 u1 (HAV.out _ B1.out) HL.out (HSV.out _ B1.out) (by have := B1.out.size; omega) (TA2.out _ B1.out) TB2.out
      refine call1 (md := .any) (f := 1) (i := 12) (dc := 32) (fn := 185) ⟨rfl, rfl, rfl, by decide⟩ (by kernel_rfl) ?run2 (Calls.mono C2.out ?_)
      case run2 => go_simp
      rintro e u2 ⟨rfl, hb2⟩
      have B2 : Hid (Below V.heap.size V u2) := B1.out.trans (hb2.mono B1.out.size)
      clear hb2
      refine ⟨_, rfl, regrown_of_below B2.out, ?_⟩
      simp only [Act.put, List.setIfInBounds_toArray, List.set_cons_zero, List.set_cons_succ]
      have C3 : Hid _ := usedS_any (fun q => w'.heap.size ≤ q ∧ q < u2.heap.size) (fun q => w'.heap.size ≤ q ∧ q < u2.heap.size) (sltF 12 r th) (sltF 12 r el) (.slice o1 m1 k1) (.slice o2 m2 k2) nm a b' th el kd n' wi u2 HKD.out HZA.out HZB.out (flatS.row_at (Row.below TR1.out B2.out) (fun q hq => World.ownsRow.lt (Row.below TR1.out B2.out) q hq) (fun y hy => Nat.le_trans (slt_names HR.out 12 th y hy) (by decide))) (flatS.row_at (Row.below TR2.out B2.out) (fun q hq => World.ownsRow.lt (Row.below TR2.out B2.out) q hq) (fun y hy => Nat.le_trans (slt_names HR.out 12 el y hy) (by decide))) (fun q hq => hq.2) (fun q hq => hq.2) (slt_asc r 12 th) (slt_small r (Nat.le_refl _) th) (slt_small r (Nat.le_refl _) el) (slt_names HR.out 12 th) (slt_names HR.out 12 el)
      refine call1 (md := .any) (f := 0) (i := 13) (dc := 33) (fn := 182) ⟨rfl, rfl, rfl, by decide⟩ (by kernel_rfl) ?run3 (Calls.mono C3.out ?_)
      case run3 => go_simp
      rintro e u3 ⟨q3, rfl, hr3, hb3⟩
      have B3 : Hid (Below V.heap.size V u3) := B2.out.trans (hb3.mono B2.out.size)
      obtain ⟨L3, hL3⟩ : ∃ L, L = bothL (bothL (sltF 12 r th) (sltF 12 r el)) (ownL kd a b') := ⟨_, rfl⟩
      rw [← hL3] at hr3
      have HL3 : Hid (L3 = sltF 12 r (phN r y).1) := by show _ = _; rw [hL3, phN_at hyr, slt_step HR.out hyr, hri.out]
      have Q3 : Hid (Row u3 w'.heap.size 9 1 eS q3 L3) := hr3.low (by have := B2.out.size; omega)
      clear hr3 hL3
      obtain ⟨o3, k3, hq3⟩ := Row.form Q3.out
      subst hq3
      clear hb3
      refine ⟨_, rfl, regrown_of_below B3.out, ?_⟩
      simp only [Act.put, List.setIfInBounds_toArray, List.set_cons_zero, List.set_cons_succ]
      refine ⟨by kernel_rfl, ?_⟩
      simp only [List.drop_succ_cons, List.drop_zero]
      have G3 : Hid (u3.heap[w.heap.size + 1 + 1]? = some (.cells c 22 (0, 0))) := (B3.out.block _ (by omega)).trans HC.out
      obtain ⟨v0, hv0⟩ : ∃ v, c[y]? = some v := ⟨_, Array.getElem?_eq_getElem (by have := HCS.out; omega)⟩
      obtain ⟨g0, f0⟩ := cell_row G3.out y v0 hv0
      gi_wp2
      have BB : But (fun k => k = w.heap.size + 1 + 1) V (u3.setCell ⟨w.heap.size + 1 + 1, y, none⟩ (.slice o3 L3.length k3)) := But.set (S := fun k => k = w.heap.size + 1 + 1) (g := w.heap.size + 1 + 1) (But.of_below B3.out) rfl y _
      refine ⟨but_keeps BB HC.out, but_kpo BB (by omega) (by omega), ⟨⟨_, set_row G3.out y _, by have := HCS.out; simp only [Array.size_setIfInBounds]; omega, fun i h1 h2 => ?_⟩, BUT.out.trans BB⟩⟩
      rw [List.length_append] at h2
      have hlen1 : [y].length = 1 := rfl
      have hyy := HY.out
      have hcs := HCS.out
      by_cases e : i = y
      · subst e
        refine ⟨.slice o3 L3.length k3, ?_, ?_⟩
        · simp only [Array.getElem?_setIfInBounds]
          rw [if_pos True.intro, if_pos (by omega)]
        · rw [← HL3.out]
          exact Row.block Q3.out (fun q hq => Below.heap_setCell _ _ _ _ (by have := (World.ownsRow.lt Q3.out q hq).1; show q ≠ w.heap.size + 1 + 1; omega))
      · have hold := HCT.out i h1 (by omega)
        obtain ⟨v, hv, hrow⟩ := hold
        have hrow3 := Row.below hrow B3.out
        refine ⟨v, ?_, Row.block hrow3 (fun q hq => Below.heap_setCell _ _ _ _ (by have := (World.ownsRow.lt hrow3 q hq).1; show q ≠ w.heap.size + 1 + 1; omega))⟩
        simp only [Array.getElem?_setIfInBounds]
        rw [if_neg (by omega)]
        exact hv
  case done =>
    rintro D xs Z hD hDZ hS hI hK hko
    subst hS
    rw [bk_len] at hI
    obtain ⟨⟨c, hc, hcs, hct⟩, hbut⟩ := hI
    have sZ := hbut.size
    have Z7 := (hbut.block (w.heap.size + 1 + 1 + 1) (by omega) (by omega)).trans P7.out
    have Z6 := (hbut.block (w.heap.size + 1) (by omega) (by omega)).trans P6.out
    have BZ : Hid (Below w.heap.size w Z) := BU.out.trans (hbut.below (B := w.heap.size) (fun b hb => by omega) (by omega))
    have KD : Hid (Z.heap[D]? = some (.deferred (some []))) := hK
    have HC : Hid (Z.heap[w.heap.size + 1 + 1]? = some (.cells c 22 (0, 0))) := hc
    have HCT : Hid (∀ i, i < n → n ≤ i + n → ∃ v, c[i]? = some v ∧ Row Z w'.heap.size 9 1 eS v (sltF 12 r (phN r i).1)) := hct
    obtain ⟨l0, _⟩ := cell_row Z7 0 (.slice oa n cap) rfl
    obtain ⟨p0', f0'⟩ := cell_row Z6 0 (.slice none 0 0) rfl
    obtain ⟨l1, _⟩ := cell_row Z7 1 (.slice (some ⟨w.heap.size + 1 + 1, 0, none⟩) n n) rfl
    obtain ⟨p1', f1'⟩ := cell_row Z6 1 (.slice none 0 0) rfl
    obtain ⟨l2, _⟩ := cell_row Z7 2 (.func (.func 181) #[] #[]) rfl
    obtain ⟨p2', f2'⟩ := cell_row Z6 2 (.nilFunc) rfl
    obtain ⟨F0, F1, F2, F3⟩ := ret3 Z6 (.slice oa n cap) (.slice (some ⟨w.heap.size + 1 + 1, 0, none⟩) n n) (.func (.func 181) #[] #[])
    have HF0 : Hid _ := F0
    have HF1 : Hid _ := F1
    have HF2 : Hid (_ ≤ _ ∧ _ ≤ _) := ⟨Nat.le_of_eq F2, Nat.le_of_eq F2.symm⟩
    have HF3 : Hid _ := F3
    clear F0 F1 F2 F3 hK hko hbut hc hcs hct
    go_wp2_with fail
    obtain ⟨FW, hF⟩ : ∃ u, u = ((Z.setCell ⟨w.heap.size + 1, 0, none⟩ (.slice oa n cap)).setCell ⟨w.heap.size + 1, 1, none⟩ (.slice (some ⟨w.heap.size + 1 + 1, 0, none⟩) n n)).setCell ⟨w.heap.size + 1, 2, none⟩ (.func (.func 181) #[] #[]) := ⟨_, rfl⟩
    have F0 := HF0.out
    have F1 := HF1.out
    have F2 := HF2.out
    have F3 := HF3.out
    rw [← hF]
    rw [← hF] at F0 F1 F2 F3
    clear hF HF0 HF1 HF2 HF3
    have T1 : FW.heap[D]? = some (.deferred (some [])) := (F1 D (by omega)).trans KD.out
    refine ⟨by simp, .inl ⟨_, _, rfl, run_takeDeferred T1, ?_⟩⟩
    obtain ⟨FF, hFF⟩ : ∃ u, u = FW.putObj D (.deferred none) := ⟨_, rfl⟩
    rw [← hFF]
    have same : ∀ g, g ≠ D → FF.heap[g]? = FW.heap[g]? := fun g h1 => by rw [hFF]; exact World.putObj_heap_other (by omega)
    have sFF : FF.heap.size = FW.heap.size := by rw [hFF]; simp
    have F0' := (same (w.heap.size + 1) (by omega)).trans F0
    have s0 := (cell_row F0' 0 (.slice oa n cap) rfl).1
    have s1 := (cell_row F0' 1 (.slice (some ⟨w.heap.size + 1 + 1, 0, none⟩) n n) rfl).1
    have s2 := (cell_row F0' 2 (.func (.func 181) #[] #[]) rfl).1
    have BFF : Below w.heap.size w FF := by
      have h1 : Below w.heap.size w FW := BZ.out.trans (F3.mono (by omega))
      refine ⟨?_, ?_, ?_, by rw [sFF]; exact h1.size, fun b hb => (same b (by omega)).trans (h1.block b hb)⟩
      · rw [hFF]; exact h1.os
      · rw [hFF]; exact h1.tape
      · rw [hFF]; exact h1.output
    have GF : FF.heap[w.heap.size + 1 + 1]? = some (.cells c 22 (0, 0)) := (same _ (by omega)).trans ((F1 _ (by omega)).trans HC.out)
    exact ⟨.agg #[.slice oa n cap, .slice (some ⟨w.heap.size + 1 + 1, 0, none⟩) n n, .func (.func 181) #[] #[]], (by simp [results, Tryz.results184, go_sem, s0, s1, s2]), w.heap.size + 1 + 1, rfl, ⟨(Array.getElem?_eq_some_iff.1 GF).1, fun i hi => by
      obtain ⟨v, hv, hrow⟩ := HCT.out i hi (by omega)
      refine ⟨v, (cell_row GF i _ hv).1, (Row.block hrow (fun q hq => (same q (fun e => ?_)).trans (F1 q (by have := (World.ownsRow.lt hrow q hq).1; omega)))).low (by omega)⟩
      obtain ⟨cur, hcur⟩ := Row.typed hrow q hq
      rw [e, KD.out] at hcur
      cases hcur⟩, BFF⟩
end Go.Proofs.YtobchllaopdchacGreat

namespace Go.Proofs.YtobchllaopdchacGreat
open Go.RowKit
set_option maxRecDepth 100000 in
set_option maxHeartbeats 4000000 in
theorem slotsI_any (S : Nat → Prop) (r : List DRecPhase) (v : Value) (x : ByteArray) (w : World) (h : AtL S w r v) (hS : ∀ b, S b → b < w.heap.size) (ht : totL r ≤ 1048576) (_ : x.size ≤ 1048576) :
    Calls Tryz.prog 143 #[v, .string x] w fun e w' => ∃ q, e = .returned q ∧ OnL (fun b => w.heap.size ≤ b ∧ b < w'.heap.size) w' (slL r x) q ∧ Below w.heap.size w w' := by
  obtain ⟨oa, cap, ev, _⟩ := id h
  obtain ⟨n, en⟩ : ∃ n, r.length = n := ⟨_, rfl⟩
  rw [en] at ev
  subst ev
  have HL : Hid (r.length = n) := en
  have H : Hid _ := h.ups hS
  have HS : Hid _ := lt_up hS
  have B0 : Hid (Below w.heap.size w w) := Below.refl _ _
  clear h hS en
  cases hr : recB r
  · have hsl : slL r x = [] := by unfold slL; rw [hr]; rfl
    rw [hsl]
    go_enter Tryz.func143, Tryz.ntmps143
    go_wp2_with fail
    refine (okI_any S r _ _ (H.out _ B0.out) (HS.out _ B0.out) ht).mono ?_; rintro e w1 ⟨rfl, hb1⟩
    have B1 : Hid (Below w.heap.size w w1) := hb1
    clear hb1
    rw [hr]
    go_wp2_with fail
    go_ret
    exact ⟨_, rfl, onS (Row.nil w1 w.heap.size 9 1 eS) (fun g hg => by cases hg) (fun y hy => by cases hy), B1.out⟩
  · have HR : Hid (RecP r) := rec_iff.1 hr
    have hsl : slL r x = sltF 12 r x := by unfold slL; rw [hr]; rfl
    rw [hsl]
    go_enter Tryz.func143, Tryz.ntmps143
    go_wp2_with fail
    refine (okI_any S r _ _ (H.out _ B0.out) (HS.out _ B0.out) ht).mono ?_; rintro e w1 ⟨rfl, hb1⟩
    have B1 : Hid (Below w.heap.size w w1) := hb1
    clear hb1
    rw [hr]
    go_wp2_with fail
    refine (tabS_any S r oa n cap _ HR.out (H.out _ B1.out) HL.out (HS.out _ B1.out)).mono ?_; rintro e w2 ⟨g, rfl, ⟨hg, hc⟩, hb2⟩
    have B2 : Hid (Below w.heap.size w w2) := B1.out.trans (hb2.mono B1.out.size)
    have HC : Hid _ := hc
    have s1 := B1.out.size
    clear hb2 hc
    have TOLD : ∃ o m k, (∀ j : Nat, atI r x = (j : Int) → w2.cell? ⟨g, j, none⟩ = some (.slice o m k)) ∧ (atI r x = -1 → Value.slice o m k = .slice none 0 0) ∧ Row w2 w1.heap.size 9 1 eS (.slice o m k) (sltF 12 r x) := by
      rcases at_cases r x with e | ⟨k', hk', e, _⟩
      · refine ⟨none, 0, 0, fun j hj => by omega, fun _ => rfl, ?_⟩
        rw [slt_none e 12]; exact Row.nil _ _ _ _ _
      · obtain ⟨v, hv, hrow⟩ := HC.out k' (by have := HL.out; omega)
        rw [phN_at hk', ← slt_at HR.out hk' e 11] at hrow
        obtain ⟨o, k, hf⟩ := Row.form hrow
        subst hf
        refine ⟨o, _, k, fun j hj => ?_, fun h => by omega, hrow⟩
        obtain rfl : j = k' := by omega
        exact hv
    obtain ⟨o, m, k, ta, tb, tr⟩ := TOLD
    have TR : Hid (Row w2 w1.heap.size 9 1 eS (.slice o m k) (sltF 12 r x)) := tr
    have C : Hid _ := ofS_any S r oa n cap x g o m k w2 (H.out _ B2.out) HL.out (HS.out _ B2.out) hg ta tb
    clear ta tb tr
    go_wp2_with fail
    refine Calls.mono C.out ?_
    rintro e w3 ⟨rfl, hb3⟩
    have B3 : Hid (Below w.heap.size w w3) := B2.out.trans (hb3.mono B2.out.size)
    have R3 : Hid (Row w3 w.heap.size 9 1 eS (.slice o m k) (sltF 12 r x)) := (Row.below TR.out hb3).low (by omega)
    clear hb3
    go_wp2_with fail
    go_ret
    exact ⟨_, rfl, onS R3.out (fun q hq => World.ownsRow.lt R3.out q hq) (fun y hy => Nat.le_trans (slt_names HR.out 12 x y hy) (by decide)), B3.out⟩
end Go.Proofs.YtobchllaopdchacGreat
