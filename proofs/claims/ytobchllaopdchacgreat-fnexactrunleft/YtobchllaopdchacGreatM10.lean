/-
  Several texts in one.
-/
import Derived.Test.YtobchllaopdchacGreatM7
import Derived.Test.YtobchllaopdchacGreatM9
import Derived.Test.YtobchllaopdchacGreatM2
import Derived.Test.YtobchllaopdchacGreatM3
import Derived.Test.YtobchllaopdchacGreatM4
namespace Go.Proofs.YtobchllaopdchacGreat
open Go.RowKit Go.Sort
noncomputable def tgL (b : DRunBatch) (x : ByteArray) : List ByteArray := if runB b = true then thL b.2.2.1 (sltF 12 b.2.1 x) else []
set_option maxRecDepth 100000 in
set_option maxHeartbeats 8000000 in
theorem thgX_any (S : Nat → Prop) (nm : ByteArray) (r : List DRecPhase) (sl : List DRunSlot) (at_ : ByteArray) (si st : Int) (o1 o2 : Option Addr) (n1 k1 n2 k2 : Nat) (x : ByteArray) (w : World) (hn : nm.size ≤ maxLen) (hr : AtL S w r (.slice o1 n1 k1)) (h : AtL S w sl (.slice o2 n2 k2)) (hS : ∀ b, S b → b < w.heap.size) :
    Calls Tryz.prog 60 #[.agg #[.string nm, .slice o1 n1 k1, .slice o2 n2 k2, .string at_, .int .i64 si, .int .i64 st], .string x] w fun e w' => ∃ q, e = .returned q ∧ w'.ownsRow w.heap.size 9 1 q (tgL (nm, r, sl, at_, si, st) x).length ((tgL (nm, r, sl, at_, si, st) x).map .string) ∧ Below w.heap.size w w' := by
  have HN : Hid (nm.size ≤ maxLen) := hn
  obtain ⟨G, hG⟩ : ∃ G, G = tgL (nm, r, sl, at_, si, st) x := ⟨_, rfl⟩
  rw [← hG]
  have TG : Hid (G = if runB (nm, r, sl, at_, si, st) = true then thL sl (sltF 12 r x) else []) := hG
  clear hG
  obtain ⟨W, EW, BW, RW, sW⟩ := box_new w #[.string nm, .slice o1 n1 k1, .slice o2 n2 k2, .string at_, .int .i64 si, .int .i64 st] 49
  have BOX : Hid (∀ u, Below W.heap.size W u → u.heap[w.heap.size]? = some (.cells #[.string nm, .slice o1 n1 k1, .slice o2 n2 k2, .string at_, .int .i64 si, .int .i64 st] 49 (0, 0)) ∧ Below w.heap.size w u) := fun u hu => ⟨(hu.block _ (by omega)).trans RW.out, BW.out.trans (hu.mono (by omega))⟩
  have HR : Hid _ := hr.ups hS
  have HA : Hid _ := h.ups hS
  have HS : Hid _ := lt_up hS
  clear h hr hS hn
  have h0 := fun u (hu : Below W.heap.size W u) => cell_row (BOX.out u hu).1
  have Y : Hid (∀ u, Below W.heap.size W u → u.cell? ⟨w.heap.size, 0, none⟩ = some (.string nm) ∧ u.cell? ⟨w.heap.size, 1, none⟩ = some (.slice o1 n1 k1) ∧ u.cell? ⟨w.heap.size, 2, none⟩ = some (.slice o2 n2 k2) ∧ u.cell? ⟨w.heap.size, 3, none⟩ = some (.string at_) ∧ u.cell? ⟨w.heap.size, 4, none⟩ = some (.int .i64 si) ∧ u.cell? ⟨w.heap.size, 5, none⟩ = some (.int .i64 st)) := fun u hu =>
    ⟨(h0 u hu 0 _ rfl).1, (h0 u hu 1 _ rfl).1, (h0 u hu 2 _ rfl).1, (h0 u hu 3 _ rfl).1, (h0 u hu 4 _ rfl).1, (h0 u hu 5 _ rfl).1⟩
  clear h0
  obtain ⟨y0, y1, y2, y3, y4, y5⟩ := Y.out W (Below.refl _ _)
  have BWW := BW.out
  have szW := BWW.size
  go_enter Tryz.func60, Tryz.ntmps60
  go_upto_region 1 with fail
  rw [← EW.out]
  go_wp2_with fail
  refine (runX_any S nm r sl at_ si st o1 o2 n1 k1 n2 k2 W HN.out (HR.out _ BW.out) (HA.out _ BW.out) (HS.out _ BW.out)).mono ?_; rintro e w1 ⟨rfl, hb1⟩
  have B1 : Hid (Below W.heap.size W w1) := hb1
  have BW1 : Hid (Below w.heap.size w w1) := (BOX.out w1 hb1).2
  clear y0 y1 y2 y3 y4 y5 hb1
  obtain ⟨y0, y1, y2, y3, y4, y5⟩ := Y.out w1 B1.out
  cases c : runB (nm, r, sl, at_, si, st)
  · rw [c] at TG
    obtain rfl : G = [] := TG.out
    clear y0 y1 y2 y3 y4 y5 szW BWW
    go_wp2_with fail
    go_ret
    have sz := BW1.out.size
    exact ⟨_, rfl, own_nil sz, BW1.out.alloc sz _⟩
  rw [c, if_pos rfl] at TG
  have HP := run_rec c
  have hR : RecP r := HP.1
  obtain ⟨L, hL⟩ : ∃ L, L = sltF 12 r x := ⟨_, rfl⟩
  have hll : L.length ≤ 8192 := by rw [hL]; exact slt_small r (by omega) _
  have HLL : Hid (L.length ≤ 8192) := hll
  have CS : Hid (∀ u, Below w.heap.size w u → Calls Tryz.prog 99 #[.slice o1 n1 k1, .string x] u fun e w' => ∃ q, e = .returned q ∧ w'.ownsRow u.heap.size 9 1 q L.length (L.map .string) ∧ Below u.heap.size u w') := fun u hu => by
    rw [hL]; exact sltX_any S r hR 12 _ _ u (Nat.le_refl _) (HR.out u hu) (HS.out u hu) (fun k hk => by have := hR.1; omega)
  rw [← hL] at TG
  have hG : G = thL sl L := TG.out
  subst hG
  have HDR : Hid (Below w1.heap.size w1 w1.drew) := (Below.refl _ _).drew
  have q0 := fun d os => cell_regrown y0 d os
  have q1 := fun d os => cell_regrown y1 d os
  have q2 := fun d os => cell_regrown y2 d os
  have q3 := fun d os => cell_regrown y3 d os
  have q4 := fun d os => cell_regrown y4 d os
  have q5 := fun d os => cell_regrown y5 d os
  clear hL HP hR hll TG y0 y1 y2 y3 y4 y5 szW BWW
  go_wp2_with fail
  refine wp_region_mix 5 [0, 1, 2, 3] (by kernel_rfl) (by kernel_rfl) ?_
  simp only [List.filterMap_cons, List.filterMap_nil, List.getElem?_cons_succ, List.getElem?_cons_zero]
  repeat (first | go_big_quiet_step (fail) | quiet_step (fail))
  refine wpQuiet_nil ?_
  clear q0 q1 q2 q3 q4 q5
  have bdr : Hid (Below w.heap.size w w1.drew) := BW1.out.trans (HDR.out.mono BW1.out.size)
  refine call1 (md := .any) (f := 0) (i := 4) (dc := 13) (fn := 99) ⟨rfl, rfl, rfl, by decide⟩ (by kernel_rfl) ?run ((CS.out w1.drew bdr.out).mono ?_)
  case run => go_simp
  rintro e u ⟨q, rfl, hq, hb1⟩
  have C1 : Hid (Below w1.heap.size w1 u) := HDR.out.trans (hb1.mono HDR.out.size)
  have BU : Hid (Below w.heap.size w u) := BW1.out.trans (C1.out.mono BW1.out.size)
  have RD : Hid (RdB u q L) := RdB.of hq
  refine ⟨_, rfl, regrown_of_below C1.out, ?_⟩
  clear hb1 hq
  refine ⟨by kernel_rfl, ?_⟩
  simp only [List.drop_succ_cons, List.drop_zero, Act.put, List.setIfInBounds_toArray, List.set_cons_zero, List.set_cons_succ]
  have s1 := BU.out.size
  go_wp2_with fail
  refine (thingsX_any S sl nm at_ si st o1 o2 n1 k1 n2 k2 L q u (HA.out _ BU.out) (HS.out _ BU.out) RD.out (by have := HLL.out; omega)).mono ?_; rintro e u2 ⟨g, cap, rfl, ho, hb2⟩
  have HO : Hid _ := ho
  have HB : Hid (Below w.heap.size w u2) := BU.out.trans (hb2.mono s1)
  clear ho hb2
  go_wp2_with fail
  go_ret
  exact ⟨_, rfl, own_leR HO.out s1, HB.out⟩
end Go.Proofs.YtobchllaopdchacGreat

namespace Go.Proofs.YtobchllaopdchacGreat
open Go.Sort
section
variable {P : Program} {md : Region.Mode} {ops : Array Oper} {C : World → Prop} {n : Nat} {L : Array Bool → Act → World → Prop}
def valH (o : Oper) : Bool := match o.op with
  | .pick _ _ _ => true
  | .nilCheck _ => true
  | _ => valB o
theorem nil_run {ρ : Operand → Value} {o : Oper} {x : Operand} (h : o.op = .nilCheck x) (w w' : World) (m : Next) (hr : (execOp ρ o).run P w = .ok m w') : ∃ u, m = .value u := by
  unfold execOp at hr
  rw [h] at hr
  simp only [] at hr
  split at hr
  · simp [runtimePanic] at hr
  · simp [runtimePanic] at hr
  · simp [runtimePanic] at hr
  · split at hr
    · simp [runtimePanic] at hr
    · simp only [Sem.run_bind] at hr
      generalize Sem.run P program w = r0 at hr
      cases r0 with
      | halt x w1 => simp [Result.andThen] at hr
      | ok p0 w0 =>
        simp only [Result.andThen] at hr
        generalize Sem.run P (nilAhead _ _ _ _) w0 = r1 at hr
        cases r1 with
        | halt x w1 => simp at hr
        | ok b w1 =>
          simp only [] at hr
          split at hr
          · simp [unsupported] at hr
          · simp at hr
            exact ⟨_, hr.1.symm⟩
    · simp only [Sem.run_pure] at hr; cases hr; exact ⟨_, rfl⟩
  · simp only [Sem.run_pure] at hr; cases hr; exact ⟨_, rfl⟩
theorem pick_run {ρ : Operand → Value} {o : Oper} {c x y : Operand} (h : o.op = .pick c x y) (w w' : World) (m : Next) (hr : (execOp ρ o).run P w = .ok m w') : ∃ u, m = .value u := by
  unfold execOp at hr
  rw [h] at hr
  have hr' : Sem.run P (do let b ← asBool (ρ c); pure (Next.value (if b = true then ρ x else ρ y))) w = .ok m w' := hr
  simp only [Sem.run_bind, Sem.run_pure] at hr'
  generalize Sem.run P (asBool (ρ c)) w = r at hr'
  cases r with
  | halt x w1 => simp [Result.andThen] at hr'
  | ok b w1 => simp only [Result.andThen] at hr'; cases hr'; exact ⟨_, rfl⟩
theorem valH_only {o : Oper} (h : valH o = true) (ρ : Operand → Value) (w : World) (f : FuncId) (args : Array Value) (w' : World) : (execOp ρ o).run P w ≠ .ok (.enter f args) w' := by
  unfold valH at h
  split at h
  · rename_i heq
    intro e
    obtain ⟨u, hu⟩ := pick_run heq w w' _ e
    cases hu
  · rename_i heq
    intro e
    obtain ⟨u, hu⟩ := nil_run heq w w' _ e
    cases hu
  · exact val_only h ρ w f args w'
theorem valH_skip {o : Oper} (h : valH o = true) (ρ : Operand → Value) (w w' : World) : (execOp ρ o).run P w ≠ .ok .skip w' := by
  unfold valH at h
  split at h
  · rename_i heq
    intro e
    obtain ⟨u, hu⟩ := pick_run heq w w' _ e
    cases hu
  · rename_i heq
    intro e
    obtain ⟨u, hu⟩ := nil_run heq w w' _ e
    cases hu
  · exact val_skip h ρ w w'
theorem valH_of_quiet {o : Oper} (h : valH o = true) {a : Act} {v : Value} (hq : ∀ w, C w → o.quietAt P a C w v) : ∀ w, C w → (execOp a.eval o).run P w = .ok (.value v) w := by
  intro w hw
  have h1 := hq w hw
  unfold Oper.quietAt at h1
  have h2 := valH_only (P := P) h a.eval w
  have h3 := valH_skip (P := P) h a.eval w
  generalize (execOp a.eval o).run P w = r at *
  cases r with
  | halt x w' => simp only [Oper.quietUpon] at h1
  | ok m w' =>
    cases m with
    | value u => simp only [Oper.quietUpon] at h1; rw [h1.1, h1.2]
    | skip => exact absurd rfl (h3 w')
    | enter f args => exact absurd rfl (h2 f args w')
    | _ => simp only [Oper.quietUpon] at h1
def stepH (P : Program) (ops : Array Oper) (i : Nat) (K : Act → World → Prop) (a : Act) (w : World) : Prop :=
  ∃ o, ops[i]? = some o ∧
    ((Region.wanted o (yielded ops a.tmps) = true ∧ ∃ u w', (execOp a.eval o).run P w = .ok (.value u) w' ∧ K (a.put o.dst u) w') ∨
     (Region.wanted o (yielded ops a.tmps) = true ∧ ∃ f args, (execOp a.eval o).run P w = .ok (.enter f args) w ∧ Calls P f args w (fun e w'' => ∃ u, e = .returned u ∧ K (a.put o.dst u) w'')) ∨
     (Region.wanted o (yielded ops a.tmps) = false ∧ K (a.put o.dst undef) w) ∨
     (Region.wanted o (yielded ops a.tmps) = true ∧ ∃ w', (execOp a.eval o).run P w = .ok .skip w' ∧ K (a.put o.dst undef) w'))
theorem stepH.mono {i : Nat} {K K' : Act → World → Prop} {a : Act} {w : World} (h : stepH P ops i K a w) (hk : ∀ a w, K a w → K' a w) : stepH P ops i K' a w := by
  obtain ⟨o, ho, h⟩ := h
  refine ⟨o, ho, ?_⟩
  rcases h with ⟨hg, u, w', hr, h⟩ | ⟨hg, f, args, hr, h⟩ | ⟨hg, h⟩ | ⟨hg, w', hr, h⟩
  · exact .inl ⟨hg, u, w', hr, hk _ _ h⟩
  · exact .inr (.inl ⟨hg, f, args, hr, h.mono fun e w'' ⟨u, he, h⟩ => ⟨u, he, hk _ _ h⟩⟩)
  · exact .inr (.inr (.inl ⟨hg, hk _ _ h⟩))
  · exact .inr (.inr (.inr ⟨hg, w', hr, hk _ _ h⟩))
def anyH (P : Program) (md : Region.Mode) (ops : Array Oper) (C : World → Prop) (n : Nat) (L : Array Bool → Act → World → Prop) : Nat → Array Bool → Act → World → Prop
  | 0, listed, a, w => L listed a w
  | f + 1, listed, a, w => Region.ready md ops listed ≠ [] ∧ ∀ i ∈ Region.ready md ops listed, i < n ∧ stepH P ops i (fun a' w' => C w' ∧ anyH P md ops C n L f (listed.setIfInBounds i true) a' w') a w
theorem any_of_H {Q : Exit → Act → World → Prop} {g : Nat} (hL : ∀ listed a w, L listed a w → wpAny P md ops Q g listed a w) :
    ∀ (f : Nat) (listed : Array Bool) (a : Act) (w : World), anyH P md ops C n L f listed a w → wpAny P md ops Q (f + g) listed a w
  | 0, listed, a, w, h => by rw [Nat.zero_add]; exact hL _ _ _ h
  | f + 1, listed, a, w, h => by
    rw [show f + 1 + g = (f + g) + 1 by omega]
    refine ⟨fun h0 => absurd h0 h.1, fun i hi => ?_⟩
    obtain ⟨o, ho, h'⟩ := (h.2 i hi).2
    rcases h' with ⟨hg, u, w', hr, _, hk⟩ | ⟨hg, fn, args, hr, hk⟩ | ⟨hg, _, hk⟩ | ⟨hg, w', hr, _, hk⟩
    · unfold wpOp
      simp only [ho, hg, if_true]
      refine .inl ?_
      unfold Oper.wp
      rw [hr]
      exact any_of_H hL f _ _ _ hk
    · unfold wpOp
      simp only [ho, hg, if_true]
      refine .inl ?_
      unfold Oper.wp
      rw [hr]
      exact hk.mono fun e w'' ⟨u, he, _, hk'⟩ => by subst he; exact any_of_H hL f _ _ _ hk'
    · unfold wpOp
      simp only [ho, hg]
      exact any_of_H hL f _ _ _ hk
    · unfold wpOp
      simp only [ho, hg, if_true]
      refine .inl ?_
      unfold Oper.wp
      rw [hr]
      exact any_of_H hL f _ _ _ hk
def waitB (md : Region.Mode) (ops : Array Oper) (n : Nat) (done : Array Bool) : Bool :=
  (List.range n).all fun i => done.getD i false || (List.range (n + 1)).any fun j => decide (i < j) && Region.waitsFor md ops j i
theorem tail_waitsH {done listed : Array Bool} (hs : waitB md ops n done = true) (hc : Region.chainB md ops n = true) (hn : n < ops.size) (inv : HeadInv md ops n listed) (hd : ∀ k, done.getD k false = true → listed.getD k false = true) :
    ∀ (d i : Nat), n - i = d → i < n → listed.getD i true = false → ∀ t, n ≤ t → t ∉ Region.ready md ops listed := by
  intro d
  induction d using Nat.strongRecOn with
  | _ d ih =>
    intro i hdi hi hun t ht hr
    obtain ⟨_, ot, hot, hall⟩ := mem_ready.1 hr
    have htlt : t < ops.size := (Array.getElem?_eq_some_iff.1 hot).1
    by_cases htn : t = n
    · subst htn
      have h1 := List.all_eq_true.1 hs i (List.mem_range.2 hi)
      rw [Bool.or_eq_true] at h1
      rcases h1 with h1 | h1
      · have := hd i h1
        rw [getD_both hun] at this
        cases this
      obtain ⟨j, hj, hj2⟩ := List.any_eq_true.1 h1
      simp only [Bool.and_eq_true, decide_eq_true_eq] at hj2
      obtain ⟨oj, hoj, e, he, hb, hon⟩ := Region.waitsFor_spec hj2.2
      have hjle : j ≤ t := by have := List.mem_range.1 hj; omega
      by_cases hjt : j = t
      · subst hjt
        have : oj = ot := Option.some.inj (hoj.symm.trans hot)
        subst this
        have h2 := hall e he hb
        rw [hon, getD_both hun] at h2
        cases h2
      · cases hl : listed.getD j false with
        | true =>
          have h2 := inv.closed j oj hoj hl e he hb
          rw [hon, getD_both hun] at h2
          cases h2
        | false =>
          have hjs : j < listed.size := by rw [inv.size]; omega
          exact ih (t - j) (by omega) j rfl (by omega) (getD_in hjs hl) t (Nat.le_refl _) hr
    · have h1 := List.all_eq_true.1 hc t (List.mem_range.2 htlt)
      simp only [Bool.or_eq_true, decide_eq_true_eq] at h1
      rcases h1 with h1 | h1
      · omega
      · obtain ⟨o', ho', e, he, hb, hon⟩ := Region.waitsFor_spec h1
        have : o' = ot := Option.some.inj (ho'.symm.trans hot)
        subst this
        have h2 := hall e he hb
        rw [hon, getD_both (inv.tail (t - 1) (by omega) (by omega))] at h2
        cases h2
theorem anyH_first {done : Array Bool} {i : Nat} {oi : Oper} {v : Value} (hi : ops[i]? = some oi) (hsel : Region.noSelect ops = true) (hs : waitB md ops n done = true) (hc : Region.chainB md ops n = true) (hn : n < ops.size) (hin : i < n)
    (hdone : ∀ listed a w, L listed a w → ∀ j ∈ Region.ready md ops listed, n ≤ j) :
    ∀ (f : Nat) (listed : Array Bool) (a : Act) (w : World), C w → HeadInv md ops n listed → (∀ k, done.getD k false = true → listed.getD k false = true) →
      (∀ j oj, ops[j]? = some oj → j ≠ i → listed.getD j true = false → (∀ e ∈ oj.after, Region.binds md e = true → e.on ≠ i) → oi.apart ops oj = true) →
      i ∈ Region.ready md ops listed → ((Region.wanted oi (yielded ops a.tmps) = true ∧ ∀ w, C w → (execOp a.eval oi).run P w = .ok (.value v) w) ∨ (Region.wanted oi (yielded ops a.tmps) = false ∧ v = undef)) →
      anyH P md ops C n L f (listed.setIfInBounds i true) (a.put oi.dst v) w → anyH P md ops C n L (f + 1) listed a w := by
  intro f
  have self : ∀ (listed : Array Bool) (a : Act) (w : World) (f : Nat), C w → ((Region.wanted oi (yielded ops a.tmps) = true ∧ ∀ w, C w → (execOp a.eval oi).run P w = .ok (.value v) w) ∨ (Region.wanted oi (yielded ops a.tmps) = false ∧ v = undef)) →
      anyH P md ops C n L f (listed.setIfInBounds i true) (a.put oi.dst v) w → stepH P ops i (fun a' w' => C w' ∧ anyH P md ops C n L f (listed.setIfInBounds i true) a' w') a w := by
    intro listed a w f hw hy H
    rcases hy with ⟨hg, hy⟩ | ⟨hg, hy⟩
    · exact ⟨oi, hi, .inl ⟨hg, v, w, hy w hw, hw, H⟩⟩
    · rw [hy] at H
      exact ⟨oi, hi, .inr (.inr (.inl ⟨hg, hw, H⟩))⟩
  induction f with
  | zero =>
    intro listed a w hw inv hd _ hr hy H
    refine ⟨(fun h => by rw [h] at hr; cases hr), fun j hj => ?_⟩
    by_cases hji : j = i
    · subst hji; exact ⟨hin, self _ _ _ _ hw hy H⟩
    · have h1 := hdone _ _ _ H j (ready_mono hj hji)
      exact absurd hj (tail_waitsH hs hc hn inv hd _ i rfl hin (mem_ready.1 hr).1 j h1)
  | succ f ih =>
    intro listed a w hw inv hd hfree hr hy H
    refine ⟨(fun h => by rw [h] at hr; cases hr), fun j hj => ?_⟩
    by_cases hji : j = i
    · subst hji; exact ⟨hin, self _ _ _ _ hw hy H⟩
    · obtain ⟨hjn, hstep⟩ := H.2 j (ready_mono hj hji)
      obtain ⟨hjun, oj, hoj, hall⟩ := mem_ready.1 hj
      have hiun := (mem_ready.1 hr).1
      have hnot : ∀ e ∈ oj.after, Region.binds md e = true → e.on ≠ i := fun e he hb heq => by
        have h1 := hall e he hb
        rw [heq, getD_both hiun] at h1
        cases h1
      obtain ⟨h1, h2, h3⟩ := Oper.apart_spec (hfree j oj hoj hji hjun hnot)
      have hex : execOp (a.put oi.dst v).eval oj = execOp a.eval oj := execOp_put (ops := ops) oj (fun cs b => Region.noSelect_spec hsel j oj cs b hoj) a oi.dst v h1
      have hwj : Region.wanted oj (yielded ops (a.put oi.dst v).tmps) = Region.wanted oj (yielded ops a.tmps) := wanted_put oj a oi.dst v h1
      have next : ∀ u w', C w' → anyH P md ops C n L f ((listed.setIfInBounds i true).setIfInBounds j true) ((a.put oi.dst v).put oj.dst u) w' → anyH P md ops C n L (f + 1) (listed.setIfInBounds j true) (a.put oj.dst u) w' := by
        intro u w' hC' hrest
        refine ih (listed.setIfInBounds j true) (a.put oj.dst u) w' hC' (inv.set hj hjn) (fun k hk => getD_set_true (hd k hk)) ?_ (ready_mono hr (Ne.symm hji)) ?_ ?_
        · intro k ok hk hki hun hno
          refine hfree k ok hk hki ?_ hno
          by_cases hjk : j = k
          · subst hjk; exact hjun
          · rw [getD_set_ne true hjk] at hun; exact hun
        · rw [wanted_put oi a oj.dst u h3, execOp_put (ops := ops) oi (fun cs b => Region.noSelect_spec hsel i oi cs b hi) a oj.dst u h3]
          exact hy
        · rw [Array.setIfInBounds_comm _ _ hji, ← Act.put_comm a v u h2]
          exact hrest
      refine ⟨hjn, ?_⟩
      obtain ⟨oj', hoj', hstep⟩ := hstep
      obtain rfl := Option.some.inj (hoj.symm.trans hoj')
      refine ⟨oj, hoj, ?_⟩
      rw [hwj, hex] at hstep
      rcases hstep with ⟨hgj, u, w', hrun, hC', hrest⟩ | ⟨hgj, fn, args, hrun, hrest⟩ | ⟨hgj, hC', hrest⟩ | ⟨hgj, w', hrun, hC', hrest⟩
      · exact .inl ⟨hgj, u, w', hrun, hC', next u w' hC' hrest⟩
      · exact .inr (.inl ⟨hgj, fn, args, hrun, hrest.mono fun e w'' ⟨u, he, hC', hk⟩ => ⟨u, he, hC', next u w'' hC' hk⟩⟩)
      · exact .inr (.inr (.inl ⟨hgj, hC', next undef w hC' hrest⟩))
      · exact .inr (.inr (.inr ⟨hgj, w', hrun, hC', next undef w' hC' hrest⟩))
def mixH (md : Region.Mode) (ops : Array Oper) (n : Nat) : List Nat → Array Bool → Bool
  | [], _ => true
  | k :: ks, listed => (Region.ready md ops listed).contains k && Region.free md ops listed k && decide (k < n) && (match ops[k]? with | some o => valH o | none => false) && mixH md ops n ks (listed.setIfInBounds k true)
theorem anyH_lex {done : Array Bool} (hsel : Region.noSelect ops = true) (hs : waitB md ops n done = true) (hc : Region.chainB md ops n = true) (hn : n < ops.size) (hdone : ∀ listed a w, L listed a w → ∀ j ∈ Region.ready md ops listed, n ≤ j) (g : Nat) (w : World) (hw : C w) :
    ∀ (ks : List Nat) (os : List Oper) (listed : Array Bool) (a : Act), os.map some = ks.map (ops[·]?) → HeadInv md ops n listed → (∀ k, done.getD k false = true → listed.getD k false = true) → mixH md ops n ks listed = true →
      wpQuiet P ops C (fun a' => anyH P md ops C n L g (listAll ks listed) a' w) os a → anyH P md ops C n L (ks.length + g) listed a w
  | [], os, listed, a, he, _, _, _, h => by
    have : os = [] := by simpa using he
    subst this
    rw [List.length_nil, Nat.zero_add]; exact h
  | k :: ks, os, listed, a, he, inv, hd, hB, h => by
    match os, he with
    | o :: os, he =>
      simp only [List.map_cons, List.cons.injEq] at he
      obtain ⟨ho, he⟩ := he
      simp only [mixH, ← ho, Bool.and_eq_true, decide_eq_true_eq] at hB
      obtain ⟨⟨⟨⟨hr, hf⟩, hk⟩, hv⟩, hB'⟩ := hB
      have hr' : k ∈ Region.ready md ops listed := by simpa using hr
      rw [List.length_cons, show ks.length + 1 + g = (ks.length + g) + 1 by omega]
      simp only [wpQuiet] at h
      cases hwt : Region.wanted o (yielded ops a.tmps)
      · simp only [hwt] at h
        exact anyH_first ho.symm hsel hs hc hn hk hdone _ listed a w hw inv hd (Region.free_spec ho.symm hf) hr' (.inr ⟨hwt, rfl⟩)
          (anyH_lex hsel hs hc hn hdone g w hw ks os _ _ he (inv.set hr' hk) (fun k hk => getD_set_true (hd k hk)) hB' h)
      · simp only [hwt, if_true] at h
        obtain ⟨v, hq, hnext⟩ := h
        exact anyH_first ho.symm hsel hs hc hn hk hdone _ listed a w hw inv hd (Region.free_spec ho.symm hf) hr' (.inl ⟨hwt, valH_of_quiet hv hq⟩)
          (anyH_lex hsel hs hc hn hdone g w hw ks os _ _ he (inv.set hr' hk) (fun k hk => getD_set_true (hd k hk)) hB' hnext)
theorem mixH_ops {l : List Oper} {n : Nat} : ∀ (ks : List Nat) (listed : Array Bool), mixH md l.toArray n ks listed = true → (ks.filterMap fun k => l[k]?).map some = ks.map (l.toArray[·]?)
  | [], _, _ => rfl
  | k :: ks, listed, h => by
    simp only [mixH, Bool.and_eq_true] at h
    obtain ⟨⟨_, hv⟩, h'⟩ := h
    have ih := mixH_ops ks _ h'
    cases ho : l[k]? with
    | none => simp [ho] at hv
    | some o =>
      rw [List.filterMap_cons]
      simp only [ho, List.map_cons, ih]
      simp [ho]
theorem oneH {f : Nat} {listed : Array Bool} {i : Nat} {oc : Oper} {a : Act} {w : World} (u : Value) (w' : World)
    (hc : ops[i]? = some oc ∧ i < n) (r0 : Region.ready md ops listed = [i]) (hw : Region.wanted oc (yielded ops a.tmps) = true)
    (run : (execOp a.eval oc).run P w = .ok (.value u) w') (hC : C w') (h : anyH P md ops C n L f (listed.setIfInBounds i true) (a.put oc.dst u) w') : anyH P md ops C n L (f + 1) listed a w := by
  refine ⟨by rw [r0]; simp, fun j hj => ?_⟩
  rw [r0] at hj
  obtain rfl := List.mem_singleton.1 hj
  exact ⟨hc.2, oc, hc.1, .inl ⟨hw, u, w', run, hC, h⟩⟩
end
end Go.Proofs.YtobchllaopdchacGreat

namespace Go.Proofs.YtobchllaopdchacGreat
open Go.Sort
section
variable {P : Program}
def invB (ops : Array Oper) (n : Nat) (listed : Array Bool) : Bool :=
  listed.size == ops.size &&
  (List.range ops.size).all (fun j => !listed.getD j false || (match ops[j]? with | some o => o.after.all (fun e => !Region.binds .any e || listed.getD e.on false) | none => true)) &&
  (List.range ops.size).all (fun t => decide (t < n) || !listed.getD t true)
theorem inv_of {ops : Array Oper} {n : Nat} {listed : Array Bool} (h : invB ops n listed = true) : HeadInv .any ops n listed := by
  simp only [invB, Bool.and_eq_true, beq_iff_eq, List.all_eq_true, List.mem_range] at h
  obtain ⟨⟨h1, h2⟩, h3⟩ := h
  refine ⟨h1, fun j oj hj hl e he hb => ?_, fun t ht hts => ?_⟩
  · have hjs : j < ops.size := (Array.getElem?_eq_some_iff.1 hj).1
    have h4 := h2 j hjs
    rw [hl, hj] at h4
    simp only [Bool.not_true, Bool.false_or] at h4
    have h5 := (Array.all_eq_true'.1 h4) e he
    rw [hb] at h5
    simpa using h5
  · have h4 := h3 t hts
    simp only [Bool.or_eq_true, decide_eq_true_eq, Bool.not_eq_true'] at h4
    rcases h4 with h4 | h4
    · omega
    · exact h4
variable {ops : Array Oper} {C : World → Prop} {n : Nat} {L : Array Bool → Act → World → Prop}
theorem stepH_value {i : Nat} {K : Act → World → Prop} {oc : Oper} {a : Act} {w : World} (u : Value) (w' : World) (hc : ops[i]? = some oc) (hw : Region.wanted oc (yielded ops a.tmps) = true) (run : (execOp a.eval oc).run P w = .ok (.value u) w') (hk : K (a.put oc.dst u) w') : stepH P ops i K a w :=
  ⟨oc, hc, .inl ⟨hw, u, w', run, hk⟩⟩
theorem stepH_call {i : Nat} {K : Act → World → Prop} {oc : Oper} {a : Act} {w : World} {fn : FuncId} {args : Array Value} (hc : ops[i]? = some oc) (hw : Region.wanted oc (yielded ops a.tmps) = true) (run : (execOp a.eval oc).run P w = .ok (.enter fn args) w) (con : Calls P fn args w fun e w' => ∃ v, e = .returned v ∧ K (a.put oc.dst v) w') : stepH P ops i K a w :=
  ⟨oc, hc, .inr (.inl ⟨hw, fn, args, run, con⟩)⟩
end
end Go.Proofs.YtobchllaopdchacGreat

namespace Go.Proofs.YtobchllaopdchacGreat
open Go.RowKit Go.Sort
section
variable {P : Program} {md : Region.Mode} {ops : Array Oper} {C : World → Prop} {n : Nat} {L : Array Bool → Act → World → Prop}
def bx (d : Nat) (o : Option Nat) (a : Act) : Act := match o with
  | none => a
  | some p => a.put (some d) (.pointer (some ⟨p, 0, none⟩))
theorem bx_put {d e : Nat} (h : e ≠ d) (o : Option Nat) (a : Act) (v : Value) : (bx d o a).put (some e) v = bx d o (a.put (some e) v) := by
  cases o with
  | none => rfl
  | some p => exact Act.put_comm a (x := some d) (y := some e) _ v (fun x hx => by cases hx; simpa using h)
def lexB (l : List Oper) (n : Nat) (ks : List Nat) (listed : Array Bool) : Bool :=
  Region.noSelect l.toArray && decide (n < l.length) && Region.sinkB .any l.toArray n && Region.chainB .any l.toArray n && invB l.toArray n listed && mixB .any l.toArray n ks listed
theorem lexT {Q : Exit → Act → World → Prop} {l : List Oper} {listed : Array Bool} {a : Act} {w : World} (g : Nat) (ks : List Nat) (hB : lexB l n ks listed = true) (hw : C w)
    (h : wpQuiet P l.toArray C (fun a' => anyC P .any l.toArray C n (tailC P Q l n) g (listAll ks listed) a' w) (ks.filterMap fun k => l[k]?) a) : anyC P .any l.toArray C n (tailC P Q l n) (ks.length + g) listed a w := by
  simp only [lexB, Bool.and_eq_true, decide_eq_true_eq] at hB
  obtain ⟨⟨⟨⟨⟨hsel, hn⟩, hs⟩, hc⟩, hi⟩, hm⟩ := hB
  exact anyC_lex hsel hs hc (by simpa using hn) (fun listed a w hL => seqB_ready hL.1) g w hw ks _ listed a (mix_ops ks _ hm) (inv_of hi) hm h
end
end Go.Proofs.YtobchllaopdchacGreat

namespace Go.Proofs.YtobchllaopdchacGreat
open Go.RowKit Go.Sort
noncomputable def owL (b : DRunBatch) : List ByteArray := if runB b = true then thL b.2.2.1 (ofL (phX b.2.1 b.2.2.2.1)) else []
theorem ow_len (b : DRunBatch) : (owL b).length ≤ 8192 := by
  unfold owL
  split
  · exact Nat.le_trans (thL_len _ _) (Nat.le_trans (of_len _) (by decide))
  · simp
set_option maxRecDepth 100000 in
set_option maxHeartbeats 8000000 in
theorem ownX_any (S : Nat → Prop) (nm : ByteArray) (r : List DRecPhase) (sl : List DRunSlot) (at_ : ByteArray) (si st : Int) (o1 o2 : Option Addr) (n1 k1 n2 k2 : Nat) (w : World) (hn : nm.size ≤ maxLen) (hr : AtL S w r (.slice o1 n1 k1)) (h : AtL S w sl (.slice o2 n2 k2)) (hS : ∀ b, S b → b < w.heap.size) :
    Calls Tryz.prog 62 #[.agg #[.string nm, .slice o1 n1 k1, .slice o2 n2 k2, .string at_, .int .i64 si, .int .i64 st]] w fun e w' => ∃ q, e = .returned q ∧ w'.ownsRow w.heap.size 9 1 q (owL (nm, r, sl, at_, si, st)).length ((owL (nm, r, sl, at_, si, st)).map .string) ∧ Below w.heap.size w w' := by
  have HN : Hid (nm.size ≤ maxLen) := hn
  obtain ⟨G, hG⟩ : ∃ G, G = owL (nm, r, sl, at_, si, st) := ⟨_, rfl⟩
  rw [← hG]
  have TG : Hid (G = if runB (nm, r, sl, at_, si, st) = true then thL sl (ofL (phX r at_)) else []) := hG
  clear hG
  obtain ⟨W, EW, BW, RW, sW⟩ := box_new w #[.string nm, .slice o1 n1 k1, .slice o2 n2 k2, .string at_, .int .i64 si, .int .i64 st] 49
  have BOX : Hid (∀ u, Below W.heap.size W u → u.heap[w.heap.size]? = some (.cells #[.string nm, .slice o1 n1 k1, .slice o2 n2 k2, .string at_, .int .i64 si, .int .i64 st] 49 (0, 0)) ∧ Below w.heap.size w u) := fun u hu => ⟨(hu.block _ (by omega)).trans RW.out, BW.out.trans (hu.mono (by omega))⟩
  have HR : Hid _ := hr.ups hS
  have HA : Hid _ := h.ups hS
  have HS : Hid _ := lt_up hS
  have h0 := fun u (hu : Below W.heap.size W u) => cell_row (BOX.out u hu).1
  have Y : Hid (∀ u, Below W.heap.size W u → u.cell? ⟨w.heap.size, 0, none⟩ = some (.string nm) ∧ u.cell? ⟨w.heap.size, 1, none⟩ = some (.slice o1 n1 k1) ∧ u.cell? ⟨w.heap.size, 2, none⟩ = some (.slice o2 n2 k2) ∧ u.cell? ⟨w.heap.size, 3, none⟩ = some (.string at_) ∧ u.cell? ⟨w.heap.size, 4, none⟩ = some (.int .i64 si) ∧ u.cell? ⟨w.heap.size, 5, none⟩ = some (.int .i64 st)) := fun u hu =>
    ⟨(h0 u hu 0 _ rfl).1, (h0 u hu 1 _ rfl).1, (h0 u hu 2 _ rfl).1, (h0 u hu 3 _ rfl).1, (h0 u hu 4 _ rfl).1, (h0 u hu 5 _ rfl).1⟩
  clear h0
  have PH : Hid (runB (nm, r, sl, at_, si, st) = true → ∃ (k : Nat), atI r at_ = (k : Int) ∧ k < n1 ∧ (phaseB (phX r at_) = true) ∧ ∃ b off, o1 = some ⟨b, off, none⟩ ∧ b < w.heap.size ∧ ∀ u, Below w.heap.size w u → u.cell? ⟨b, off + k * 8, none⟩ = some (.string (phX r at_).1) ∧ u.cell? ⟨b, off + k * 8 + 1, none⟩ = some (.int .i64 (phX r at_).2.1) ∧ u.cell? ⟨b, off + k * 8 + 2, none⟩ = some (.string (phX r at_).2.2.1) ∧ u.cell? ⟨b, off + k * 8 + 3, none⟩ = some (.string (phX r at_).2.2.2.1) ∧ u.cell? ⟨b, off + k * 8 + 4, none⟩ = some (.int .i64 (phX r at_).2.2.2.2.1) ∧ u.cell? ⟨b, off + k * 8 + 5, none⟩ = some (.int .i64 (phX r at_).2.2.2.2.2.1) ∧ u.cell? ⟨b, off + k * 8 + 6, none⟩ = some (.string (phX r at_).2.2.2.2.2.2.1) ∧ u.cell? ⟨b, off + k * 8 + 7, none⟩ = some (.string (phX r at_).2.2.2.2.2.2.2)) := fun hb => by
    have hR : RecP r := (run_rec hb).1
    have h0 : 0 ≤ atI r at_ := by
      unfold runB at hb
      simp only [Bool.and_eq_true, decide_eq_true_eq] at hb
      exact hb.1.2
    rcases at_cases r at_ with e | ⟨k', hk', e, _⟩
    · omega
    obtain ⟨oa, cap, ev, _, hc⟩ := id hr
    obtain ⟨b, off, eo, hbS, cc, hcell, hat⟩ := hc k' hk'
    rw [width_DRecPhase] at hcell
    rw [at_DRecPhase, ← ph_at hk' e] at hat
    obtain ⟨⟨q0, _⟩, ⟨q1, _, _⟩, ⟨q2, _⟩, ⟨q3, _⟩, ⟨q4, _, _⟩, ⟨q5, _, _⟩, ⟨q6, _⟩, ⟨q7, _⟩⟩ := hat
    cases ev
    have hbb := hS b hbS
    refine ⟨k', e, hk', by rw [ph_at hk' e]; exact (step_of hR hk').1, b, off, eo, hbb, fun u hu => ?_⟩
    rw [← q0, ← q1, ← q2, ← q3, ← q4, ← q5, ← q6, ← q7]
    exact ⟨(hu.cell hbb).trans (hcell 0 (by omega)), (hu.cell hbb).trans (hcell 1 (by omega)), (hu.cell hbb).trans (hcell 2 (by omega)), (hu.cell hbb).trans (hcell 3 (by omega)), (hu.cell hbb).trans (hcell 4 (by omega)), (hu.cell hbb).trans (hcell 5 (by omega)), (hu.cell hbb).trans (hcell 6 (by omega)), (hu.cell hbb).trans (hcell 7 (by omega))⟩
  clear h hr hS hn
  obtain ⟨y0, y1, y2, y3, y4, y5⟩ := Y.out W (Below.refl _ _)
  have szW := BW.out.size
  go_enter Tryz.func62, Tryz.ntmps62
  go_upto_region 1 with fail
  rw [← EW.out]
  go_wp2_with fail
  refine (runX_any S nm r sl at_ si st o1 o2 n1 k1 n2 k2 W HN.out (HR.out _ BW.out) (HA.out _ BW.out) (HS.out _ BW.out)).mono ?_; rintro e w1 ⟨rfl, hb1⟩
  have B1 : Hid (Below W.heap.size W w1) := hb1
  have BW1 : Hid (Below w.heap.size w w1) := (BOX.out w1 hb1).2
  clear y0 y1 y2 y3 y4 y5 hb1
  obtain ⟨y0, y1, y2, y3, y4, y5⟩ := Y.out w1 B1.out
  cases c : runB (nm, r, sl, at_, si, st)
  · rw [c] at TG
    obtain rfl : G = [] := TG.out
    clear y0 y1 y2 y3 y4 y5 szW
    go_wp2_with fail
    go_ret
    have sz := BW1.out.size
    exact ⟨_, rfl, own_nil sz, BW1.out.alloc sz _⟩
  rw [c, if_pos rfl] at TG
  obtain ⟨k, hk, hkn, _, b, off, rfl, hb, hx⟩ := PH.out c
  obtain ⟨x0, x1, x2, x3, x4, x5, x6, x7⟩ := hx w1 BW1.out
  obtain ⟨p, hp⟩ : ∃ p, p = phX r at_ := ⟨_, rfl⟩
  rw [← hp] at x0 x1 x2 x3 x4 x5 x6 x7 TG
  have hG : G = thL sl (ofL p) := TG.out
  obtain ⟨pn, kd, pa, pb, pc, wi, th, el⟩ := p
  simp only at x0 x1 x2 x3 x4 x5 x6 x7
  obtain ⟨L, hL⟩ : ∃ L, L = ofL (pn, kd, pa, pb, pc, wi, th, el) := ⟨_, rfl⟩
  rw [← hL] at hG
  have hll : L.length ≤ 2 := by rw [hL]; exact of_len _
  have HLL : Hid (L.length ≤ 2) := hll
  have CO : Hid (∀ u, Calls Tryz.prog 102 #[.agg #[.string pn, .int .i64 kd, .string pa, .string pb, .int .i64 pc, .int .i64 wi, .string th, .string el]] u fun e w' => ∃ g cap, e = .returned (.slice (some ⟨g, 0, none⟩) L.length cap) ∧ w'.ownsRow u.heap.size 9 1 (.slice (some ⟨g, 0, none⟩) L.length cap) L.length (L.map .string) ∧ Below u.heap.size u w') := fun u => by rw [hL]; exact ofX_any pn pa pb th el kd pc wi u
  have CA : Hid (∀ u, Below w.heap.size w u → Calls Tryz.prog 34 #[.slice (some ⟨b, off, none⟩) n1 k1, .string at_] u fun e w' => e = .returned (.int .i64 (k : Int)) ∧ w' = u) := fun u hu => by rw [← hk]; exact atX_any S r _ at_ u (HR.out u hu)
  subst hG
  have HDR : Hid (Below w1.heap.size w1 w1.drew) := (Below.refl _ _).drew
  have q0 := fun d os => cell_regrown y0 d os
  have q1 := fun d os => cell_regrown y1 d os
  have q2 := fun d os => cell_regrown y2 d os
  have q3 := fun d os => cell_regrown y3 d os
  have q4 := fun d os => cell_regrown y4 d os
  have q5 := fun d os => cell_regrown y5 d os
  have qx0 := fun d os => cell_regrown x0 d os
  have qx1 := fun d os => cell_regrown x1 d os
  have qx2 := fun d os => cell_regrown x2 d os
  have qx3 := fun d os => cell_regrown x3 d os
  have qx4 := fun d os => cell_regrown x4 d os
  have qx5 := fun d os => cell_regrown x5 d os
  have qx6 := fun d os => cell_regrown x6 d os
  have qx7 := fun d os => cell_regrown x7 d os
  clear hL hll TG hk hx hp y0 y1 y2 y3 y4 y5 x0 x1 x2 x3 x4 x5 x6 x7 szW
  go_wp2_with fail
  refine wp_region_mix 11 [0, 1, 2, 3, 4, 5, 6] (by kernel_rfl) (by kernel_rfl) ?_
  simp only [List.filterMap_cons, List.filterMap_nil, List.getElem?_cons_succ, List.getElem?_cons_zero]
  repeat (first | go_big_quiet_step (fail) | quiet_step (fail))
  refine wpQuiet_nil ?_
  have bdr : Hid (Below w.heap.size w w1.drew) := BW1.out.trans (HDR.out.mono BW1.out.size)
  refine call1 (md := .any) (f := 3) (i := 7) (dc := 14) (fn := 34) ⟨rfl, rfl, rfl, by decide⟩ (by kernel_rfl) ?run ((CA.out w1.drew bdr.out).mono ?_)
  case run => go_simp
  rintro e u ⟨rfl, rfl⟩
  refine ⟨_, rfl, regrown_of_below HDR.out, ?_⟩
  simp only [Act.put, List.setIfInBounds_toArray, List.set_cons_zero, List.set_cons_succ]
  refine lexT (g := 1) [8, 9] (by kernel_rfl) (regrown_of_below HDR.out) ?_
  simp only [List.filterMap_cons, List.filterMap_nil, List.getElem?_cons_succ, List.getElem?_cons_zero]
  repeat (first | go_big_quiet_step (fail) | quiet_step (fail))
  refine wpQuiet_nil ?_
  clear q0 q1 q2 q3 q4 q5 qx0 qx1 qx2 qx3 qx4 qx5 qx6 qx7
  refine call1 (md := .any) (f := 0) (i := 10) (dc := 17) (fn := 102) ⟨rfl, rfl, rfl, by decide⟩ (by kernel_rfl) ?run2 ((CO.out w1.drew).mono ?_)
  case run2 => go_simp
  rintro e u ⟨g, cap, rfl, ho, hb1⟩
  have C1 : Hid (Below w1.heap.size w1 u) := HDR.out.trans (hb1.mono HDR.out.size)
  have BU : Hid (Below w.heap.size w u) := BW1.out.trans (C1.out.mono BW1.out.size)
  have RD : Hid (RdB u (.slice (some ⟨g, 0, none⟩) L.length cap) L) := RdB.of ho
  refine ⟨_, rfl, regrown_of_below C1.out, ?_⟩
  clear hb1 ho
  refine ⟨by kernel_rfl, ?_⟩
  simp only [List.drop_succ_cons, List.drop_zero, Act.put, List.setIfInBounds_toArray, List.set_cons_zero, List.set_cons_succ]
  have s1 := BU.out.size
  go_wp2_with fail
  refine (thingsX_any S sl nm at_ si st _ o2 n1 k1 n2 k2 L _ u (HA.out _ BU.out) (HS.out _ BU.out) RD.out (by have := HLL.out; omega)).mono ?_; rintro e u2 ⟨g', cap', rfl, ho, hb2⟩
  have HO : Hid _ := ho
  have HB : Hid (Below w.heap.size w u2) := BU.out.trans (hb2.mono s1)
  clear ho hb2
  go_wp2_with fail
  go_ret
  exact ⟨_, rfl, own_leR HO.out s1, HB.out⟩
end Go.Proofs.YtobchllaopdchacGreat

namespace Go.Proofs.YtobchllaopdchacGreat
open Go.RowKit
theorem insR_fresh : ∀ (l : List ByteArray) (x : ByteArray), x ∉ l → (insR l x).length = l.length + 1
  | [], x, _ => by simp [insR]
  | y :: l, x, h => by
    have h1 : x ≠ y := fun e => h (by simp [e])
    have h2 := insR_fresh l x (fun e => h (by simp [e]))
    have h3 : eqB y x = false := by
      cases c : eqB y x with
      | false => rfl
      | true => exact absurd ((eqB_iff _ _).1 c).symm h1
    unfold insR
    cases c : ltB y x
    · simp [h3]
    · simp [h2]
theorem insR_old {l : List ByteArray} {x : ByteArray} (ha : AscL l) (h : x ∈ l) : insR l x = l :=
  asc_unique _ _ (ins_asc l x ha) ha fun y => by
    rw [ins_mem]
    exact ⟨fun h' => h'.elim id (fun e => e ▸ h), Or.inl⟩
theorem both_full : ∀ (b a : List ByteArray), AscL a → ((bothL a b).length = a.length + b.length ↔ b.Nodup ∧ ∀ y ∈ b, y ∉ a)
  | [], a, _ => by simp [bothL]
  | x :: b, a, ha => by
    have e : bothL a (x :: b) = bothL (insR a x) b := rfl
    have ih := both_full b (insR a x) (ins_asc a x ha)
    have hle := both_len b (insR a x)
    rw [e, List.length_cons, List.nodup_cons]
    by_cases hx : x ∈ a
    · have := insR_old ha hx
      rw [this] at hle ⊢
      refine ⟨fun h => by omega, fun h => absurd hx (h.2 x (by simp))⟩
    · have hl := insR_fresh a x hx
      rw [hl] at ih
      rw [show a.length + (b.length + 1) = a.length + 1 + b.length by omega, ih]
      constructor
      · rintro ⟨h1, h2⟩
        refine ⟨⟨fun hb => h2 x hb ((ins_mem a x x).2 (Or.inr rfl)), h1⟩, fun y hy => ?_⟩
        rcases List.mem_cons.1 hy with rfl | hy
        · exact hx
        · exact fun hya => h2 y hy ((ins_mem a x y).2 (Or.inl hya))
      · rintro ⟨⟨h1, h2⟩, h3⟩
        refine ⟨h2, fun y hy hya => ?_⟩
        rcases (ins_mem a x y).1 hya with h | rfl
        · exact h3 y (by simp [hy]) h
        · exact h1 hy
def EqP (L : List ByteArray) (sl : List DRunSlot) : Prop := sl.length = L.length ∧ ∀ i (h : i < sl.length), eqB sl[i].1 (nthB L i) = true ∧ nameB sl[i].2 = true
theorem EqP.fst {L : List ByteArray} {sl : List DRunSlot} (h : EqP L sl) : sl.map (·.1) = L := by
  refine List.ext_getElem (by simpa using h.1) fun i h1 h2 => ?_
  have := (h.2 i (by simpa using h1)).1
  rw [nth_is h2] at this
  simpa using (eqB_iff _ _).1 this
theorem EqP.dist {L : List ByteArray} {sl : List DRunSlot} (h : EqP L sl) (ha : AscL L) : (sl.map (·.1)).Nodup := by rw [h.fst]; exact ha.nodup
theorem EqP.snd {L : List ByteArray} {sl : List DRunSlot} (h : EqP L sl) (ha : AscL L) : L.map (thT sl) = sl.map (·.2) := by
  rw [← h.fst, List.map_map]
  refine List.ext_getElem (by simp) fun i h1 h2 => ?_
  have hi : i < sl.length := by simpa using h2
  simp only [List.getElem_map, Function.comp]
  exact thT_at (h.dist ha) hi
theorem nodup_others {sl : List DRunSlot} : (sl.map (·.2)).Nodup ↔ ∀ i (h : i < sl.length) k (hk : k < sl.length), k < i → eqB sl[k].2 sl[i].2 = false := by
  constructor
  · intro h i hi k hk hki
    cases c : eqB sl[k].2 sl[i].2 with
    | false => rfl
    | true =>
      have h1 := (List.pairwise_iff_getElem.1 h) k i (by simpa using hk) (by simpa using hi) hki
      exact absurd ((eqB_iff _ _).1 c) (by simpa using h1)
  · intro h
    refine List.pairwise_iff_getElem.2 fun k i hk hi hki => ?_
    have := h i (by simpa using hi) k (by simpa using hk) hki
    simp only [List.getElem_map]
    exact fun e => by rw [(eqB_iff _ _).2 e] at this; cases this
theorem sl_two {L : List ByteArray} {sl : List DRunSlot} (ha : AscL L) : SlP L sl ↔ EqP L sl ∧ (thL sl L).length = L.length := by
  have key : ∀ h : EqP L sl, ((thL sl L).length = L.length ↔ (sl.map (·.2)).Nodup) := fun h => by
    have := both_full (L.map (thT sl)) [] List.Pairwise.nil
    rw [h.snd ha] at this
    unfold thL
    rw [h.snd ha, ← h.1]
    simpa using this
  constructor
  · intro h
    have he : EqP L sl := ⟨h.len.symm, fun i hi => ⟨(h.row i hi).slot, (h.row i hi).name⟩⟩
    exact ⟨he, (key he).2 (nodup_others.2 fun i hi k hk hki => (h.row i hi).other k hk hki)⟩
  · rintro ⟨he, hl⟩
    have hn := nodup_others.1 ((key he).1 hl)
    exact ⟨he.1.symm, fun i hi => ⟨(he.2 i hi).1, (he.2 i hi).2, fun k hk hki => hn i hi k hk hki⟩⟩
theorem slB_two (r : List DRecPhase) (sl : List DRunSlot) : slB r sl = true ↔ EqP (sltF 12 r (fstN r)) sl ∧ (thL sl (sltF 12 r (fstN r))).length = (sltF 12 r (fstN r)).length :=
  sl_iff.trans (sl_two (slt_asc r 12 _))
end Go.Proofs.YtobchllaopdchacGreat
