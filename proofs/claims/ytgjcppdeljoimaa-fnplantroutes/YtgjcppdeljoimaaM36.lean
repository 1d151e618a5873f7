/-
  Several texts in one.
-/
import Derived.Test.YtgjcppdeljoimaaM35
import Derived.Test.YtgjcppdeljoimaaM2
import Derived.Test.YtgjcppdeljoimaaM32
import Derived.Deep.Cut
import Derived.Maps.AppendAt
import Derived.Test.YtgjcppdeljoimaaM34
namespace Go.Proofs.Ytgjcppdeljoimaa
open Go.RowKit
def RowM (w : World) (n g : Nat) : Prop := ∃ cur, w.heap[g]? = some (.cells cur 9 (0, 0)) ∧ n ≤ cur.size
def RowK (w : World) (n g : Nat) (k : Int) : Prop := ∃ cur, w.heap[g]? = some (.cells cur 9 (0, 0)) ∧ n ≤ cur.size ∧ ∀ j, j < n → cur[j]? = some (.string (mkT (k + j)))
theorem RowM.same {w w' : World} {n g : Nat} (h : RowM w n g) (e : w'.heap[g]? = w.heap[g]?) : RowM w' n g := by
  obtain ⟨c, h1, h2⟩ := h; exact ⟨c, e.trans h1, h2⟩
theorem RowM.lt {w : World} {n g : Nat} (h : RowM w n g) : g < w.heap.size := by
  obtain ⟨c, h1, _⟩ := h; exact (Array.getElem?_eq_some_iff.1 h1).1
theorem RowK.same {w w' : World} {n g : Nat} {k : Int} (h : RowK w n g k) (e : w'.heap[g]? = w.heap[g]?) : RowK w' n g k := by
  obtain ⟨c, h1, h2⟩ := h; exact ⟨c, e.trans h1, h2⟩
theorem Outs.other {g : Nat} {w w' : World} (h : Outs g (g + 1) w w') {k : Nat} (hk : k < w.heap.size) (hne : k ≠ g) : w'.heap[k]? = w.heap[k]? := by
  by_cases e : k < g
  · exact h.bel.block k e
  · exact h.out k (by omega) hk
theorem RowK.lst {w : World} {n g cap : Nat} {k : Int} (h : RowK w n g k) (hm : n ≤ 1048576) : Lst w.heap.size w (.slice (some ⟨g, 0, none⟩) n cap) n 1 (cS (mkF k)) := by
  obtain ⟨cur, hg, hs, hc⟩ := h
  refine ⟨_, _, rfl, by unfold maxLen; omega, fun i hi => ⟨g, 0, rfl, (Array.getElem?_eq_some_iff.1 hg).1, fun j hj => ?_⟩⟩
  have ej : j = 0 := by omega
  subst ej
  rw [Nat.zero_add, Nat.mul_one, Nat.add_zero]
  exact (cell_row hg i _ (hc i hi)).1
end Go.Proofs.Ytgjcppdeljoimaa

namespace Go.Proofs.Ytgjcppdeljoimaa
open Go.RowKit Go.Sort
theorem call1 {P : Program} {md : Region.Mode} {ops : Array Oper} {C : World → Prop} {n f : Nat} {L : Array Bool → Act → World → Prop} {listed : Array Bool} {i dc : Nat} {oc : Oper} {a : Act} {w : World} {fn : FuncId} {args : Array Value}
    (hc : ops[i]? = some oc ∧ oc.guard = none ∧ oc.dst = some dc ∧ i < n) (r0 : Region.ready md ops listed = [i])
    (run : (execOp a.eval oc).run P w = .ok (.enter fn args) w) (con : Calls P fn args w fun e w' => ∃ v, e = .returned v ∧ C w' ∧ anyC P md ops C n L f (listed.setIfInBounds i true) (a.put (some dc) v) w') :
    anyC P md ops C n L (f + 1) listed a w := by
  obtain ⟨hc1, hc2, hc3, hc4⟩ := hc
  refine anyC_call i r0 hc4 ⟨oc, hc1, hc2, fn, args, run, con.mono fun e w' ⟨v, he, hC, hk⟩ => ⟨v, he, hC, ?_⟩⟩
  rw [hc3]; exact hk
end Go.Proofs.Ytgjcppdeljoimaa

namespace Go.Proofs.Ytgjcppdeljoimaa
open Go.RowKit Go.Sort
structure RAt (B : Nat) (w : World) (vp vv : Value) (m : Nat) (P : Nat → ByteArray) (k : Nat) (Q : Nat → ByteArray) : Prop where
  p : Lst B w vp m 1 (cS P)
  v : Lst B w vv k 1 (cS Q)
theorem RAt.kept {B B' : Nat} {w w' : World} {vp vv : Value} {m : Nat} {P : Nat → ByteArray} {k : Nat} {Q : Nat → ByteArray} (h : RAt B w vp vv m P k Q) (hb : Below B' w w') (hB : B ≤ B') : RAt B w' vp vv m P k Q := ⟨h.p.kept hb hB, h.v.kept hb hB⟩
end Go.Proofs.Ytgjcppdeljoimaa

namespace Go.Proofs.Ytgjcppdeljoimaa
open Go.RowKit Go.Sort
structure Nd where
  i : Nat
  d : Nat
  uses : List Nat
  F : World → Value → Prop
  B : World → Value → Nat → Prop
structure NdOk (W : World) (m : Nd) : Prop where
  keep : ∀ (w w' : World) (v : Value), w.heap.size ≤ w'.heap.size → m.F w v → (∀ k, m.B w v k → w'.heap[k]? = w.heap[k]?) → m.F w' v ∧ ∀ k, m.B w' v k → m.B w v k
  lt : ∀ (w : World) (v : Value) (k : Nat), m.F w v → m.B w v k → W.heap.size ≤ k ∧ k < w.heap.size
def offD (M : List Nd) (k : Nat) : Prop := ∀ m ∈ M, m.d ≠ k
structure Agree (M : List Nd) (b a0 : Act) : Prop where
  size : b.tmps.size = a0.tmps.size
  defers : b.defers = a0.defers
  off : ∀ k, offD M k → b.eval (.tmp k) = a0.eval (.tmp k)
def putAll (a0 : Act) (M : List Nd) (v : Nat → Value) : Act := M.foldl (fun a m => a.put (some m.d) (v m.d)) a0
theorem putAll_size (v : Nat → Value) : ∀ (M : List Nd) (a0 : Act), (putAll a0 M v).tmps.size = a0.tmps.size ∧ (putAll a0 M v).defers = a0.defers
  | [], a0 => ⟨rfl, rfl⟩
  | m :: M, a0 => by
    obtain ⟨h1, h2⟩ := putAll_size v M (a0.put (some m.d) (v m.d))
    exact ⟨h1.trans (put_size _ _ _), h2⟩
theorem putAll_off (v : Nat → Value) : ∀ (M : List Nd) (a0 : Act) (k : Nat), offD M k → (putAll a0 M v).eval (.tmp k) = a0.eval (.tmp k)
  | [], a0, k, _ => rfl
  | m :: M, a0, k, h => by
    have h1 := putAll_off v M (a0.put (some m.d) (v m.d)) k (fun x hx => h x (List.mem_cons_of_mem _ hx))
    exact h1.trans (eval_ne (Ne.symm (h m List.mem_cons_self)))
theorem putAll_in (v : Nat → Value) : ∀ (M : List Nd) (a0 : Act) (k : Nat), k < a0.tmps.size → (∃ m ∈ M, m.d = k) → (putAll a0 M v).eval (.tmp k) = v k
  | [], a0, k, _, h => by obtain ⟨m, hm, _⟩ := h; cases hm
  | m :: M, a0, k, hk, h => by
    by_cases hr : ∃ x ∈ M, x.d = k
    · exact putAll_in v M (a0.put (some m.d) (v m.d)) k (by rw [put_size]; exact hk) hr
    · have hd : m.d = k := by
        obtain ⟨x, hx, e⟩ := h
        rcases List.mem_cons.1 hx with rfl | hx
        · exact e
        · exact absurd ⟨x, hx, e⟩ hr
      have h1 := putAll_off v M (a0.put (some m.d) (v m.d)) k (fun x hx e => hr ⟨x, hx, e⟩)
      rw [hd] at h1
      refine Eq.trans ?_ (h1.trans (eval_at hk))
      show (putAll (a0.put (some m.d) (v m.d)) M v).eval (.tmp k) = _
      rw [hd]
theorem act_ext {a b : Act} (hs : a.tmps.size = b.tmps.size) (hd : a.defers = b.defers) (h : ∀ k, a.eval (.tmp k) = b.eval (.tmp k)) : a = b := by
  obtain ⟨ta, da⟩ := a
  obtain ⟨tb, db⟩ := b
  simp only at hs hd
  subst hd
  congr 1
  apply Array.ext hs
  intro k h1 h2
  have := h k
  simpa [Act.eval, h1, h2] using this
theorem Agree.all {M : List Nd} {b a0 : Act} (h : Agree M b a0) (hd : ∀ m ∈ M, m.d < a0.tmps.size) : b = putAll a0 M (fun k => b.eval (.tmp k)) := by
  obtain ⟨s1, s2⟩ := putAll_size (fun k => b.eval (.tmp k)) M a0
  refine act_ext (h.size.trans s1.symm) (h.defers.trans s2.symm) (fun k => ?_)
  by_cases hk : ∃ m ∈ M, m.d = k
  · obtain ⟨m, hm, rfl⟩ := hk
    rw [putAll_in _ M a0 m.d (hd m hm) ⟨m, hm, rfl⟩]
  · have ho : offD M k := fun m hm e => hk ⟨m, hm, e⟩
    rw [putAll_off _ M a0 k ho, h.off k ho]
def apart (w : World) (m m' : Nd) (u v : Value) : Prop := ∀ k, m.B w u k → ¬ m'.B w v k
section
variable {P : Program} {md : Region.Mode} {ops : Array Oper}
def StepR (P : Program) (W : World) (a0 : Act) (M : List Nd) (nd : Nd) (o : Oper) : Prop :=
  ∀ (b : Act) (w : World), Agree M b a0 → Below W.heap.size W w → (∀ m ∈ M, m.i ∈ nd.uses → m.F w (b.eval (.tmp m.d))) →
    (∀ m ∈ M, ∀ m' ∈ M, m.i ∈ nd.uses → m'.i ∈ nd.uses → m.i ≠ m'.i → apart w m m' (b.eval (.tmp m.d)) (b.eval (.tmp m'.d))) →
    ∃ u w', (execOp b.eval o).run P w = .ok (.value u) w' ∧ nd.F w' u ∧
      (∃ row, w.grownBy w' row ∧ ∀ k, row = some k → ∃ m ∈ M, m.i ∈ nd.uses ∧ m.B w (b.eval (.tmp m.d)) k) ∧
      ∀ k, nd.B w' u k → w.heap.size ≤ k ∨ ∃ m ∈ M, m.i ∈ nd.uses ∧ m.B w (b.eval (.tmp m.d)) k
def roomB (md : Region.Mode) (ops : Array Oper) (M : List Nd) (fin : Array Bool) : Nat → Array Bool → Bool
  | 0, listed => decide (listed = fin)
  | f + 1, listed => !(Region.ready md ops listed).isEmpty && (Region.ready md ops listed).all fun i =>
      (M.any fun m => m.i == i) && (M.all fun m => !(m.i == i) || m.uses.all fun u => (listed.getD u false) && M.all fun x => !(x.uses.contains u) || !(listed.getD x.i false)) && roomB md ops M fin f (listed.setIfInBounds i true)
def Av (M : List Nd) (listed : Array Bool) (m : Nd) : Prop := listed.getD m.i false = true ∧ ∀ x ∈ M, m.i ∈ x.uses → listed.getD x.i false = false
theorem rows_any {n : Nat} {L : Array Bool → Act → World → Prop} {W : World} {a0 : Act} {M : List Nd} {fin : Array Bool} (hop : ∀ m ∈ M, ∃ o, ops[m.i]? = some o ∧ o.guard = none ∧ o.dst = some m.d ∧ m.i < n ∧ StepR P W a0 M m o) (hok : ∀ m ∈ M, NdOk W m)
    (hi : ∀ m ∈ M, ∀ m' ∈ M, m.i = m'.i → m = m') (hdd : ∀ m ∈ M, ∀ m' ∈ M, m.d = m'.d → m.i = m'.i) (hd : ∀ m ∈ M, m.d < a0.tmps.size)
    (K : ∀ (v : Nat → Value) (w : World), Below W.heap.size W w → (∀ m ∈ M, Av M fin m → m.F w (v m.d)) →
      (∀ m ∈ M, ∀ m' ∈ M, m.i ≠ m'.i → Av M fin m → Av M fin m' → apart w m m' (v m.d) (v m'.d)) → L fin (putAll a0 M v) w) :
    ∀ (f : Nat) (listed : Array Bool) (a : Act) (w : World), roomB md ops M fin f listed = true → Below W.heap.size W w → Agree M a a0 →
      (∀ m ∈ M, Av M listed m → m.F w (a.eval (.tmp m.d))) →
      (∀ m ∈ M, ∀ m' ∈ M, m.i ≠ m'.i → Av M listed m → Av M listed m' → apart w m m' (a.eval (.tmp m.d)) (a.eval (.tmp m'.d))) → anyC P md ops (Kept W) n L f listed a w := by
  intro f
  induction f with
  | zero =>
    intro listed a w hr hb hA ho hap
    simp only [roomB, decide_eq_true_eq] at hr
    subst hr
    show L listed a w
    rw [hA.all hd]
    exact K _ w hb ho hap
  | succ f ih =>
    intro listed a w hr hb hA ho hap
    simp only [roomB, Bool.and_eq_true, Bool.not_eq_true', List.all_eq_true] at hr
    obtain ⟨hne, hall⟩ := hr
    refine ⟨fun e => by rw [e] at hne; simp at hne, fun i hready => ?_⟩
    obtain ⟨⟨hin, hus⟩, hnext⟩ := hall i hready
    obtain ⟨nd, hnd, hni⟩ := List.any_eq_true.1 hin
    have hni : nd.i = i := by simpa using hni
    subst hni
    obtain ⟨o, h1, h2, h3, h4, hst⟩ := hop nd hnd
    have huse : ∀ m ∈ M, m.i ∈ nd.uses → Av M listed m := fun m hm hu => by
      have := hus nd hnd
      simp only [beq_self_eq_true, Bool.not_true, Bool.false_or, List.all_eq_true, Bool.and_eq_true] at this
      obtain ⟨p1, p2⟩ := this m.i hu
      refine ⟨p1, fun x hx hxu => ?_⟩
      have := p2 x hx
      simp only [Bool.or_eq_true, Bool.not_eq_true'] at this
      rcases this with h | h
      · rw [List.contains_iff_mem.2 hxu] at h; cases h
      · exact h
    obtain ⟨u, w', hrun, hown, ⟨row, hg, hrow⟩, hblk⟩ := hst a w hA hb (fun m hm hu => ho m hm (huse m hm hu)) (fun m hm m' hm' hu hu' hne => hap m hm m' hm' hne (huse m hm hu) (huse m' hm' hu'))
    have hb' : Below W.heap.size W w' := hb.grown hg hb.size (fun k hk => by
      obtain ⟨m, hm, hu, e⟩ := hrow k hk
      exact ((hok m hm).lt _ _ k (ho m hm (huse m hm hu)) e).1)
    have back : ∀ m ∈ M, m.i ≠ nd.i → Av M (listed.setIfInBounds nd.i true) m → Av M listed m ∧ m.i ∉ nd.uses := fun m hm hne hav => by
      have e1 := hav.1
      rw [getD_set_ne false (Ne.symm hne)] at e1
      have hnu : m.i ∉ nd.uses := fun hu => by
        have := hav.2 nd hnd hu
        have hlt : nd.i < listed.size := by
          rcases Nat.lt_or_ge nd.i listed.size with h | h
          · exact h
          · have := (mem_ready.1 hready).1
            simp [Array.getElem?_eq_none h] at this
        simp [hlt] at this
      refine ⟨⟨e1, fun x hx hxu => ?_⟩, hnu⟩
      have hxn : nd.i ≠ x.i := fun e => hnu (by rw [hi nd hnd x hx e]; exact hxu)
      have := hav.2 x hx hxu
      rwa [getD_set_ne false hxn] at this
    have evn : ∀ m ∈ M, m.i ≠ nd.i → (a.put (some nd.d) u).eval (.tmp m.d) = a.eval (.tmp m.d) := fun m hm hne => eval_ne (fun e => hne (hdd m hm nd hnd e))
    have evs : (a.put (some nd.d) u).eval (.tmp nd.d) = u := eval_at (by rw [hA.size]; exact hd nd hnd)
    have keep : ∀ m ∈ M, Av M listed m → m.i ∉ nd.uses → m.F w' (a.eval (.tmp m.d)) ∧ ∀ k, m.B w' (a.eval (.tmp m.d)) k → m.B w (a.eval (.tmp m.d)) k := fun m hm hav hnu => by
      refine (hok m hm).keep w w' _ hg.size (ho m hm hav) (fun k hk => hg.block k ((hok m hm).lt _ _ k (ho m hm hav) hk).2 (fun er => ?_))
      obtain ⟨x, hx, hxu, ex⟩ := hrow k er.symm
      exact hap x hx m hm (fun e2 => hnu (by rw [← e2]; exact hxu)) (huse x hx hxu) hav k ex hk
    have fresh : ∀ m ∈ M, Av M listed m → m.i ∉ nd.uses → ∀ k, nd.B w' u k → ¬ m.B w (a.eval (.tmp m.d)) k := fun m hm hav hnu k hk hk' => by
      rcases hblk k hk with h | ⟨x, hx, hxu, ex⟩
      · have := ((hok m hm).lt _ _ k (ho m hm hav) hk').2; omega
      · exact hap x hx m hm (fun e2 => hnu (by rw [← e2]; exact hxu)) (huse x hx hxu) hav k ex hk'
    refine ⟨h4, .inl ⟨o, h1, h2, u, w', hrun, regrown_of_below hb', ?_⟩⟩
    rw [h3]
    refine ih _ _ _ hnext hb' ⟨(put_size _ _ _).trans hA.size, hA.defers, fun k hk => (eval_ne (Ne.symm (hk nd hnd))).trans (hA.off k hk)⟩ (fun m hm hav => ?_) (fun m hm m' hm' hne hav hav' => ?_)
    · by_cases e : m.i = nd.i
      · obtain rfl := hi m hm nd hnd e
        rw [evs]; exact hown
      · obtain ⟨hav0, hnu⟩ := back m hm e hav
        rw [evn m hm e]
        exact (keep m hm hav0 hnu).1
    · by_cases e : m.i = nd.i
      · obtain rfl := hi m hm nd hnd e
        have e' : m'.i ≠ m.i := fun h => hne h.symm
        obtain ⟨hav0, hnu⟩ := back m' hm' e' hav'
        rw [evs, evn m' hm' e']
        exact fun k hk hk' => fresh m' hm' hav0 hnu k hk ((keep m' hm' hav0 hnu).2 k hk')
      · obtain ⟨hav0, hnu⟩ := back m hm e hav
        by_cases e' : m'.i = nd.i
        · obtain rfl := hi m' hm' nd hnd e'
          rw [evs, evn m hm e]
          exact fun k hk hk' => fresh m hm hav0 hnu k hk' ((keep m hm hav0 hnu).2 k hk)
        · obtain ⟨hav0', hnu'⟩ := back m' hm' e' hav'
          rw [evn m hm e, evn m' hm' e']
          exact fun k hk hk' => hap m hm m' hm' hne hav0 hav0' k ((keep m hm hav0 hnu).2 k hk) ((keep m' hm' hav0' hnu').2 k hk')
theorem rows_all {n : Nat} {L : Array Bool → Act → World → Prop} {W : World} {a0 : Act} (M : List Nd) (fin : Array Bool) {listed : Array Bool} {f : Nat} (hroom : roomB md ops M fin f listed = true) (hno : (M.all fun m => !listed.getD m.i false) = true)
    (hop : ∀ m ∈ M, ∃ o, ops[m.i]? = some o ∧ o.guard = none ∧ o.dst = some m.d ∧ m.i < n ∧ StepR P W a0 M m o) (hok : ∀ m ∈ M, NdOk W m)
    (hi : (M.map (·.i)).Nodup) (hdd : (M.map (·.d)).Nodup) (hd : ∀ m ∈ M, m.d < a0.tmps.size)
    (K : ∀ (v : Nat → Value) (w : World), Below W.heap.size W w → (∀ m ∈ M, Av M fin m → m.F w (v m.d)) →
      (∀ m ∈ M, ∀ m' ∈ M, m.i ≠ m'.i → Av M fin m → Av M fin m' → apart w m m' (v m.d) (v m'.d)) → L fin (putAll a0 M v) w) :
    anyC P md ops (Kept W) n L f listed a0 W.drew := by
  have inj : ∀ {g : Nd → Nat} (l : List Nd), (l.map g).Nodup → ∀ m ∈ l, ∀ m' ∈ l, g m = g m' → m = m' := by
    intro g l
    induction l with
    | nil => intro _ m hm; cases hm
    | cons x l ih =>
      intro h m hm m' hm' e
      rw [List.map_cons, List.nodup_cons] at h
      rcases List.mem_cons.1 hm with e1 | h1 <;> rcases List.mem_cons.1 hm' with e2 | h2
      · rw [e1, e2]
      · exact absurd (List.mem_map.2 ⟨m', h2, by rw [← e, e1]⟩) h.1
      · exact absurd (List.mem_map.2 ⟨m, h1, by rw [e, e2]⟩) h.1
      · exact ih h.2 m h1 m' h2 e
  have nav : ∀ m ∈ M, ¬ Av M listed m := fun m hm hav => by
    have := List.all_eq_true.1 hno m hm
    rw [hav.1] at this; cases this
  exact rows_any hop hok (inj M hi) (fun m hm m' hm' e => by rw [inj M hdd m hm m' hm' e]) hd K f listed a0 W.drew hroom (Below.refl _ _).drew ⟨rfl, rfl, fun _ _ => rfl⟩ (fun m hm hav => absurd hav (nav m hm)) (fun m hm _ _ _ hav _ => absurd hav (nav m hm))
def rowN (i d : Nat) (uses : List Nat) (base : Nat) (e : TypeId) (size n : Nat) (xs : List Value) : Nd := ⟨i, d, uses, fun w v => w.ownsRow base e size v n xs, fun _ v k => v.ownBlock = some k⟩
theorem own_keep {w w' : World} {base e size n : Nat} {v : Value} {xs : List Value} (h : w.ownsRow base e size v n xs) (hk : ∀ k, v.ownBlock = some k → w'.heap[k]? = w.heap[k]?) : w'.ownsRow base e size v n xs := by
  refine ⟨h.1, ?_⟩
  rcases h.2 with hn | ⟨g, cap, cur, hv, hbg, hgg, rest⟩
  · exact .inl hn
  · exact .inr ⟨g, cap, cur, hv, hbg, (hk g (by rw [hv]; rfl)).trans hgg, rest⟩
theorem rowN_ok {W : World} (i d : Nat) (uses : List Nat) (e : TypeId) (size n : Nat) (xs : List Value) : NdOk W (rowN i d uses W.heap.size e size n xs) :=
  ⟨fun _ _ _ _ h hk => ⟨own_keep h hk, fun _ h => h⟩, fun _ _ k h hb => h.lt k hb⟩
theorem own_built {base e size k : Nat} {w : World} {c : Array Value} (hb : base ≤ w.heap.size) (hk : k ≤ maxLen) (hc : c.size = k * size) : (w.alloc (.cells c e)).ownsRow base e size (.slice (some ⟨w.heap.size, 0, none⟩) k k) k c.toList :=
  ⟨by simp [hc], .inr ⟨w.heap.size, k, c, rfl, hb, heap_alloc_new w _, Nat.le_refl _, hk, hc, by rw [List.take_of_length_le (by simp [hc])]⟩⟩
theorem step_built {W : World} {a0 : Act} {M : List Nd} {i d e size n : Nat} {xs : List Value} {o : Oper} (c : Array Value) (hx : xs = c.toList) (hs : c.size = n * size) (hk : n ≤ maxLen)
    (hrun : ∀ (b : Act) (w : World), Agree M b a0 → (execOp b.eval o).run P w = .ok (.value (.slice (some ⟨w.heap.size, 0, none⟩) n n)) (w.alloc (.cells c e))) : StepR P W a0 M (rowN i d [] W.heap.size e size n xs) o := by
  intro b w hA hb _ _
  refine ⟨_, _, hrun b w hA, ?_, ⟨none, World.grownBy_alloc w _ none, fun k hk => by cases hk⟩, fun k hk => .inl ?_⟩
  · subst hx; exact own_built hb.size hk hs
  · replace hk : some w.heap.size = some k := hk
    simp at hk; omega
theorem own_src {base e size n : Nat} {w : World} {v : Value} {xs : List Value} (h : w.ownsRow base e size v n xs) : Src w v n size xs := by
  refine ⟨h.1, ?_⟩
  rcases h.2 with ⟨rfl, hn⟩ | ⟨g, cap, cur, rfl, hb, hg, hc, hm, hs, ht⟩
  · exact .inl ⟨rfl, hn⟩
  · refine .inr ⟨_, _, rfl, fun j u hj => ?_⟩
    rw [add_at, Nat.zero_add]
    have hjl : j < n * size := by
      have := (List.getElem?_eq_some_iff.1 hj).1
      rw [h.1] at this; exact this
    have : cur.toList[j]? = some u := by
      rw [← ht, List.getElem?_take_of_lt hjl] at hj; exact hj
    have e : cur[j]? = some u := by simpa using this
    simp only [World.cell?, hg, e]; rfl
theorem exec_append_at {t e : TypeId} {size bytes base n m : Nat} {w : World} {o : Oper} {a : Act} {v sv : Value} {xs news : List Value} (T : ElT P t e size bytes) (s x : Operand) (ho : o.op = .call { callee := .builtin .append, args := #[s, x], argTypes := #[t, t] })
    (hs : a.eval s = v) (hx : a.eval x = sv) (hown : w.ownsRow base e size v n xs) (hsrc : Src w sv m size news) (h1 : ∀ u ∈ news, u.oneCell' = true) (h63 : n + m ≤ maxLen) (hbytes : (n + m) * bytes ≤ 140737488355328) (hbase : base ≤ w.heap.size) :
    ∃ v' w', (execOp a.eval o).run P w = .ok (.value v') w' ∧ w'.ownsRow base e size v' (n + m) (xs ++ news) ∧ w.grownBy w' v.ownBlock ∧ (v'.ownBlock = v.ownBlock ∨ v'.ownBlock = some w.heap.size) := by
  obtain ⟨i, z, hi, hz, h2, h3, h4⟩ := T.info
  rcases hsrc with ⟨hl, ⟨rfl, rfl⟩ | ⟨ad, c, rfl, hc⟩⟩
  · have hn : news = [] := List.eq_nil_of_length_eq_zero (by simpa using hl)
    subst hn
    have hr := run_append_owned_none (P := P) (w := w) base t o.type e i size T.ht hi v n xs hown
    refine ⟨v, w, ?_, by simpa using hown, ⟨rfl, rfl, rfl, Nat.le_refl _, fun _ _ _ => rfl⟩, .inl rfl⟩
    unfold execOp
    simp only [ho, resolve, invoke, builtin, Sem.run_bind, Sem.run_pure, Result.andThen_ok, List.map_toArray, List.map_cons, List.map_nil, hs, hx, hr]
  · obtain ⟨v', w', hr, q1, q2, _, q3⟩ := run_append_own_at (P := P) (w := w) base t o.type e i z size bytes T.ht hi hz h2 h3 h4 T.pos v n xs hown ad m c news hl hc h1 h63 hbytes hbase
    refine ⟨v', w', ?_, q1, q2, q3⟩
    unfold execOp
    simp only [ho, resolve, invoke, builtin, Sem.run_bind, Sem.run_pure, Result.andThen_ok, List.map_toArray, List.map_cons, List.map_nil, hs, hx, hr]
theorem step_grown {W : World} {a0 : Act} {M : List Nd} {i d i' d' e size n n' : Nat} {us : List Nat} {xs xs' : List Value} {o : Oper} {t : TypeId} {bytes k : Nat} {S : Value} {c : List Value} (x : Nat) (T : ElT P t e size bytes) (hm : rowN i' d' us W.heap.size e size n' xs' ∈ M)
    (ho : o.op = .call { callee := .builtin .append, args := #[.tmp d', .tmp x], argTypes := #[t, t] }) (hx : offD M x) (e1 : a0.eval (.tmp x) = S) (s1 : Src W S k size c) (hc : ∀ u ∈ c, u.oneCell' = true) (hn : n = n' + k) (hxs : xs = xs' ++ c) (h63 : n ≤ maxLen) (hby : n * bytes ≤ 140737488355328) : StepR P W a0 M (rowN i d [i'] W.heap.size e size n xs) o := by
  subst hn hxs
  intro b w hA hb hr _
  have hmi : i' ∈ [i'] := by simp
  have h0 := hr _ hm hmi
  obtain ⟨v', w', q1, q2, q3, q4⟩ := exec_append_at T _ _ ho rfl ((hA.off x hx).trans e1) h0 (s1.below hb) hc h63 hby hb.size
  refine ⟨v', w', q1, q2, ⟨_, q3, fun j hj => ⟨_, hm, hmi, hj⟩⟩, fun j hj => ?_⟩
  rcases q4 with h | h
  · exact .inr ⟨_, hm, hmi, h.symm.trans hj⟩
  · have : some w.heap.size = some j := h ▸ hj
    simp at this; exact .inl (by omega)
theorem step_joined {W : World} {a0 : Act} {M : List Nd} {i d i' d' i2 d2 e size n n' n2 e2 : Nat} {us us2 : List Nat} {xs xs' xs2 : List Value} {o : Oper} {t : TypeId} {bytes : Nat} (T : ElT P t e size bytes) (hm : rowN i' d' us W.heap.size e size n' xs' ∈ M) (hm' : rowN i2 d2 us2 W.heap.size e2 size n2 xs2 ∈ M)
    (ho : o.op = .call { callee := .builtin .append, args := #[.tmp d', .tmp d2], argTypes := #[t, t] }) (hc : ∀ u ∈ xs2, u.oneCell' = true) (hn : n = n' + n2) (hxs : xs = xs' ++ xs2) (h63 : n ≤ maxLen) (hby : n * bytes ≤ 140737488355328) : StepR P W a0 M (rowN i d [i', i2] W.heap.size e size n xs) o := by
  subst hn hxs
  intro b w hA hb hr _
  have hmi : i' ∈ [i', i2] := by simp
  have hmi' : i2 ∈ [i', i2] := by simp
  have h0 := hr _ hm hmi
  have h1 := hr _ hm' hmi'
  obtain ⟨v', w', q1, q2, q3, q4⟩ := exec_append_at T _ _ ho rfl rfl h0 (own_src h1) hc h63 hby hb.size
  refine ⟨v', w', q1, q2, ⟨_, q3, fun j hj => ⟨_, hm, hmi, hj⟩⟩, fun j hj => ?_⟩
  rcases q4 with h | h
  · exact .inr ⟨_, hm, hmi, h.symm.trans hj⟩
  · have : some w.heap.size = some j := h ▸ hj
    simp at this; exact .inl (by omega)
structure PairF (base e size na nb : Nat) (xa xb : List Value) (w : World) (a b : Value) : Prop where
  p : w.ownsRow base e size a na xa
  q : w.ownsRow base e size b nb xb
  ap : ∀ k, a.ownBlock = some k → b.ownBlock ≠ some k
def pairN (i d : Nat) (uses : List Nat) (base e size na nb : Nat) (xa xb : List Value) : Nd :=
  ⟨i, d, uses, fun w v => ∃ a b, v = .agg #[a, b] ∧ PairF base e size na nb xa xb w a b, fun _ v k => ∃ a b, v = .agg #[a, b] ∧ (a.ownBlock = some k ∨ b.ownBlock = some k)⟩
theorem pairN_ok {W : World} (i d : Nat) (uses : List Nat) (e size na nb : Nat) (xa xb : List Value) : NdOk W (pairN i d uses W.heap.size e size na nb xa xb) := by
  refine ⟨fun w w' v _ h hk => ⟨?_, fun _ h => h⟩, fun w v k h hb => ?_⟩
  · obtain ⟨a, b, rfl, hp⟩ := h
    exact ⟨a, b, rfl, own_keep hp.p (fun k e => hk k ⟨a, b, rfl, .inl e⟩), own_keep hp.q (fun k e => hk k ⟨a, b, rfl, .inr e⟩), hp.ap⟩
  · obtain ⟨a, b, rfl, hp⟩ := h
    obtain ⟨a', b', e', hh⟩ := hb
    simp only [Value.agg.injEq, Array.mk.injEq, List.cons.injEq, and_true] at e'
    obtain ⟨rfl, rfl⟩ := e'
    rcases hh with h | h
    · exact hp.p.lt k h
    · exact hp.q.lt k h
theorem row_slice {w : World} {base e size n : Nat} {v : Value} {xs : List Value} (h : w.ownsRow base e size v n xs) : ∃ o n c, v = .slice o n c := by
  rcases h.2 with ⟨rfl, _⟩ | ⟨g, cap, cur, rfl, _⟩ <;> exact ⟨_, _, _, rfl⟩
theorem step_pair {W : World} {a0 : Act} {M : List Nd} {i d i1 d1 i2 d2 e size na nb : Nat} {us us2 : List Nat} {xa xb : List Value} {o : Oper} (hm : rowN i1 d1 us W.heap.size e size na xa ∈ M) (hm' : rowN i2 d2 us2 W.heap.size e size nb xb ∈ M) (hne : i1 ≠ i2)
    (hrun : ∀ (b : Act) (w : World) (o1 o2 : Option Addr) (n1 n2 c1 c2 : Nat), b.eval (.tmp d1) = .slice o1 n1 c1 → b.eval (.tmp d2) = .slice o2 n2 c2 → (execOp b.eval o).run P w = .ok (.value (.agg #[.slice o1 n1 c1, .slice o2 n2 c2])) w) : StepR P W a0 M (pairN i d [i1, i2] W.heap.size e size na nb xa xb) o := by
  intro b w hA hb hr hap
  have hmi : i1 ∈ [i1, i2] := by simp
  have hmi' : i2 ∈ [i1, i2] := by simp
  obtain ⟨o1, n1, c1, s1⟩ := row_slice (hr _ hm hmi)
  obtain ⟨o2, n2, c2, s2⟩ := row_slice (hr _ hm' hmi')
  have hrr := hrun b w o1 o2 n1 n2 c1 c2 s1 s2
  rw [← s1, ← s2] at hrr
  refine ⟨_, w, hrr, ⟨_, _, rfl, hr _ hm hmi, hr _ hm' hmi', fun k h1 h2 => hap _ hm _ hm' hmi hmi' hne k h1 h2⟩, ⟨none, ⟨rfl, rfl, rfl, Nat.le_refl _, fun _ _ _ => rfl⟩, fun k hk => by cases hk⟩, fun k hk => .inr ?_⟩
  obtain ⟨a', b', e', hh⟩ := hk
  simp only [Value.agg.injEq, Array.mk.injEq, List.cons.injEq, and_true] at e'
  obtain ⟨rfl, rfl⟩ := e'
  rcases hh with h | h
  · exact ⟨_, hm, hmi, h⟩
  · exact ⟨_, hm', hmi', h⟩
def elemN (i d : Nat) (uses : List Nat) (base T e size na nb : Nat) (xa xb : List Value) : Nd :=
  ⟨i, d, uses, fun w v => ∃ a b, w.ownsRow base T 2 v 1 [a, b] ∧ PairF base e size na nb xa xb w a b, fun w v k => v.ownBlock = some k ∨ ∃ a b, w.ownsRow base T 2 v 1 [a, b] ∧ (a.ownBlock = some k ∨ b.ownBlock = some k)⟩
theorem own_one {w : World} {base e size n : Nat} {v : Value} {xs ys : List Value} (h : w.ownsRow base e size v n xs) (h' : w.ownsRow base e size v n ys) : xs = ys := by
  rcases h.2 with ⟨rfl, hn⟩ | ⟨g, cap, cur, rfl, _, hg, _, _, _, ht⟩
  · have e1 := h.1; have e2 := h'.1
    rw [hn, Nat.zero_mul] at e1 e2
    rw [List.eq_nil_of_length_eq_zero e1, List.eq_nil_of_length_eq_zero e2]
  · rcases h'.2 with ⟨e, _⟩ | ⟨g', cap', cur', e, _, hg', _, _, _, ht'⟩
    · cases e
    · cases e
      rw [hg] at hg'
      simp only [Option.some.injEq, Obj.cells.injEq] at hg'
      rw [← ht, ← ht', hg'.1]
theorem elemN_ok {W : World} (i d : Nat) (uses : List Nat) (T e size na nb : Nat) (xa xb : List Value) : NdOk W (elemN i d uses W.heap.size T e size na nb xa xb) := by
  refine ⟨fun w w' v _ h hk => ?_, fun w v k h hb => ?_⟩
  · obtain ⟨a, b, ho, hp⟩ := h
    have ho' := own_keep (w' := w') ho (fun k e => hk k (.inl e))
    refine ⟨⟨a, b, ho', own_keep hp.p (fun k e => hk k (.inr ⟨a, b, ho, .inl e⟩)), own_keep hp.q (fun k e => hk k (.inr ⟨a, b, ho, .inr e⟩)), hp.ap⟩, fun k hb => ?_⟩
    rcases hb with h | ⟨a', b', h1, h2⟩
    · exact .inl h
    · have := own_one ho' h1
      simp only [List.cons.injEq, and_true] at this
      obtain ⟨rfl, rfl⟩ := this
      exact .inr ⟨a, b, ho, h2⟩
  · obtain ⟨a, b, ho, hp⟩ := h
    rcases hb with h | ⟨a', b', h1, h2⟩
    · exact ho.lt k h
    · have := own_one ho h1
      simp only [List.cons.injEq, and_true] at this
      obtain ⟨rfl, rfl⟩ := this
      rcases h2 with h | h
      · exact hp.p.lt k h
      · exact hp.q.lt k h
theorem row_cell {w : World} {base e size n : Nat} {v : Value} {xs : List Value} (h : w.ownsRow base e size v n xs) : v.cells = #[v] := by
  rcases h.2 with ⟨rfl, _⟩ | ⟨g, cap, cur, rfl, _⟩ <;> rfl
theorem step_elem {W : World} {a0 : Act} {M : List Nd} {i d i1 d1 T e size na nb : Nat} {us : List Nat} {xa xb : List Value} {o : Oper} (hm : pairN i1 d1 us W.heap.size e size na nb xa xb ∈ M)
    (hrun : ∀ (b : Act) (w : World) (x y : Value), b.eval (.tmp d1) = .agg #[x, y] → x.cells = #[x] → y.cells = #[y] → (execOp b.eval o).run P w = .ok (.value (.slice (some ⟨w.heap.size, 0, none⟩) 1 1)) (w.alloc (.cells #[x, y] T))) : StepR P W a0 M (elemN i d [i1] W.heap.size T e size na nb xa xb) o := by
  intro b w hA hb hr _
  have hmi : i1 ∈ [i1] := by simp
  obtain ⟨x, y, e1, hp⟩ := hr _ hm hmi
  have hg : w.grownBy (w.alloc (.cells #[x, y] T)) none := World.grownBy_alloc w _ none
  have ho : (w.alloc (.cells #[x, y] T)).ownsRow W.heap.size T 2 (.slice (some ⟨w.heap.size, 0, none⟩) 1 1) 1 [x, y] := own_built hb.size (by unfold maxLen; omega) rfl
  refine ⟨_, _, hrun b w x y e1 (row_cell hp.p) (row_cell hp.q), ⟨x, y, ho, own_keep hp.p (fun k hk => hg.block k (hp.p.lt k hk).2 (by simp)), own_keep hp.q (fun k hk => hg.block k (hp.q.lt k hk).2 (by simp)), hp.ap⟩, ⟨none, hg, fun k hk => by cases hk⟩, fun k hk => ?_⟩
  rcases hk with h | ⟨a', b', h1, h2⟩
  · replace h : some w.heap.size = some k := h
    simp at h; exact .inl (by omega)
  · have := own_one ho h1
    simp only [List.cons.injEq, and_true] at this
    obtain ⟨rfl, rfl⟩ := this
    exact .inr ⟨_, hm, hmi, ⟨x, y, e1, h2⟩⟩
end
end Go.Proofs.Ytgjcppdeljoimaa

namespace Go.Proofs.Ytgjcppdeljoimaa
open Go.RowKit
structure RR where
  r : RT
  u : Value
  v : Value
  g : Nat
  h : Nat
def zero : RR := ⟨([], []), .slice none 0 0, .slice none 0 0, 0, 0⟩
def nthZ (Z : List RR) (i : Nat) : RR := Z.getD i zero
def celZ (Z : List RR) : List Value := Z.flatMap fun z => [z.u, z.v]
def blkZ (Z : List RR) : List Nat := Z.flatMap fun z => [z.g, z.h]
def cR (Z : List RR) (i j : Nat) : Value := if j = 0 then (nthZ Z i).u else (nthZ Z i).v
theorem nthZ_mem {Z : List RR} {i : Nat} (h : i < Z.length) : nthZ Z i ∈ Z := List.mem_of_getElem? (i := i) (by simp [nthZ, h])
theorem nthZ_at {Z : List RR} {i : Nat} (h : i < Z.length) : Z[i]? = some (nthZ Z i) := by simp [nthZ, h]
theorem celZ_len : ∀ Z, (celZ Z).length = Z.length * 2
  | [] => rfl
  | z :: Z => by have := celZ_len Z; simp only [celZ, List.flatMap_cons, List.length_append, List.length_cons, List.length_nil] at this ⊢; omega
theorem celZ_at : ∀ (Z : List RR) (i j : Nat), i < Z.length → j < 2 → (celZ Z)[i * 2 + j]? = some (cR Z i j)
  | [], i, j, h, _ => by simp at h
  | z :: Z, 0, j, _, hj => by
    rcases (show j = 0 ∨ j = 1 by omega) with rfl | rfl <;> rfl
  | z :: Z, i + 1, j, h, hj => by
    have := celZ_at Z i j (by simpa using h) hj
    have e : (i + 1) * 2 + j = (i * 2 + j) + 1 + 1 := by omega
    rw [e]; exact this
theorem celZ_one {Z : List RR} (h : ∀ z ∈ Z, z.u.oneCell' = true ∧ z.v.oneCell' = true) : ∀ x ∈ celZ Z, x.oneCell' = true := fun x hx => by
  obtain ⟨z, hz, hm⟩ := List.mem_flatMap.1 hx
  simp only [List.mem_cons, List.not_mem_nil, or_false] at hm
  rcases hm with rfl | rfl
  · exact (h z hz).1
  · exact (h z hz).2
structure RowZ (B : Nat) (w : World) (z : RR) : Prop where
  p : RowG B w z.u z.r.1 z.g
  q : RowG B w z.v z.r.2 z.h
theorem RowZ.same {B : Nat} {w w' : World} {z : RR} (h : RowZ B w z) (e : w'.heap[z.g]? = w.heap[z.g]?) (e' : w'.heap[z.h]? = w.heap[z.h]?) : RowZ B w' z := ⟨h.p.same e, h.q.same e'⟩
theorem RowZ.le {B B' : Nat} {w : World} {z : RR} (h : RowZ B w z) (hB : B' ≤ B) : RowZ B' w z := ⟨h.p.le hB, h.q.le hB⟩
theorem RowZ.one {B : Nat} {w : World} {z : RR} (h : RowZ B w z) : z.u.oneCell' = true ∧ z.v.oneCell' = true := by
  obtain ⟨_, _, e, _⟩ := h.p
  obtain ⟨_, _, e', _⟩ := h.q
  rw [e, e']; exact ⟨rfl, rfl⟩
theorem RowG.blk {B : Nat} {w : World} {u : Value} {l : List ByteArray} {g : Nat} (h : RowG B w u l g) : u.ownBlock = some g ∧ B ≤ g := by
  obtain ⟨_, _, rfl, hb, _⟩ := h
  exact ⟨rfl, hb⟩
theorem RowG.below {B : Nat} {w w' : World} {u : Value} {l : List ByteArray} {g : Nat} (h : RowG B w u l g) (hb : Below w.heap.size w w') : RowG B w' u l g := h.same (hb.block _ h.lt)
theorem RowZ.below {B : Nat} {w w' : World} {z : RR} (h : RowZ B w z) (hb : Below w.heap.size w w') : RowZ B w' z := ⟨h.p.below hb, h.q.below hb⟩
structure RtsO (B : Nat) (w : World) (v : Value) (Z : List RR) : Prop where
  own : w.ownsRow B 34 2 v Z.length (celZ Z)
  row : ∀ z ∈ Z, RowZ B w z
  nod : (blkZ Z).Nodup
structure RtsR (B : Nat) (w : World) (v : Value) (Z : List RR) : Prop where
  out : Lst B w v Z.length 2 (cR Z)
  row : ∀ z ∈ Z, Lst B w z.u z.r.1.length 1 (cS (nthB z.r.1)) ∧ Lst B w z.v z.r.2.length 1 (cS (nthB z.r.2))
  none : ∀ z ∈ Z, ∀ n c, z.v = .slice none n c → c = 0
theorem RtsR.kept {B B' : Nat} {w w' : World} {v : Value} {Z : List RR} (h : RtsR B w v Z) (hb : Below B' w w') (hB : B ≤ B') : RtsR B w' v Z := ⟨h.out.kept hb hB, fun z hz => ⟨(h.row z hz).1.kept hb hB, (h.row z hz).2.kept hb hB⟩, h.none⟩
theorem RtsR.up {B B' : Nat} {w : World} {v : Value} {Z : List RR} (h : RtsR B w v Z) (hB : B ≤ B') : RtsR B' w v Z := ⟨h.out.up hB, fun z hz => ⟨(h.row z hz).1.up hB, (h.row z hz).2.up hB⟩, h.none⟩
theorem own_lstZ {B T : Nat} {w : World} {v : Value} {Z : List RR} (h : w.ownsRow B T 2 v Z.length (celZ Z)) (hm : Z.length ≤ 1048576) : Lst w.heap.size w v Z.length 2 (cR Z) := by
  rcases h.2 with ⟨rfl, hn⟩ | ⟨g, cap, cur, rfl, hb, hg, hc, hm', hs, ht⟩
  · rw [hn]; exact ⟨none, 0, rfl, Nat.zero_le _, fun i hi => by omega⟩
  · refine ⟨_, _, rfl, by unfold maxLen; omega, fun i hi => ⟨g, 0, rfl, (Array.getElem?_eq_some_iff.1 hg).1, fun j hj => ?_⟩⟩
    have e1 : cur.toList[i * 2 + j]? = (celZ Z)[i * 2 + j]? := by
      rw [← ht, List.getElem?_take_of_lt (by omega)]
    have e2 : cur[i * 2 + j]? = some (cR Z i j) := by
      rw [← Array.getElem?_toList, e1]; exact celZ_at Z i j hi hj
    rw [Nat.zero_add]
    exact (cell_row hg _ _ e2).1
theorem RtsO.read {B : Nat} {w : World} {v : Value} {Z : List RR} (h : RtsO B w v Z) (hn : Z.length ≤ 1048576) (hl : ∀ z ∈ Z, z.r.1.length ≤ 1048576 ∧ z.r.2.length ≤ 1048576) : RtsR w.heap.size w v Z :=
  ⟨own_lstZ h.own hn, fun z hz => ⟨(h.row z hz).p.lst (hl z hz).1, (h.row z hz).q.lst (hl z hz).2⟩, fun z hz n c e => by obtain ⟨_, _, e', _⟩ := (h.row z hz).q; rw [e'] at e; cases e⟩
theorem RtsO.below {B : Nat} {w w' : World} {v : Value} {Z : List RR} (h : RtsO B w v Z) (hb : Below w.heap.size w w') : RtsO B w' v Z :=
  ⟨own_belowR h.own hb, fun z hz => (h.row z hz).below hb, h.nod⟩
theorem RtsO.le {B B' : Nat} {w : World} {v : Value} {Z : List RR} (h : RtsO B w v Z) (hB : B' ≤ B) : RtsO B' w v Z :=
  ⟨own_leR h.own hB, fun z hz => (h.row z hz).le hB, h.nod⟩
theorem RtsO.nil (B : Nat) (w : World) : RtsO B w (.slice none 0 0) [] := ⟨World.ownsRow_nil _ _ _ _, fun z hz => by simp at hz, by simp [blkZ]⟩
theorem lst_src {B : Nat} {w : World} {v : Value} {l : List ByteArray} (h : Lst B w v l.length 1 (cS (nthB l))) (hnil : ∀ n c, v = .slice none n c → c = 0) : Src w v l.length 1 (l.map .string) := by
  obtain ⟨oa, cap, rfl, _, hc⟩ := h
  refine ⟨by simp, ?_⟩
  cases oa with
  | none =>
    have h0 : l.length = 0 := by
      rcases Nat.eq_zero_or_pos l.length with h | h
      · exact h
      · obtain ⟨_, _, e, _⟩ := hc 0 h; cases e
    rw [hnil _ _ rfl, h0]; exact .inl ⟨rfl, rfl⟩
  | some ad =>
    refine .inr ⟨ad, cap, rfl, fun j u hj => ?_⟩
    have hjl : j < l.length := by
      have := (List.getElem?_eq_some_iff.1 hj).1
      simpa using this
    obtain ⟨b, off, e, _, hcell⟩ := hc j hjl
    cases e
    have := hcell 0 (by omega)
    rw [Nat.mul_one, Nat.add_zero] at this
    rw [add_at, this]
    simp [cS, nthB, hjl] at hj ⊢
    exact hj
theorem RowG.apart {B B' T size n : Nat} {w : World} {u v : Value} {l : List ByteArray} {g : Nat} {xs : List Value} (h : RowG B w u l g) (ho : w.ownsRow B' T size v n xs) (hT : T ≠ 9) : some g ≠ v.ownBlock := fun e => by
  obtain ⟨cap, cur, _, _, hg, _⟩ := h
  rcases ho.2 with ⟨rfl, _⟩ | ⟨g', cap', cur', rfl, _, hgg, _⟩
  · cases e
  · simp only [Value.ownBlock, Option.some.injEq] at e
    rw [e, hgg] at hg
    simp only [Option.some.injEq, Obj.cells.injEq] at hg
    exact hT hg.2.1
theorem RowZ.grown {B B' T size n : Nat} {w w' : World} {v : Value} {xs : List Value} {z : RR} (h : RowZ B w z) (ho : w.ownsRow B' T size v n xs) (hT : T ≠ 9) (hg : w.grownBy w' v.ownBlock) : RowZ B w' z :=
  h.same (hg.block _ h.p.lt (h.p.apart ho hT)) (hg.block _ h.q.lt (h.q.apart ho hT))
theorem typeR : (34 : Nat) ≠ 9 := by decide
theorem RtsO.push {B : Nat} {w w' : World} {v v' : Value} {Z : List RR} {z : RR} (h : RtsO B w v Z) (hr : RowZ B w z) (hgh : z.g ≠ z.h) (hg' : z.g ∉ blkZ Z) (hh' : z.h ∉ blkZ Z)
    (ho : w'.ownsRow B 34 2 v' (Z.length + 1) (celZ Z ++ [z.u, z.v])) (hg : w.grownBy w' v.ownBlock) : RtsO B w' v' (Z ++ [z]) := by
  refine ⟨?_, fun x hx => ?_, ?_⟩
  · rw [List.length_append]
    have : celZ (Z ++ [z]) = celZ Z ++ [z.u, z.v] := by simp [celZ]
    rw [this]; exact ho
  · rcases List.mem_append.1 hx with h1 | h1
    · exact (h.row x h1).grown h.own typeR hg
    · simp at h1; subst h1; exact hr.grown h.own typeR hg
  · have : blkZ (Z ++ [z]) = blkZ Z ++ [z.g, z.h] := by simp [blkZ]
    rw [this, List.nodup_append]
    refine ⟨h.nod, by simp [hgh], fun a ha b hb => ?_⟩
    simp only [List.mem_cons, List.not_mem_nil, or_false] at hb
    rintro rfl
    rcases hb with rfl | rfl
    · exact hg' ha
    · exact hh' ha
theorem RtsO.old {B : Nat} {w : World} {v : Value} {Z : List RR} (h : RtsO B w v Z) {k : Nat} (hk : k ∈ blkZ Z) : B ≤ k ∧ k < w.heap.size := by
  obtain ⟨z, hz, hm⟩ := List.mem_flatMap.1 hk
  simp only [List.mem_cons, List.not_mem_nil, or_false] at hm
  rcases hm with rfl | rfl
  · exact ⟨(h.row z hz).p.blk.2, (h.row z hz).p.lt⟩
  · exact ⟨(h.row z hz).q.blk.2, (h.row z hz).q.lt⟩
end Go.Proofs.Ytgjcppdeljoimaa
