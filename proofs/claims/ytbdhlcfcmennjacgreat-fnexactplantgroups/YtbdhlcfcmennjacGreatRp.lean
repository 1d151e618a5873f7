/-
  The places behind the valves at a place, as the program tells them: a function value that ranges over another one and hands on a part of what comes.
-/
import Derived.Test.YtbdhlcfcmennjacGreatRa
import Derived.Test.YtbdhlcfcmennjacGreatRn
import Derived.Test.YtbdhlcfcmennjacGreatVa
namespace Go.Proofs.YtbdhlcfcmennjacGreat
open Go.RowKit Go.Shelf

attribute [local go_sem] Oper.semAt_some

/-- At the wide fence a round is a round, wherever it is asked for. -/
theorem round_wide {m m' l' l : Nat} {P : Program} {f : FuncId} {tmps : Array Value} {assign body : Code} {w : World} {R : Ending → World → Prop} (h : RoundIn Fence.wide m P l f tmps assign body w R) : RoundIn (Fence.wide.inRound l') m' P l f tmps assign body w R :=
  ⟨h.1, fun c cs _ => h.2 c cs (by simp [Fence.room, Fence.wide])⟩

/-- One text that is handed on, not long. -/
abbrev One := { s : ByteArray // s.size ≤ 8 }
def sndO (y : Two) : One := ⟨y.1.2, y.2.2⟩
/-- The places behind the valves at a place, of the first k. -/
def nAt (f : Nat → ByteArray × ByteArray × ByteArray × ByteArray) (x : ByteArray) (k : Nat) : List One := (vAt f x k).map sndO

theorem vals_seq (n b1 b2 n₀ : Nat) (hn : 2 ≤ n) (v3 : Value) (nv : Nat) (f : Nat → ByteArray × ByteArray × ByteArray × ByteArray) (x : ByteArray) (w : World)
    (hb1 : w.cell? ⟨b1, 3, none⟩ = some v3) (hb2 : w.cell? ⟨b2, 0, none⟩ = some (.string x)) (h : Lst n₀ w v3 nv 4 (cV f)) (h8 : ∀ i, i < nv → (f i).1.size ≤ 8 ∧ (f i).2.1.size ≤ 8 ∧ (f i).2.2.1.size ≤ 8)
    (hs1 : b1 < w.heap.size) (hs2 : b2 < w.heap.size) (hn₀ : n₀ ≤ w.heap.size) :
    SeqStopsK Fence.wide n Tryz.prog 106 #[.pointer (some ⟨b1, 0, none⟩), .pointer (some ⟨b2, 0, none⟩)] (fun y : Two => #[Value.string y.1.1, Value.string y.1.2]) (KpV n₀ b2) (fun ys => ys = vAt f x nv) (fun pre => pre <+: vAt f x nv) nv w := fun l J Jx W hW hJ _ hY h0 =>
  vals_in n l b1 b2 n₀ hn v3 nv f x J Jx W hJ hY ((hW.cell (p := ⟨b1, 3, none⟩) hs1).trans hb1) ((hW.cell (p := ⟨b2, 0, none⟩) hs2).trans hb2) (h.kept hW hn₀) h8 (Nat.lt_of_lt_of_le hs2 hW.size) (Nat.le_trans hn₀ hW.size) h0

set_option maxRecDepth 100000 in
set_option maxHeartbeats 1000000 in
/-- The function value: it has the plant and the place in boxes. -/
theorem placesNext_any (v0 v1 v2 v3 : Value) (x : ByteArray) (w : World) :
    Calls Tryz.prog 63 #[.agg #[v0, v1, v2, v3], .string x] w fun e w' => e = .returned (.func (.func 89) #[] #[.pointer (some ⟨w.heap.size, 0, none⟩), .pointer (some ⟨w.heap.size + 1, 0, none⟩)]) ∧
      w' = (w.alloc (.cells #[v0, v1, v2, v3] 36)).alloc (.cells #[.string x] 9) := by
  go_enter Tryz.func63, Tryz.ntmps63
  go_wp2
  go_ret
  exact ⟨by simp, rfl⟩

set_option maxRecDepth 100000 in
set_option maxHeartbeats 4000000 in
theorem next_own (n b1 b2 n₀ : Nat) (hn : 5 ≤ n) (v0 v1 v2 v3 : Value) (nv : Nat) (f : Nat → ByteArray × ByteArray × ByteArray × ByteArray) (x : ByteArray) (own : World → Nat → Prop) (w : World)
    (hb1 : w.heap[b1]? = some (.cells #[v0, v1, v2, v3] 36 (0, 0))) (hb2 : w.heap[b2]? = some (.cells #[.string x] 9 (0, 0))) (h : Lst n₀ w v3 nv 4 (cV f)) (h8 : ∀ i, i < nv → (f i).1.size ≤ 8 ∧ (f i).2.1.size ≤ 8 ∧ (f i).2.2.1.size ≤ 8) (hn₀ : n₀ ≤ w.heap.size) :
    SeqOwn Fence.wide n Tryz.prog 89 #[.pointer (some ⟨b1, 0, none⟩), .pointer (some ⟨b2, 0, none⟩)] (fun y : One => #[Value.string y.1]) own n₀ (fun ys => ys = nAt f x nv) nv w := by
  intro l J W hW hJ hst hno hY h0
  have hc1 := (hW.block b1 (Array.getElem?_eq_some_iff.1 hb1).1).trans hb1
  have hc2 := (hW.block b2 (Array.getElem?_eq_some_iff.1 hb2).1).trans hb2
  have HL : Hid (Lst n₀ W v3 nv 4 (cV f)) := h.kept hW hn₀
  have hn₀' : n₀ ≤ W.heap.size := Nat.le_trans hn₀ hW.size
  have HY : Hid _ := hY
  have HJ : Hid (OwnFrom W.heap.size J) := hJ
  have HST : Hid (∀ pre W1, J pre W1 → OwnSt own W1) := hst
  have H0 : Hid _ := h0
  have HNO : Hid _ := hno
  have H8 : Hid _ := h8
  have l1 := (Array.getElem?_eq_some_iff.1 hc1).1
  have l2 := (Array.getElem?_eq_some_iff.1 hc2).1
  obtain ⟨x0, _⟩ := cell_row hc1 0 _ rfl
  obtain ⟨x1, _⟩ := cell_row hc1 1 _ rfl
  obtain ⟨x2, _⟩ := cell_row hc1 2 _ rfl
  obtain ⟨x3, _⟩ := cell_row hc1 3 _ rfl
  obtain ⟨y0, _⟩ := cell_row hc2 0 _ rfl
  simp only [List.getElem_toArray, List.getElem_cons_zero, List.getElem_cons_succ] at x0 x1 x2 x3 y0
  replace x0 := cell_past x0 l1 (.cells #[.func (.yield l) #[] #[]] 103)
  replace x1 := cell_past x1 l1 (.cells #[.func (.yield l) #[] #[]] 103)
  replace x2 := cell_past x2 l1 (.cells #[.func (.yield l) #[] #[]] 103)
  replace x3 := cell_past x3 l1 (.cells #[.func (.yield l) #[] #[]] 103)
  replace y0 := cell_past y0 l2 (.cells #[.func (.yield l) #[] #[]] 103)
  clear hY hJ hst h0 hno h8 h hc1 hc2 hb1 hb2
  refine callsIn_of_wp_marks Tryz.func89 rfl trivial ?_ rfl
  simp only [Tryz.ntmps89, List.size_toArray, List.length_cons, List.length_nil, Nat.reduceAdd, Nat.reduceSub, Array.replicate_succ, Array.replicate_zero, List.push_toArray, List.append_toArray, List.nil_append, List.cons_append]
  gi_wp2_with (refine ⟨trivial, (fun _ => by omega), ?_⟩; gi_at_call 90; refine (callsIn_wide.2 (valvesAt_any _ _ _ _ _ _)).mono ?_; rintro e w' ⟨rfl, rfl⟩)
  obtain ⟨W0, hW0⟩ : ∃ W0, W0 = ((W.alloc (.cells #[.func (.yield l) #[] #[]] 103)).alloc (.cells #[v0, v1, v2, v3] 36)).alloc (.cells #[.string x] 9) := ⟨_, rfl⟩
  have E0 : Hid (W0 = ((W.alloc (.cells #[.func (.yield l) #[] #[]] 103)).alloc (.cells #[v0, v1, v2, v3] 36)).alloc (.cells #[.string x] 9)) := hW0
  have s0 : W0.heap.size = W.heap.size + 1 + 1 + 1 := by rw [hW0]; simp
  have bY : Hid (Boxed W0 W.heap.size 103 (.func (.yield l) #[] #[])) := by rw [hW0]; exact ((Boxed.new W 103 _).alloc _).alloc _
  have bP : Hid (W0.heap[W.heap.size + 1]? = some (.cells #[v0, v1, v2, v3] 36 (0, 0))) := by
    have := heap_alloc_new (W.alloc (.cells #[.func (.yield l) #[] #[]] 103)) (.cells #[v0, v1, v2, v3] 36)
    rw [World.size_alloc] at this
    rw [hW0]; exact (Below.heap_alloc _ _ _ (by simp)).trans this
  have bX : Hid (Boxed W0 (W.heap.size + 1 + 1) 9 (.string x)) := by
    have := Boxed.new ((W.alloc (.cells #[.func (.yield l) #[] #[]] 103)).alloc (.cells #[v0, v1, v2, v3] 36)) 9 (.string x)
    rw [World.size_alloc, World.size_alloc] at this
    rw [hW0]; exact this
  have hbW : Hid (Below W.heap.size W W0) := by rw [hW0]; exact (((Below.refl _ _).alloc (Nat.le_refl _) _).alloc (by simp) _).alloc (by simp; omega) _
  have J0 : Hid (J [] W0) := by rw [hW0]; exact HJ.out.alloc _ (HJ.out.alloc _ (HJ.out.alloc _ H0.out))
  have ow0 : Hid (∀ k, own W0 k → own W k) := by
    intro k hk
    have j1 := HJ.out.alloc (.cells #[.func (.yield l) #[] #[]] 103) H0.out
    have j2 := HJ.out.alloc (.cells #[v0, v1, v2, v3] 36) j1
    rw [hW0] at hk
    exact (HST.out _ _ H0.out).2 _ none (World.grownBy_alloc _ _ none) (fun r e => by cases e) k ((HST.out _ _ j1).2 _ none (World.grownBy_alloc _ _ none) (fun r e => by cases e) k ((HST.out _ _ j2).2 _ none (World.grownBy_alloc _ _ none) (fun r e => by cases e) k hk))
  have NO : Hid (∀ k, (k < n₀ ∨ k = W.heap.size + 1 + 1 ∨ k = W.heap.size) → ¬ own W0 k) := fun k hk ho => by
    have h1 := ow0.out k ho
    rcases hk with h | h | h
    · exact HNO.out k h h1
    · have := (HST.out _ _ H0.out).1 k h1; omega
    · have := (HST.out _ _ H0.out).1 k h1; omega
  rw [← E0.out]
  clear hW0 x0 x1 x2 x3 y0
  have q1 := (cell_row bP.out 3 _ rfl).1
  simp only [List.getElem_toArray, List.getElem_cons_zero, List.getElem_cons_succ] at q1
  refine wpIn_rangeFunc_ownG (F := Fence.wide) rfl (by omega) (gf := 106) (lb := #[.pointer (some ⟨W.heap.size + 1, 0, none⟩), .pointer (some ⟨W.heap.size + 1 + 1, 0, none⟩)]) rfl trivial (enters_of Tryz.func106 (by kernel_rfl) rfl)
    (vals_seq (n - 1) (W.heap.size + 1) (W.heap.size + 1 + 1) n₀ (by omega) v3 nv f x W0 q1 bX.out.cell (HL.out.kept hbW.out hn₀') H8.out (by omega) (by omega) (by omega))
    KpV.trans (KpV.put (by omega) (by omega)) (Below.refl _ _) (fun _ => rfl)
    (fun pre X => J (pre.map sndO) X ∧ (Boxed X W.heap.size 103 (.func (.yield l) #[] #[]) ∧ Boxed X (W.heap.size + 1 + 1) 9 (.string x)) ∧ ∀ k, (k < n₀ ∨ k = W.heap.size + 1 + 1 ∨ k = W.heap.size) → ¬ own X k)
    (fun _ _ _ => False)
    (fun pre A C row hs hg hr => ⟨HJ.out _ A C row hs.1 hg (fun r e => ⟨by have := (hr r e).1; omega, (hr r e).2⟩), ⟨boxed_own (β := Unit) _ _ (fun _ => _) () A C row hs.2.1.1 hg (fun r e => (hr r e).2), boxed_own (β := Unit) _ _ (fun _ => _) () A C row hs.2.1.2 hg (fun r e => (hr r e).2)⟩, fun k hk ho => hs.2.2 k hk ((HST.out _ A hs.1).2 C row hg (fun r e => (hr r e).2) k ho)⟩)
    (fun _ _ _ _ _ hs _ _ => hs)
    ⟨J0.out, ⟨bY.out, bX.out⟩, NO.out⟩
    (fun y => { tmps := #[.func (.yield l) #[] #[], .pointer (some ⟨b1, 0, none⟩), .pointer (some ⟨b2, 0, none⟩), .pointer (some ⟨W.heap.size, 0, none⟩), undef, .string y.1.2, .agg #[v0, v1, v2, v3], .string x, .func (.func 106) #[] #[.pointer (some ⟨W.heap.size + 1, 0, none⟩), .pointer (some ⟨W.heap.size + 1 + 1, 0, none⟩)], .string y.1.1, .string y.1.2, undef, undef, undef, undef], defers := [] }) ?assign ?body ?done ?stop
  case assign =>
    intro l' y X K hK
    gi_wp2
    exact hK
  case body =>
    rintro l' pre y X ⟨hJ1, ⟨hB1, hB2⟩, hno1⟩ hlt
    have hYY := HY.out (pre.map sndO) (sndO y) X hJ1 (by simpa using hlt)
    have hc := hB1.cell
    obtain ⟨fn, tmps, assign, body, hy, hR⟩ := hYY
    dsimp only [sndO] at hy
    gi_wp2
    refine ⟨(fun _ => by omega), (round_wide hR).mono ?_⟩
    rintro e X3 ⟨rfl, hJ3, hk3, hf3⟩
    gi_wp2
    have hs3 := hk3.size
    have hx3 : X3.heap[W.heap.size + 1 + 1]? = some (.cells #[.string x] 9 (0, 0)) := hk3.blk _ _ _ _ hB2 (hno1 _ (.inr (.inl rfl)))
    have hy3 : X3.heap[W.heap.size]? = some (.cells #[.func (.yield l) #[] #[]] 103 (0, 0)) := hk3.blk _ _ _ _ hB1 (hno1 _ (.inr (.inr rfl)))
    refine ⟨⟨hf3.size, fun k o hk h0 ho => hf3.same k o (by omega) h0 ho⟩, ⟨hs3, fun k hk => ?_⟩, ?_, ⟨hy3, hx3⟩, fun k hk ho => ?_⟩
    · rcases hk with hk | rfl
      · exact hk3.low k hk
      · exact hx3.trans hB2.symm
    · rw [List.map_append]; exact hJ3
    · rcases hk3.old k ho with h1 | h1
      · exact hno1 k hk h1
      · have := hB2.lt
        omega
  case done =>
    rintro E ys X hD rfl ⟨hJ2, _, _⟩ hK
    gi_wp2
    refine ⟨by simp, .inl ⟨_, _, rfl, run_takeDeferred hK, ?_⟩⟩
    exact ⟨_, results_none rfl _ _ _, ⟨_, rfl⟩, _, rfl, HJ.out.putObj _ hJ2 (by omega) hK rfl⟩
  case stop =>
    rintro E c pre X _ _ h _
    exact h.elim

end Go.Proofs.YtbdhlcfcmennjacGreat
