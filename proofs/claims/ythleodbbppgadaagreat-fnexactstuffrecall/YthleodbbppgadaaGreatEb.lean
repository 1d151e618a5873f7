/-
  What may hold any of a lot, as the program tells it: a function value that hands on the names of vessels and then of outs, one by one.
-/
import Derived.Test.YthleodbbppgadaaGreatEa
import Derived.Test.YthleodbbppgadaaGreatIb
import Derived.Test.YthleodbbppgadaaGreatOn
import Derived.RangeFuncCalls
import Derived.Shelf.Abstract
import Derived.Shelf.RegionOpen
import Derived.OwnWalkIn
import Derived.TacticsInMore
import Derived.LoopNIn
import Derived.LoopIn
import Derived.Maps.AppendAt
namespace Go.Proofs.YthleodbbppgadaaGreat
open Go.RowKit Go.Shelf

attribute [local go_sem] Oper.semAt_some

/-- What a round leaves as it was: what lies low, which the caller doesn't own. -/
structure Hl (low : Nat → Prop) (own : World → Nat → Prop) (W wr : World) : Prop where
  size : W.heap.size ≤ wr.heap.size
  blk : ∀ k, low k → wr.heap[k]? = W.heap[k]?
  no : ∀ k, low k → ¬ own wr k
theorem Hl.alloc {low : Nat → Prop} {own : World → Nat → Prop} {W wr : World} (h : Hl low own W wr) (hst : OwnSt own wr) (hlt : ∀ k, low k → k < W.heap.size) (o : Obj) : Hl low own W (wr.alloc o) :=
  ⟨by have := h.size; simp; omega, fun k hk => (Below.heap_alloc wr o k (by have := hlt k hk; have := h.size; omega)).trans (h.blk k hk), fun k hk ho => h.no k hk (hst.2 _ none (World.grownBy_alloc _ _ none) (fun r e => by cases e) k ho)⟩
abbrev lowH (n₀ b1 b2 k : Nat) : Prop := k < n₀ ∨ k = b1 ∨ k = b2
theorem Hl.round {n₀ b1 b2 : Nat} {own : World → Nat → Prop} {W wr wr' : World} {c1 c2 : Array Value} {t1 t2 : TypeId} (h : Hl (lowH n₀ b1 b2) own W wr) (k : KpO own n₀ wr wr') (hlt : ∀ k, lowH n₀ b1 b2 k → k < W.heap.size) (h1 : W.heap[b1]? = some (.cells c1 t1 (0, 0))) (h2 : W.heap[b2]? = some (.cells c2 t2 (0, 0))) : Hl (lowH n₀ b1 b2) own W wr' := by
  have q : ∀ (b : Nat) (c : Array Value) (t : TypeId), W.heap[b]? = some (.cells c t (0, 0)) → lowH n₀ b1 b2 b → wr'.heap[b]? = W.heap[b]? := fun b c t hb hl => by
    rw [hb]; exact k.blk b c t (0, 0) ((h.blk b hl).trans hb) (h.no b hl)
  refine ⟨Nat.le_trans h.size k.size, fun i hi => ?_, fun i hi ho => ?_⟩
  · rcases hi with hi | rfl | rfl
    · exact (k.low i hi).trans (h.blk i (.inl hi))
    · exact q _ _ _ h1 (.inr (.inl rfl))
    · exact q _ _ _ h2 (.inr (.inr rfl))
  · rcases k.old i ho with h3 | h3
    · exact h.no i hi h3
    · have := hlt i hi
      have := h.size
      omega

theorem ves_cells' {S : Nat → Prop} {w : World} {l : List DStuffVessel} {oa : Option Addr} {cap : Nat} (h : AtL S w l (.slice oa l.length cap)) : ∀ i (h : i < l.length), ∃ b off, oa = some ⟨b, off, none⟩ ∧ S b ∧ w.cell? ⟨b, off + i * 4, none⟩ = some (.string l[i].1) ∧ ∃ o2 p2 o3 p3, w.cell? ⟨b, off + i * 4 + 1, none⟩ = some (.int .i64 l[i].2.1) ∧ w.cell? ⟨b, off + i * 4 + 2, none⟩ = some (.slice o2 l[i].2.2.1.length p2) ∧ w.cell? ⟨b, off + i * 4 + 3, none⟩ = some (.slice o3 l[i].2.2.2.length p3) ∧ AtL S w l[i].2.2.2 (.slice o3 l[i].2.2.2.length p3) := by
  intro i hi
  obtain ⟨_, _, e, _, hc⟩ := h
  obtain ⟨b, off, h1, h2, c, h3, h4⟩ := hc i hi
  rw [at_DStuffVessel] at h4
  cases e
  have e0 := h3 0 (by decide)
  have e1 := h3 1 (by decide)
  have e2 := h3 2 (by decide)
  have e3 := h3 3 (by decide)
  obtain ⟨o2, p2, q2, _⟩ := id h4.2.2.1
  obtain ⟨o3, p3, q3, _⟩ := id h4.2.2.2
  have hm := h4.2.2.2
  rw [h4.1.1] at e0
  rw [h4.2.1.1] at e1
  rw [q2] at e2
  rw [q3] at e3 hm
  exact ⟨b, off, h1, h2, e0, o2, p2, o3, p3, e1, e2, e3, hm⟩
theorem out_cells' {S : Nat → Prop} {w : World} {l : List DStuffOut} {oa : Option Addr} {cap : Nat} (h : AtL S w l (.slice oa l.length cap)) : ∀ i (h : i < l.length), ∃ b off, oa = some ⟨b, off, none⟩ ∧ S b ∧ w.cell? ⟨b, off + i * 3, none⟩ = some (.string l[i].1) ∧ ∃ o2 p2 o3 p3, w.cell? ⟨b, off + i * 3 + 1, none⟩ = some (.slice o2 l[i].2.1.length p2) ∧ w.cell? ⟨b, off + i * 3 + 2, none⟩ = some (.slice o3 l[i].2.2.length p3) ∧ AtL S w l[i].2.2 (.slice o3 l[i].2.2.length p3) := by
  intro i hi
  obtain ⟨_, _, e, _, hc⟩ := h
  obtain ⟨b, off, h1, h2, c, h3, h4⟩ := hc i hi
  rw [at_DStuffOut] at h4
  cases e
  have e0 := h3 0 (by decide)
  have e1 := h3 1 (by decide)
  have e2 := h3 2 (by decide)
  obtain ⟨o2, p2, q2, _⟩ := id h4.2.1
  obtain ⟨o3, p3, q3, _⟩ := id h4.2.2
  have hm := h4.2.2
  rw [h4.1.1] at e0
  rw [q2] at e1
  rw [q3] at e2 hm
  exact ⟨b, off, h1, h2, e0, o2, p2, o3, p3, e1, e2, hm⟩

/-- A name that is handed on: not long. -/
abbrev Nm := { s : ByteArray // s.size ≤ 1048576 }
def nmK (s : ByteArray) : Nm := if h : s.size ≤ 1048576 then ⟨s, h⟩ else ⟨⟨#[]⟩, by decide⟩
theorem nmK_of {s : ByteArray} (h : s.size ≤ 1048576) : (nmK s).1 = s := by
  unfold nmK; rw [dif_pos h]

set_option maxRecDepth 100000 in
set_option maxHeartbeats 1000000 in
/-- The function value: it has the book and the lot in boxes. -/
theorem mayHold_any (v0 v1 v2 v3 : Value) (x : ByteArray) (w : World) :
    Calls Tryz.prog 27 #[.agg #[v0, v1, v2, v3], .string x] w fun e w' => e = .returned (.func (.func 59) #[] #[.pointer (some ⟨w.heap.size, 0, none⟩), .pointer (some ⟨w.heap.size + 1, 0, none⟩)]) ∧
      w' = (w.alloc (.cells #[v0, v1, v2, v3] 36)).alloc (.cells #[.string x] 9) := by
  go_enter Tryz.func27, Tryz.ntmps27
  go_wp2
  go_ret
  exact ⟨by simp, rfl⟩

set_option maxRecDepth 100000 in
set_option maxHeartbeats 4000000 in
theorem hold_fit (n b1 b2 n₀ : Nat) (hn : 3 ≤ n) (v0 v1 : Value) (ov oo : Option Addr) (nv no cv co : Nat) (LV : List DStuffVessel) (LO : List DStuffOut) (x : ByteArray) (own : World → Nat → Prop) (w : World)
    (hb1 : w.heap[b1]? = some (.cells #[v0, v1, .slice ov nv cv, .slice oo no co] 36 (0, 0))) (hb2 : w.heap[b2]? = some (.cells #[.string x] 9 (0, 0))) (hV : AtL (fun b => b < n₀) w LV (.slice ov nv cv)) (hO : AtL (fun b => b < n₀) w LO (.slice oo no co)) (env : LV.length = nv) (eno : LO.length = no)
    (hzv : ∀ i (h : i < LV.length), LV[i].1.size ≤ 1048576) (hzo : ∀ i (h : i < LO.length), LO[i].1.size ≤ 1048576) (hlen : nv ≤ 1048576 ∧ no ≤ 1048576) (hn₀ : n₀ ≤ w.heap.size) :
    SeqFit Fence.wide n Tryz.prog 59 #[.pointer (some ⟨b1, 0, none⟩), .pointer (some ⟨b2, 0, none⟩)] (fun y : Nm => #[Value.string y.1]) own n₀ (lowH n₀ b1 b2) (fun _ _ _ => True) (fun ys => ys.map (·.1) = recV x LV ++ recO x LO) (nv + no) w := by
  intro l J W hW hJ hst hno hY h0
  have hc1 : Hid _ := (hW.block b1 (Array.getElem?_eq_some_iff.1 hb1).1).trans hb1
  have hc2 : Hid _ := (hW.block b2 (Array.getElem?_eq_some_iff.1 hb2).1).trans hb2
  have hlow : Hid (∀ k, lowH n₀ b1 b2 k → k < W.heap.size) := fun k hk => by
    have := hW.size
    have := (Array.getElem?_eq_some_iff.1 hb1).1
    have := (Array.getElem?_eq_some_iff.1 hb2).1
    rcases hk with h | h | h <;> omega
  have sW : Same (fun b => b < n₀) w W := fun b hb => hW.block b (by omega)
  have HVC : Hid _ := ves_cells' (hV.same sW |> fun h => by rw [← env] at h; exact h)
  have HOC : Hid _ := out_cells' (hO.same sW |> fun h => by rw [← eno] at h; exact h)
  have HY : Hid _ := hY
  have HJ : Hid (OwnFrom W.heap.size J) := hJ
  have HST : Hid (∀ pre W1, J pre W1 → OwnSt own W1) := hst
  have H0 : Hid (J [] W) := h0
  have HNO : Hid _ := hno
  have HZV : Hid _ := hzv
  have HZO : Hid _ := hzo
  have ENV : Hid (LV.length = nv) := env
  have ENO : Hid (LO.length = no) := eno
  have S0 : Hid (Hl (lowH n₀ b1 b2) own W W) := ⟨Nat.le_refl _, fun _ _ => rfl, hno⟩
  have x2 := (cell_row hc1.out 2 _ rfl).1
  simp only [List.getElem_toArray, List.getElem_cons_zero, List.getElem_cons_succ] at x2
  clear hY hJ hst h0 hno hV hO hb1 hb2 sW hzv hzo env eno
  refine callsIn_of_wp Tryz.func59 rfl trivial ?_ rfl
  simp only [Tryz.ntmps59, List.size_toArray, List.length_cons, List.length_nil, Nat.reduceAdd, Nat.reduceSub, Array.replicate_succ, Array.replicate_zero, List.push_toArray, List.append_toArray, List.nil_append, List.cons_append]
  gi_wp2
  gi_loopw [11] (fun i wr => ∃ (k : Nat) (ys : List Nm), k ≤ nv ∧ i = .int .i64 k ∧ Hid (ys.map (·.1) = recV x (LV.take k) ∧ ys.length ≤ k) ∧ Hid (J ys wr) ∧ Hid (Hl (lowH n₀ b1 b2) own W wr))
    (fun i _ => nv - (intOf i).toNat)
  case atStart => exact ⟨0, [], Nat.zero_le _, rfl, ⟨rfl, Nat.le_refl _⟩, H0, S0⟩
  case round =>
    obtain ⟨k, ys, hk, rfl, hys, hJs, hkp⟩ := hrel
    by_cases hlt : k < nv
    · obtain ⟨b, off, rfl, hbB, c0, o2, p2, o3, p3, c1, c2, c3, hm⟩ := HVC.out k (by have := ENV.out; omega)
      have hsz := hkp.out.size
      have rd : ∀ (o : Nat) (v : Value), W.cell? ⟨b, o, none⟩ = some v → wr.cell? ⟨b, o, none⟩ = some v := fun o v h => (World.cell?_of_block (w := W) (a := ⟨b, o, none⟩) (hkp.out.blk b (Or.inl hbB))).trans h
      have e0 := rd _ _ c0
      have e1 := rd _ _ c1
      have e2 := rd _ _ c2
      have e3 := rd _ _ c3
      clear rd c0 c1 c2 c3
      have hmr := hm.same (fun b hb => hkp.out.blk b (Or.inl hb))
      clear hm
      have hYes := recF_yes (nm := fun v : DStuffVessel => v.1) (may := fun v => v.2.2.2) (x := x) (l := LV) (k := k) (by have := ENV.out; omega)
      have hNo := recF_no (nm := fun v : DStuffVessel => v.1) (may := fun v => v.2.2.2) (x := x) (l := LV) (k := k) (by have := ENV.out; omega)
      have hz := HZV.out k (by have := ENV.out; omega)
      obtain ⟨f, ef⟩ : ∃ f, LV[k]'(by have := ENV.out; omega) = f := ⟨_, rfl⟩
      rw [ef] at hmr e0 e1 e2 e3 hYes hNo hz
      have HYES : Hid _ := hYes
      have HNOT : Hid _ := hNo
      clear hYes hNo ef
      have hJ2 : Hid (J ys (wr.alloc (.cells #[.string f.1, .int .i64 f.2.1, .slice o2 f.2.2.1.length p2, .slice o3 f.2.2.2.length p3] 53))) := HJ.out.alloc _ hJs.out
      have hk2 : Hid (Hl (lowH n₀ b1 b2) own W (wr.alloc (.cells #[.string f.1, .int .i64 f.2.1, .slice o2 f.2.2.1.length p2, .slice o3 f.2.2.2.length p3] 53))) := hkp.out.alloc (HST.out _ _ hJs.out) hlow.out _
      have hm2 : Hid (AtL (fun b => b < n₀) (wr.alloc (.cells #[.string f.1, .int .i64 f.2.1, .slice o2 f.2.2.1.length p2, .slice o3 f.2.2.2.length p3] 53)) f.2.2.2 (.slice o3 f.2.2.2.length p3)) := hmr.same (Same.of_alloc _ _ (fun b hb => by have := hlow.out b (.inl hb); omega))
      have ep : wr.cell? ⟨b2, 0, none⟩ = some (.string x) := (World.cell?_of_block (w := W) (a := ⟨b2, 0, none⟩) (hkp.out.blk b2 (.inr (.inr rfl)))).trans (cell_row hc2.out 0 _ rfl).1
      have ep' := cell_past ep (by have := hlow.out b2 (.inr (.inr rfl)); omega) (.cells #[.string f.1, .int .i64 f.2.1, .slice o2 f.2.2.1.length p2, .slice o3 f.2.2.2.length p3] 53)
      have n0 := new_cell wr #[.string f.1, .int .i64 f.2.1, .slice o2 f.2.2.1.length p2, .slice o3 f.2.2.2.length p3] 53 0 _ rfl
      have n3 := new_cell wr #[.string f.1, .int .i64 f.2.1, .slice o2 f.2.2.1.length p2, .slice o3 f.2.2.2.length p3] 53 3 _ rfl
      simp only [List.getElem_toArray, List.getElem_cons_zero, List.getElem_cons_succ] at n0 n3
      clear hmr ep hJs
      cases hh : hasB f.2.2.2 x
      · gi_wp2_with (refine ⟨trivial, (fun _ => by omega), ?_⟩; gi_at_call 60; refine (callsIn_wide.2 (hasI_any _ _ _ x _ hm2.out)).mono ?_; rintro e w' ⟨rfl, rfl⟩; rw [hh])
        refine ⟨fun _ h => (by cases h), ?_⟩
        gi_wp2
        go_roundw
        case rel => exact ⟨k + 1, ys, by omega, by go_num, ⟨by have h1 := HNOT.out hh; have h2 := hys.out.1; unfold recV at *; rw [h1]; exact h2, by have := hys.out.2; omega⟩, hJ2, hk2⟩
        case measure => simp [intOf]; omega
      · obtain ⟨fn, tmps, assign, body, hy, hR⟩ := HY.out ys (nmK f.1) _ _ hJ2.out hJ2.out trivial (by have := hys.out.2; omega)
        rw [nmK_of hz] at hy
        gi_wp2_with (refine ⟨trivial, (fun _ => by omega), ?_⟩; gi_at_call 60; refine (callsIn_wide.2 (hasI_any _ _ _ x _ hm2.out)).mono ?_; rintro e w' ⟨rfl, rfl⟩; rw [hh])
        refine ⟨(fun _ => by omega), hR.mono ?_⟩
        rintro e W3 ⟨rfl, hJ3, hk3, _⟩
        gi_wp2
        go_roundw
        case rel => exact ⟨k + 1, ys ++ [nmK f.1], by omega, by go_num, ⟨by have h1 := HYES.out hh; have h2 := hys.out.1; unfold recV at *; rw [h1, List.map_append, h2]; simp [nmK_of hz], by have := hys.out.2; simp; omega⟩, hJ3, hk2.out.round hk3 hlow.out hc1.out hc2.out⟩
        case measure => simp [intOf]; omega
    · obtain rfl : nv = k := by omega
      have htk : Hid (LV.take nv = LV) := by show _ = _; rw [List.take_of_length_le (by have := ENV.out; omega)]
      have x3 : wr.cell? ⟨b1, 3, none⟩ = some (.slice oo no co) := (World.cell?_of_block (w := W) (a := ⟨b1, 3, none⟩) (hkp.out.blk b1 (.inr (.inl rfl)))).trans (cell_row hc1.out 3 _ rfl).1
      gi_wp2
      gi_loopw [30] (fun i wr => ∃ (k : Nat) (ys : List Nm), k ≤ no ∧ i = .int .i64 k ∧ Hid (ys.map (·.1) = recV x LV ++ recO x (LO.take k) ∧ ys.length ≤ nv + k) ∧ Hid (J ys wr) ∧ Hid (Hl (lowH n₀ b1 b2) own W wr))
        (fun i _ => no - (intOf i).toNat)
      case atStart => exact ⟨0, ys, Nat.zero_le _, rfl, ⟨by have := hys.out.1; rw [htk.out] at this; rw [this]; simp [recO, recF], hys.out.2⟩, hJs, hkp⟩
      case round =>
        clear hys hJs hkp htk x3
        obtain ⟨k, ys, hk, rfl, hys, hJs, hkp⟩ := hrel
        by_cases hlt : k < no
        · obtain ⟨b, off, rfl, hbB, c0, o2, p2, o3, p3, c1, c2, hm⟩ := HOC.out k (by have := ENO.out; omega)
          have hsz := hkp.out.size
          have rd : ∀ (o : Nat) (v : Value), W.cell? ⟨b, o, none⟩ = some v → wr.cell? ⟨b, o, none⟩ = some v := fun o v h => (World.cell?_of_block (w := W) (a := ⟨b, o, none⟩) (hkp.out.blk b (Or.inl hbB))).trans h
          have e0 := rd _ _ c0
          have e1 := rd _ _ c1
          have e2 := rd _ _ c2
          clear rd c0 c1 c2
          have hmr := hm.same (fun b hb => hkp.out.blk b (Or.inl hb))
          clear hm
          have hYes := recF_yes (nm := fun v : DStuffOut => v.1) (may := fun v => v.2.2) (x := x) (l := LO) (k := k) (by have := ENO.out; omega)
          have hNo := recF_no (nm := fun v : DStuffOut => v.1) (may := fun v => v.2.2) (x := x) (l := LO) (k := k) (by have := ENO.out; omega)
          have hz := HZO.out k (by have := ENO.out; omega)
          obtain ⟨f, ef⟩ : ∃ f, LO[k]'(by have := ENO.out; omega) = f := ⟨_, rfl⟩
          rw [ef] at hmr e0 e1 e2 hYes hNo hz
          have HYES : Hid _ := hYes
          have HNOT : Hid _ := hNo
          clear hYes hNo ef
          have hJ2 : Hid (J ys (wr.alloc (.cells #[.string f.1, .slice o2 f.2.1.length p2, .slice o3 f.2.2.length p3] 55))) := HJ.out.alloc _ hJs.out
          have hk2 : Hid (Hl (lowH n₀ b1 b2) own W (wr.alloc (.cells #[.string f.1, .slice o2 f.2.1.length p2, .slice o3 f.2.2.length p3] 55))) := hkp.out.alloc (HST.out _ _ hJs.out) hlow.out _
          have hm2 : Hid (AtL (fun b => b < n₀) (wr.alloc (.cells #[.string f.1, .slice o2 f.2.1.length p2, .slice o3 f.2.2.length p3] 55)) f.2.2 (.slice o3 f.2.2.length p3)) := hmr.same (Same.of_alloc _ _ (fun b hb => by have := hlow.out b (.inl hb); omega))
          have ep : wr.cell? ⟨b2, 0, none⟩ = some (.string x) := (World.cell?_of_block (w := W) (a := ⟨b2, 0, none⟩) (hkp.out.blk b2 (.inr (.inr rfl)))).trans (cell_row hc2.out 0 _ rfl).1
          have ep' := cell_past ep (by have := hlow.out b2 (.inr (.inr rfl)); omega) (.cells #[.string f.1, .slice o2 f.2.1.length p2, .slice o3 f.2.2.length p3] 55)
          have n0 := new_cell wr #[.string f.1, .slice o2 f.2.1.length p2, .slice o3 f.2.2.length p3] 55 0 _ rfl
          have n3 := new_cell wr #[.string f.1, .slice o2 f.2.1.length p2, .slice o3 f.2.2.length p3] 55 2 _ rfl
          simp only [List.getElem_toArray, List.getElem_cons_zero, List.getElem_cons_succ] at n0 n3
          clear hmr ep hJs
          cases hh : hasB f.2.2 x
          · gi_wp2_with (refine ⟨trivial, (fun _ => by omega), ?_⟩; gi_at_call 60; refine (callsIn_wide.2 (hasI_any _ _ _ x _ hm2.out)).mono ?_; rintro e w' ⟨rfl, rfl⟩; rw [hh])
            refine ⟨fun _ h => (by cases h), ?_⟩
            gi_wp2
            go_roundw
            case rel => exact ⟨k + 1, ys, by omega, by go_num, ⟨by have h1 := HNOT.out hh; have h2 := hys.out.1; unfold recO at *; rw [h1]; exact h2, by have := hys.out.2; omega⟩, hJ2, hk2⟩
            case measure => simp [intOf]; omega
          · obtain ⟨fn, tmps, assign, body, hy, hR⟩ := HY.out ys (nmK f.1) _ _ hJ2.out hJ2.out trivial (by have := hys.out.2; omega)
            rw [nmK_of hz] at hy
            gi_wp2_with (refine ⟨trivial, (fun _ => by omega), ?_⟩; gi_at_call 60; refine (callsIn_wide.2 (hasI_any _ _ _ x _ hm2.out)).mono ?_; rintro e w' ⟨rfl, rfl⟩; rw [hh])
            refine ⟨(fun _ => by omega), hR.mono ?_⟩
            rintro e W3 ⟨rfl, hJ3, hk3, _⟩
            gi_wp2
            go_roundw
            case rel => exact ⟨k + 1, ys ++ [nmK f.1], by omega, by go_num, ⟨by have h1 := HYES.out hh; have h2 := hys.out.1; unfold recO at *; rw [h1, List.map_append, h2]; simp [nmK_of hz], by have := hys.out.2; simp; omega⟩, hJ3, hk2.out.round hk3 hlow.out hc1.out hc2.out⟩
            case measure => simp [intOf]; omega
        · obtain rfl : no = k := by omega
          have htk : Hid (LO.take no = LO) := by show _ = _; rw [List.take_of_length_le (by have := ENO.out; omega)]
          gi_wp2
          go_end0
          exact ⟨⟨_, rfl⟩, ys, by have := hys.out.1; rw [htk.out] at this; exact this, hJs.out⟩

end Go.Proofs.YthleodbbppgadaaGreat
