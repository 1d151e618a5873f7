/-
  Lists of names in a list, in memory of a call's own: what they read as, that each lies in a block of its own; whether two of them are the same.
-/
import Derived.Test.YtbdhlcfcmennjacGreatRm
import Derived.Test.YtbdhlcfcmennjacGreatKg
namespace Go.Proofs.YtbdhlcfcmennjacGreat
open Go.RowKit

def nthL (G : List (List ByteArray)) (i : Nat) : List ByteArray := G.getD i []
def nthU (us : List Value) (i : Nat) : Value := us.getD i (.slice none 0 0)
def nthG (gs : List Nat) (i : Nat) : Nat := gs.getD i 0
/-- The names of the lists ahead of list i, all in all. -/
def pre (G : List (List ByteArray)) : Nat → Nat
  | 0 => 0
  | i + 1 => pre G i + (nthL G i).length

/-- A list of names in block g. -/
def RowG (B : Nat) (w : World) (u : Value) (l : List ByteArray) (g : Nat) : Prop :=
  ∃ cap cur, u = .slice (some ⟨g, 0, none⟩) l.length cap ∧ B ≤ g ∧ w.heap[g]? = some (.cells cur 9 (0, 0)) ∧ l.length ≤ cur.size ∧ ∀ j, j < l.length → cur[j]? = some (.string (nthB l j))

structure SetsO (B : Nat) (w : World) (v : Value) (G : List (List ByteArray)) (us : List Value) (gs : List Nat) : Prop where
  own : w.ownsRow B 61 1 v G.length us
  ul : us.length = G.length
  gl : gs.length = G.length
  row : ∀ i, i < G.length → RowG B w (nthU us i) (nthL G i) (nthG gs i)
  nod : gs.Nodup

/-- The same, to read. -/
structure SetsR (B : Nat) (w : World) (v : Value) (G : List (List ByteArray)) (us : List Value) : Prop where
  out : Lst B w v G.length 1 (fun i _ => nthU us i)
  row : ∀ i, i < G.length → Lst B w (nthU us i) (nthL G i).length 1 (cS (nthB (nthL G i)))

theorem SetsR.kept {B B' : Nat} {w w' : World} {v : Value} {G : List (List ByteArray)} {us : List Value} (h : SetsR B w v G us) (hb : Below B' w w') (hB : B ≤ B') : SetsR B w' v G us := ⟨h.out.kept hb hB, fun i hi => (h.row i hi).kept hb hB⟩
theorem SetsR.up {B B' : Nat} {w : World} {v : Value} {G : List (List ByteArray)} {us : List Value} (h : SetsR B w v G us) (hB : B ≤ B') : SetsR B' w v G us := ⟨h.out.up hB, fun i hi => (h.row i hi).up hB⟩

theorem own_lst1 {B e : Nat} {w : World} {v : Value} {n : Nat} {xs : List Value} (h : w.ownsRow B e 1 v n xs) (hx : xs.length = n) (hm : n ≤ 1048576) : Lst w.heap.size w v n 1 (fun i _ => nthU xs i) := by
  rcases h.2 with ⟨rfl, hn⟩ | ⟨g, cap, cur, rfl, hb, hg, hc, hm', hs, ht⟩
  · rw [hn]; exact ⟨none, 0, rfl, Nat.zero_le _, fun i hi => by omega⟩
  · refine ⟨_, _, rfl, by unfold maxLen; omega, fun i hi => ⟨g, 0, rfl, (Array.getElem?_eq_some_iff.1 hg).1, fun j hj => ?_⟩⟩
    have ej : j = 0 := by omega
    subst ej
    have e1 : cur.toList[i]? = xs[i]? := by
      rw [← ht, Nat.mul_one, List.getElem?_take_of_lt hi]
    have e2 : cur[0 + i * 1 + 0]? = some (nthU xs i) := by
      rw [Nat.zero_add, Nat.mul_one, Nat.add_zero, ← Array.getElem?_toList, e1]
      simp [nthU, hx, hi]
    exact (cell_row hg _ _ e2).1

theorem RowG.lst {B : Nat} {w : World} {u : Value} {l : List ByteArray} {g : Nat} (h : RowG B w u l g) (hm : l.length ≤ 1048576) : Lst w.heap.size w u l.length 1 (cS (nthB l)) := by
  obtain ⟨cap, cur, rfl, hb, hg, hs, hc⟩ := h
  refine ⟨_, _, rfl, by unfold maxLen; omega, fun i hi => ⟨g, 0, rfl, (Array.getElem?_eq_some_iff.1 hg).1, fun j hj => ?_⟩⟩
  have ej : j = 0 := by omega
  subst ej
  rw [Nat.zero_add, Nat.mul_one, Nat.add_zero]
  exact (cell_row hg i _ (hc i hi)).1

theorem RowG.of_own {B : Nat} {w : World} {u : Value} {l : List ByteArray} (h : w.ownsRow B 9 1 u l.length (l.map .string)) (hl : 0 < l.length) : ∃ g, RowG B w u l g ∧ g < w.heap.size := by
  rcases h.2 with ⟨rfl, hn⟩ | ⟨g, cap, cur, rfl, hb, hg, hc, hm', hs, ht⟩
  · omega
  · refine ⟨g, ⟨cap, cur, rfl, hb, hg, by omega, fun i hi => ?_⟩, (Array.getElem?_eq_some_iff.1 hg).1⟩
    have e1 : cur.toList[i]? = (l.map Value.string)[i]? := by
      rw [← ht, Nat.mul_one, List.getElem?_take_of_lt hi]
    rw [← Array.getElem?_toList, e1]
    simp [nthB, hi]

theorem RowG.same {B : Nat} {w w' : World} {u : Value} {l : List ByteArray} {g : Nat} (h : RowG B w u l g) (e : w'.heap[g]? = w.heap[g]?) : RowG B w' u l g := by
  obtain ⟨cap, cur, hu, hb, hg, hs, hc⟩ := h
  exact ⟨cap, cur, hu, hb, e.trans hg, hs, hc⟩
theorem RowG.lt {B : Nat} {w : World} {u : Value} {l : List ByteArray} {g : Nat} (h : RowG B w u l g) : g < w.heap.size := by
  obtain ⟨cap, cur, hu, hb, hg, hs, hc⟩ := h
  exact (Array.getElem?_eq_some_iff.1 hg).1
theorem RowG.le {B B' : Nat} {w : World} {u : Value} {l : List ByteArray} {g : Nat} (h : RowG B w u l g) (hB : B' ≤ B) : RowG B' w u l g := by
  obtain ⟨cap, cur, hu, hb, r⟩ := h
  exact ⟨cap, cur, hu, Nat.le_trans hB hb, r⟩

theorem SetsO.read {B : Nat} {w : World} {v : Value} {G : List (List ByteArray)} {us : List Value} {gs : List Nat} (h : SetsO B w v G us gs) (hn : G.length ≤ 1048576) (hl : ∀ i, i < G.length → (nthL G i).length ≤ 1048576) : SetsR w.heap.size w v G us :=
  ⟨own_lst1 h.own h.ul hn, fun i hi => (h.row i hi).lst (hl i hi)⟩
theorem SetsO.below {B : Nat} {w w' : World} {v : Value} {G : List (List ByteArray)} {us : List Value} {gs : List Nat} (h : SetsO B w v G us gs) (hb : Below w.heap.size w w') : SetsO B w' v G us gs :=
  ⟨own_belowR h.own hb, h.ul, h.gl, fun i hi => (h.row i hi).same (hb.block _ (h.row i hi).lt), h.nod⟩
theorem SetsO.le {B B' : Nat} {w : World} {v : Value} {G : List (List ByteArray)} {us : List Value} {gs : List Nat} (h : SetsO B w v G us gs) (hB : B' ≤ B) : SetsO B' w v G us gs :=
  ⟨own_leR h.own hB, h.ul, h.gl, fun i hi => (h.row i hi).le hB, h.nod⟩
theorem SetsO.outs {B L H : Nat} {w w' : World} {v : Value} {G : List (List ByteArray)} {us : List Value} {gs : List Nat} (h : SetsO B w v G us gs) (ho : Outs L H w w') (hH : H ≤ B) : SetsO B w' v G us gs :=
  ⟨own_outs h.own ho hH, h.ul, h.gl, fun i hi => (h.row i hi).same (ho.out _ (by obtain ⟨_, _, _, hb, _⟩ := h.row i hi; omega) (h.row i hi).lt), h.nod⟩
theorem SetsO.nil (B : Nat) (w : World) : SetsO B w (.slice none 0 0) [] [] [] := ⟨World.ownsRow_nil _ _ _ _, rfl, rfl, fun i hi => by simp at hi, List.nodup_nil⟩

/-- The outer row's block is none of the inner ones. -/
theorem SetsO.apart {B : Nat} {w : World} {v : Value} {G : List (List ByteArray)} {us : List Value} {gs : List Nat} (h : SetsO B w v G us gs) {i : Nat} (hi : i < G.length) : some (nthG gs i) ≠ v.ownBlock := fun e => by
  obtain ⟨cap, cur, _, _, hg, _⟩ := h.row i hi
  rcases h.own.2 with ⟨rfl, _⟩ | ⟨g, cap', cur', rfl, _, hgg, _⟩
  · cases e
  · simp only [Value.ownBlock, Option.some.injEq] at e
    rw [e, hgg] at hg
    simp at hg

theorem SetsO.push {B : Nat} {w w' : World} {v v' u : Value} {G : List (List ByteArray)} {us : List Value} {gs : List Nat} {l : List ByteArray} {g : Nat} (h : SetsO B w v G us gs) (hr : RowG B w u l g) (hn : g ∉ gs)
    (ho : w'.ownsRow B 61 1 v' (G.length + 1) (us ++ [u])) (hg : w.grownBy w' v.ownBlock) : SetsO B w' v' (G ++ [l]) (us ++ [u]) (gs ++ [g]) := by
  have hu := h.ul
  have hgl := h.gl
  refine ⟨by simpa using ho, by simp [hu], by simp [hgl], fun i hi => ?_, ?_⟩
  · have hi' : i < G.length + 1 := by simpa using hi
    by_cases e : i < G.length
    · have r := (h.row i e).same (hg.block _ (h.row i e).lt (h.apart e))
      have e1 : nthU (us ++ [u]) i = nthU us i := by simp [nthU, List.getElem?_append_left (show i < us.length by omega)]
      have e2 : nthL (G ++ [l]) i = nthL G i := by simp [nthL, List.getElem?_append_left e]
      have e3 : nthG (gs ++ [g]) i = nthG gs i := by simp [nthG, List.getElem?_append_left (show i < gs.length by omega)]
      rw [e1, e2, e3]; exact r
    · have ei : i = G.length := by omega
      have e1 : nthU (us ++ [u]) i = u := by simp [nthU, ei, ← hu]
      have e2 : nthL (G ++ [l]) i = l := by simp [nthL, ei]
      have e3 : nthG (gs ++ [g]) i = g := by simp [nthG, ei, ← hgl]
      rw [e1, e2, e3]
      refine hr.same (hg.block _ hr.lt fun e => ?_)
      obtain ⟨cap, cur, _, _, hgg', _⟩ := hr
      rcases h.own.2 with ⟨rfl, _⟩ | ⟨g', cap', cur', rfl, _, hgg, _⟩
      · cases e
      · simp only [Value.ownBlock, Option.some.injEq] at e
        rw [e, hgg] at hgg'
        simp at hgg'
  · rw [List.nodup_append]
    exact ⟨h.nod, by simp, fun a ha b hb => by simp at hb; subst hb; exact fun e => hn (e ▸ ha)⟩

set_option maxRecDepth 100000 in
set_option maxHeartbeats 2000000 in
theorem eqSet_any (B B' : Nat) (ua ub : Value) (n : Nat) (f : Nat → ByteArray) (w : World) (ha : Lst B w ua n 1 (cS f)) (hb : Lst B' w ub n 1 (cS f)) (hB : B ≤ w.heap.size) (hB' : B' ≤ w.heap.size) :
    Calls Tryz.prog 34 #[.agg #[ua], .agg #[ub]] w fun e w' => e = .returned (.bool true) ∧ Below w.heap.size w w' := by
  have bW : Hid (Below w.heap.size w ((w.alloc (.cells #[ua] 61)).alloc (.cells #[ub] 61))) := ((Below.refl _ _).alloc (Nat.le_refl _) _).alloc (by simp) _
  have HA : Hid (Lst B ((w.alloc (.cells #[ua] 61)).alloc (.cells #[ub] 61)) ua n 1 (cS f)) := ha.kept bW.out hB
  have HB : Hid (Lst B' ((w.alloc (.cells #[ua] 61)).alloc (.cells #[ub] 61)) ub n 1 (cS f)) := hb.kept bW.out hB'
  clear ha hb
  go_enter Tryz.func34, Tryz.ntmps34
  go_wp2_with fail
  refine (eqS_lst B B' ua ub n f _ HA.out HB.out (by simp; omega) (by simp; omega)).mono ?_; rintro e w2 ⟨rfl, hb2⟩
  have hb3 : Hid (Below w.heap.size w w2) := bW.out.trans (hb2.mono (by simp; omega))
  clear hb2
  go_wp2_with fail
  go_ret
  exact ⟨rfl, hb3.out⟩

open Go.Sort in
set_option maxRecDepth 100000 in
set_option maxHeartbeats 4000000 in
theorem eqSets_any (B B' : Nat) (va vb : Value) (G : List (List ByteArray)) (ua ub : List Value) (w : World) (ha : SetsR B w va G ua) (hb : SetsR B' w vb G ub) (hB : B ≤ w.heap.size) (hB' : B' ≤ w.heap.size) :
    Calls Tryz.prog 11 #[va, vb] w fun e w' => e = .returned (.bool true) ∧ Below w.heap.size w w' := by
  have HR : Hid (∀ w', Below w.heap.size w w' → SetsR B w' va G ua ∧ SetsR B' w' vb G ub) := fun w' hw => ⟨ha.kept hw hB, hb.kept hw hB'⟩
  obtain ⟨oa, ca, rfl, hn, hca⟩ := ha.out
  obtain ⟨ob, cb, rfl, _, hcb⟩ := hb.out
  unfold maxLen at hn
  have HA : Hid _ := hca
  have HB : Hid _ := hcb
  clear hca hcb ha hb
  generalize hN : G.length = N at *
  go_enter Tryz.func11, Tryz.ntmps11
  go_wp2
  go_loopw [5] (fun i wr => ∃ k : Nat, k ≤ N ∧ i = .int .i64 k ∧ Hid (Below w.heap.size w wr)) (fun i _ => N - (intOf i).toNat)
  case atStart => exact ⟨0, Nat.zero_le _, rfl, Below.refl _ _⟩
  case round =>
    obtain ⟨k, hk, rfl, hbel⟩ := hrel
    have hs := hbel.out.size
    by_cases hlt : k < N
    · obtain ⟨ba, fa, rfl, hba, hxa⟩ := HA.out k hlt
      obtain ⟨bb, fb, rfl, hbb, hxb⟩ := HB.out k hlt
      have a0 : wr.cell? ⟨ba, fa + k, none⟩ = some (nthU ua k) := (hbel.out.cell (p := ⟨ba, fa + k, none⟩) (by show ba < _; omega)).trans (by simpa using hxa 0 (by omega))
      have qa0 := fun d os => cell_regrown a0 d os
      have c0 : wr.cell? ⟨bb, fb + k, none⟩ = some (nthU ub k) := (hbel.out.cell (p := ⟨bb, fb + k, none⟩) (by show bb < _; omega)).trans (by simpa using hxb 0 (by omega))
      have qc0 := fun d os => cell_regrown c0 d os
      clear hxa hxb
      go_wp2_with fail
      refine wp_region_head_tail 8 (by kernel_rfl) (by kernel_rfl) ?_
      simp only [List.take_succ_cons, List.take_zero, List.drop_succ_cons, List.drop_zero]
      repeat (first | go_big_quiet_step (fail) | quiet_step (fail))
      refine wpQuiet_nil ?_
      intro _ hw'
      obtain ⟨⟨dq, osq⟩, hw''⟩ := hw'
      subst hw''
      have hbu : Hid (Below wr.heap.size wr (grow (redrawn wr dq) osq)) := below_regrown _ dq osq
      generalize grow (redrawn wr dq) osq = u at hbu ⊢
      have ku : Hid (Below w.heap.size w u) := hbel.out.trans (hbu.out.mono hs)
      have su := ku.out.size
      clear a0 c0 qa0 qc0
      go_wp2_with fail
      refine (eqSet_any B B' _ _ (nthL G k).length (nthB (nthL G k)) _ ((HR.out u ku.out).1.row k (by omega)) ((HR.out u ku.out).2.row k (by omega)) (by omega) (by omega)).mono ?_; rintro e w3 ⟨rfl, hb3⟩
      have k3 : Hid (Below w.heap.size w w3) := ku.out.trans (hb3.mono su)
      clear hb3
      go_wp2_with fail
      go_roundw
      case rel => exact ⟨k + 1, by omega, by go_num, k3⟩
      case measure => simp [intOf]; omega
    · go_wp2
      go_ret
      exact ⟨rfl, hbel.out⟩

end Go.Proofs.YtbdhlcfcmennjacGreat
