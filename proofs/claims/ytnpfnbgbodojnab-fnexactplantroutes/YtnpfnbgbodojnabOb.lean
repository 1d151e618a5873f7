/-
  Lists of ways in memory of a call's own: what they read as, that each row lies in a block of its own; whether two lists are the same; marked name by name, and whether they still hold the marks.
-/
import Derived.Test.YtnpfnbgbodojnabOa
import Derived.Test.YtnpfnbgbodojnabSx
import Derived.Test.YtnpfnbgbodojnabKr
import Derived.Test.YtnpfnbgbodojnabHx
namespace Go.Proofs.Ytnpfnbgbodojnab
open Go.RowKit

/-- A way with where its two lists lie. -/
structure RR where
  r : RT
  u : Value
  v : Value
  g : Nat
  h : Nat
def zero : RR := ⟨([], []), .slice none 0 0, .slice none 0 0, 0, 0⟩
def nthZ (Z : List RR) (i : Nat) : RR := Z.getD i zero
def celZ (Z : List RR) : List Value := Z.flatMap fun z => [z.u, z.v]
def blkZ (Z : List RR) : List Nat := Z.flatMap fun z => [z.g, z.h]
def cR (Z : List RR) (i j : Nat) : Value := if j = 0 then (nthZ Z i).u else (nthZ Z i).v
theorem nthZ_mem {Z : List RR} {i : Nat} (h : i < Z.length) : nthZ Z i ∈ Z := List.mem_of_getElem? (i := i) (by simp [nthZ, h])
theorem nthZ_at {Z : List RR} {i : Nat} (h : i < Z.length) : Z[i]? = some (nthZ Z i) := by simp [nthZ, h]
theorem celZ_len : ∀ Z, (celZ Z).length = Z.length * 2
  | [] => rfl
  | z :: Z => by have := celZ_len Z; simp only [celZ, List.flatMap_cons, List.length_append, List.length_cons, List.length_nil] at this ⊢; omega
theorem celZ_at : ∀ (Z : List RR) (i j : Nat), i < Z.length → j < 2 → (celZ Z)[i * 2 + j]? = some (cR Z i j)
  | [], i, j, h, _ => by simp at h
  | z :: Z, 0, j, _, hj => by
    rcases (show j = 0 ∨ j = 1 by omega) with rfl | rfl <;> rfl
  | z :: Z, i + 1, j, h, hj => by
    have := celZ_at Z i j (by simpa using h) hj
    have e : (i + 1) * 2 + j = (i * 2 + j) + 1 + 1 := by omega
    rw [e]; exact this
theorem celZ_one {Z : List RR} (h : ∀ z ∈ Z, z.u.oneCell' = true ∧ z.v.oneCell' = true) : ∀ x ∈ celZ Z, x.oneCell' = true := fun x hx => by
  obtain ⟨z, hz, hm⟩ := List.mem_flatMap.1 hx
  simp only [List.mem_cons, List.not_mem_nil, or_false] at hm
  rcases hm with rfl | rfl
  · exact (h z hz).1
  · exact (h z hz).2

structure RowZ (B : Nat) (w : World) (z : RR) : Prop where
  p : RowG B w z.u z.r.1 z.g
  q : RowG B w z.v z.r.2 z.h
theorem RowZ.same {B : Nat} {w w' : World} {z : RR} (h : RowZ B w z) (e : w'.heap[z.g]? = w.heap[z.g]?) (e' : w'.heap[z.h]? = w.heap[z.h]?) : RowZ B w' z := ⟨h.p.same e, h.q.same e'⟩
theorem RowZ.le {B B' : Nat} {w : World} {z : RR} (h : RowZ B w z) (hB : B' ≤ B) : RowZ B' w z := ⟨h.p.le hB, h.q.le hB⟩
theorem RowZ.one {B : Nat} {w : World} {z : RR} (h : RowZ B w z) : z.u.oneCell' = true ∧ z.v.oneCell' = true := by
  obtain ⟨_, _, e, _⟩ := h.p
  obtain ⟨_, _, e', _⟩ := h.q
  rw [e, e']; exact ⟨rfl, rfl⟩
theorem RowG.blk {B : Nat} {w : World} {u : Value} {l : List ByteArray} {g : Nat} (h : RowG B w u l g) : u.ownBlock = some g ∧ B ≤ g := by
  obtain ⟨_, _, rfl, hb, _⟩ := h
  exact ⟨rfl, hb⟩
theorem RowG.below {B : Nat} {w w' : World} {u : Value} {l : List ByteArray} {g : Nat} (h : RowG B w u l g) (hb : Below w.heap.size w w') : RowG B w' u l g := h.same (hb.block _ h.lt)
theorem RowZ.below {B : Nat} {w w' : World} {z : RR} (h : RowZ B w z) (hb : Below w.heap.size w w') : RowZ B w' z := ⟨h.p.below hb, h.q.below hb⟩

structure RtsO (B : Nat) (w : World) (v : Value) (Z : List RR) : Prop where
  own : w.ownsRow B 34 2 v Z.length (celZ Z)
  row : ∀ z ∈ Z, RowZ B w z
  nod : (blkZ Z).Nodup
/-- The same, to read. -/
structure RtsR (B : Nat) (w : World) (v : Value) (Z : List RR) : Prop where
  out : Lst B w v Z.length 2 (cR Z)
  row : ∀ z ∈ Z, Lst B w z.u z.r.1.length 1 (cS (nthB z.r.1)) ∧ Lst B w z.v z.r.2.length 1 (cS (nthB z.r.2))
  none : ∀ z ∈ Z, ∀ n c, z.v = .slice none n c → c = 0
theorem RtsR.kept {B B' : Nat} {w w' : World} {v : Value} {Z : List RR} (h : RtsR B w v Z) (hb : Below B' w w') (hB : B ≤ B') : RtsR B w' v Z := ⟨h.out.kept hb hB, fun z hz => ⟨(h.row z hz).1.kept hb hB, (h.row z hz).2.kept hb hB⟩, h.none⟩
theorem RtsR.up {B B' : Nat} {w : World} {v : Value} {Z : List RR} (h : RtsR B w v Z) (hB : B ≤ B') : RtsR B' w v Z := ⟨h.out.up hB, fun z hz => ⟨(h.row z hz).1.up hB, (h.row z hz).2.up hB⟩, h.none⟩

theorem own_lstZ {B T : Nat} {w : World} {v : Value} {Z : List RR} (h : w.ownsRow B T 2 v Z.length (celZ Z)) (hm : Z.length ≤ 1048576) : Lst w.heap.size w v Z.length 2 (cR Z) := by
  rcases h.2 with ⟨rfl, hn⟩ | ⟨g, cap, cur, rfl, hb, hg, hc, hm', hs, ht⟩
  · rw [hn]; exact ⟨none, 0, rfl, Nat.zero_le _, fun i hi => by omega⟩
  · refine ⟨_, _, rfl, by unfold maxLen; omega, fun i hi => ⟨g, 0, rfl, (Array.getElem?_eq_some_iff.1 hg).1, fun j hj => ?_⟩⟩
    have e1 : cur.toList[i * 2 + j]? = (celZ Z)[i * 2 + j]? := by
      rw [← ht, List.getElem?_take_of_lt (by omega)]
    have e2 : cur[i * 2 + j]? = some (cR Z i j) := by
      rw [← Array.getElem?_toList, e1]; exact celZ_at Z i j hi hj
    rw [Nat.zero_add]
    exact (cell_row hg _ _ e2).1

theorem RtsO.read {B : Nat} {w : World} {v : Value} {Z : List RR} (h : RtsO B w v Z) (hn : Z.length ≤ 1048576) (hl : ∀ z ∈ Z, z.r.1.length ≤ 1048576 ∧ z.r.2.length ≤ 1048576) : RtsR w.heap.size w v Z :=
  ⟨own_lstZ h.own hn, fun z hz => ⟨(h.row z hz).p.lst (hl z hz).1, (h.row z hz).q.lst (hl z hz).2⟩, fun z hz n c e => by obtain ⟨_, _, e', _⟩ := (h.row z hz).q; rw [e'] at e; cases e⟩
theorem RtsO.below {B : Nat} {w w' : World} {v : Value} {Z : List RR} (h : RtsO B w v Z) (hb : Below w.heap.size w w') : RtsO B w' v Z :=
  ⟨own_belowR h.own hb, fun z hz => (h.row z hz).below hb, h.nod⟩
theorem RtsO.le {B B' : Nat} {w : World} {v : Value} {Z : List RR} (h : RtsO B w v Z) (hB : B' ≤ B) : RtsO B' w v Z :=
  ⟨own_leR h.own hB, fun z hz => (h.row z hz).le hB, h.nod⟩
theorem RtsO.outs {B L H : Nat} {w w' : World} {v : Value} {Z : List RR} (h : RtsO B w v Z) (ho : Outs L H w w') (hH : H ≤ B) : RtsO B w' v Z :=
  ⟨own_outs h.own ho hH, fun z hz => (h.row z hz).same (ho.out _ (by have := (h.row z hz).p.blk.2; omega) (h.row z hz).p.lt) (ho.out _ (by have := (h.row z hz).q.blk.2; omega) (h.row z hz).q.lt), h.nod⟩
theorem RtsO.nil (B : Nat) (w : World) : RtsO B w (.slice none 0 0) [] := ⟨World.ownsRow_nil _ _ _ _, fun z hz => by simp at hz, by simp [blkZ]⟩

theorem lst_src {B : Nat} {w : World} {v : Value} {l : List ByteArray} (h : Lst B w v l.length 1 (cS (nthB l))) (hnil : ∀ n c, v = .slice none n c → c = 0) : Src w v l.length 1 (l.map .string) := by
  obtain ⟨oa, cap, rfl, _, hc⟩ := h
  refine ⟨by simp, ?_⟩
  cases oa with
  | none =>
    have h0 : l.length = 0 := by
      rcases Nat.eq_zero_or_pos l.length with h | h
      · exact h
      · obtain ⟨_, _, e, _⟩ := hc 0 h; cases e
    rw [hnil _ _ rfl, h0]; exact .inl ⟨rfl, rfl⟩
  | some ad =>
    refine .inr ⟨ad, cap, rfl, fun j u hj => ?_⟩
    have hjl : j < l.length := by
      have := (List.getElem?_eq_some_iff.1 hj).1
      simpa using this
    obtain ⟨b, off, e, _, hcell⟩ := hc j hjl
    cases e
    have := hcell 0 (by omega)
    rw [Nat.mul_one, Nat.add_zero] at this
    rw [add_at, this]
    simp [cS, nthB, hjl] at hj ⊢
    exact hj

/-- A row of names is none of the blocks of a list of ways. -/
theorem RowG.apart {B B' T size n : Nat} {w : World} {u v : Value} {l : List ByteArray} {g : Nat} {xs : List Value} (h : RowG B w u l g) (ho : w.ownsRow B' T size v n xs) (hT : T ≠ 9) : some g ≠ v.ownBlock := fun e => by
  obtain ⟨cap, cur, _, _, hg, _⟩ := h
  rcases ho.2 with ⟨rfl, _⟩ | ⟨g', cap', cur', rfl, _, hgg, _⟩
  · cases e
  · simp only [Value.ownBlock, Option.some.injEq] at e
    rw [e, hgg] at hg
    simp only [Option.some.injEq, Obj.cells.injEq] at hg
    exact hT hg.2.1
theorem RowZ.grown {B B' T size n : Nat} {w w' : World} {v : Value} {xs : List Value} {z : RR} (h : RowZ B w z) (ho : w.ownsRow B' T size v n xs) (hT : T ≠ 9) (hg : w.grownBy w' v.ownBlock) : RowZ B w' z :=
  h.same (hg.block _ h.p.lt (h.p.apart ho hT)) (hg.block _ h.q.lt (h.q.apart ho hT))
theorem typeR : (34 : Nat) ≠ 9 := by decide

theorem RtsO.push {B : Nat} {w w' : World} {v v' : Value} {Z : List RR} {z : RR} (h : RtsO B w v Z) (hr : RowZ B w z) (hgh : z.g ≠ z.h) (hg' : z.g ∉ blkZ Z) (hh' : z.h ∉ blkZ Z)
    (ho : w'.ownsRow B 34 2 v' (Z.length + 1) (celZ Z ++ [z.u, z.v])) (hg : w.grownBy w' v.ownBlock) : RtsO B w' v' (Z ++ [z]) := by
  refine ⟨?_, fun x hx => ?_, ?_⟩
  · rw [List.length_append]
    have : celZ (Z ++ [z]) = celZ Z ++ [z.u, z.v] := by simp [celZ]
    rw [this]; exact ho
  · rcases List.mem_append.1 hx with h1 | h1
    · exact (h.row x h1).grown h.own typeR hg
    · simp at h1; subst h1; exact hr.grown h.own typeR hg
  · have : blkZ (Z ++ [z]) = blkZ Z ++ [z.g, z.h] := by simp [blkZ]
    rw [this, List.nodup_append]
    refine ⟨h.nod, by simp [hgh], fun a ha b hb => ?_⟩
    simp only [List.mem_cons, List.not_mem_nil, or_false] at hb
    rintro rfl
    rcases hb with rfl | rfl
    · exact hg' ha
    · exact hh' ha
theorem RtsO.old {B : Nat} {w : World} {v : Value} {Z : List RR} (h : RtsO B w v Z) {k : Nat} (hk : k ∈ blkZ Z) : B ≤ k ∧ k < w.heap.size := by
  obtain ⟨z, hz, hm⟩ := List.mem_flatMap.1 hk
  simp only [List.mem_cons, List.not_mem_nil, or_false] at hm
  rcases hm with rfl | rfl
  · exact ⟨(h.row z hz).p.blk.2, (h.row z hz).p.lt⟩
  · exact ⟨(h.row z hz).q.blk.2, (h.row z hz).q.lt⟩

open Go.Sort in
set_option maxRecDepth 100000 in
set_option maxHeartbeats 4000000 in
theorem eqRts_any (B B' : Nat) (va vb : Value) (Za Zb : List RR) (w : World) (he : Za.map (·.r) = Zb.map (·.r)) (ha : RtsR B w va Za) (hb : RtsR B' w vb Zb) (hB : B ≤ w.heap.size) (hB' : B' ≤ w.heap.size) :
    Calls Try.prog 15 #[va, vb] w fun e w' => e = .returned (.bool true) ∧ Below w.heap.size w w' := by
  have hlen : Zb.length = Za.length := by have := congrArg List.length he; simpa using this.symm
  have HR : Hid (∀ w', Below w.heap.size w w' → ∀ i, i < Za.length → RAt B w' (nthZ Za i).u (nthZ Za i).v (nthZ Za i).r.1.length (nthB (nthZ Za i).r.1) (nthZ Za i).r.2.length (nthB (nthZ Za i).r.2) ∧ RAt B' w' (nthZ Zb i).u (nthZ Zb i).v (nthZ Za i).r.1.length (nthB (nthZ Za i).r.1) (nthZ Za i).r.2.length (nthB (nthZ Za i).r.2)) := fun w' hw i hi => by
    have ra := (ha.kept hw hB).row _ (nthZ_mem hi)
    have rb := (hb.kept hw hB').row _ (nthZ_mem (show i < Zb.length by omega))
    have er : (nthZ Zb i).r = (nthZ Za i).r := by
      have h1 : (Za.map (·.r))[i]? = some (nthZ Za i).r := by rw [List.getElem?_map, nthZ_at hi]; rfl
      have h2 : (Zb.map (·.r))[i]? = some (nthZ Zb i).r := by rw [List.getElem?_map, nthZ_at (by omega)]; rfl
      rw [he, h2] at h1
      exact Option.some.inj h1
    rw [er] at rb
    exact ⟨⟨ra.1, ra.2⟩, ⟨rb.1, rb.2⟩⟩
  obtain ⟨oa, ca, rfl, hn, hca⟩ := ha.out
  obtain ⟨ob, cb, rfl, _, hcb⟩ := hb.out
  unfold maxLen at hn
  rw [hlen] at hcb ⊢
  have HA : Hid _ := hca
  have HB : Hid _ := hcb
  clear hca hcb ha hb he hlen
  generalize hN : Za.length = N at *
  go_enter Try.func15, Try.ntmps15
  go_wp2
  go_loopw [5] (fun i wr => ∃ k : Nat, k ≤ N ∧ i = .int .i64 k ∧ Hid (Below w.heap.size w wr)) (fun i _ => N - (intOf i).toNat)
  case atStart => exact ⟨0, Nat.zero_le _, rfl, Below.refl _ _⟩
  case round =>
    obtain ⟨k, hk, rfl, hbel⟩ := hrel
    have hs := hbel.out.size
    by_cases hlt : k < N
    · obtain ⟨ba, fa, rfl, hba, hxa⟩ := HA.out k hlt
      obtain ⟨bb, fb, rfl, hbb, hxb⟩ := HB.out k hlt
      have a0 : wr.cell? ⟨ba, fa + k * 2, none⟩ = some (nthZ Za k).u := (hbel.out.cell (p := ⟨ba, fa + k * 2, none⟩) (by show ba < _; omega)).trans (by simpa [cR] using hxa 0 (by omega))
      have qa0 := fun d os => cell_regrown a0 d os
      have a1 : wr.cell? ⟨ba, fa + k * 2 + 1, none⟩ = some (nthZ Za k).v := (hbel.out.cell (p := ⟨ba, fa + k * 2 + 1, none⟩) (by show ba < _; omega)).trans (by simpa [cR] using hxa 1 (by omega))
      have qa1 := fun d os => cell_regrown a1 d os
      have c0 : wr.cell? ⟨bb, fb + k * 2, none⟩ = some (nthZ Zb k).u := (hbel.out.cell (p := ⟨bb, fb + k * 2, none⟩) (by show bb < _; omega)).trans (by simpa [cR] using hxb 0 (by omega))
      have qc0 := fun d os => cell_regrown c0 d os
      have c1 : wr.cell? ⟨bb, fb + k * 2 + 1, none⟩ = some (nthZ Zb k).v := (hbel.out.cell (p := ⟨bb, fb + k * 2 + 1, none⟩) (by show bb < _; omega)).trans (by simpa [cR] using hxb 1 (by omega))
      have qc1 := fun d os => cell_regrown c1 d os
      clear hxa hxb
      go_wp2_with fail
      refine wp_region_head_tail 8 (by kernel_rfl) (by kernel_rfl) ?_
      simp only [List.take_succ_cons, List.take_zero, List.drop_succ_cons, List.drop_zero]
      repeat (first | go_big_quiet_step (fail) | quiet_step (fail))
      refine wpQuiet_nil ?_
      intro _ hw'
      obtain ⟨⟨dq, osq⟩, hw''⟩ := hw'
      subst hw''
      have hbu : Hid (Below wr.heap.size wr (grow (redrawn wr dq) osq)) := below_regrown _ dq osq
      generalize grow (redrawn wr dq) osq = u at hbu ⊢
      have ku : Hid (Below w.heap.size w u) := hbel.out.trans (hbu.out.mono hs)
      have su := ku.out.size
      clear a0 c0 qa0 qc0 a1 c1 qa1 qc1
      go_wp2_with fail
      refine (eqRoute_any B B' _ _ _ _ _ _ _ _ _ (HR.out u ku.out k (by omega)).1 (HR.out u ku.out k (by omega)).2 (by omega) (by omega)).mono ?_; rintro e w3 ⟨rfl, hb3⟩
      have k3 : Hid (Below w.heap.size w w3) := ku.out.trans (hb3.mono su)
      clear hb3
      go_wp2_with fail
      go_roundw
      case rel => exact ⟨k + 1, by omega, by go_num, k3⟩
      case measure => simp [intOf]; omega
    · go_wp2
      go_ret
      exact ⟨rfl, hbel.out⟩

end Go.Proofs.Ytnpfnbgbodojnab
