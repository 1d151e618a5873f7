/-
  Several texts in one.
-/
import Derived.Test.YtidojjecjjochadGreatDoorM10
import Derived.Test.YtidojjecjjochadGreatDoorM3
import Derived.Test.YtidojjecjjochadGreatDoorM1
/-
  Plain: small books; what leaving, coming in and needing less make of a book of shares.
-/
namespace Go.Proofs.YtidojjecjjochadGreatDoor
open Go.RowKit

theorem eqB_iffM (a b : ByteArray) : eqB a b = true ↔ a = b := by
  constructor
  · intro h
    simp only [eqB, beq_iff_eq, ByteArray.toList_eq] at h
    exact ByteArray.ext (Array.toList_inj.1 h)
  · rintro rfl
    exact eqB_refl a

theorem hasB_memM (l : List ByteArray) (x : ByteArray) : hasB l x = true → x ∈ l := by
  unfold hasB
  rw [List.any_eq_true]
  rintro ⟨y, hy, he⟩; rw [eqB_iffM] at he; exact he ▸ hy
/-- Lists and books that are small. -/
def SmL (l : List ByteArray) : Prop := l.length ≤ 64 ∧ ∀ x ∈ l, x.size ≤ 64
def SmB (Bs : List DShareBatch) : Prop := Bs.length ≤ 64 ∧ ∀ f ∈ Bs, f.1.size ≤ 64 ∧ SmL f.2.1 ∧ SmL f.2.2
def SmD (D : DShareBook) : Prop := SmL D.1 ∧ SmB D.2
theorem sum_bound {α : Type} [Lay α] {c : Nat} : ∀ (l : List α), (∀ x ∈ l, Lay.tot x ≤ c) → (l.map Lay.tot).sum ≤ l.length * c
  | [], _ => by simp
  | x :: l, h => by
    have h1 := h x (by simp)
    have h2 := sum_bound l (fun y hy => h y (by simp [hy]))
    rw [List.map_cons, List.sum_cons, List.length_cons, Nat.add_mul]
    omega
theorem totL_bound {α : Type} [Lay α] {c : Nat} (l : List α) (h : ∀ x ∈ l, Lay.tot x ≤ c) : totL l ≤ l.length + l.length * c := by
  unfold totL sumTo
  rw [List.take_length]
  have := sum_bound l h
  omega
theorem SmL.tot {l : List ByteArray} (h : SmL l) : totL l ≤ 4160 := by
  have h1 := totL_bound (c := 64) l (fun x hx => h.2 x hx)
  have h2 := h.1
  have h3 : l.length * 64 ≤ 64 * 64 := Nat.mul_le_mul_right _ h2
  omega
theorem SmB.tot {Bs : List DShareBatch} (h : SmB Bs) : totL Bs ≤ 536640 := by
  have h1 := totL_bound (c := 8384) Bs (fun f hf => by
    obtain ⟨a, b, c⟩ := h.2 f hf
    have := b.tot
    have := c.tot
    rw [tot_DShareBatch]
    omega)
  have h2 := h.1
  have h3 : Bs.length * 8384 ≤ 64 * 8384 := Nat.mul_le_mul_right _ h2
  omega
theorem SmD.tot {D : DShareBook} (h : SmD D) : Lay.tot D ≤ 1048576 := by
  have := h.1.tot
  have := h.2.tot
  rw [tot_DShareBook]
  omega
theorem SmL.of_sub {T l : List ByteArray} (hT : SmL T) (h : subB T l = true) (hl : l.length ≤ 64) : SmL l := by
  rw [subB, ok_iff] at h
  refine ⟨hl, fun x hx => ?_⟩
  obtain ⟨i, hi, rfl⟩ := List.getElem_of_mem hx
  have := h.2 i hi
  rw [tst, Bool.and_eq_true] at this
  exact hT.2 _ (hasB_memM _ _ this.1)
theorem less_decM : ∀ x y : List UInt8, Op.bytesLess x y = decide (x < y)
  | [], [] => by simp [Op.bytesLess]
  | _ :: _, [] => by simp [Op.bytesLess]
  | [], _ :: _ => by simp [Op.bytesLess]
  | a :: x, b :: y => by
    have ih := less_decM x y
    unfold Op.bytesLess
    rw [ih]
    by_cases h1 : a < b <;> by_cases h2 : a = b <;> by_cases h3 : x < y <;> simp [List.cons_lt_cons_iff, h1, h2, h3]

theorem ltB_iffM (a b : ByteArray) : ltB a b = true ↔ a.toList < b.toList := by simp [ltB, less_decM]

theorem ltB_transM {a b c : ByteArray} (h1 : ltB a b = true) (h2 : ltB b c = true) : ltB a c = true := by
  rw [ltB_iffM] at *; exact List.lt_trans h1 h2

theorem ltB_irreflM (a : ByteArray) : ltB a a = false := by
  cases h : ltB a a
  · rfl
  · rw [ltB_iffM] at h; exact absurd h (List.lt_irrefl _)

theorem asc_farM {l : List ByteArray} (h : ∀ i (hi : i < l.length), asO ltB (prevO l i) l[i] = true) : ∀ (j i : Nat) (hj : j < l.length) (hij : i < j), ltB (l[i]'(by omega)) l[j] = true
  | 0, i, _, hij => by omega
  | j + 1, i, hj, hij => by
    have h1 := h (j + 1) hj
    rw [prev_succ l j (by omega)] at h1
    have h2 : ltB (l[j]'(by omega)) l[j + 1] = true := h1
    by_cases e : i = j
    · subst e; exact h2
    · have h3 := asc_farM (l := l) h j i (by omega) (by omega)
      exact ltB_transM h3 h2
theorem sub_lenM {T l : List ByteArray} (h : subB T l = true) : l.length ≤ T.length := by
  rw [subB, ok_iff] at h
  have nd : l.Nodup := by
    refine List.pairwise_iff_getElem.2 fun i j hi hj hij e => ?_
    have := asc_farM (fun i hi => by have := h.2 i hi; rw [tst, Bool.and_eq_true] at this; exact this.2) j i hj hij
    rw [e, ltB_irreflM] at this
    cases this
  refine nd.length_le_of_subset fun x hx => ?_
  obtain ⟨i, hi, rfl⟩ := List.getElem_of_mem hx
  have := h.2 i hi
  rw [tst, Bool.and_eq_true] at this
  exact hasB_memM _ _ this.1
theorem name_smallM {s : ByteArray} (h : nameB s = true) : s.size ≤ 8 := by
  unfold nameB at h
  rw [Bool.and_eq_true, decide_eq_true_iff] at h
  exact h.1.2
theorem bok_small {D : DShareBook} (h : BokP D) : SmD D ∧ D.1.length ≤ 8 ∧ D.2.length ≤ 5 := by
  have h1 := h.things
  rw [ok_iff] at h1
  have hT : SmL D.1 := ⟨by omega, fun x hx => by
    obtain ⟨i, hi, rfl⟩ := List.getElem_of_mem hx
    have := h1.2 i hi
    rw [tst, Bool.and_eq_true] at this
    have := name_smallM this.1
    omega⟩
  refine ⟨⟨hT, by have := h.len; omega, fun f hf => ?_⟩, h1.1, h.len⟩
  obtain ⟨i, hi, rfl⟩ := List.getElem_of_mem hf
  have hb := (h.row i hi).bat
  unfold batB at hb
  simp only [Bool.and_eq_true] at hb
  have e1 := sub_lenM hb.1.2
  have e2 := sub_lenM hb.2
  have sn : SmL D.2[i].2.2 := hT.of_sub hb.1.2 (by omega)
  exact ⟨by have := name_smallM hb.1.1.1; omega, sn.of_sub hb.2 (by omega), sn⟩
/-- What the four of chapter 53 answer, by the model. -/
noncomputable def levS (D : DShareBook) (x : ByteArray) : DShareBook × Int :=
  if bokB D = true then (if atI D.2 x < 0 then (D, 3) else ((D.1, D.2.take (atI D.2 x).toNat ++ D.2.drop ((atI D.2 x).toNat + 1)), 0)) else (([], []), 1)
/-- Where a new batch comes in. -/
def posB (Bs : List DShareBatch) (x : ByteArray) : Nat := (Bs.takeWhile fun f => ltB f.1 x).length
noncomputable def entS (D : DShareBook) (x : ByteArray) (nd : List ByteArray) : DShareBook × Int :=
  if bokB D = true then (if nameB x = true ∧ subB D.1 nd = true then (if 0 ≤ atI D.2 x then (D, 3) else if 5 ≤ D.2.length then (D, 4) else ((D.1, D.2.take (posB D.2 x) ++ [(x, [], nd)] ++ D.2.drop (posB D.2 x)), 0)) else (D, 2)) else (([], []), 1)
/-- A batch that needs less. -/
def lesB (f : DShareBatch) (nd : List ByteArray) : DShareBatch := (f.1, f.2.1.filter (fun y => hasB nd y), nd)
noncomputable def lesS (D : DShareBook) (x : ByteArray) (nd : List ByteArray) : DShareBook × Int :=
  if bokB D = true then (if atI D.2 x < 0 then (D, 3) else if subB (btN D.2 (atI D.2 x).toNat).2.2 nd = true then ((D.1, D.2.set (atI D.2 x).toNat (lesB (btN D.2 (atI D.2 x).toNat) nd)), 0) else (D, 2)) else (([], []), 1)
theorem pos_le (Bs : List DShareBatch) (x : ByteArray) : posB Bs x ≤ Bs.length := by
  unfold posB
  exact (List.takeWhile_sublist _).length_le
theorem pos_at {x : ByteArray} : ∀ {Bs : List DShareBatch} {k : Nat}, k ≤ Bs.length → (∀ j (hj : j < Bs.length), j < k → ltB Bs[j].1 x = true) → (∀ h : k < Bs.length, ltB Bs[k].1 x = false) → posB Bs x = k
  | [], k, hk, _, _ => by simp at hk; subst hk; rfl
  | f :: Bs, 0, _, _, h2 => by
    have := h2 (by simp)
    unfold posB
    rw [List.takeWhile_cons, show ltB f.1 x = false from this]; rfl
  | f :: Bs, k + 1, hk, h1, h2 => by
    have ih := pos_at (x := x) (Bs := Bs) (k := k) (by simpa using hk) (fun j hj hjk => by have := h1 (j + 1) (by simpa using hj) (by omega); simpa using this) (fun h => by have := h2 (by simpa using h); simpa using this)
    have h0 := h1 0 (by simp) (by omega)
    unfold posB at ih ⊢
    rw [List.takeWhile_cons, show ltB f.1 x = true from h0]
    simp [ih]
section
variable {D : DShareBook} {x : ByteArray} {nd : List ByteArray}
theorem sm_set {Bs : List DShareBatch} (h : SmB Bs) {k : Nat} {f : DShareBatch} (hf : f.1.size ≤ 64 ∧ SmL f.2.1 ∧ SmL f.2.2) : SmB (Bs.set k f) := ⟨by rw [List.length_set]; exact h.1, fun g hg => by
  rcases List.mem_or_eq_of_mem_set hg with hg | rfl
  · exact h.2 g hg
  · exact hf⟩
theorem sm_nil : SmD (([], []) : DShareBook) := ⟨⟨by simp, fun x hx => by cases hx⟩, ⟨by simp, fun x hx => by cases hx⟩⟩
theorem lev_small (h : SmD D) : SmD (levS D x).1 := by
  unfold levS
  split
  · split
    · exact h
    · refine ⟨h.1, ?_, fun f hf => ?_⟩
      · have := h.2.1
        simp only [List.length_append, List.length_take, List.length_drop]; omega
      · rcases List.mem_append.1 hf with hf | hf
        · exact h.2.2 f (List.mem_of_mem_take hf)
        · exact h.2.2 f (List.mem_of_mem_drop hf)
  · exact sm_nil
theorem ent_small (h : SmD D) (hn : SmL nd) (hx : x.size ≤ 64) : SmD (entS D x nd).1 := by
  unfold entS
  split
  · split
    · split
      · exact h
      · split
        · exact h
        · rename_i h5
          refine ⟨h.1, ?_, fun f hf => ?_⟩
          · simp only [List.length_append, List.length_take, List.length_drop, List.length_cons, List.length_nil]; omega
          · rcases List.mem_append.1 hf with hf | hf
            · rcases List.mem_append.1 hf with hf | hf
              · exact h.2.2 f (List.mem_of_mem_take hf)
              · rw [List.mem_singleton.1 hf]
                exact ⟨hx, ⟨by simp, fun y hy => by cases hy⟩, hn⟩
            · exact h.2.2 f (List.mem_of_mem_drop hf)
    · exact h
  · exact sm_nil
theorem les_small (h : SmD D) (hn : SmL nd) : SmD (lesS D x nd).1 := by
  unfold lesS
  split
  · split
    · exact h
    · split
      · by_cases hk : (atI D.2 x).toNat < D.2.length
        · have hf := h.2.2 D.2[(atI D.2 x).toNat] (List.getElem_mem hk)
          refine ⟨h.1, sm_set h.2 ?_⟩
          rw [btN_at hk]
          exact ⟨hf.1, ⟨Nat.le_trans (List.length_filter_le _ _) hf.2.1.1, fun y hy => hf.2.1.2 y (List.mem_filter.1 hy).1⟩, hn⟩
        · rw [List.set_eq_of_length_le (by omega)]
          exact h
      · exact h
  · exact sm_nil
end

end Go.Proofs.YtidojjecjjochadGreatDoor

/-
  Plain: how many marks a book of shares takes.
-/
namespace Go.Proofs.YtidojjecjjochadGreatDoor
open Go.RowKit
theorem bookL_cs {S : Nat → Prop} {w : World} {D : DShareBook} {v0 v1 : Value} (h0 : AtL S w D.1 v0) (h1 : AtL S w D.2 v1) : Lay.At S w D (cs [v0, v1]) := at_DShareBook.2 ⟨h0, h1⟩
theorem cntZ_le {α : Type} [Own α] (K : Nat) : ∀ l : List α, (∀ x ∈ l, Own.cnt x ≤ K * (Lay.tot x + 1)) → cntL l ≤ K * totL l
  | [], _ => by simp [cntL, cntTo]
  | x :: l, h => by
    have h1 := h x List.mem_cons_self
    have h2 := cntZ_le K l (fun y hy => h y (List.mem_cons_of_mem _ hy))
    have e1 : cntL (x :: l) = Own.cnt x + cntL l := by simp [cntL, cntTo]
    have e2 : totL (x :: l) = (Lay.tot x + 1) + totL l := by simp [totL, sumTo]; omega
    rw [e1, e2, Nat.mul_add]
    omega
theorem cntZ_strs (l : List ByteArray) : cntL l ≤ totL l := by
  have := cntZ_le 1 l (fun x _ => by show 1 ≤ 1 * (x.size + 1); omega)
  omega
theorem cnt_book {D : DShareBook} (h : Lay.tot D ≤ 1048576) : Own.cnt D ≤ 1048576 := by
  rw [tot_DShareBook] at h
  rw [cnt_DShareBook]
  have h0 := cntZ_strs D.1
  have h1 : cntL D.2 ≤ 1 * totL D.2 := cntZ_le 1 D.2 (fun x _ => by
    rw [cnt_DShareBatch, tot_DShareBatch]
    have := cntZ_strs x.2.1
    have := cntZ_strs x.2.2
    omega)
  omega
end Go.Proofs.YtidojjecjjochadGreatDoor

/-
  Contracts of the laws' own measure of data.
-/
namespace Go.Proofs.YtidojjecjjochadGreatDoor
open Go.RowKit

set_option maxRecDepth 100000 in
set_option maxHeartbeats 4000000 in
theorem szStringS_any (S : Nat → Prop) (l : List ByteArray) (v : Value) (x : Int) (w : World) (h : AtL S w l v) (hS : ∀ b, S b → b < w.heap.size) (h0 : 0 ≤ x) (h1 : x ≤ 1048576) :
    Calls Tryz.prog 5 #[v, .int .i64 x] w fun e w' => ∃ y : Int, e = .returned (.int .i64 y) ∧ (y < 0 ∨ y + (totL l : Int) = x) ∧ Below w.heap.size w w' := by
  obtain ⟨oa, cap, rfl, hn, hc⟩ := h
  have ht : totL l = l.length + sumTo l l.length := rfl
  obtain ⟨n, en⟩ : ∃ n, l.length = n := ⟨_, rfl⟩
  rw [en] at ht hn
  rw [en]
  unfold maxLen at hn
  have HC : Hid _ := hc
  clear hc
  have HT : Hid _ := ht
  clear ht
  by_cases hx : (n : Int) ≤ x
  · go_enter Tryz.func5, Tryz.ntmps5
    go_wp2
    go_loopw [1, 5] (fun q i wr => ∃ (k : Nat) (y : Int), k ≤ n ∧ i = .int .i64 k ∧ q = .int .i64 y ∧ 0 ≤ y ∧ y ≤ x ∧ Hid (y + ((n + sumTo l k : Nat) : Int) = x) ∧ Hid (Below w.heap.size w wr)) (fun _ i _ => n - (intOf i).toNat)
    case atStart => exact ⟨0, _, Nat.zero_le _, rfl, rfl, by omega, by omega, by rw [sumTo_zero]; show _ = _; omega, Below.refl _ _⟩
    case round =>
      obtain ⟨k, y, hk, rfl, rfl, hy0, hy1, hsum, hbel⟩ := hrel
      have hs := hbel.out.size
      by_cases hlt : k < n
      · obtain ⟨b, off, rfl, hbS, cc, hcell, hat⟩ := HC.out k (by omega)
        have hb := hS b hbS
        have hsu := sumTo_succ l k (by omega)
        rw [width_str] at hcell
        have e0 : wr.cell? ⟨b, off + k, none⟩ = some (cc 0) := (hbel.out.cell (p := ⟨b, off + k, none⟩) (by show b < _; omega)).trans (by simpa using hcell 0 (by omega))
        clear hcell
        rw [at_str] at hat
        obtain ⟨ec, hz⟩ := hat
        rw [ec] at e0
        clear ec
        unfold maxLen at hz
        rw [tot_str] at hsu
        obtain ⟨f, ef⟩ : ∃ f, l[k]'(by omega) = f := ⟨_, rfl⟩
        rw [ef] at e0 hz hsu
        have HSU : Hid _ := hsu
        clear hsu
        by_cases hs : (f.size : Int) ≤ y
        · go_wp2
          go_roundw
          case rel => exact ⟨k + 1, _, by omega, by go_num, rfl, by omega, by omega, by rw [HSU.out]; have := hsum.out; show _ = _; omega, hbel.out⟩
          case measure => simp [intOf]; omega
        · go_wp2
          go_ret
          exact ⟨_, rfl, Or.inl (by omega), hbel.out⟩
      · have hkn : k = n := by omega
        subst hkn
        go_wp2
        go_ret
        exact ⟨y, rfl, Or.inr (by have := hsum.out; rw [HT.out]; omega), hbel.out⟩
  · go_enter Tryz.func5, Tryz.ntmps5
    go_wp2
    go_ret
    exact ⟨-1, rfl, Or.inl (by omega), Below.refl _ _⟩

set_option maxRecDepth 100000 in
set_option maxHeartbeats 4000000 in
theorem szShareBatch_any (S : Nat → Prop) (a : DShareBatch) (c : Nat → Value) (x : Int) (w : World) (h : Lay.At S w a c) (hS : ∀ b, S b → b < w.heap.size) (h0 : 0 ≤ x) (h1 : x ≤ 1048576) :
    Calls Tryz.prog 30 #[.agg #[c 0, c 1, c 2], .int .i64 x] w fun e w' => ∃ y : Int, e = .returned (.int .i64 y) ∧ (y < 0 ∨ y + (Lay.tot a : Int) = x) ∧ Below w.heap.size w w' := by
  rw [tot_DShareBatch]
  rw [at_DShareBatch] at h
  obtain ⟨⟨e0, z0⟩, H1, H2⟩ := h
  obtain ⟨v1, e1⟩ : ∃ v, c 1 = v := ⟨_, rfl⟩
  rw [e1] at H1
  obtain ⟨v2, e2⟩ : ∃ v, c 2 = v := ⟨_, rfl⟩
  rw [e2] at H2
  rw [e0, e1, e2]
  clear e0 e1 e2
  unfold maxLen at z0
  have b0 : Hid (Below w.heap.size w (w.alloc (.cells #[.string a.1, v1, v2] 56))) := (Below.refl _ _).alloc (Nat.le_refl _) _
  go_enter Tryz.func30, Tryz.ntmps30
  by_cases n0 : x < (a.1.size : Int)
  · go_wp2_with fail
    go_ret
    exact ⟨_, rfl, Or.inl (by omega), b0.out⟩
  · have _u := trivial
    go_wp2_with fail
    refine (szStringS_any S _ v1 _ _ (H1.same (Same.of_below b0.out hS)) (fun b hb => by have := hS b hb; have := b0.out.size; omega) (by omega) (by omega)).mono ?_
    rintro e w1 ⟨y1, rfl, t1, u1⟩
    have b1 : Hid (Below w.heap.size w w1) := b0.out.trans (u1.mono b0.out.size)
    have x1_2 : w1.cell? ⟨w.heap.size, 2, none⟩ = some (v2) := (u1.cell (p := ⟨w.heap.size, 2, none⟩) (by simp)).trans (by simp)
    have s1 : w.heap.size < w1.heap.size := by have := u1.size; simp at this; omega
    by_cases n1 : y1 < 0
    · go_wp2_with fail
      go_ret
      exact ⟨_, rfl, Or.inl (by omega), b1.out⟩
    · have _u := trivial
      go_wp2_with fail
      refine (szStringS_any S _ v2 _ _ (H2.same (Same.of_below b1.out hS)) (fun b hb => by have := hS b hb; have := b1.out.size; omega) (by omega) (by omega)).mono ?_
      rintro e w2 ⟨y2, rfl, t2, u2⟩
      have b2 : Hid (Below w.heap.size w w2) := b1.out.trans (u2.mono b1.out.size)
      have s2 : w.heap.size < w2.heap.size := by have := u2.size; omega
      by_cases n2 : y2 < 0
      · go_wp2_with fail
        go_ret
        exact ⟨_, rfl, Or.inl (by omega), b2.out⟩
      · have _u := trivial
        go_wp2_with fail
        go_ret
        exact ⟨_, rfl, Or.inr (by omega), b2.out⟩

set_option maxRecDepth 100000 in
set_option maxHeartbeats 4000000 in
theorem szShareBatchS_any (S : Nat → Prop) (l : List DShareBatch) (v : Value) (x : Int) (w : World) (h : AtL S w l v) (hS : ∀ b, S b → b < w.heap.size) (h0 : 0 ≤ x) (h1 : x ≤ 1048576) :
    Calls Tryz.prog 15 #[v, .int .i64 x] w fun e w' => ∃ y : Int, e = .returned (.int .i64 y) ∧ (y < 0 ∨ y + (totL l : Int) = x) ∧ Below w.heap.size w w' := by
  obtain ⟨oa, cap, rfl, hn, hc⟩ := h
  have ht : totL l = l.length + sumTo l l.length := rfl
  obtain ⟨n, en⟩ : ∃ n, l.length = n := ⟨_, rfl⟩
  rw [en] at ht hn
  rw [en]
  unfold maxLen at hn
  have HC : Hid _ := hc
  clear hc
  have HT : Hid _ := ht
  clear ht
  by_cases hx : (n : Int) ≤ x
  · go_enter Tryz.func15, Tryz.ntmps15
    go_wp2
    go_loopw [1, 5] (fun q i wr => ∃ (k : Nat) (y : Int), k ≤ n ∧ i = .int .i64 k ∧ q = .int .i64 y ∧ 0 ≤ y ∧ y ≤ x ∧ Hid (y + ((n + sumTo l k : Nat) : Int) = x) ∧ Hid (Below w.heap.size w wr)) (fun _ i _ => n - (intOf i).toNat)
    case atStart => exact ⟨0, _, Nat.zero_le _, rfl, rfl, by omega, by omega, by rw [sumTo_zero]; show _ = _; omega, Below.refl _ _⟩
    case round =>
      obtain ⟨k, y, hk, rfl, rfl, hy0, hy1, hsum, hbel⟩ := hrel
      have hs := hbel.out.size
      by_cases hlt : k < n
      · obtain ⟨b, off, rfl, hbS, cc, hcell, hat⟩ := HC.out k (by omega)
        have hb := hS b hbS
        have hsu := sumTo_succ l k (by omega)
        rw [width_DShareBatch] at hcell
        have e0 : wr.cell? ⟨b, off + k * 3, none⟩ = some (cc 0) := (hbel.out.cell (p := ⟨b, off + k * 3, none⟩) (by show b < _; omega)).trans (by simpa using hcell 0 (by omega))
        have e1 : wr.cell? ⟨b, off + k * 3 + 1, none⟩ = some (cc 1) := (hbel.out.cell (p := ⟨b, off + k * 3 + 1, none⟩) (by show b < _; omega)).trans (by simpa using hcell 1 (by omega))
        have e2 : wr.cell? ⟨b, off + k * 3 + 2, none⟩ = some (cc 2) := (hbel.out.cell (p := ⟨b, off + k * 3 + 2, none⟩) (by show b < _; omega)).trans (by simpa using hcell 2 (by omega))
        clear hcell
        have HSU : Hid _ := hsu
        clear hsu
        have HAT : Hid _ := hat
        clear hat
        go_wp2_with fail
        refine (szShareBatch_any S _ cc _ _ (Lay.same HAT.out (Same.of_below hbel.out hS)) (fun b hb => by have := hS b hb; omega) hy0 (by omega)).mono ?_
        rintro e u ⟨z, rfl, hz1, hbu⟩
        by_cases hneg : z < 0
        · go_wp2_with fail
          go_ret
          exact ⟨_, rfl, Or.inl (by omega), hbel.out.trans (hbu.mono hs)⟩
        · go_wp2_with fail
          go_roundw
          case rel => exact ⟨k + 1, z, by omega, by go_num, rfl, by omega, by omega, by rw [HSU.out]; have := hsum.out; show _ = _; omega, hbel.out.trans (hbu.mono hs)⟩
          case measure => simp [intOf]; omega
      · have hkn : k = n := by omega
        subst hkn
        go_wp2
        go_ret
        exact ⟨y, rfl, Or.inr (by have := hsum.out; rw [HT.out]; omega), hbel.out⟩
  · go_enter Tryz.func15, Tryz.ntmps15
    go_wp2
    go_ret
    exact ⟨-1, rfl, Or.inl (by omega), Below.refl _ _⟩

set_option maxRecDepth 100000 in
set_option maxHeartbeats 4000000 in
theorem szShareBook_any (S : Nat → Prop) (a : DShareBook) (c : Nat → Value) (x : Int) (w : World) (h : Lay.At S w a c) (hS : ∀ b, S b → b < w.heap.size) (h0 : 0 ≤ x) (h1 : x ≤ 1048576) :
    Calls Tryz.prog 4 #[.agg #[c 0, c 1], .int .i64 x] w fun e w' => ∃ y : Int, e = .returned (.int .i64 y) ∧ (y < 0 ∨ y + (Lay.tot a : Int) = x) ∧ Below w.heap.size w w' := by
  rw [tot_DShareBook]
  rw [at_DShareBook] at h
  obtain ⟨H0, H1⟩ := h
  obtain ⟨v0, e0⟩ : ∃ v, c 0 = v := ⟨_, rfl⟩
  rw [e0] at H0
  obtain ⟨v1, e1⟩ : ∃ v, c 1 = v := ⟨_, rfl⟩
  rw [e1] at H1
  rw [e0, e1]
  clear e0 e1
  have b0 : Hid (Below w.heap.size w (w.alloc (.cells #[v0, v1] 25))) := (Below.refl _ _).alloc (Nat.le_refl _) _
  go_enter Tryz.func4, Tryz.ntmps4
  go_wp2_with fail
  refine (szStringS_any S _ v0 _ _ (H0.same (Same.of_below b0.out hS)) (fun b hb => by have := hS b hb; have := b0.out.size; omega) (by omega) (by omega)).mono ?_
  rintro e w1 ⟨y0, rfl, t0, u1⟩
  have b1 : Hid (Below w.heap.size w w1) := b0.out.trans (u1.mono b0.out.size)
  have x1_1 : w1.cell? ⟨w.heap.size, 1, none⟩ = some (v1) := (u1.cell (p := ⟨w.heap.size, 1, none⟩) (by simp)).trans (by simp)
  have s1 : w.heap.size < w1.heap.size := by have := u1.size; simp at this; omega
  by_cases n0 : y0 < 0
  · go_wp2_with fail
    go_ret
    exact ⟨_, rfl, Or.inl (by omega), b1.out⟩
  · have _u := trivial
    go_wp2_with fail
    refine (szShareBatchS_any S _ v1 _ _ (H1.same (Same.of_below b1.out hS)) (fun b hb => by have := hS b hb; have := b1.out.size; omega) (by omega) (by omega)).mono ?_
    rintro e w2 ⟨y1, rfl, t1, u2⟩
    have b2 : Hid (Below w.heap.size w w2) := b1.out.trans (u2.mono b1.out.size)
    have s2 : w.heap.size < w2.heap.size := by have := u2.size; omega
    by_cases n1 : y1 < 0
    · go_wp2_with fail
      go_ret
      exact ⟨_, rfl, Or.inl (by omega), b2.out⟩
    · have _u := trivial
      go_wp2_with fail
      go_ret
      exact ⟨_, rfl, Or.inr (by omega), b2.out⟩

end Go.Proofs.YtidojjecjjochadGreatDoor
