/-
  The law FnRecGo, walked, if RecGo answers as the model does: whatever the code, the call returns true, and nothing that was there before has turned.
-/
import Derived.Test.YtkongeofapbblabXuf
import Derived.Test.YtkongeofapbblabXua
import Derived.Test.YtkongeofapbblabXpe
import Derived.Deep.Cut
namespace Go.Proofs.Ytkongeofapbblab
open Go.RowKit Go.Sort

theorem tot_leR {α : Type} [Lay α] {l : List α} {c : Nat} (h : ∀ x ∈ l, Lay.tot x ≤ c) : totL l ≤ l.length + l.length * c := by
  have e : sumTo l l.length = (l.map Lay.tot).sum := by simp [sumTo]
  unfold totL
  rw [e]
  clear e
  induction l with
  | nil => simp
  | cons a l ih =>
    have h1 := h a (by simp)
    have h2 := ih (fun x hx => h x (by simp [hx]))
    simp only [List.map_cons, List.sum_cons, List.length_cons]
    have h3 : (l.length + 1) * c = l.length * c + c := by rw [Nat.add_mul, Nat.one_mul]
    omega
theorem tot_PzL {M : List DRecPhase} (hl : M.length ≤ 14) (h : ∀ x ∈ M, PzL 2000 x) : totL M ≤ 1048576 := by
  have := tot_leR (l := M) (c := 80) (fun x hx => by
    obtain ⟨z1, z2, z3, z4, z5, _⟩ := h x hx
    rw [tot_DRecPhase]
    omega)
  have h2 : M.length * 80 ≤ 14 * 80 := Nat.mul_le_mul_right _ hl
  omega
theorem row_pc8 {S : Nat → Prop} {w : World} {r : List DRecPhase} {b off cap : Nat} {n : Nat} (h : AtL S w r (.slice (some ⟨b, off, none⟩) n cap)) : ∀ k (hk : k < r.length),
    w.cell? ⟨b, off + k * 8, none⟩ = some (.string r[k].1) ∧ w.cell? ⟨b, off + k * 8 + 1, none⟩ = some (.int .i64 r[k].2.1) ∧ w.cell? ⟨b, off + k * 8 + 2, none⟩ = some (.string r[k].2.2.1) ∧ w.cell? ⟨b, off + k * 8 + 3, none⟩ = some (.string r[k].2.2.2.1)
    ∧ w.cell? ⟨b, off + k * 8 + 4, none⟩ = some (.int .i64 r[k].2.2.2.2.1) ∧ w.cell? ⟨b, off + k * 8 + 5, none⟩ = some (.int .i64 r[k].2.2.2.2.2.1) ∧ w.cell? ⟨b, off + k * 8 + 6, none⟩ = some (.string r[k].2.2.2.2.2.2.1) ∧ w.cell? ⟨b, off + k * 8 + 7, none⟩ = some (.string r[k].2.2.2.2.2.2.2) := by
  intro k hk
  obtain ⟨oa, cap', ev, hn, hc⟩ := h
  obtain ⟨b', off', hoo, _, cc, hcell, hat⟩ := hc k hk
  obtain ⟨ho1, _, _⟩ : some (⟨b, off, none⟩ : Addr) = oa ∧ n = r.length ∧ cap = cap' := by simpa using ev
  rw [← ho1] at hoo
  cases hoo
  rw [width_DRecPhase] at hcell
  rw [at_DRecPhase] at hat
  obtain ⟨⟨q0, _⟩, ⟨q1, _⟩, ⟨q2, _⟩, ⟨q3, _⟩, ⟨q4, _⟩, ⟨q5, _⟩, ⟨q6, _⟩, ⟨q7, _⟩⟩ := hat
  refine ⟨?_, ?_, ?_, ?_, ?_, ?_, ?_, ?_⟩
  · have := hcell 0 (by omega); rw [q0] at this; exact this
  · have := hcell 1 (by omega); rw [q1] at this; exact this
  · have := hcell 2 (by omega); rw [q2] at this; exact this
  · have := hcell 3 (by omega); rw [q3] at this; exact this
  · have := hcell 4 (by omega); rw [q4] at this; exact this
  · have := hcell 5 (by omega); rw [q5] at this; exact this
  · have := hcell 6 (by omega); rw [q6] at this; exact this
  · have := hcell 7 (by omega); rw [q7] at this; exact this

/-- How many ticks a phase that is ok takes, and whether it went well. -/
theorem goT_law {p : DRecPhase} (hp : phaseB p = true) (t : Int) (well : Bool) : (0 ≤ (goT p t well).1 ∧ (goT p t well).1 ≤ p.2.2.2.2.2.1) ∧ (p.2.2.2.2.2.1 < t → (goT p t well).2 = false) ∧ (well = false → (goT p t well).2 = false) ∧ (p.2.1 = 3 → well = true → t ≤ p.2.2.2.2.2.1 → (goT p t well).2 = true ∧ p.2.2.2.2.1 ≤ (goT p t well).1) := by
  have hin := (ph_name hp).2.2.1
  have hN : p.2.1 = 3 → 1 ≤ p.2.2.2.2.1 ∧ p.2.2.2.2.1 ≤ p.2.2.2.2.2.1 := by
    intro h3
    simp only [phaseB, Bool.and_eq_true] at hp
    have ha := hp.1.1.2
    unfold argsB at ha
    rw [if_neg (by omega), if_neg (by omega), if_pos h3] at ha
    simp only [Bool.and_eq_true, inB, decide_eq_true_eq] at ha
    exact ha.2
  unfold goT
  simp only
  refine ⟨?_, ?_, ?_, ?_⟩
  · repeat' split
    all_goals first | omega | (simp only; omega)
  · intro h
    repeat' split
    all_goals first | rfl | (exfalso; omega) | simp_all
    all_goals omega
  · intro h
    repeat' split
    all_goals first | rfl | exact h
  · intro h3 hw ht
    have hb := hN h3
    by_cases hlt : t < p.2.2.2.2.1
    · have e : (if p.2.1 = 3 ∧ well = true ∧ t < p.2.2.2.2.1 then p.2.2.2.2.1 else t) = p.2.2.2.2.1 := if_pos ⟨h3, hw, hlt⟩
      have e2 : ¬ (p.2.2.2.2.2.1 < p.2.2.2.2.1) := by omega
      rw [e, if_neg e2]
      exact ⟨hw, by simp only; split <;> omega⟩
    · have e : (if p.2.1 = 3 ∧ well = true ∧ t < p.2.2.2.2.1 then p.2.2.2.2.1 else t) = t := if_neg (fun h => hlt h.2.2)
      have e2 : ¬ (p.2.2.2.2.2.1 < t) := by omega
      rw [e, if_neg e2]
      exact ⟨hw, by simp only; split <;> omega⟩

set_option maxRecDepth 100000 in
set_option maxHeartbeats 80000000 in
theorem lawQ_any (PG : ∀ (S : Nat → Prop) (r : List DRecPhase) (v : Value) (x : ByteArray) (now lf t : Int) (well : Bool) (w : World), AtL S w r v → (∀ b, S b → b < w.heap.size) → totL r ≤ 1048576 → x.size ≤ 1048576 → OkN t → OkN now → OkN lf → Calls Try.prog 5 #[v, .agg #[.string x, .int .i64 now, .int .i64 lf], .agg #[.int .i64 t, .bool well]] w fun e w' => e = .returned (.tuple #[.agg #[.string (goS r x now lf t well).1.1, .int .i64 (goS r x now lf t well).1.2.1, .int .i64 (goS r x now lf t well).1.2.2], .bool (goS r x now lf t well).2]) ∧ Below w.heap.size w w') (ob : Option Addr) (n cb : Nat) (f : Nat → Int) (w : World) (hn : n ≤ maxLen) (hnc : n ≤ cb) (fb : ∀ i, 0 ≤ f i ∧ f i ≤ 255)
    (ce : ∀ i, i < n → ∃ b off, ob = some ⟨b, off, none⟩ ∧ b < w.heap.size ∧ w.cell? ⟨b, off + i, none⟩ = some (.int .u8 (f i))) :
    Calls Try.prog 3 #[.slice ob n cb] w fun e w' => e = .returned (.bool true) ∧ Below w.heap.size w w' := by
  have hn' := hn
  unfold maxLen at hn'
  by_cases hbig : (1048576 : Int) < (n : Int)
  · go_enter Try.func3, Try.ntmps3
    go_wp2_with fail
    go_ret
    exact ⟨rfl, Below.refl _ _⟩
  have CD : Hid _ := drawG_any ob n cb f w hn hnc fb ce
  clear fb ce hn hnc
  go_enter Try.func3, Try.ntmps3
  go_wp2_with fail
  refine Calls.mono CD.out ?_
  rintro e w1 ⟨v, M, x, now, lf, t, b, rfl, hm, hz, okn, okl, oksz, okt, RW, B1⟩
  obtain ⟨oo, ko, hf⟩ := Row.form RW.out
  subst hf
  have HT : Hid (totL M ≤ 1048576) := tot_PzL hm hz
  have AT : Hid (∀ u, Below w1.heap.size w1 u → AtL (fun b => w.heap.size ≤ b ∧ b < w1.heap.size) u M (.slice oo M.length ko)) := fun u hu => (flatR.row_at RW.out (fun q hq => World.ownsRow.lt RW.out q hq) (fun x hx => (hz x hx).ok (by omega))).same (Same.of_below hu (fun b hb => hb.2))
  have HS : Hid (∀ u, Below w1.heap.size w1 u → ∀ b, (w.heap.size ≤ b ∧ b < w1.heap.size) → b < u.heap.size) := fun u hu b hb => Nat.lt_of_lt_of_le hb.2 hu.size
  have BQ : Hid (∀ u, Below w1.heap.size w1 u → Below w.heap.size w u) := fun u hu => B1.out.trans (hu.mono B1.out.size)
  obtain ⟨nl, hnl⟩ : ∃ nl, M.length = nl := ⟨_, rfl⟩
  have HLK : Hid (M.length = nl) := hnl
  rw [hnl] at AT hm
  rw [hnl]
  clear hnl hz RW CD B1
  have CI : Hid (∀ u, Below w1.heap.size w1 u → _) := fun u hu => PG _ M _ x now lf t b u (AT.out _ hu) (HS.out _ hu) HT.out oksz okt okn okl
  have CX : Hid (∀ u, Below w1.heap.size w1 u → _) := fun u hu => recGoX_any _ M _ x now lf t b u (AT.out _ hu) (HS.out _ hu) okt
  obtain ⟨gs, hgs⟩ : ∃ s, goS M x now lf t b = s := ⟨_, rfl⟩
  have EG : Hid (goS M x now lf t b = gs) := hgs
  rw [hgs] at CI CX
  clear hgs
  obtain ⟨⟨x', now', lf'⟩, okb⟩ := gs
  simp only at CI CX
  obtain ⟨W2, hW2⟩ : ∃ W2, W2 = (w1.alloc (.cells #[.string x, .int .i64 now, .int .i64 lf] 25)).alloc (.cells #[.int .i64 t, .bool b] 27) := ⟨_, rfl⟩
  have E2 : Hid (W2 = (w1.alloc (.cells #[.string x, .int .i64 now, .int .i64 lf] 25)).alloc (.cells #[.int .i64 t, .bool b] 27)) := hW2
  have B2 : Hid (Below w1.heap.size w1 W2) := by rw [hW2]; exact ((Below.refl _ _).alloc (Nat.le_refl _) _).alloc (by simp) _
  have s2 : W2.heap.size = w1.heap.size + 2 := by rw [hW2]; simp
  have KS : Hid (∀ u, Below W2.heap.size W2 u → u.heap[w1.heap.size]? = some (.cells #[.string x, .int .i64 now, .int .i64 lf] 25 (0, 0))) := fun u hu => (hu.block _ (by omega)).trans (by rw [hW2]; exact alloc_upD _ (heap_alloc_new w1 _))
  have KY : Hid (∀ u, Below W2.heap.size W2 u → u.heap[w1.heap.size + 1]? = some (.cells #[.int .i64 t, .bool b] 27 (0, 0))) := fun u hu => (hu.block _ (by omega)).trans (by rw [hW2]; exact alloc_atD _ (by simp))
  clear hW2
  have BB2 : Hid (∀ u, Below W2.heap.size W2 u → Below w1.heap.size w1 u) := fun u hu => B2.out.trans (hu.mono B2.out.size)
  have B22 : Hid (Below W2.heap.size W2 W2) := Below.refl _ _
  have k40 := (cell_row (KS.out W2 B22.out) 0 (.string x) rfl).1
  have k41 := (cell_row (KS.out W2 B22.out) 1 (.int .i64 now) rfl).1
  have k42 := (cell_row (KS.out W2 B22.out) 2 (.int .i64 lf) rfl).1
  have k50 := (cell_row (KY.out W2 B22.out) 0 (.int .i64 t) rfl).1
  have k51 := (cell_row (KY.out W2 B22.out) 1 (.bool b) rfl).1
  have C : Hid _ := CI.out W2 B2.out
  go_upto_region 4 with fail
  rw [← E2.out]
  clear E2
  go_wp2_with fail
  refine Calls.mono C.out ?_; rintro e w3 ⟨rfl, hb⟩
  have B3 : Hid (Below W2.heap.size W2 w3) := hb
  have s3 := hb.size
  clear C CI hb k40 k41 k42 k50 k51
  obtain ⟨W4, hW4⟩ : ∃ W4, W4 = w3.alloc (.cells #[.string x', .int .i64 now', .int .i64 lf'] 25) := ⟨_, rfl⟩
  have E4 : Hid (W4 = w3.alloc (.cells #[.string x', .int .i64 now', .int .i64 lf'] 25)) := hW4
  have B4 : Hid (Below W2.heap.size W2 W4) := by rw [hW4]; exact B3.out.alloc s3 _
  have s4 : W4.heap.size = w3.heap.size + 1 := by rw [hW4]; simp
  have K6 : Hid (∀ u, Below W4.heap.size W4 u → u.heap[w3.heap.size]? = some (.cells #[.string x', .int .i64 now', .int .i64 lf'] 25 (0, 0))) := fun u hu => (hu.block _ (by omega)).trans (by rw [hW4]; exact heap_alloc_new w3 _)
  clear hW4
  have C : Hid _ := CX.out W4 (BB2.out _ B4.out)
  have k40 := (cell_row (KS.out W4 B4.out) 0 (.string x) rfl).1
  have k41 := (cell_row (KS.out W4 B4.out) 1 (.int .i64 now) rfl).1
  have k42 := (cell_row (KS.out W4 B4.out) 2 (.int .i64 lf) rfl).1
  have k50 := (cell_row (KY.out W4 B4.out) 0 (.int .i64 t) rfl).1
  have k51 := (cell_row (KY.out W4 B4.out) 1 (.bool b) rfl).1
  go_upto_region 5 with fail
  rw [← E4.out]
  clear E4
  go_wp2_with fail
  refine Calls.mono C.out ?_; rintro e w5 ⟨rfl, hb⟩
  have B45 : Hid (Below W4.heap.size W4 w5) := hb
  have s5 := hb.size
  clear C CX hb k40 k41 k42 k50 k51
  obtain ⟨W6, hW6⟩ : ∃ W6, W6 = w5.alloc (.cells #[.string x', .int .i64 now', .int .i64 lf'] 25) := ⟨_, rfl⟩
  have E6 : Hid (W6 = w5.alloc (.cells #[.string x', .int .i64 now', .int .i64 lf'] 25)) := hW6
  have B46 : Hid (Below W4.heap.size W4 W6) := by rw [hW6]; exact B45.out.alloc s5 _
  have K8 : Hid (W6.heap[w5.heap.size]? = some (.cells #[.string x', .int .i64 now', .int .i64 lf'] 25 (0, 0))) := by rw [hW6]; exact heap_alloc_new w5 _
  clear hW6
  have B6 : Hid (Below W2.heap.size W2 W6) := B4.out.trans (B46.out.mono B4.out.size)
  have a0 := (cell_row (K6.out W6 B46.out) 0 (.string x') rfl).1
  have a1 := (cell_row (K6.out W6 B46.out) 1 (.int .i64 now') rfl).1
  have a2 := (cell_row (K6.out W6 B46.out) 2 (.int .i64 lf') rfl).1
  have d0 := (cell_row K8.out 0 (.string x') rfl).1
  have d1 := (cell_row K8.out 1 (.int .i64 now') rfl).1
  have d2 := (cell_row K8.out 2 (.int .i64 lf') rfl).1
  have k40 := (cell_row (KS.out W6 B6.out) 0 (.string x) rfl).1
  have k41 := (cell_row (KS.out W6 B6.out) 1 (.int .i64 now) rfl).1
  have k42 := (cell_row (KS.out W6 B6.out) 2 (.int .i64 lf) rfl).1
  have k50 := (cell_row (KY.out W6 B6.out) 0 (.int .i64 t) rfl).1
  have k51 := (cell_row (KY.out W6 B6.out) 1 (.bool b) rfl).1
  have BF : Hid (Below w.heap.size w W6) := BQ.out _ (BB2.out _ B6.out)
  have eg := EG.out
  unfold goS at eg
  by_cases hc : recB M = true ∧ 0 ≤ atI M x ∧ inB now 0 12000 = true
  · rw [if_pos hc] at eg
    obtain ⟨hr, hat, hin⟩ := hc
    have HR : Hid (RecP M) := rec_iff.1 hr
    obtain ⟨kk, hkk, ekk⟩ : ∃ k : Nat, ∃ _ : k < M.length, atI M x = (k : Int) := by
      rcases at_cases M x with e | ⟨k, hk, e, _⟩
      · omega
      · exact ⟨k, hk, e⟩
    rw [ph_at hkk ekk] at eg
    simp only [Prod.mk.injEq] at eg
    obtain ⟨⟨ex, enow, elf⟩, rfl⟩ := eg
    have EX : Hid (x' = nxT M[kk] (goT M[kk] t b).2) := ex.symm
    have EN : Hid (now' = now + (goT M[kk] t b).1) := enow.symm
    have hnow : 0 ≤ now ∧ now ≤ 12000 := by simpa [inB] using hin
    have EKK : Hid (atI M x = (kk : Int)) := ekk
    have HKK : Hid (kk < M.length) := hkk
    clear ex enow elf hin hr hat
    obtain ⟨bb, off, rfl⟩ : ∃ b off, oo = some ⟨b, off, none⟩ := by
      obtain ⟨oa, cap, ev, hx⟩ := AT.out w1 (Below.refl _ _)
      obtain ⟨b, off, hoo, _⟩ := hx.2 0 (by have := HKK.out; omega)
      obtain ⟨ho1, _, _⟩ : oo = oa ∧ nl = M.length ∧ ko = cap := by simpa using ev
      exact ⟨b, off, ho1.trans hoo⟩
    have PC : Hid (∀ u, Below w1.heap.size w1 u → ∀ k (hk : k < M.length), _) := fun u hu => row_pc8 (AT.out u hu)
    have hnl12 : nl ≤ 14 := hm
    go_upto_region 6 with fail
    rw [← E6.out]
    clear E6
    go_wp2_with fail
    clear a0 a1 a2 d0 d1 d2 k40 k41 k42 k50 k51 K8
    go_loopw [10] (fun i wr => ∃ j : Nat, j ≤ nl ∧ i = .int .i64 j ∧ Hid (∀ m (hm : m < M.length), m < j → (fun p : DRecPhase => eqB p.1 x) M[m] = false) ∧ Hid (Below W4.heap.size W4 wr)) (fun i _ => nl - (intOf i).toNat)
    case atStart => exact ⟨0, by omega, rfl, fun _ _ h => by omega, B46⟩
    case round =>
      obtain ⟨j, hj, rfl, hno, BJ⟩ := hrel
      have BJ2 : Hid (Below W2.heap.size W2 wr) := B4.out.trans (BJ.out.mono B4.out.size)
      have zj := BJ2.out.size
      by_cases hlt : j < nl
      · have hjM : j < M.length := by have := HLK.out; omega
        obtain ⟨x0, x1, x2, x3, x4, x5, x6, x7⟩ := PC.out wr (BB2.out _ BJ2.out) j hjM
        have GL : Hid _ := goT_law (step_of HR.out hjM).1 t b
        have HIT : Hid (eqB M[j].1 x = true → x' = nxT M[j] (goT M[j] t b).2 ∧ now' = now + (goT M[j] t b).1) := fun h => by
          have e1 : atI M x = (j : Int) := idx_yes (p := fun p : DRecPhase => eqB p.1 x) hjM h hno.out
          have e2 : kk = j := by have := EKK.out; omega
          subst e2
          exact ⟨EX.out, EN.out⟩
        have HP : Hid (∀ c, ((M[j].1).toList == x.toList) = c → (fun p : DRecPhase => eqB p.1 x) M[j] = c) := fun c h => by simp [eqB, h]
        obtain ⟨fp, efp⟩ : ∃ f, M[j] = f := ⟨_, rfl⟩
        have EFP : Hid (M[j] = fp) := efp
        rw [efp] at x0 x1 x2 x3 x4 x5 x6 x7 GL HIT HP
        clear efp
        obtain ⟨nm, kd, a, b', n', wi, th, el⟩ := fp
        simp only at x0 x1 x2 x3 x4 x5 x6 x7 GL HIT HP
        have K0 : Hid (Below (wr.heap.size + 1) (wr.alloc (.cells #[.string nm, .int .i64 kd, .string a, .string b', .int .i64 n', .int .i64 wi, .string th, .string el] 33)) (wr.alloc (.cells #[.string nm, .int .i64 kd, .string a, .string b', .int .i64 n', .int .i64 wi, .string th, .string el] 33))) := Below.refl _ _
        have BA : Hid (Below W4.heap.size W4 (wr.alloc (.cells #[.string nm, .int .i64 kd, .string a, .string b', .int .i64 n', .int .i64 wi, .string th, .string el] 33))) := BJ.out.alloc BJ.out.size _
        have BA2 : Hid (Below W2.heap.size W2 (wr.alloc (.cells #[.string nm, .int .i64 kd, .string a, .string b', .int .i64 n', .int .i64 wi, .string th, .string el] 33))) := BJ2.out.alloc zj _
        have p0 := box_at _ _ K0.out 0 (.string nm) rfl
        have p1 := box_at _ _ K0.out 1 (.int .i64 kd) rfl
        have p2 := box_at _ _ K0.out 2 (.string a) rfl
        have p3 := box_at _ _ K0.out 3 (.string b') rfl
        have p4 := box_at _ _ K0.out 4 (.int .i64 n') rfl
        have p5 := box_at _ _ K0.out 5 (.int .i64 wi) rfl
        have p6 := box_at _ _ K0.out 6 (.string th) rfl
        have p7 := box_at _ _ K0.out 7 (.string el) rfl
        have k40 := (cell_row (KS.out _ BA2.out) 0 (.string x) rfl).1
        have k41 := (cell_row (KS.out _ BA2.out) 1 (.int .i64 now) rfl).1
        have k50 := (cell_row (KY.out _ BA2.out) 0 (.int .i64 t) rfl).1
        have k51 := (cell_row (KY.out _ BA2.out) 1 (.bool b) rfl).1
        have a0 := (cell_row (K6.out _ BA.out) 0 (.string x') rfl).1
        have a1 := (cell_row (K6.out _ BA.out) 1 (.int .i64 now') rfl).1
        have BFA : Hid (Below w.heap.size w (wr.alloc (.cells #[.string nm, .int .i64 kd, .string a, .string b', .int .i64 n', .int .i64 wi, .string th, .string el] 33))) := BQ.out _ (BB2.out _ BA2.out)
        cases c0 : (nm.toList == x.toList)
        · have hp := HP.out _ c0
          go_wp2_with fail
          go_roundw
          case rel => exact ⟨j + 1, by omega, by go_num, (fun m hm hml => by
            by_cases e : m = j
            · subst e; rw [EFP.out]; exact hp
            · exact hno.out m hm (by omega)), BA⟩
          case measure => simp [intOf]; omega
        · have hp := HP.out _ c0
          obtain ⟨hx', hn'⟩ := HIT.out hp
          obtain ⟨⟨g0, g1⟩, g2, g3, g4⟩ := GL.out
          clear GL HIT HP hp
          obtain ⟨gt, hgt⟩ : ∃ g, goT (nm, kd, a, b', n', wi, th, el) t b = g := ⟨_, rfl⟩
          rw [hgt] at hx' hn' g0 g1 g2 g3 g4
          clear hgt
          obtain ⟨tk, okp⟩ := gt
          simp only at hx' hn' g0 g1 g2 g3 g4
          subst hn'
          have hwi : wi ≤ 1000 := by
            have h := (ph_name (step_of HR.out hjM).1).2.2.1.2
            rw [EFP.out] at h
            exact h
          have wrs : IntKind.i64.wrap (now + tk - now) = tk := by rw [show now + tk - now = tk by omega]; exact wrap_s _ (by omega) (by omega)
          have l0 : decide (tk < 0) = false := by simp; omega
          have l1 : decide (wi < tk) = false := by simp; omega
          cases okp
          · have hx2 : x' = el := by rw [hx']; rfl
            subst hx2
            clear hx'
            cases c1 : (x'.toList == th.toList)
            · by_cases hwt : wi < t
              · have l2 : decide (wi < t) = true := by simpa using hwt
                have l3 : decide (t ≤ wi) = false := by simp; omega
                cases b
                · by_cases hk3 : kd = 3
                  · subst hk3
                    go_wp2_with fail
                    go_ret
                    exact ⟨by first | rfl | simp, BFA.out⟩
                  · have hk3' : (kd == 3) = false := by simpa using hk3
                    go_wp2_with fail
                    go_ret
                    exact ⟨by first | rfl | simp, BFA.out⟩
                · by_cases hk3 : kd = 3
                  · subst hk3
                    go_wp2_with fail
                    go_ret
                    exact ⟨by first | rfl | simp, BFA.out⟩
                  · have hk3' : (kd == 3) = false := by simpa using hk3
                    go_wp2_with fail
                    go_ret
                    exact ⟨by first | rfl | simp, BFA.out⟩
              · have l2 : decide (wi < t) = false := by simp; omega
                have l3 : decide (t ≤ wi) = true := by simp; omega
                cases b
                · by_cases hk3 : kd = 3
                  · subst hk3
                    go_wp2_with fail
                    go_ret
                    exact ⟨by first | rfl | simp, BFA.out⟩
                  · have hk3' : (kd == 3) = false := by simpa using hk3
                    go_wp2_with fail
                    go_ret
                    exact ⟨by first | rfl | simp, BFA.out⟩
                · by_cases hk3 : kd = 3
                  · subst hk3
                    exact absurd (g4 rfl rfl (by omega)).1 (by simp)
                  · have hk3' : (kd == 3) = false := by simpa using hk3
                    go_wp2_with fail
                    go_ret
                    exact ⟨by first | rfl | simp, BFA.out⟩
            · by_cases hwt : wi < t
              · have l2 : decide (wi < t) = true := by simpa using hwt
                have l3 : decide (t ≤ wi) = false := by simp; omega
                cases b
                · by_cases hk3 : kd = 3
                  · subst hk3
                    go_wp2_with fail
                    go_ret
                    exact ⟨by first | rfl | simp, BFA.out⟩
                  · have hk3' : (kd == 3) = false := by simpa using hk3
                    go_wp2_with fail
                    go_ret
                    exact ⟨by first | rfl | simp, BFA.out⟩
                · by_cases hk3 : kd = 3
                  · subst hk3
                    go_wp2_with fail
                    go_ret
                    exact ⟨by first | rfl | simp, BFA.out⟩
                  · have hk3' : (kd == 3) = false := by simpa using hk3
                    go_wp2_with fail
                    go_ret
                    exact ⟨by first | rfl | simp, BFA.out⟩
              · have l2 : decide (wi < t) = false := by simp; omega
                have l3 : decide (t ≤ wi) = true := by simp; omega
                cases b
                · by_cases hk3 : kd = 3
                  · subst hk3
                    go_wp2_with fail
                    go_ret
                    exact ⟨by first | rfl | simp, BFA.out⟩
                  · have hk3' : (kd == 3) = false := by simpa using hk3
                    go_wp2_with fail
                    go_ret
                    exact ⟨by first | rfl | simp, BFA.out⟩
                · by_cases hk3 : kd = 3
                  · subst hk3
                    exact absurd (g4 rfl rfl (by omega)).1 (by simp)
                  · have hk3' : (kd == 3) = false := by simpa using hk3
                    go_wp2_with fail
                    go_ret
                    exact ⟨by first | rfl | simp, BFA.out⟩
          · have hx2 : x' = th := by rw [hx']; rfl
            subst hx2
            clear hx'
            have hb1 : b = true := by cases b with | true => rfl | false => exact absurd (g3 rfl) (by simp)
            subst hb1
            have ht : t ≤ wi := by
              by_cases h : wi < t
              · exact absurd (g2 h) (by simp)
              · omega
            have l2 : decide (wi < t) = false := by simp; omega
            have l3 : decide (t ≤ wi) = true := by simp; omega
            by_cases hk3 : kd = 3
            · subst hk3
              have l4 : decide (n' ≤ tk) = true := by have := (g4 rfl rfl ht).2; simpa using this
              go_wp2_with fail
              go_ret
              exact ⟨by first | rfl | simp, BFA.out⟩
            · have hk3' : (kd == 3) = false := by simpa using hk3
              go_wp2_with fail
              go_ret
              exact ⟨by first | rfl | simp, BFA.out⟩
      · exfalso
        have hn1 : atI M x = -1 := idx_no (p := fun p : DRecPhase => eqB p.1 x) (fun m hm => hno.out m hm (by have := HLK.out; omega))
        have := EKK.out
        omega
  · rw [if_neg hc] at eg
    simp only [Prod.mk.injEq] at eg
    obtain ⟨⟨rfl, rfl, rfl⟩, rfl⟩ := eg
    go_upto_region 6 with fail
    rw [← E6.out]
    clear E6
    go_wp2_with fail
    go_ret
    exact ⟨by simp, BF.out⟩

end Go.Proofs.Ytkongeofapbblab
