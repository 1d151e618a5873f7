/-
  Several texts in one.
-/
import Derived.Test.YtaejlcanccfmmaaGreatDoorM19
import Derived.Test.YtaejlcanccfmmaaGreatDoorZre
import Derived.Test.YtaejlcanccfmmaaGreatDoorZrl
import Derived.Test.YtaejlcanccfmmaaGreatDoorZrx
import Derived.Test.YtaejlcanccfmmaaGreatDoorZrw
import Derived.Test.YtaejlcanccfmmaaGreatDoorM13
namespace Go.Proofs.YtaejlcanccfmmaaGreatDoor
open Go.RowKit Go.Sort
noncomputable def stpD (kd : Int) (D : DShareBook) (x : ByteArray) (nd : List ByteArray) : DShareBook := if kd = 1 then (entS D x nd).1 else if kd = 2 then (askS D x nd).1 else if kd = 3 then (lesS D x nd).1 else (levS D x).1
theorem SzL.of_subB {c : Nat} {T l : List ByteArray} (hT : SzL c T) (h : subB T l = true) : SzL c l := by
  have hl := sub_lenM h
  rw [subB, ok_iff] at h
  refine ⟨Nat.le_trans hl hT.1, fun x hx => ?_⟩
  obtain ⟨i, hi, rfl⟩ := List.getElem_of_mem hx
  have := h.2 i hi
  rw [tst, Bool.and_eq_true] at this
  exact hT.2 _ (hasB_memM _ _ this.1)
theorem SzD.nil (c : Nat) : SzD c (([], []) : DShareBook) := ⟨SzL.nil c, Nat.zero_le _, fun f hf => by cases hf⟩
theorem SzD.set {c : Nat} {D : DShareBook} (h : SzD c D) (k : Nat) {f : DShareBatch} (hf : SzB c f) : SzD c (D.1, D.2.set k f) := ⟨h.1, by show (D.2.set k f).length ≤ c; rw [List.length_set]; exact h.2.1, fun g hg => by
  rcases List.mem_or_eq_of_mem_set hg with hg | rfl
  · exact h.2.2 g hg
  · exact hf⟩
theorem stp_sz {kd : Int} {D : DShareBook} {x : ByteArray} {nd : List ByteArray} (h : SzD 16 D) : SzD 16 (stpD kd D x nd) := by
  unfold stpD
  by_cases hok : bokB D = true
  case neg =>
    have e1 : (entS D x nd).1 = ([], []) := by unfold entS; rw [if_neg hok]
    have e2 : (askS D x nd).1 = ([], []) := by unfold askS; rw [if_neg hok]
    have e3 : (lesS D x nd).1 = ([], []) := by unfold lesS; rw [if_neg hok]
    have e4 : (levS D x).1 = ([], []) := by unfold levS; rw [if_neg hok]
    rw [e1, e2, e3, e4]
    repeat' split
    all_goals exact SzD.nil 16
  have hP := bok_iff.1 hok
  have hs := bok_small hP
  split
  · unfold entS
    rw [if_pos hok]
    split
    · rename_i hn
      split
      · exact h
      · split
        · exact h
        · refine ⟨h.1, ?_, fun f hf => ?_⟩
          · show (D.2.take (posB D.2 x) ++ [(x, [], nd)] ++ D.2.drop (posB D.2 x)).length ≤ 16
            simp only [List.length_append, List.length_take, List.length_drop, List.length_cons, List.length_nil]; omega
          · have hf' : f ∈ D.2.take (posB D.2 x) ++ [(x, [], nd)] ++ D.2.drop (posB D.2 x) := hf
            rcases List.mem_append.1 hf' with hf | hf
            · rcases List.mem_append.1 hf with hf | hf
              · exact h.2.2 f (List.mem_of_mem_take hf)
              · rw [List.mem_singleton.1 hf]
                exact ⟨by have := name_smallM hn.1; show x.size ≤ 16; omega, SzL.nil 16, h.1.of_subB hn.2⟩
            · exact h.2.2 f (List.mem_of_mem_drop hf)
    · exact h
  · split
    · unfold askS
      rw [if_pos hok]
      split
      · exact h
      · rename_i hn
        split
        · rename_i hsb
          split
          · exact h
          · split
            · exact h
            · obtain ⟨q, eq, hq⟩ := at_lt hn
              rw [eq, Int.toNat_natCast] at hsb ⊢
              rw [btN_at hq] at hsb ⊢
              have h8 := bok_eight hP hq
              have hsub := sub_lenM hsb
              have hf := h.2.2 _ (List.getElem_mem hq)
              have hth := hf.2.2.of_subB hsb
              refine h.set q ⟨hf.1, ⟨?_, fun y hy => ?_⟩, hf.2.2⟩
              · have := insF_len nd D.2[q].2.1
                show (insF D.2[q].2.1 nd).length ≤ 16
                omega
              · rcases insF_mem hy with h1 | h1
                · exact hf.2.1.2 y h1
                · exact hth.2 y h1
        · exact h
    · split
      · unfold lesS
        rw [if_pos hok]
        split
        · exact h
        · rename_i hn
          split
          · rename_i hsb
            obtain ⟨q, eq, hq⟩ := at_lt hn
            rw [eq, Int.toNat_natCast] at hsb ⊢
            rw [btN_at hq] at hsb ⊢
            have hf := h.2.2 _ (List.getElem_mem hq)
            refine h.set q ⟨hf.1, ⟨Nat.le_trans (List.length_filter_le _ _) hf.2.1.1, fun y hy => hf.2.1.2 y (List.mem_filter.1 hy).1⟩, hf.2.2.of_subB hsb⟩
          · exact h
      · unfold levS
        rw [if_pos hok]
        split
        · exact h
        · refine ⟨h.1, ?_, fun f hf => ?_⟩
          · have := h.2.1
            show (D.2.take _ ++ D.2.drop _).length ≤ 16
            simp only [List.length_append, List.length_take, List.length_drop]; omega
          · have hf' : f ∈ D.2.take (atZI D.2 x).toNat ++ D.2.drop ((atZI D.2 x).toNat + 1) := hf
            rcases List.mem_append.1 hf' with hf | hf
            · exact h.2.2 f (List.mem_of_mem_take hf)
            · exact h.2.2 f (List.mem_of_mem_drop hf)
theorem box2D {W : World} {g : Nat} {x0 x1 a b : Value} (h : W.heap[g]? = some (.cells #[x0, x1] 26 (0, 0))) : ((W.setCell ⟨g, 0, none⟩ a).setCell ⟨g, 1, none⟩ b).heap[g]? = some (.cells #[a, b] 26 (0, 0)) ∧ (∀ q, q ≠ g → ((W.setCell ⟨g, 0, none⟩ a).setCell ⟨g, 1, none⟩ b).heap[q]? = W.heap[q]?) ∧ Below g W ((W.setCell ⟨g, 0, none⟩ a).setCell ⟨g, 1, none⟩ b) :=
  ⟨by rw [set_row (set_row h 0 a) 1 b]; rfl, fun q hq => (Below.heap_setCell _ _ _ _ hq).trans (Below.heap_setCell _ _ _ _ hq), ((Below.refl _ _).setCell (p := ⟨g, 0, none⟩) (Nat.le_refl _) a).setCell (p := ⟨g, 1, none⟩) (Nat.le_refl _) b⟩
set_option maxRecDepth 100000 in
set_option maxHeartbeats 16000000 in
theorem step_rd (S SN : Nat → Prop) (T : List ByteArray) (Bs : List DShareBatch) (o0 oa : Option Addr) (n0 k0 nb kb : Nat) (kd : Int) (x : ByteArray) (nd : List ByteArray) (on : Option Addr) (nn kn : Nat) (w : World) (h0 : AtL S w T (.slice o0 n0 k0)) (h1 : AtL S w Bs (.slice oa nb kb)) (hS : ∀ b, S b → b < w.heap.size) (hN : AtL SN w nd (.slice on nn kn)) (hSN : ∀ b, SN b → b < w.heap.size) (hx : x.size ≤ maxLen) :
    Calls Tryz.prog 63 #[.agg #[.slice o0 n0 k0, .slice oa nb kb], .agg #[.int .i64 kd, .string x, .slice on nn kn]] w fun e w' => ∃ (p0 p1 : Option Addr) (m0 j0 m1 j1 : Nat), e = .returned (.agg #[.slice p0 m0 j0, .slice p1 m1 j1]) ∧ Hid (AtL (fun b => w.heap.size ≤ b ∧ b < w'.heap.size) w' (stpD kd (T, Bs) x nd).1 (.slice p0 m0 j0)) ∧ Hid (AtL (fun b => w.heap.size ≤ b ∧ b < w'.heap.size) w' (stpD kd (T, Bs) x nd).2 (.slice p1 m1 j1)) ∧ Hid (Below w.heap.size w w') := by
  obtain ⟨W, hW⟩ : ∃ W, W = ((w.alloc (.cells #[.slice o0 n0 k0, .slice oa nb kb] 26)).alloc (.cells #[.int .i64 kd, .string x, .slice on nn kn] 59)).alloc (.cells #[.slice none 0 0, .slice none 0 0] 26) := ⟨_, rfl⟩
  have EW : Hid (W = ((w.alloc (.cells #[.slice o0 n0 k0, .slice oa nb kb] 26)).alloc (.cells #[.int .i64 kd, .string x, .slice on nn kn] 59)).alloc (.cells #[.slice none 0 0, .slice none 0 0] 26)) := hW
  have BW : Hid (Below w.heap.size w W) := by rw [hW]; exact (((Below.refl _ _).alloc (Nat.le_refl _) _).alloc (by simp) _).alloc (by simp; omega) _
  have R1 : Hid (W.heap[w.heap.size]? = some (.cells #[.slice o0 n0 k0, .slice oa nb kb] 26 (0, 0))) := by rw [hW]; exact (Below.heap_alloc _ _ _ (by simp; omega)).trans ((Below.heap_alloc _ _ _ (by simp)).trans (heap_alloc_new w _))
  have R2 : Hid (W.heap[w.heap.size + 1]? = some (.cells #[.int .i64 kd, .string x, .slice on nn kn] 59 (0, 0))) := by
    rw [hW]; exact (Below.heap_alloc _ _ _ (by simp)).trans (alloc_atR _ (by simp))
  have R3 : Hid (W.heap[w.heap.size + 1 + 1]? = some (.cells #[.slice none 0 0, .slice none 0 0] 26 (0, 0))) := by
    rw [hW]; exact alloc_atR _ (by simp)
  have sW : w.heap.size + 3 ≤ W.heap.size := by rw [hW]; simp
  have hSW : ∀ b, S b → b < W.heap.size := fun b hb => Nat.lt_of_lt_of_le (hS b hb) BW.out.size
  have hSNW : ∀ b, SN b → b < W.heap.size := fun b hb => Nat.lt_of_lt_of_le (hSN b hb) BW.out.size
  have g0 := h0.same (Same.of_below BW.out hS)
  have g1 := h1.same (Same.of_below BW.out hS)
  have gN := hN.same (Same.of_below BW.out hSN)
  obtain ⟨DD, eDD⟩ : ∃ D, stpD kd (T, Bs) x nd = D := ⟨_, rfl⟩
  rw [eDD]
  clear hW
  by_cases hk1 : kd = 1
  · subst hk1
    have CC : Hid (Calls Tryz.prog 13 #[.agg #[.slice o0 n0 k0, .slice oa nb kb], .string x, .slice on nn kn] W fun e w' => ∃ r0 r1 cd, e = .returned (.tuple #[.agg #[r0, r1], .int .i64 cd]) ∧ AtL (fun b => W.heap.size ≤ b ∧ b < w'.heap.size) w' DD.1 r0 ∧ AtL (fun b => W.heap.size ≤ b ∧ b < w'.heap.size) w' DD.2 r1 ∧ Below W.heap.size W w') := by
      have e : (entS (T, Bs) x nd).1 = DD := by rw [← eDD]; unfold stpD; rw [if_pos rfl]
      refine (entZ_any S T Bs o0 oa n0 k0 nb kb x SN nd on nn kn W g0 g1 hSW hx gN hSNW).mono ?_
      rintro e1 w' ⟨r0, r1, he, q0, q1, hb⟩
      rw [e] at q0 q1
      exact ⟨r0, r1, _, he, q0, q1, hb⟩
    clear h0 h1 hN g0 g1 gN eDD
    obtain ⟨c0, _⟩ := cell_row R1.out 0 (.slice o0 n0 k0) rfl
    obtain ⟨c1, _⟩ := cell_row R1.out 1 (.slice oa nb kb) rfl
    obtain ⟨c2, _⟩ := cell_row R2.out 0 (.int .i64 1) rfl
    obtain ⟨c3, _⟩ := cell_row R2.out 1 (.string x) rfl
    obtain ⟨c4, _⟩ := cell_row R2.out 2 (.slice on nn kn) rfl
    go_enter Tryz.func63, Tryz.ntmps63
    go_upto_region 1 with fail
    rw [← EW.out]
    go_wp2_with fail
    refine Calls.mono CC.out ?_
    rintro e w1 ⟨r0, r1, cd, rfl, ha0, ha1, hb1⟩
    obtain ⟨p0, j0, e0, -⟩ := id ha0
    obtain ⟨p1, j1, e1, -⟩ := id ha1
    obtain ⟨m0, em0⟩ : ∃ n, DD.1.length = n := ⟨_, rfl⟩
    obtain ⟨m1, em1⟩ : ∃ n, DD.2.length = n := ⟨_, rfl⟩
    rw [em0] at e0
    rw [em1] at e1
    subst e0
    subst e1
    have A0 : Hid (AtL (fun b => W.heap.size ≤ b ∧ b < w1.heap.size) w1 DD.1 (.slice p0 m0 j0)) := ha0
    have A1 : Hid (AtL (fun b => W.heap.size ≤ b ∧ b < w1.heap.size) w1 DD.2 (.slice p1 m1 j1)) := ha1
    have B1 : Hid (Below W.heap.size W w1) := hb1
    have s1 := hb1.size
    have Y1 : Hid (w1.heap[w.heap.size]? = some (.cells #[.slice o0 n0 k0, .slice oa nb kb] 26 (0, 0))) := (hb1.block _ (by omega)).trans R1.out
    have Y3 : Hid (w1.heap[w.heap.size + 1 + 1]? = some (.cells #[.slice none 0 0, .slice none 0 0] 26 (0, 0))) := (hb1.block _ (by omega)).trans R3.out
    clear ha0 ha1 hb1 em0 em1 CC c0 c1 c2 c3 c4
    obtain ⟨z0, f0⟩ := cell_row Y1.out 0 (.slice o0 n0 k0) rfl
    obtain ⟨z1, f1⟩ := cell_row Y1.out 1 (.slice oa nb kb) rfl
    have P1 : Hid _ := box2D (a := .slice p0 m0 j0) (b := .slice p1 m1 j1) Y1.out
    go_upto_region 9 with fail
    generalize ((w1.setCell ⟨w.heap.size, 0, none⟩ (.slice p0 m0 j0)).setCell ⟨w.heap.size, 1, none⟩ (.slice p1 m1 j1)) = w2 at P1 ⊢
    have s2 := P1.out.2.2.size
    clear z0 f0 z1 f1
    have d0 := (cell_row P1.out.1 0 (.slice p0 m0 j0) rfl).1
    have d1 := (cell_row P1.out.1 1 (.slice p1 m1 j1) rfl).1
    have Z3 : Hid (w2.heap[w.heap.size + 1 + 1]? = some (.cells #[.slice none 0 0, .slice none 0 0] 26 (0, 0))) := (P1.out.2.1 _ (by omega)).trans Y3.out
    obtain ⟨z0, f0⟩ := cell_row Z3.out 0 (.slice none 0 0) rfl
    obtain ⟨z1, f1⟩ := cell_row Z3.out 1 (.slice none 0 0) rfl
    have P3 : Hid _ := box2D (a := .slice p0 m0 j0) (b := .slice p1 m1 j1) Z3.out
    go_wp2_with fail
    generalize ((w2.setCell ⟨w.heap.size + 1 + 1, 0, none⟩ (.slice p0 m0 j0)).setCell ⟨w.heap.size + 1 + 1, 1, none⟩ (.slice p1 m1 j1)) = F at P3 ⊢
    have g0 := (cell_row P3.out.1 0 (.slice p0 m0 j0) rfl).1
    have g1 := (cell_row P3.out.1 1 (.slice p1 m1 j1) rfl).1
    have s3 := P3.out.2.2.size
    have SM : Same (fun b => W.heap.size ≤ b ∧ b < w1.heap.size) w1 F := fun b hb => (P3.out.2.1 b (by omega)).trans (P1.out.2.1 b (by omega))
    have BF : Below w.heap.size w F := ((BW.out.trans (B1.out.mono BW.out.size)).trans P1.out.2.2).trans (P3.out.2.2.mono (by omega))
    exact bodyPost_ret (v := .agg #[.slice p0 m0 j0, .slice p1 m1 j1]) (by simp [results, Tryz.results63, go_sem, g0, g1]) rfl ⟨p0, p1, m0, j0, m1, j1, rfl, (A0.out.same SM).up (fun b hb => ⟨by omega, by omega⟩), (A1.out.same SM).up (fun b hb => ⟨by omega, by omega⟩), BF⟩
  by_cases hk2 : kd = 2
  · subst hk2
    have CC : Hid (Calls Tryz.prog 85 #[.agg #[.slice o0 n0 k0, .slice oa nb kb], .string x, .slice on nn kn] W fun e w' => ∃ r0 r1 cd, e = .returned (.tuple #[.agg #[r0, r1], .int .i64 cd]) ∧ AtL (fun b => W.heap.size ≤ b ∧ b < w'.heap.size) w' DD.1 r0 ∧ AtL (fun b => W.heap.size ≤ b ∧ b < w'.heap.size) w' DD.2 r1 ∧ Below W.heap.size W w') := by
      have e : (askS (T, Bs) x nd).1 = DD := by rw [← eDD]; unfold stpD; rw [if_neg (by decide), if_pos rfl]
      refine (askZ_any S T Bs o0 oa n0 k0 nb kb x SN nd on nn kn W g0 g1 hSW gN hSNW).mono ?_
      rintro e1 w' ⟨r0, r1, he, q0, q1, hb⟩
      rw [e] at q0 q1
      exact ⟨r0, r1, _, he, q0, q1, hb⟩
    clear h0 h1 hN g0 g1 gN eDD
    obtain ⟨c0, _⟩ := cell_row R1.out 0 (.slice o0 n0 k0) rfl
    obtain ⟨c1, _⟩ := cell_row R1.out 1 (.slice oa nb kb) rfl
    obtain ⟨c2, _⟩ := cell_row R2.out 0 (.int .i64 2) rfl
    obtain ⟨c3, _⟩ := cell_row R2.out 1 (.string x) rfl
    obtain ⟨c4, _⟩ := cell_row R2.out 2 (.slice on nn kn) rfl
    go_enter Tryz.func63, Tryz.ntmps63
    go_upto_region 1 with fail
    rw [← EW.out]
    go_wp2_with fail
    refine Calls.mono CC.out ?_
    rintro e w1 ⟨r0, r1, cd, rfl, ha0, ha1, hb1⟩
    obtain ⟨p0, j0, e0, -⟩ := id ha0
    obtain ⟨p1, j1, e1, -⟩ := id ha1
    obtain ⟨m0, em0⟩ : ∃ n, DD.1.length = n := ⟨_, rfl⟩
    obtain ⟨m1, em1⟩ : ∃ n, DD.2.length = n := ⟨_, rfl⟩
    rw [em0] at e0
    rw [em1] at e1
    subst e0
    subst e1
    have A0 : Hid (AtL (fun b => W.heap.size ≤ b ∧ b < w1.heap.size) w1 DD.1 (.slice p0 m0 j0)) := ha0
    have A1 : Hid (AtL (fun b => W.heap.size ≤ b ∧ b < w1.heap.size) w1 DD.2 (.slice p1 m1 j1)) := ha1
    have B1 : Hid (Below W.heap.size W w1) := hb1
    have s1 := hb1.size
    have Y1 : Hid (w1.heap[w.heap.size]? = some (.cells #[.slice o0 n0 k0, .slice oa nb kb] 26 (0, 0))) := (hb1.block _ (by omega)).trans R1.out
    have Y3 : Hid (w1.heap[w.heap.size + 1 + 1]? = some (.cells #[.slice none 0 0, .slice none 0 0] 26 (0, 0))) := (hb1.block _ (by omega)).trans R3.out
    clear ha0 ha1 hb1 em0 em1 CC c0 c1 c2 c3 c4
    obtain ⟨z0, f0⟩ := cell_row Y1.out 0 (.slice o0 n0 k0) rfl
    obtain ⟨z1, f1⟩ := cell_row Y1.out 1 (.slice oa nb kb) rfl
    have P1 : Hid _ := box2D (a := .slice p0 m0 j0) (b := .slice p1 m1 j1) Y1.out
    go_upto_region 9 with fail
    generalize ((w1.setCell ⟨w.heap.size, 0, none⟩ (.slice p0 m0 j0)).setCell ⟨w.heap.size, 1, none⟩ (.slice p1 m1 j1)) = w2 at P1 ⊢
    have s2 := P1.out.2.2.size
    clear z0 f0 z1 f1
    have d0 := (cell_row P1.out.1 0 (.slice p0 m0 j0) rfl).1
    have d1 := (cell_row P1.out.1 1 (.slice p1 m1 j1) rfl).1
    have Z3 : Hid (w2.heap[w.heap.size + 1 + 1]? = some (.cells #[.slice none 0 0, .slice none 0 0] 26 (0, 0))) := (P1.out.2.1 _ (by omega)).trans Y3.out
    obtain ⟨z0, f0⟩ := cell_row Z3.out 0 (.slice none 0 0) rfl
    obtain ⟨z1, f1⟩ := cell_row Z3.out 1 (.slice none 0 0) rfl
    have P3 : Hid _ := box2D (a := .slice p0 m0 j0) (b := .slice p1 m1 j1) Z3.out
    go_wp2_with fail
    generalize ((w2.setCell ⟨w.heap.size + 1 + 1, 0, none⟩ (.slice p0 m0 j0)).setCell ⟨w.heap.size + 1 + 1, 1, none⟩ (.slice p1 m1 j1)) = F at P3 ⊢
    have g0 := (cell_row P3.out.1 0 (.slice p0 m0 j0) rfl).1
    have g1 := (cell_row P3.out.1 1 (.slice p1 m1 j1) rfl).1
    have s3 := P3.out.2.2.size
    have SM : Same (fun b => W.heap.size ≤ b ∧ b < w1.heap.size) w1 F := fun b hb => (P3.out.2.1 b (by omega)).trans (P1.out.2.1 b (by omega))
    have BF : Below w.heap.size w F := ((BW.out.trans (B1.out.mono BW.out.size)).trans P1.out.2.2).trans (P3.out.2.2.mono (by omega))
    exact bodyPost_ret (v := .agg #[.slice p0 m0 j0, .slice p1 m1 j1]) (by simp [results, Tryz.results63, go_sem, g0, g1]) rfl ⟨p0, p1, m0, j0, m1, j1, rfl, (A0.out.same SM).up (fun b hb => ⟨by omega, by omega⟩), (A1.out.same SM).up (fun b hb => ⟨by omega, by omega⟩), BF⟩
  by_cases hk3 : kd = 3
  · subst hk3
    have CC : Hid (Calls Tryz.prog 6 #[.agg #[.slice o0 n0 k0, .slice oa nb kb], .string x, .slice on nn kn] W fun e w' => ∃ r0 r1 cd, e = .returned (.tuple #[.agg #[r0, r1], .int .i64 cd]) ∧ AtL (fun b => W.heap.size ≤ b ∧ b < w'.heap.size) w' DD.1 r0 ∧ AtL (fun b => W.heap.size ≤ b ∧ b < w'.heap.size) w' DD.2 r1 ∧ Below W.heap.size W w') := by
      have e : (lesS (T, Bs) x nd).1 = DD := by rw [← eDD]; unfold stpD; rw [if_neg (by decide), if_neg (by decide), if_pos rfl]
      refine (lesZ_any S T Bs o0 oa n0 k0 nb kb x SN nd on nn kn W g0 g1 hSW gN hSNW).mono ?_
      rintro e1 w' ⟨r0, r1, he, q0, q1, hb⟩
      rw [e] at q0 q1
      exact ⟨r0, r1, _, he, q0, q1, hb⟩
    clear h0 h1 hN g0 g1 gN eDD
    obtain ⟨c0, _⟩ := cell_row R1.out 0 (.slice o0 n0 k0) rfl
    obtain ⟨c1, _⟩ := cell_row R1.out 1 (.slice oa nb kb) rfl
    obtain ⟨c2, _⟩ := cell_row R2.out 0 (.int .i64 3) rfl
    obtain ⟨c3, _⟩ := cell_row R2.out 1 (.string x) rfl
    obtain ⟨c4, _⟩ := cell_row R2.out 2 (.slice on nn kn) rfl
    go_enter Tryz.func63, Tryz.ntmps63
    go_upto_region 1 with fail
    rw [← EW.out]
    go_wp2_with fail
    refine Calls.mono CC.out ?_
    rintro e w1 ⟨r0, r1, cd, rfl, ha0, ha1, hb1⟩
    obtain ⟨p0, j0, e0, -⟩ := id ha0
    obtain ⟨p1, j1, e1, -⟩ := id ha1
    obtain ⟨m0, em0⟩ : ∃ n, DD.1.length = n := ⟨_, rfl⟩
    obtain ⟨m1, em1⟩ : ∃ n, DD.2.length = n := ⟨_, rfl⟩
    rw [em0] at e0
    rw [em1] at e1
    subst e0
    subst e1
    have A0 : Hid (AtL (fun b => W.heap.size ≤ b ∧ b < w1.heap.size) w1 DD.1 (.slice p0 m0 j0)) := ha0
    have A1 : Hid (AtL (fun b => W.heap.size ≤ b ∧ b < w1.heap.size) w1 DD.2 (.slice p1 m1 j1)) := ha1
    have B1 : Hid (Below W.heap.size W w1) := hb1
    have s1 := hb1.size
    have Y1 : Hid (w1.heap[w.heap.size]? = some (.cells #[.slice o0 n0 k0, .slice oa nb kb] 26 (0, 0))) := (hb1.block _ (by omega)).trans R1.out
    have Y3 : Hid (w1.heap[w.heap.size + 1 + 1]? = some (.cells #[.slice none 0 0, .slice none 0 0] 26 (0, 0))) := (hb1.block _ (by omega)).trans R3.out
    clear ha0 ha1 hb1 em0 em1 CC c0 c1 c2 c3 c4
    obtain ⟨z0, f0⟩ := cell_row Y1.out 0 (.slice o0 n0 k0) rfl
    obtain ⟨z1, f1⟩ := cell_row Y1.out 1 (.slice oa nb kb) rfl
    have P1 : Hid _ := box2D (a := .slice p0 m0 j0) (b := .slice p1 m1 j1) Y1.out
    go_upto_region 9 with fail
    generalize ((w1.setCell ⟨w.heap.size, 0, none⟩ (.slice p0 m0 j0)).setCell ⟨w.heap.size, 1, none⟩ (.slice p1 m1 j1)) = w2 at P1 ⊢
    have s2 := P1.out.2.2.size
    clear z0 f0 z1 f1
    have d0 := (cell_row P1.out.1 0 (.slice p0 m0 j0) rfl).1
    have d1 := (cell_row P1.out.1 1 (.slice p1 m1 j1) rfl).1
    have Z3 : Hid (w2.heap[w.heap.size + 1 + 1]? = some (.cells #[.slice none 0 0, .slice none 0 0] 26 (0, 0))) := (P1.out.2.1 _ (by omega)).trans Y3.out
    obtain ⟨z0, f0⟩ := cell_row Z3.out 0 (.slice none 0 0) rfl
    obtain ⟨z1, f1⟩ := cell_row Z3.out 1 (.slice none 0 0) rfl
    have P3 : Hid _ := box2D (a := .slice p0 m0 j0) (b := .slice p1 m1 j1) Z3.out
    go_wp2_with fail
    generalize ((w2.setCell ⟨w.heap.size + 1 + 1, 0, none⟩ (.slice p0 m0 j0)).setCell ⟨w.heap.size + 1 + 1, 1, none⟩ (.slice p1 m1 j1)) = F at P3 ⊢
    have g0 := (cell_row P3.out.1 0 (.slice p0 m0 j0) rfl).1
    have g1 := (cell_row P3.out.1 1 (.slice p1 m1 j1) rfl).1
    have s3 := P3.out.2.2.size
    have SM : Same (fun b => W.heap.size ≤ b ∧ b < w1.heap.size) w1 F := fun b hb => (P3.out.2.1 b (by omega)).trans (P1.out.2.1 b (by omega))
    have BF : Below w.heap.size w F := ((BW.out.trans (B1.out.mono BW.out.size)).trans P1.out.2.2).trans (P3.out.2.2.mono (by omega))
    exact bodyPost_ret (v := .agg #[.slice p0 m0 j0, .slice p1 m1 j1]) (by simp [results, Tryz.results63, go_sem, g0, g1]) rfl ⟨p0, p1, m0, j0, m1, j1, rfl, (A0.out.same SM).up (fun b hb => ⟨by omega, by omega⟩), (A1.out.same SM).up (fun b hb => ⟨by omega, by omega⟩), BF⟩
  have hd1 : (kd == 1) = false := by rw [beq_eq_false_iff_ne]; exact hk1
  have hd2 : (kd == 2) = false := by rw [beq_eq_false_iff_ne]; exact hk2
  have hd3 : (kd == 3) = false := by rw [beq_eq_false_iff_ne]; exact hk3
  have CC : Hid (Calls Tryz.prog 10 #[.agg #[.slice o0 n0 k0, .slice oa nb kb], .string x] W fun e w' => ∃ r0 r1 cd, e = .returned (.tuple #[.agg #[r0, r1], .int .i64 cd]) ∧ AtL (fun b => W.heap.size ≤ b ∧ b < w'.heap.size) w' DD.1 r0 ∧ AtL (fun b => W.heap.size ≤ b ∧ b < w'.heap.size) w' DD.2 r1 ∧ Below W.heap.size W w') := by
    have e : (levS (T, Bs) x).1 = DD := by rw [← eDD]; unfold stpD; rw [if_neg hk1, if_neg hk2, if_neg hk3]
    refine (levZ_any S T Bs o0 oa n0 k0 nb kb x W g0 g1 hSW).mono ?_
    rintro e1 w' ⟨r0, r1, he, q0, q1, hb⟩
    rw [e] at q0 q1
    exact ⟨r0, r1, _, he, q0, q1, hb⟩
  clear h0 h1 hN g0 g1 gN eDD
  obtain ⟨c0, _⟩ := cell_row R1.out 0 (.slice o0 n0 k0) rfl
  obtain ⟨c1, _⟩ := cell_row R1.out 1 (.slice oa nb kb) rfl
  obtain ⟨c2, _⟩ := cell_row R2.out 0 (.int .i64 kd) rfl
  obtain ⟨c3, _⟩ := cell_row R2.out 1 (.string x) rfl
  obtain ⟨c4, _⟩ := cell_row R2.out 2 (.slice on nn kn) rfl
  go_enter Tryz.func63, Tryz.ntmps63
  go_upto_region 1 with fail
  rw [← EW.out]
  go_wp2_with fail
  refine Calls.mono CC.out ?_
  rintro e w1 ⟨r0, r1, cd, rfl, ha0, ha1, hb1⟩
  obtain ⟨p0, j0, e0, -⟩ := id ha0
  obtain ⟨p1, j1, e1, -⟩ := id ha1
  obtain ⟨m0, em0⟩ : ∃ n, DD.1.length = n := ⟨_, rfl⟩
  obtain ⟨m1, em1⟩ : ∃ n, DD.2.length = n := ⟨_, rfl⟩
  rw [em0] at e0
  rw [em1] at e1
  subst e0
  subst e1
  have A0 : Hid (AtL (fun b => W.heap.size ≤ b ∧ b < w1.heap.size) w1 DD.1 (.slice p0 m0 j0)) := ha0
  have A1 : Hid (AtL (fun b => W.heap.size ≤ b ∧ b < w1.heap.size) w1 DD.2 (.slice p1 m1 j1)) := ha1
  have B1 : Hid (Below W.heap.size W w1) := hb1
  have s1 := hb1.size
  have Y1 : Hid (w1.heap[w.heap.size]? = some (.cells #[.slice o0 n0 k0, .slice oa nb kb] 26 (0, 0))) := (hb1.block _ (by omega)).trans R1.out
  have Y3 : Hid (w1.heap[w.heap.size + 1 + 1]? = some (.cells #[.slice none 0 0, .slice none 0 0] 26 (0, 0))) := (hb1.block _ (by omega)).trans R3.out
  clear ha0 ha1 hb1 em0 em1 CC c0 c1 c2 c3 c4
  obtain ⟨z0, f0⟩ := cell_row Y1.out 0 (.slice o0 n0 k0) rfl
  obtain ⟨z1, f1⟩ := cell_row Y1.out 1 (.slice oa nb kb) rfl
  have P1 : Hid _ := box2D (a := .slice p0 m0 j0) (b := .slice p1 m1 j1) Y1.out
  go_upto_region 9 with fail
  generalize ((w1.setCell ⟨w.heap.size, 0, none⟩ (.slice p0 m0 j0)).setCell ⟨w.heap.size, 1, none⟩ (.slice p1 m1 j1)) = w2 at P1 ⊢
  have s2 := P1.out.2.2.size
  clear z0 f0 z1 f1
  have d0 := (cell_row P1.out.1 0 (.slice p0 m0 j0) rfl).1
  have d1 := (cell_row P1.out.1 1 (.slice p1 m1 j1) rfl).1
  have Z3 : Hid (w2.heap[w.heap.size + 1 + 1]? = some (.cells #[.slice none 0 0, .slice none 0 0] 26 (0, 0))) := (P1.out.2.1 _ (by omega)).trans Y3.out
  obtain ⟨z0, f0⟩ := cell_row Z3.out 0 (.slice none 0 0) rfl
  obtain ⟨z1, f1⟩ := cell_row Z3.out 1 (.slice none 0 0) rfl
  have P3 : Hid _ := box2D (a := .slice p0 m0 j0) (b := .slice p1 m1 j1) Z3.out
  go_wp2_with fail
  generalize ((w2.setCell ⟨w.heap.size + 1 + 1, 0, none⟩ (.slice p0 m0 j0)).setCell ⟨w.heap.size + 1 + 1, 1, none⟩ (.slice p1 m1 j1)) = F at P3 ⊢
  have g0 := (cell_row P3.out.1 0 (.slice p0 m0 j0) rfl).1
  have g1 := (cell_row P3.out.1 1 (.slice p1 m1 j1) rfl).1
  have s3 := P3.out.2.2.size
  have SM : Same (fun b => W.heap.size ≤ b ∧ b < w1.heap.size) w1 F := fun b hb => (P3.out.2.1 b (by omega)).trans (P1.out.2.1 b (by omega))
  have BF : Below w.heap.size w F := ((BW.out.trans (B1.out.mono BW.out.size)).trans P1.out.2.2).trans (P3.out.2.2.mono (by omega))
  exact bodyPost_ret (v := .agg #[.slice p0 m0 j0, .slice p1 m1 j1]) (by simp [results, Tryz.results63, go_sem, g0, g1]) rfl ⟨p0, p1, m0, j0, m1, j1, rfl, (A0.out.same SM).up (fun b hb => ⟨by omega, by omega⟩), (A1.out.same SM).up (fun b hb => ⟨by omega, by omega⟩), BF⟩
end Go.Proofs.YtaejlcanccfmmaaGreatDoor

namespace Go.Proofs.YtaejlcanccfmmaaGreatDoor
open Go.Sort
section
variable {P : Program}
variable {ops : Array Oper} {C : World → Prop} {n : Nat} {L : Array Bool → Act → World → Prop}
theorem oneHd {f : Nat} {listed : Array Bool} {i d : Nat} {oc : Oper} {a : Act} {w : World} (u : Value) (w' : World)
    (hc : ops[i]? = some oc ∧ oc.dst = some d) (hin : i < n) (r0 : Region.ready .any ops listed = [i]) (hw : Region.wanted oc (yielded ops a.tmps) = true)
    (run : (execOp a.eval oc).run P w = .ok (.value u) w') (hC : C w') (h : anyH P .any ops C n L f (listed.setIfInBounds i true) (a.put (some d) u) w') : anyH P .any ops C n L (f + 1) listed a w := by
  refine oneH u w' ⟨hc.1, hin⟩ r0 hw run hC ?_
  rw [hc.2]; exact h
theorem stepHd {i d : Nat} {K : Act → World → Prop} {oc : Oper} {a : Act} {w : World} (u : Value) (w' : World) (hc : ops[i]? = some oc ∧ oc.dst = some d) (hw : Region.wanted oc (yielded ops a.tmps) = true) (run : (execOp a.eval oc).run P w = .ok (.value u) w') (hk : K (a.put (some d) u) w') : stepH P ops i K a w := by
  refine stepH_value u w' hc.1 hw run ?_
  rw [hc.2]; exact hk
theorem stepHc {i d : Nat} {K : Act → World → Prop} {oc : Oper} {a : Act} {w : World} {fn : FuncId} {args : Array Value} (hc : ops[i]? = some oc ∧ oc.dst = some d) (hw : Region.wanted oc (yielded ops a.tmps) = true) (run : (execOp a.eval oc).run P w = .ok (.enter fn args) w) (con : Calls P fn args w fun e w' => ∃ v, e = .returned v ∧ K (a.put (some d) v) w') : stepH P ops i K a w :=
  stepH_call hc.1 hw run (con.mono fun e w' ⟨v, he, hk⟩ => ⟨v, he, by rw [hc.2]; exact hk⟩)
theorem callHd {f : Nat} {listed : Array Bool} {i d : Nat} {oc : Oper} {a : Act} {w : World} {fn : FuncId} {args : Array Value} (hc : ops[i]? = some oc ∧ oc.dst = some d) (hin : i < n) (r0 : Region.ready .any ops listed = [i]) (hw : Region.wanted oc (yielded ops a.tmps) = true)
    (run : (execOp a.eval oc).run P w = .ok (.enter fn args) w) (con : Calls P fn args w fun e w' => ∃ v, e = .returned v ∧ C w' ∧ anyH P .any ops C n L f (listed.setIfInBounds i true) (a.put (some d) v) w') : anyH P .any ops C n L (f + 1) listed a w :=
  callH ⟨hc.1, hin⟩ r0 hw run (con.mono fun e w' ⟨v, he, h1, h2⟩ => ⟨v, he, h1, by rw [hc.2]; exact h2⟩)
theorem storeHd {f : Nat} {listed : Array Bool} {i : Nat} {oc : Oper} {a : Act} {w : World} (w' : World)
    (hc : ops[i]? = some oc ∧ oc.dst = none) (hin : i < n) (r0 : Region.ready .any ops listed = [i]) (hw : Region.wanted oc (yielded ops a.tmps) = true)
    (run : (execOp a.eval oc).run P w = .ok .skip w') (hC : C w') (h : anyH P .any ops C n L f (listed.setIfInBounds i true) a w') : anyH P .any ops C n L (f + 1) listed a w := by
  refine storeH w' ⟨hc.1, hin⟩ r0 hw run hC ?_
  rw [hc.2]; exact h
end
end Go.Proofs.YtaejlcanccfmmaaGreatDoor

namespace Go.Proofs.YtaejlcanccfmmaaGreatDoor
open Go.Sort
section
variable {P : Program}
theorem wp_region_movesC {id : Nat} {Q : Exit → Act → World → Prop} {a : Act} {w : World} {l : List Oper} (C : World → Prop) (n : Nat) (ks : List Nat) (hm : P.follows .mixedOrders = true) (hB : movesB l n ks = true) (hC : C w.drew)
    (h : anyH P .any l.toArray C n (tailC P Q l n) (n - ks.length) (doneV l ks) (movD (ks.filterMap fun k => l[k]?) a) w.drew) : (Code.region id l.toArray true).wp P Q a w := by
  simp only [movesB, Bool.and_eq_true, decide_eq_true_eq] at hB
  obtain ⟨⟨⟨⟨⟨hsel, hn⟩, hkn⟩, hs1⟩, hc1⟩, hm1⟩ := hB
  have hn' : n < l.toArray.size := by simpa using hn
  have hdl : (l.drop n).length = l.length - n := by simp
  have inv1 : HeadInv .any l.toArray n (Array.replicate l.length false) :=
    ⟨by simp, fun j oj _ hl => (by rw [getD_replicate_false] at hl; cases hl), fun t _ ht => getD_in (by simpa using ht) (getD_replicate_false _ _)⟩
  have H0 := anyH_moves (P := P) (md := .any) (C := C) (L := tailC P Q l n) hsel hs1 hc1 hn' (fun listed a w hL => seqB_ready hL.1) _ w.drew hC ks _ _ a (mixV_ops ks _ hm1) inv1 (fun k hk => hk) hm1 h
  have G := any_of_H (Q := Q) (g := l.length - n) (fun listed a' w' hL => by
    have := wpAny_of_seq (P := P) (md := .any) (ops := l.toArray) (Q' := Q) (l.drop n) n listed a' w' (fun j => by simp [List.getElem?_drop]) (by rw [hdl]; exact hL.1) hL.2
    rwa [hdl] at this) _ _ _ _ H0
  rw [show ks.length + (n - ks.length) + (l.length - n) = l.toArray.size by simp; omega] at G
  refine wp_region_any hm ?_
  simpa using G
theorem takeHQ {C : World → Prop} {Q : Exit → Act → World → Prop} {l : List Oper} {n f : Nat} {listed : Array Bool} {i d : Nat} {oi : Oper} {a : Act} {w : World} (v : Value) (hi : l.toArray[i]? = some oi ∧ oi.dst = some d) (hB : takeB l n listed i = true) (hw : Region.wanted oi (yielded l.toArray a.tmps) = true) (hC : C w) (hrun : ∀ w, C w → (execOp a.eval oi).run P w = .ok (.value v) w)
    (h : anyH P .any l.toArray C n (tailC P Q l n) f (listed.setIfInBounds i true) (a.put (some d) v) w) : anyH P .any l.toArray C n (tailC P Q l n) (f + 1) listed a w := by
  obtain ⟨h1, h2⟩ := hi
  simp only [takeB, Bool.and_eq_true, decide_eq_true_eq] at hB
  obtain ⟨⟨⟨⟨⟨⟨⟨hsel, hn⟩, hin⟩, hs⟩, hc⟩, hr⟩, hf⟩, hv⟩ := hB
  have hr' : i ∈ Region.ready .any l.toArray listed := by simpa using hr
  refine anyH_first h1 hsel hs hc (by simpa using hn) hin (fun listed a w hL => seqB_ready hL.1) f listed a w hC (inv_of hv) (fun k hk => by rw [getD_replicate_false] at hk; cases hk) (Region.free_spec h1 hf) hr' (.inl ⟨hw, hrun⟩) ?_
  rw [h2]; exact h
end
end Go.Proofs.YtaejlcanccfmmaaGreatDoor
