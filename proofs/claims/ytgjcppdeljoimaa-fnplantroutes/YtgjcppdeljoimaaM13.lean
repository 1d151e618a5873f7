/-
  Several texts in one.
-/
import Derived.Test.YtgjcppdeljoimaaM11
import Derived.Test.YtgjcppdeljoimaaM12
import Derived.Test.YtgjcppdeljoimaaM6
import Derived.Lib.ItoaNum
import Derived.Deep.RegionWith
import Derived.Test.YtgjcppdeljoimaaM2
namespace Go.Proofs.Ytgjcppdeljoimaa
open Go.RowKit Go.Sort
theorem box_stableP {w w' : World} {g : Nat} {c : Array Value} {t : TypeId} (hb : Below w.heap.size w w') (h : w.heap[g]? = some (.cells c t (0, 0))) : w'.heap[g]? = some (.cells c t (0, 0)) := (hb.block g (Array.getElem?_eq_some_iff.1 h).1).trans h
theorem row_stableP {w w' : World} {B : Nat} {t : TypeId} {k n : Nat} {v : Value} {xs : List Value} (hb : Below w.heap.size w w') (h : w.ownsRow B t k v n xs) : w'.ownsRow B t k v n xs := by
  refine ⟨h.1, ?_⟩
  rcases h.2 with hn | ⟨g, cap, cur, hv, hbg, hg, rest⟩
  · exact Or.inl hn
  · exact Or.inr ⟨g, cap, cur, hv, hbg, box_stableP hb hg, rest⟩
set_option maxRecDepth 100000 in
set_option maxHeartbeats 4000000 in
theorem copy_ex (B : Nat) (v0 v1 v2 v3 : Value) (X : PlL) (w : World) (h : PlR B w v0 v1 v2 v3 X) (hX : X.Ok) :
    Calls Try.prog 51 #[.agg #[v0, v1, v2, v3]] w fun e w' => ∃ u0 u1 u2 u3, e = .returned (.agg #[u0, u1, u2, u3]) ∧ PlR w.heap.size w' u0 u1 u2 u3 X ∧ Below w.heap.size w w' := by
  obtain ⟨o0, c0, rfl⟩ := Row.form h.s
  obtain ⟨o1, c1, rfl⟩ := Row.form h.f
  obtain ⟨o2, c2, rfl⟩ := Row.form h.p
  obtain ⟨o3, c3, rfl⟩ := Row.form h.v
  generalize en0 : X.ss.length = n0 at h ⊢
  generalize en1 : X.ff.length = n1 at h ⊢
  generalize en2 : X.pp.length = n2 at h ⊢
  generalize en3 : X.vv.length = n3 at h ⊢
  have HH : Hid (PlR B w (.slice o0 n0 c0) (.slice o1 n1 c1) (.slice o2 n2 c2) (.slice o3 n3 c3) X) := h
  clear h
  obtain ⟨W, hW⟩ : ∃ W, W = (w.alloc (.cells #[.slice o0 n0 c0, .slice o1 n1 c1, .slice o2 n2 c2, .slice o3 n3 c3] 28)).alloc (.cells #[.slice none 0 0, .slice none 0 0, .slice none 0 0, .slice none 0 0] 28) := ⟨_, rfl⟩
  have hbW : Hid (Below w.heap.size w W) := by rw [hW]; exact ((Below.refl _ _).alloc (Nat.le_refl _) _).alloc (by simp) _
  have hsW : W.heap.size = w.heap.size + 1 + 1 := by rw [hW]; simp
  have HP : Hid (W.heap[w.heap.size]? = some (.cells #[.slice o0 n0 c0, .slice o1 n1 c1, .slice o2 n2 c2, .slice o3 n3 c3] 28 (0, 0))) := by
    rw [hW]; exact (Below.heap_alloc _ _ _ (by simp)).trans (heap_alloc_new w _)
  have HR : Hid (W.heap[w.heap.size + 1]? = some (.cells #[.slice none 0 0, .slice none 0 0, .slice none 0 0, .slice none 0 0] 28 (0, 0))) := by
    have e : (w.alloc (.cells #[.slice o0 n0 c0, .slice o1 n1 c1, .slice o2 n2 c2, .slice o3 n3 c3] 28)).heap.size = w.heap.size + 1 := by simp
    rw [hW, ← e]; exact heap_alloc_new _ _
  have HW : Hid (PlR B W (.slice o0 n0 c0) (.slice o1 n1 c1) (.slice o2 n2 c2) (.slice o3 n3 c3) X) := HH.out.below hbW.out
  go_enter Try.func51, Try.ntmps51
  go_upto_region 1 with fail
  rw [← hW]
  clear hW
  have HDX : Hid (W.drew.heap[w.heap.size]? = some (.cells #[.slice o0 n0 c0, .slice o1 n1 c1, .slice o2 n2 c2, .slice o3 n3 c3] 28 (0, 0))) := HP.out
  have bdW : Hid (Below W.heap.size W W.drew) := (Below.refl _ _).drew
  refine wp_region_movesC (fun v => Below W.drew.heap.size W.drew v) 16 [] (by kernel_rfl) (by kernel_rfl) (Below.refl _ _) ?_
  simp only [List.filterMap_nil, movD]
  refine takeHQ (f := 15) (i := 1) (.pointer (some ⟨w.heap.size, 0, none⟩)) ⟨rfl, rfl⟩ (by kernel_rfl) rfl (Below.refl _ _) ?ra0 ?_
  case ra0 => intro v hv; go_simp
  simp only [Act.put, List.setIfInBounds_toArray, List.set_cons_zero, List.set_cons_succ]
  refine takeHQ (f := 14) (i := 2) (.slice o0 n0 c0) ⟨rfl, rfl⟩ (by kernel_rfl) rfl (Below.refl _ _) ?rb0 ?_
  case rb0 => intro v hv; have k0 := (cell_row (box_stableP hv HDX.out) 0 (.slice o0 n0 c0) rfl).1; go_simp
  simp only [Act.put, List.setIfInBounds_toArray, List.set_cons_zero, List.set_cons_succ]
  refine takeHQ (f := 13) (i := 5) (.pointer (some ⟨w.heap.size, 1, none⟩)) ⟨rfl, rfl⟩ (by kernel_rfl) rfl (Below.refl _ _) ?ra1 ?_
  case ra1 => intro v hv; go_simp
  simp only [Act.put, List.setIfInBounds_toArray, List.set_cons_zero, List.set_cons_succ]
  refine takeHQ (f := 12) (i := 6) (.slice o1 n1 c1) ⟨rfl, rfl⟩ (by kernel_rfl) rfl (Below.refl _ _) ?rb1 ?_
  case rb1 => intro v hv; have k0 := (cell_row (box_stableP hv HDX.out) 1 (.slice o1 n1 c1) rfl).1; go_simp
  simp only [Act.put, List.setIfInBounds_toArray, List.set_cons_zero, List.set_cons_succ]
  refine takeHQ (f := 11) (i := 9) (.pointer (some ⟨w.heap.size, 2, none⟩)) ⟨rfl, rfl⟩ (by kernel_rfl) rfl (Below.refl _ _) ?ra2 ?_
  case ra2 => intro v hv; go_simp
  simp only [Act.put, List.setIfInBounds_toArray, List.set_cons_zero, List.set_cons_succ]
  refine takeHQ (f := 10) (i := 10) (.slice o2 n2 c2) ⟨rfl, rfl⟩ (by kernel_rfl) rfl (Below.refl _ _) ?rb2 ?_
  case rb2 => intro v hv; have k0 := (cell_row (box_stableP hv HDX.out) 2 (.slice o2 n2 c2) rfl).1; go_simp
  simp only [Act.put, List.setIfInBounds_toArray, List.set_cons_zero, List.set_cons_succ]
  refine takeHQ (f := 9) (i := 13) (.pointer (some ⟨w.heap.size, 3, none⟩)) ⟨rfl, rfl⟩ (by kernel_rfl) rfl (Below.refl _ _) ?ra3 ?_
  case ra3 => intro v hv; go_simp
  simp only [Act.put, List.setIfInBounds_toArray, List.set_cons_zero, List.set_cons_succ]
  refine takeHQ (f := 8) (i := 14) (.slice o3 n3 c3) ⟨rfl, rfl⟩ (by kernel_rfl) rfl (Below.refl _ _) ?rb3 ?_
  case rb3 => intro v hv; have k0 := (cell_row (box_stableP hv HDX.out) 3 (.slice o3 n3 c3) rfl).1; go_simp
  simp only [Act.put, List.setIfInBounds_toArray, List.set_cons_zero, List.set_cons_succ]
  refine grow_all [⟨0, 3, [], (fun w' v => ∃ g, v = .slice (some ⟨g, 0, none⟩) 0 0 ∧ w'.ownsRow W.heap.size 9 1 (.slice (some ⟨g, 0, none⟩) 0 0) 0 [])⟩, ⟨3, 6, [0], (fun w' v => w'.ownsRow W.heap.size 9 1 v n0 (enc 1 e1S X.ss))⟩, ⟨4, 7, [], (fun w' v => ∃ g, v = .slice (some ⟨g, 0, none⟩) 0 0 ∧ w'.ownsRow W.heap.size 81 2 (.slice (some ⟨g, 0, none⟩) 0 0) 0 [])⟩, ⟨7, 10, [4], (fun w' v => w'.ownsRow W.heap.size 81 2 v n1 (enc 2 e2F X.ff))⟩, ⟨8, 11, [], (fun w' v => ∃ g, v = .slice (some ⟨g, 0, none⟩) 0 0 ∧ w'.ownsRow W.heap.size 63 3 (.slice (some ⟨g, 0, none⟩) 0 0) 0 [])⟩, ⟨11, 14, [8], (fun w' v => w'.ownsRow W.heap.size 63 3 v n2 (enc 3 e3P X.pp))⟩, ⟨12, 15, [], (fun w' v => ∃ g, v = .slice (some ⟨g, 0, none⟩) 0 0 ∧ w'.ownsRow W.heap.size 53 4 (.slice (some ⟨g, 0, none⟩) 0 0) 0 [])⟩, ⟨15, 18, [12], (fun w' v => w'.ownsRow W.heap.size 53 4 v n3 (enc 4 e4V X.vv))⟩] (by kernel_rfl) (by kernel_rfl) ?hst ?hS (fun _ h => h) ?hK
  case hst =>
    intro m hm v v' x hb
    simp only [List.mem_cons, List.not_mem_nil, or_false] at hm
    rcases hm with rfl | rfl | rfl | rfl | rfl | rfl | rfl | rfl
    · rintro ⟨g, h1, h2⟩
      exact ⟨g, h1, row_stableP hb h2⟩
    · intro h
      exact row_stableP hb h
    · rintro ⟨g, h1, h2⟩
      exact ⟨g, h1, row_stableP hb h2⟩
    · intro h
      exact row_stableP hb h
    · rintro ⟨g, h1, h2⟩
      exact ⟨g, h1, row_stableP hb h2⟩
    · intro h
      exact row_stableP hb h
    · rintro ⟨g, h1, h2⟩
      exact ⟨g, h1, row_stableP hb h2⟩
    · intro h
      exact row_stableP hb h
  case hS =>
    intro m hm
    simp only [List.mem_cons, List.not_mem_nil, or_false] at hm
    rcases hm with rfl | rfl | rfl | rfl | rfl | rfl | rfl | rfl
    · refine ⟨_, rfl, ?_⟩
      intro b v hA hb hu
      clear hA hu
      refine .inl ⟨.slice (some ⟨v.heap.size, 0, none⟩) 0 0, v.alloc (.cells #[] 9), ?_, ⟨v.heap.size, rfl, Row.made v _ _ e1S (Nat.le_trans bdW.out.size hb.size)⟩, (Below.refl _ _).alloc (Nat.le_refl _) _⟩
      go_simp
    · refine ⟨_, rfl, ?_⟩
      intro b v hA hb hu
      have e2 : b.eval (.tmp 5) = .slice o0 n0 c0 := (hA.off 5 (off_of 5 (by kernel_rfl))).trans rfl
      obtain ⟨g, e1, hrow⟩ := hu _ List.mem_cons_self (by simp)
      have hsr : Src v (.slice o0 n0 c0) n0 1 (enc 1 e1S X.ss) := by have := row_src (HW.out.s.below (bdW.out.trans (hb.mono bdW.out.size))); rw [en0] at this; exact this
      have hn : n0 ≤ 20 := by have := hX.ns; omega
      obtain ⟨v', w', h1, h2, h3⟩ := app_newP (P := Try.prog) elS1 hrow (Nat.le_trans bdW.out.size hb.size) hsr (by unfold maxLen; omega) (by omega) 23
      replace e1 : b.eval (.tmp 3) = _ := e1
      refine .inl ⟨v', w', ?_, h2, h3⟩
      simp only [List.getElem_toArray, List.getElem_cons_succ, List.getElem_cons_zero, execOp, resolve, invoke, builtin, Sem.run_bind, Sem.run_pure, Result.andThen_ok, List.map_toArray, List.map_cons, List.map_nil, e1, e2, h1]
    · refine ⟨_, rfl, ?_⟩
      intro b v hA hb hu
      clear hA hu
      refine .inl ⟨.slice (some ⟨v.heap.size, 0, none⟩) 0 0, v.alloc (.cells #[] 81), ?_, ⟨v.heap.size, rfl, Row.made v _ _ e2F (Nat.le_trans bdW.out.size hb.size)⟩, (Below.refl _ _).alloc (Nat.le_refl _) _⟩
      go_simp
    · refine ⟨_, rfl, ?_⟩
      intro b v hA hb hu
      have e2 : b.eval (.tmp 9) = .slice o1 n1 c1 := (hA.off 9 (off_of 9 (by kernel_rfl))).trans rfl
      obtain ⟨g, e1, hrow⟩ := hu _ (List.mem_cons_of_mem _ (List.mem_cons_of_mem _ List.mem_cons_self)) (by simp)
      have hsr : Src v (.slice o1 n1 c1) n1 2 (enc 2 e2F X.ff) := by have := row_src (HW.out.f.below (bdW.out.trans (hb.mono bdW.out.size))); rw [en1] at this; exact this
      have hn : n1 ≤ 20 := by have := hX.nf; omega
      obtain ⟨v', w', h1, h2, h3⟩ := app_newP (P := Try.prog) elF2 hrow (Nat.le_trans bdW.out.size hb.size) hsr (by unfold maxLen; omega) (by omega) 24
      replace e1 : b.eval (.tmp 7) = _ := e1
      refine .inl ⟨v', w', ?_, h2, h3⟩
      simp only [List.getElem_toArray, List.getElem_cons_succ, List.getElem_cons_zero, execOp, resolve, invoke, builtin, Sem.run_bind, Sem.run_pure, Result.andThen_ok, List.map_toArray, List.map_cons, List.map_nil, e1, e2, h1]
    · refine ⟨_, rfl, ?_⟩
      intro b v hA hb hu
      clear hA hu
      refine .inl ⟨.slice (some ⟨v.heap.size, 0, none⟩) 0 0, v.alloc (.cells #[] 63), ?_, ⟨v.heap.size, rfl, Row.made v _ _ e3P (Nat.le_trans bdW.out.size hb.size)⟩, (Below.refl _ _).alloc (Nat.le_refl _) _⟩
      go_simp
    · refine ⟨_, rfl, ?_⟩
      intro b v hA hb hu
      have e2 : b.eval (.tmp 13) = .slice o2 n2 c2 := (hA.off 13 (off_of 13 (by kernel_rfl))).trans rfl
      obtain ⟨g, e1, hrow⟩ := hu _ (List.mem_cons_of_mem _ (List.mem_cons_of_mem _ (List.mem_cons_of_mem _ (List.mem_cons_of_mem _ List.mem_cons_self)))) (by simp)
      have hsr : Src v (.slice o2 n2 c2) n2 3 (enc 3 e3P X.pp) := by have := row_src (HW.out.p.below (bdW.out.trans (hb.mono bdW.out.size))); rw [en2] at this; exact this
      have hn : n2 ≤ 20 := by have := hX.np; omega
      obtain ⟨v', w', h1, h2, h3⟩ := app_newP (P := Try.prog) elP3 hrow (Nat.le_trans bdW.out.size hb.size) hsr (by unfold maxLen; omega) (by omega) 25
      replace e1 : b.eval (.tmp 11) = _ := e1
      refine .inl ⟨v', w', ?_, h2, h3⟩
      simp only [List.getElem_toArray, List.getElem_cons_succ, List.getElem_cons_zero, execOp, resolve, invoke, builtin, Sem.run_bind, Sem.run_pure, Result.andThen_ok, List.map_toArray, List.map_cons, List.map_nil, e1, e2, h1]
    · refine ⟨_, rfl, ?_⟩
      intro b v hA hb hu
      clear hA hu
      refine .inl ⟨.slice (some ⟨v.heap.size, 0, none⟩) 0 0, v.alloc (.cells #[] 53), ?_, ⟨v.heap.size, rfl, Row.made v _ _ e4V (Nat.le_trans bdW.out.size hb.size)⟩, (Below.refl _ _).alloc (Nat.le_refl _) _⟩
      go_simp
    · refine ⟨_, rfl, ?_⟩
      intro b v hA hb hu
      have e2 : b.eval (.tmp 17) = .slice o3 n3 c3 := (hA.off 17 (off_of 17 (by kernel_rfl))).trans rfl
      obtain ⟨g, e1, hrow⟩ := hu _ (List.mem_cons_of_mem _ (List.mem_cons_of_mem _ (List.mem_cons_of_mem _ (List.mem_cons_of_mem _ (List.mem_cons_of_mem _ (List.mem_cons_of_mem _ List.mem_cons_self)))))) (by simp)
      have hsr : Src v (.slice o3 n3 c3) n3 4 (enc 4 e4V X.vv) := by have := row_src (HW.out.v.below (bdW.out.trans (hb.mono bdW.out.size))); rw [en3] at this; exact this
      have hn : n3 ≤ 20 := by have := hX.nv; omega
      obtain ⟨v', w', h1, h2, h3⟩ := app_newP (P := Try.prog) elV4 hrow (Nat.le_trans bdW.out.size hb.size) hsr (by unfold maxLen; omega) (by omega) 26
      replace e1 : b.eval (.tmp 15) = _ := e1
      refine .inl ⟨v', w', ?_, h2, h3⟩
      simp only [List.getElem_toArray, List.getElem_cons_succ, List.getElem_cons_zero, execOp, resolve, invoke, builtin, Sem.run_bind, Sem.run_pure, Result.andThen_ok, List.map_toArray, List.map_cons, List.map_nil, e1, e2, h1]
  case hK =>
    intro vv u hbu hF
    have r0 := hF _ (List.mem_cons_of_mem _ List.mem_cons_self)
    obtain ⟨g0, m0, _⟩ := hF _ List.mem_cons_self
    have r1 := hF _ (List.mem_cons_of_mem _ (List.mem_cons_of_mem _ (List.mem_cons_of_mem _ List.mem_cons_self)))
    obtain ⟨g1, m1, _⟩ := hF _ (List.mem_cons_of_mem _ (List.mem_cons_of_mem _ List.mem_cons_self))
    have r2 := hF _ (List.mem_cons_of_mem _ (List.mem_cons_of_mem _ (List.mem_cons_of_mem _ (List.mem_cons_of_mem _ (List.mem_cons_of_mem _ List.mem_cons_self)))))
    obtain ⟨g2, m2, _⟩ := hF _ (List.mem_cons_of_mem _ (List.mem_cons_of_mem _ (List.mem_cons_of_mem _ (List.mem_cons_of_mem _ List.mem_cons_self))))
    have r3 := hF _ (List.mem_cons_of_mem _ (List.mem_cons_of_mem _ (List.mem_cons_of_mem _ (List.mem_cons_of_mem _ (List.mem_cons_of_mem _ (List.mem_cons_of_mem _ (List.mem_cons_of_mem _ List.mem_cons_self)))))))
    obtain ⟨g3, m3, _⟩ := hF _ (List.mem_cons_of_mem _ (List.mem_cons_of_mem _ (List.mem_cons_of_mem _ (List.mem_cons_of_mem _ (List.mem_cons_of_mem _ (List.mem_cons_of_mem _ List.mem_cons_self))))))
    clear hF
    simp only at r0 r1 r2 r3 m0 m1 m2 m3
    obtain ⟨p0, k0, e0⟩ : ∃ p k, vv 6 = .slice p n0 k := by
      rcases r0.2 with ⟨e, hn⟩ | ⟨_, _, _, e, _⟩
      · exact ⟨none, 0, by rw [e, hn]⟩
      · exact ⟨_, _, e⟩
    rw [e0] at r0
    obtain ⟨p1, k1, e1⟩ : ∃ p k, vv 10 = .slice p n1 k := by
      rcases r1.2 with ⟨e, hn⟩ | ⟨_, _, _, e, _⟩
      · exact ⟨none, 0, by rw [e, hn]⟩
      · exact ⟨_, _, e⟩
    rw [e1] at r1
    obtain ⟨p2, k2, e2⟩ : ∃ p k, vv 14 = .slice p n2 k := by
      rcases r2.2 with ⟨e, hn⟩ | ⟨_, _, _, e, _⟩
      · exact ⟨none, 0, by rw [e, hn]⟩
      · exact ⟨_, _, e⟩
    rw [e2] at r2
    obtain ⟨p3, k3, e3⟩ : ∃ p k, vv 18 = .slice p n3 k := by
      rcases r3.2 with ⟨e, hn⟩ | ⟨_, _, _, e, _⟩
      · exact ⟨none, 0, by rw [e, hn]⟩
      · exact ⟨_, _, e⟩
    rw [e3] at r3
    refine ⟨by kernel_rfl, ?_⟩
    simp only [putG, List.foldl_cons, List.foldl_nil, Act.put, List.setIfInBounds_toArray, List.set_cons_zero, List.set_cons_succ, List.drop_succ_cons, List.drop_zero]
    rw [m0, m1, m2, m3, e0, e1, e2, e3]
    have R0 : Hid (Row u W.heap.size 9 1 e1S (.slice p0 n0 k0) X.ss) := by show World.ownsRow _ _ _ _ _ _ _; rw [en0]; exact r0
    have R1 : Hid (Row u W.heap.size 81 2 e2F (.slice p1 n1 k1) X.ff) := by show World.ownsRow _ _ _ _ _ _ _; rw [en1]; exact r1
    have R2 : Hid (Row u W.heap.size 63 3 e3P (.slice p2 n2 k2) X.pp) := by show World.ownsRow _ _ _ _ _ _ _; rw [en2]; exact r2
    have R3 : Hid (Row u W.heap.size 53 4 e4V (.slice p3 n3 k3) X.vv) := by show World.ownsRow _ _ _ _ _ _ _; rw [en3]; exact r3
    have hbu2 : Hid (Below W.heap.size W u) := bdW.out.trans (hbu.mono bdW.out.size)
    clear m0 m1 m2 m3 e0 e1 e2 e3 r0 r1 r2 r3 hbu
    have hsu : W.heap.size ≤ u.heap.size := hbu2.out.size
    obtain ⟨zr0, tzr0⟩ := cell_row ((hbu2.out.block (w.heap.size + 1) (by omega)).trans HR.out) 0 _ rfl
    obtain ⟨zr1, tzr1⟩ := cell_row ((hbu2.out.block (w.heap.size + 1) (by omega)).trans HR.out) 1 _ rfl
    obtain ⟨zr2, tzr2⟩ := cell_row ((hbu2.out.block (w.heap.size + 1) (by omega)).trans HR.out) 2 _ rfl
    obtain ⟨zr3, tzr3⟩ := cell_row ((hbu2.out.block (w.heap.size + 1) (by omega)).trans HR.out) 3 _ rfl
    simp only [List.getElem_toArray, List.getElem_cons_zero, List.getElem_cons_succ] at zr0 zr1 zr2 zr3
    have R4 := hidZ (ret4 ((hbu2.out.block (w.heap.size + 1) (by omega)).trans HR.out) (.slice p0 n0 k0) (.slice p1 n1 k1) (.slice p2 n2 k2) (.slice p3 n3 k3))
    have ff0 := hidZ (cell_row R4.out.1 0 _ rfl).1
    have ff1 := hidZ (cell_row R4.out.1 1 _ rfl).1
    have ff2 := hidZ (cell_row R4.out.1 2 _ rfl).1
    have ff3 := hidZ (cell_row R4.out.1 3 _ rfl).1
    have hF := hidZ (hbW.out.trans ((hbu2.out.mono (by omega)).trans (R4.out.2.2.2.mono (by omega))))
    have hr0 := hidZ ((Row.block R0.out (fun q hq => R4.out.2.1 q (fun e => by have := (World.ownsRow.lt R0.out q hq).1; omega))).low (B' := w.heap.size) (by omega))
    have hr1 := hidZ ((Row.block R1.out (fun q hq => R4.out.2.1 q (fun e => by have := (World.ownsRow.lt R1.out q hq).1; omega))).low (B' := w.heap.size) (by omega))
    have hr2 := hidZ ((Row.block R2.out (fun q hq => R4.out.2.1 q (fun e => by have := (World.ownsRow.lt R2.out q hq).1; omega))).low (B' := w.heap.size) (by omega))
    have hr3 := hidZ ((Row.block R3.out (fun q hq => R4.out.2.1 q (fun e => by have := (World.ownsRow.lt R3.out q hq).1; omega))).low (B' := w.heap.size) (by omega))
    go_wp2_with fail
    all_goals exact bodyPost_ret (v := .agg #[.slice p0 n0 k0, .slice p1 n1 k1, .slice p2 n2 k2, .slice p3 n3 k3]) (by simp [results, Try.results51, go_sem, ff0.out, ff1.out, ff2.out, ff3.out]) rfl ⟨_, _, _, _, rfl, ⟨hr0.out, hr1.out, hr2.out, hr3.out⟩, hF.out⟩
end Go.Proofs.Ytgjcppdeljoimaa

namespace Go.Proofs.Ytgjcppdeljoimaa
open Go.RowKit
theorem under135K : Try.prog.underlying 22 = some (.slice 5) := by kernel_rfl
theorem under5K : Try.prog.underlying 5 = some (.int .u8) := by kernel_rfl
theorem under9K : Try.prog.underlying 9 = some .string := by kernel_rfl
theorem conv_oneK (x : Int) (W : World) : (convert 22 9 (.slice (some ⟨W.heap.size, 0, none⟩) 1 1)).run Try.prog (W.alloc (.cells #[.int .u8 x] 5)) = .ok (.string ⟨#[UInt8.ofNat x.toNat]⟩) (W.alloc (.cells #[.int .u8 x] 5)) := by
  rw [run_convert_bytes_string _ 22 9 5 _ 1 1 under135K under5K under9K]
  rw [run_bytesToString _ ⟨W.heap.size, 0, none⟩ 1 1 [x]]
  · rfl
  · exact run_loadCells_list _ ⟨W.heap.size, 0, none⟩ [.int .u8 x] (fun j v hj => by
      match j, hj with
      | 0, hj => simp at hj; subst hj; simp [Addr.add])
def txK (l : List UInt8) : ByteArray := ⟨l.toArray⟩
theorem tx_sizeK (l : List UInt8) : (txK l).size = l.length := by simp [txK, ByteArray.size]
theorem tx_appK (l m : List UInt8) : txK l ++ txK m = txK (l ++ m) := by
  apply ByteArray.ext; rw [ByteArray.data_append]; simp [txK]
theorem conv_cellK (x : Int) (g : Nat) (W : World) (h : W.cell? ⟨g, 0, none⟩ = some (.int .u8 x)) : (convert 22 9 (.slice (some ⟨g, 0, none⟩) 1 1)).run Try.prog W = .ok (.string ⟨#[UInt8.ofNat x.toNat]⟩) W := by
  rw [run_convert_bytes_string _ 22 9 5 _ 1 1 under135K under5K under9K]
  rw [run_bytesToString _ ⟨g, 0, none⟩ 1 1 [x]]
  · rfl
  · exact run_loadCells_list _ ⟨g, 0, none⟩ [.int .u8 x] (fun j v hj => by
      match j, hj with
      | 0, hj => simp at hj; subst hj; simpa [Addr.add] using h)
theorem dec_lenK (n : Nat) (h : n ≤ 9999) : (Lib.decDigits n).length ≤ 4 := by
  unfold Lib.decDigits
  split
  · simp
  · unfold Lib.decDigits
    split
    · simp
    · unfold Lib.decDigits
      split
      · simp
      · unfold Lib.decDigits
        split
        · simp
        · omega
set_option maxRecDepth 100000 in
set_option maxHeartbeats 1000000 in
theorem dec_anyK : ∀ (f : Nat) (j : Int) (w : World), j.toNat < f → 0 ≤ j → j ≤ 9999 →
    Calls Try.prog 50 #[.int .i64 j] w fun e w' => e = .returned (.string (txK (Lib.decDigits j.toNat))) ∧ Below w.heap.size w w'
  | 0, _, _, h, _, _ => absurd h (Nat.not_lt_zero _)
  | f + 1, j, w, hf, h0, h1 => by
    have hcv := conv_oneK
    by_cases h : j < 10
    · have e : Lib.decDigits j.toNat = [UInt8.ofNat (48 + j).toNat] := by
        rw [Lib.decDigits_one (by omega)]; congr 2; omega
      rw [e]
      go_enter Try.func50, Try.ntmps50
      go_wp2
      go_ret
      exact ⟨rfl, (Below.refl _ _).alloc (Nat.le_refl _) _⟩
    · have e : Lib.decDigits j.toNat = Lib.decDigits (j / 10).toNat ++ [UInt8.ofNat (48 + j % 10).toNat] := by
        rw [Lib.decDigits, dif_neg (by omega)]
        have e1 : j.toNat / 10 = (j / 10).toNat := by omega
        have e2 : 48 + j.toNat % 10 = (48 + j % 10).toNat := by omega
        rw [e1, e2]
      rw [e]
      have hl : (txK (Lib.decDigits (j / 10).toNat)).size ≤ 4 := by rw [tx_sizeK]; exact dec_lenK _ (by omega)
      have ih : ∀ W : World, Calls Try.prog 50 #[.int .i64 (j / 10)] W fun e w' => e = .returned (.string (txK (Lib.decDigits (j / 10).toNat))) ∧ Below W.heap.size W w' := fun W => dec_anyK f (j / 10) W (by omega) (by omega) (by omega)
      have hcv2 : (convert 22 9 (.slice (some ⟨w.heap.size, 0, none⟩) 1 1)).run Try.prog (w.alloc (.cells #[.int .u8 (48 + j % 10)] 5)).drew = .ok (.string ⟨#[UInt8.ofNat (48 + j % 10).toNat]⟩) (w.alloc (.cells #[.int .u8 (48 + j % 10)] 5)).drew := conv_cellK _ _ _ (by simp)
      have hq : IntKind.i64.wrap (j.tdiv 10) = j / 10 := by rw [Int.tdiv_eq_ediv_of_nonneg h0]; simp [IntKind.wrap, IntKind.bits, IntKind.signed]; omega
      have hr : j.tmod 10 = j % 10 := Int.tmod_eq_emod_of_nonneg h0
      have h2 : IntKind.i64.wrap (48 + j % 10) = 48 + j % 10 := by simp [IntKind.wrap, IntKind.bits, IntKind.signed]; omega
      have h3 : IntKind.u8.wrap (48 + j % 10) = 48 + j % 10 := by simp [IntKind.wrap, IntKind.bits, IntKind.signed]; omega
      go_enter Try.func50, Try.ntmps50
      go_wp2
      go_region_with (first
        | (go_at_call 50; with_reducible refine (ih w.drew).mono ?_; rintro e w1 ⟨rfl, hb1⟩)
        | (go_at_call 50; with_reducible refine (ih (w.alloc (.cells #[.int .u8 (48 + j % 10)] 5)).drew).mono ?_; rintro e w1 ⟨rfl, hb1⟩; have hcv1 := conv_cellK (48 + j % 10) w.heap.size w1 ((hb1.cell (p := ⟨w.heap.size, 0, none⟩) (by simp)).trans (by simp))))
      all_goals go_wp2
      all_goals go_ret
      · exact ⟨congrArg (fun s => Ending.returned (.string s)) (tx_appK _ [_]), ((Below.refl _ _).drew.trans hb1).alloc hb1.size _⟩
      · exact ⟨congrArg (fun s => Ending.returned (.string s)) (tx_appK _ [_]), ((Below.refl _ _).alloc (Nat.le_refl _) _).drew.trans (hb1.mono (by simp))⟩
      · exact ⟨congrArg (fun s => Ending.returned (.string s)) (tx_appK _ [_]), ((Below.refl _ _).alloc (Nat.le_refl _) _).drew.trans (hb1.mono (by simp))⟩
theorem dec_rdK (j : Int) (w : World) (h0 : 0 ≤ j) (h1 : j ≤ 99) : Calls Try.prog 50 #[.int .i64 j] w fun e w' => ∃ s, e = .returned (.string s) ∧ s.size ≤ 4 ∧ Below w.heap.size w w' :=
  (dec_anyK (j.toNat + 1) j w (by omega) h0 (by omega)).mono fun e w' h => ⟨_, h.1, by rw [tx_sizeK]; exact dec_lenK _ (by omega), h.2⟩
end Go.Proofs.Ytgjcppdeljoimaa

namespace Go.Proofs.Ytgjcppdeljoimaa
open Go.RowKit
structure Rd (R : Nat) (w : World) (ob : Option Addr) (n cb : Nat) (p : Int) (f : Nat → Int) : Prop where
  at_ : w.heap[R]? = some (.cells #[.slice ob n cb, .int .i64 p] 59 (0, 0))
  le : n ≤ 2000
  p0 : 0 ≤ p
  p1 : p ≤ 100000
  fb : ∀ i, 0 ≤ f i ∧ f i ≤ 255
  ce : ∀ i, i < n → ∃ b off, ob = some ⟨b, off, none⟩ ∧ b < R ∧ w.cell? ⟨b, off + i, none⟩ = some (.int .u8 (f i))
theorem wrap_i64 (n : Int) (h0 : 0 ≤ n) (h1 : n < 9223372036854775808) : IntKind.i64.wrap n = n := by
  simp [IntKind.wrap, IntKind.bits, IntKind.signed]; omega
theorem xor_i64 (a b : Int) (a0 : 0 ≤ a) (a1 : a ≤ 1000000000) (b0 : 0 ≤ b) (b1 : b ≤ 1000000000) : 0 ≤ bits .xor .i64 a b := by
  obtain ⟨x, rfl⟩ := Int.eq_ofNat_of_zero_le a0
  obtain ⟨y, rfl⟩ := Int.eq_ofNat_of_zero_le b0
  have hx : x ^^^ y < 2 ^ 32 := Nat.xor_lt_two_pow (by omega) (by omega)
  have h1 : (BitVec.ofInt 64 (x : Int)).toNat = x := by
    rw [BitVec.ofInt_natCast, BitVec.toNat_ofNat]; exact Nat.mod_eq_of_lt (by omega)
  have h2 : (BitVec.ofInt 64 (y : Int)).toNat = y := by
    rw [BitVec.ofInt_natCast, BitVec.toNat_ofNat]; exact Nat.mod_eq_of_lt (by omega)
  show 0 ≤ IntKind.i64.wrap ((BitVec.ofInt 64 (x : Int) ^^^ BitVec.ofInt 64 (y : Int)).toNat : Int)
  rw [BitVec.toNat_xor, h1, h2, wrap_i64 _ (by omega) (by omega)]
  omega
set_option maxRecDepth 100000 in
set_option maxHeartbeats 1000000 in
theorem pick_any (R : Nat) (ob : Option Addr) (n cb : Nat) (p m : Int) (f : Nat → Int) (w : World) (h : Rd R w ob n cb p f) (hm : 1 ≤ m) (hm2 : m ≤ 1000) :
    Calls Try.prog 28 #[.pointer (some ⟨R, 0, none⟩), .int .i64 m] w fun e w' => ∃ x q, e = .returned (.int .i64 x) ∧ 0 ≤ x ∧ x < m ∧ w' = (w.setCell ⟨R, 1, none⟩ (.int .i64 (p + 1))).drewN q := by
  obtain ⟨c0, f0⟩ := cell_row h.at_ 0 (.slice ob n cb) rfl
  obtain ⟨c1, f1⟩ := cell_row h.at_ 1 (.int .i64 p) rfl
  have hn := h.le
  have hp0 := h.p0
  have hp1 := h.p1
  by_cases hz : n = 0
  · subst hz
    go_enter Try.func28, Try.ntmps28
    go_wp2
    go_ret
    exact ⟨0, 0, rfl, by omega, by omega, rfl⟩
  · have hm1 : decide (m < 1) = false := by simp; omega
    have hz1 : ((n : Int) == 0) = false := by simp; omega
    by_cases hk : p < n
    · obtain ⟨k, rfl⟩ := Int.eq_ofNat_of_zero_le hp0
      obtain ⟨b, off, rfl, hbR, hcb⟩ := h.ce k (by omega)
      have hfb := h.fb k
      have hne : ¬ b = R := by omega
      go_enter Try.func28, Try.ntmps28
      go_wp2
      go_ret
      exact ⟨f k % m, 0, rfl, Int.emod_nonneg _ (by omega), Int.emod_lt_of_pos _ (by omega), rfl⟩
    · obtain ⟨k, rfl⟩ := Int.eq_ofNat_of_zero_le hp0
      obtain ⟨b, off, rfl, hbR, hc1⟩ := h.ce (k % n) (Nat.mod_lt _ (by omega))
      obtain ⟨b2, off2, e2, hbR2, hc2⟩ := h.ce ((k * 7 + 3) % n) (Nat.mod_lt _ (by omega))
      have hb1 := h.fb (k % n)
      have hb2 := h.fb ((k * 7 + 3) % n)
      generalize f (k % n) = x1 at hc1 hb1
      generalize f ((k * 7 + 3) % n) = x2 at hc2 hb2
      cases e2
      have hne : ¬ b = R := by omega
      have i1 := Int.emod_nonneg (k : Int) (show (n : Int) ≠ 0 by omega)
      have i2 := Int.emod_lt_of_pos (k : Int) (show (0 : Int) < n by omega)
      have i3 := Int.emod_nonneg ((k : Int) * 7 + 3) (show (n : Int) ≠ 0 by omega)
      have i4 := Int.emod_lt_of_pos ((k : Int) * 7 + 3) (show (0 : Int) < n by omega)
      have i5 : 0 ≤ (k : Int) / (n : Int) := Int.ediv_nonneg (by omega) (by omega)
      have i6 : (k : Int) / (n : Int) ≤ k := Int.ediv_le_self _ (by omega)
      go_enter Try.func28, Try.ntmps28
      go_wp2
      go_region
      go_wp2
      go_ret
      have hx := xor_i64 (x1 * 131 + x2 * 1117 + (k : Int) * 29 + (k : Int) / (n : Int) * 53) ((x1 * 131 + x2 * 1117 + (k : Int) * 29 + (k : Int) / (n : Int) * 53) / 64) (by omega) (by omega) (by omega) (by omega)
      refine ⟨_, 1, rfl, ?_, ?_, rfl⟩
      · exact Int.tmod_nonneg _ hx
      · exact Int.tmod_lt_of_pos _ (by omega)
theorem Rd.next {R : Nat} {w : World} {ob : Option Addr} {n cb : Nat} {p : Int} {f : Nat → Int} (h : Rd R w ob n cb p f) (hp : p + 1 ≤ 100000) (q : Nat) : Rd R ((w.setCell ⟨R, 1, none⟩ (.int .i64 (p + 1))).drewN q) ob n cb (p + 1) f := by
  have hp0 := h.p0
  refine ⟨?_, h.le, by omega, hp, h.fb, fun i hi => ?_⟩
  · show (w.setCell ⟨R, 1, none⟩ (.int .i64 (p + 1))).heap[R]? = _
    simp [World.setCell, Array.getElem?_modify, h.at_]
  · obtain ⟨b, off, h1, h2, h3⟩ := h.ce i hi
    refine ⟨b, off, h1, h2, ?_⟩
    show (w.setCell ⟨R, 1, none⟩ (.int .i64 (p + 1))).cell? ⟨b, off + i, none⟩ = _
    rw [World.cell?_of_block (w := w) (a := ⟨b, off + i, none⟩) (Below.heap_setCell w ⟨R, 1, none⟩ _ b (by show b ≠ R; omega))]
    exact h3
theorem Rd.alloc {R : Nat} {w : World} {ob : Option Addr} {n cb : Nat} {p : Int} {f : Nat → Int} (h : Rd R w ob n cb p f) (o : Obj) : Rd R (w.alloc o) ob n cb p f := by
  have hR : R < w.heap.size := (Array.getElem?_eq_some_iff.1 h.at_).1
  refine ⟨(Below.heap_alloc w o R hR).trans h.at_, h.le, h.p0, h.p1, h.fb, fun i hi => ?_⟩
  obtain ⟨b, off, h1, h2, h3⟩ := h.ce i hi
  exact ⟨b, off, h1, h2, (World.cell?_of_block (w := w) (a := ⟨b, off + i, none⟩) (Below.heap_alloc w o b (by omega))).trans h3⟩
theorem open_any (ob : Option Addr) (n cb : Nat) (w : World) (hn : n ≤ maxLen) (hnc : n ≤ cb) (h0 : 1 ≤ n → ∃ a, ob = some a) :
    Calls Try.prog 12 #[.slice ob n cb] w fun e w' => ∃ n' , n' ≤ 2000 ∧ n' ≤ n ∧ e = .returned (.pointer (some ⟨w.heap.size, 0, none⟩)) ∧ w' = w.alloc (.cells #[.slice ob n' cb, .int .i64 0] 59) := by
  unfold maxLen at hn
  by_cases hb : n ≤ 2000
  · go_enter Try.func12, Try.ntmps12
    go_wp2
    go_ret
    exact ⟨n, hb, Nat.le_refl _, rfl, rfl⟩
  · obtain ⟨a, rfl⟩ := h0 (by omega)
    go_enter Try.func12, Try.ntmps12
    go_wp2
    go_ret
    exact ⟨2000, by omega, by omega, rfl, rfl⟩
structure Kp (R : Nat) (w0 w : World) (ob : Option Addr) (n cb : Nat) (p : Int) (f : Nat → Int) : Prop where
  rd : Rd R w ob n cb p f
  bel : Below R w0 w
theorem Kp.alloc {R : Nat} {w0 w : World} {ob : Option Addr} {n cb : Nat} {p : Int} {f : Nat → Int} (h : Kp R w0 w ob n cb p f) (o : Obj) : Kp R w0 (w.alloc o) ob n cb p f :=
  ⟨h.rd.alloc o, h.bel.alloc (by have := (Array.getElem?_eq_some_iff.1 h.rd.at_).1; omega) o⟩
theorem Kp.lt {R : Nat} {w0 w : World} {ob : Option Addr} {n cb : Nat} {p : Int} {f : Nat → Int} (h : Kp R w0 w ob n cb p f) : R < w.heap.size := (Array.getElem?_eq_some_iff.1 h.rd.at_).1
theorem Kp.grown {R : Nat} {w0 w w' : World} {ob : Option Addr} {n cb : Nat} {p : Int} {f : Nat → Int} {row : Option Nat} (h : Kp R w0 w ob n cb p f) (hg : w.grownBy w' row) (hr : ∀ k, row = some k → R + 1 ≤ k) : Kp R w0 w' ob n cb p f := by
  have hR := h.lt
  have hne : ∀ b, b ≤ R → some b ≠ row := fun b hb e => by have := hr b e.symm; omega
  refine ⟨⟨(hg.block R hR (hne R (Nat.le_refl _))).trans h.rd.at_, h.rd.le, h.rd.p0, h.rd.p1, h.rd.fb, fun i hi => ?_⟩, h.bel.grown hg (by omega) (fun k hk => by have := hr k hk; omega)⟩
  obtain ⟨b, off, h1, h2, h3⟩ := h.rd.ce i hi
  exact ⟨b, off, h1, h2, (World.cell?_of_block (w := w) (a := ⟨b, off + i, none⟩) (hg.block b (by omega) (hne b (by omega)))).trans h3⟩
theorem dec_k {k : Nat} (h : 0 < k) : Value.int .i64 ((k : Int) - 1) = .int .i64 ((k - 1 : Nat) : Int) := by
  rw [show ((k : Int) - 1) = ((k - 1 : Nat) : Int) from by omega]
end Go.Proofs.Ytgjcppdeljoimaa

namespace Go.Proofs.Ytgjcppdeljoimaa
open Go.RowKit
theorem Rd.but {R : Nat} {w w' : World} {ob : Option Addr} {n cb : Nat} {p : Int} {f : Nat → Int} (h : Rd R w ob n cb p f) (hb : ∀ b, b ≤ R → w'.heap[b]? = w.heap[b]?) : Rd R w' ob n cb p f := by
  refine ⟨(hb R (Nat.le_refl _)).trans h.at_, h.le, h.p0, h.p1, h.fb, fun i hi => ?_⟩
  obtain ⟨b, off, h1, h2, h3⟩ := h.ce i hi
  exact ⟨b, off, h1, h2, (World.cell?_of_block (w := w) (a := ⟨b, off + i, none⟩) (hb b (by omega))).trans h3⟩
theorem Rd.lt {R : Nat} {w : World} {ob : Option Addr} {n cb : Nat} {p : Int} {f : Nat → Int} (h : Rd R w ob n cb p f) : R < w.heap.size := (Array.getElem?_eq_some_iff.1 h.at_).1
theorem lit_at (t : TypeId) (W : World) (l : List ByteArray) (hl : l.length ≤ maxLen) (hz : ∀ s ∈ l, s.size ≤ maxLen) : AtL (fun b => b = W.heap.size) (W.alloc (.cells (l.map Value.string).toArray t)) l (.slice (some ⟨W.heap.size, 0, none⟩) l.length l.length) := by
  refine ⟨_, _, rfl, ⟨hl, Nat.le_refl _, fun h => by cases h⟩, fun i hi => ⟨_, _, rfl, rfl, fun _ => .string l[i], fun j hj => ?_, ?_⟩⟩
  · rw [width_str] at hj ⊢
    have ej : j = 0 := by omega
    subst ej
    have h2 := heap_alloc_new W (.cells (l.map Value.string).toArray t)
    rw [Nat.mul_one, Nat.zero_add, Nat.add_zero]
    exact (cell_row h2 i _ (by simp [hi])).1
  · rw [at_str]; exact ⟨rfl, hz _ (List.getElem_mem hi)⟩
set_option maxRecDepth 100000 in
set_option maxHeartbeats 4000000 in
theorem pick_rd (R : Nat) (ob : Option Addr) (n cb : Nat) (f : Nat → Int) (p : Int) (m : Int) (w : World) (h : Rd R w ob n cb p f) (hp : p ≤ 90000) (hm : 1 ≤ m) (hm2 : m ≤ 1000) :
    Calls Try.prog 28 #[.pointer (some ⟨R, 0, none⟩), .int .i64 m] w fun e w' => ∃ x, e = .returned (.int .i64 x) ∧ 0 ≤ x ∧ x < m ∧ ∃ p', p' ≤ p + 1 ∧ Hid (Rd R w' ob n cb p' f) ∧ Hid (But (fun k => k = R) w w') := by
  refine (pick_any R ob n cb p m f w h hm hm2).mono ?_
  rintro e w' ⟨x, q, rfl, h0, h1, rfl⟩
  refine ⟨x, rfl, h0, h1, p + 1, Int.le_refl _, h.next (by omega) q, ?_⟩
  have hb := (Below.refl R w).setCell (p := ⟨R, 1, none⟩) (Nat.le_refl _) (.int .i64 (p + 1))
  exact ⟨hb.os, hb.tape, hb.output, hb.size, fun b h1 h2 => Below.heap_setCell w _ _ b h2⟩
set_option maxRecDepth 100000 in
set_option maxHeartbeats 4000000 in
theorem of_rd (R : Nat) (ob : Option Addr) (n cb : Nat) (f : Nat → Int) (p : Int) (S : Nat → Prop) (l : List ByteArray) (v : Value) (w : World) (h : Rd R w ob n cb p f) (hp : p ≤ 90000) (hat : AtL S w l v) (hS : ∀ b, S b → b < w.heap.size ∧ b ≠ R) (h1 : 1 ≤ l.length) (h2 : l.length ≤ 1000) :
    Calls Try.prog 45 #[.pointer (some ⟨R, 0, none⟩), v] w fun e w' => ∃ s, s ∈ l ∧ e = .returned (.string s) ∧ ∃ p', p' ≤ p + 1 ∧ Hid (Rd R w' ob n cb p' f) ∧ Hid (But (fun k => k = R) w w') := by
  obtain ⟨oa, cap, rfl, hn, hc⟩ := hat
  obtain ⟨m, em⟩ : ∃ m, l.length = m := ⟨_, rfl⟩
  have EM : Hid (l.length = m) := em
  rw [em]
  rw [em] at h1 h2
  have HC : Hid _ := hc
  have HS : Hid _ := hS
  have H : Hid (Rd R w ob n cb p f) := h
  clear em hn hc hS h
  go_enter Try.func45, Try.ntmps45
  go_wp2_with fail
  refine (pick_rd R ob n cb f p m w H.out hp (by omega) (by omega)).mono ?_
  rintro e w1 ⟨x, rfl, hx0, hx1, p', hp', rd1, bt1⟩
  obtain ⟨i, rfl⟩ := Int.eq_ofNat_of_zero_le hx0
  have hi : i < l.length := by have := EM.out; omega
  obtain ⟨b, off, rfl, hbS, c, h3, h4⟩ := HC.out i hi
  have e0 := h3 0 (by decide)
  rw [h4.1, width_str, Nat.mul_one, Nat.add_zero] at e0
  have e1 : w1.cell? ⟨b, off + i, none⟩ = some (.string (l[i]'hi)) := (World.cell?_of_block (w := w) (a := ⟨b, off + i, none⟩) (bt1.out.block b (HS.out b hbS).1 (HS.out b hbS).2)).trans e0
  obtain ⟨s, es⟩ : ∃ s, s = l[i]'hi := ⟨_, rfl⟩
  rw [← es] at e1
  have HM : Hid (s ∈ l) := by show s ∈ l; rw [es]; exact List.getElem_mem hi
  clear es h3 h4 e0 HC
  go_wp2
  go_ret
  exact ⟨s, HM.out, rfl, p', hp', rd1, bt1⟩
end Go.Proofs.Ytgjcppdeljoimaa

namespace Go.Proofs.Ytgjcppdeljoimaa
open Go.RowKit Go.Sort
structure Ds (R P B : Nat) (W : World) (ob : Option Addr) (n cb : Nat) (f : Nat → Int) (v0 v1 v2 v3 : Value) (X : PlL) (c : Int) (w : World) : Prop where
  rd : ∃ q, q ≤ c ∧ Rd R w ob n cb q f
  bt : But (fun b => b = R ∨ b = P) W w
  bx : w.heap[P]? = some (.cells #[v0, v1, v2, v3] 28 (0, 0))
  pl : PlR B w v0 v1 v2 v3 X
  ok : X.Ok
  low : R < P ∧ P < B ∧ B ≤ W.heap.size
section
variable {R P B : Nat} {W : World} {ob : Option Addr} {n cb : Nat} {f : Nat → Int} {v0 v1 v2 v3 : Value} {X : PlL} {c : Int} {w w' : World}
theorem Ds.size (h : Ds R P B W ob n cb f v0 v1 v2 v3 X c w) : W.heap.size ≤ w.heap.size := h.bt.size
theorem PlR.block {B : Nat} {w w' : World} {v0 v1 v2 v3 : Value} {X : PlL} (h : PlR B w v0 v1 v2 v3 X) (hb : ∀ g, B ≤ g → g < w.heap.size → w'.heap[g]? = w.heap[g]?) : PlR B w' v0 v1 v2 v3 X :=
  ⟨h.s.block fun g hg => hb g (World.ownsRow.lt h.s g hg).1 (World.ownsRow.lt h.s g hg).2, h.f.block fun g hg => hb g (World.ownsRow.lt h.f g hg).1 (World.ownsRow.lt h.f g hg).2, h.p.block fun g hg => hb g (World.ownsRow.lt h.p g hg).1 (World.ownsRow.lt h.p g hg).2, h.v.block fun g hg => hb g (World.ownsRow.lt h.v g hg).1 (World.ownsRow.lt h.v g hg).2⟩
theorem Ds.but {c' : Int} (h : Ds R P B W ob n cb f v0 v1 v2 v3 X c w) (hb : But (fun b => b = R) w w') (hr : ∃ q, q ≤ c' ∧ Rd R w' ob n cb q f) : Ds R P B W ob n cb f v0 v1 v2 v3 X c' w' := by
  have hs := h.size
  have hl := h.low
  refine ⟨hr, h.bt.trans (hb.up fun b e => .inl e), (hb.block P (by omega) (fun e => by have e' : P = R := e; omega)).trans h.bx, h.pl.block fun g hg hlt => hb.block g hlt (fun e => ?_), h.ok, hl⟩
  have e' : g = R := e
  omega
theorem Ds.below (h : Ds R P B W ob n cb f v0 v1 v2 v3 X c w) (hb : Below w.heap.size w w') : Ds R P B W ob n cb f v0 v1 v2 v3 X c w' := by
  have hs := h.size
  have hl := h.low
  obtain ⟨q, hq, hr⟩ := h.rd
  exact ⟨⟨q, hq, hr.but fun b hb' => hb.block b (by omega)⟩, h.bt.trans (But.of_below hb), (hb.block P (by omega)).trans h.bx, h.pl.below hb, h.ok, hl⟩
theorem Ds.base (h : Ds R P B W ob n cb f v0 v1 v2 v3 X c w) : Ds R P B w ob n cb f v0 v1 v2 v3 X c w := ⟨h.rd, But.refl _ _, h.bx, h.pl, h.ok, h.low.1, h.low.2.1, Nat.le_trans h.low.2.2 h.size⟩
theorem Ds.rebase {W' : World} (h : Ds R P B W ob n cb f v0 v1 v2 v3 X c w) (hb : But (fun b => b = R ∨ b = P) W' W) (hB : B ≤ W'.heap.size) : Ds R P B W' ob n cb f v0 v1 v2 v3 X c w := ⟨h.rd, hb.trans h.bt, h.bx, h.pl, h.ok, h.low.1, h.low.2.1, hB⟩
theorem Ds.up {c' : Int} (h : Ds R P B W ob n cb f v0 v1 v2 v3 X c w) (hc : c ≤ c') : Ds R P B W ob n cb f v0 v1 v2 v3 X c' w := by
  obtain ⟨q, hq, hr⟩ := h.rd
  exact ⟨⟨q, by omega, hr⟩, h.bt, h.bx, h.pl, h.ok, h.low⟩
theorem pick_ds (h : Ds R P B W ob n cb f v0 v1 v2 v3 X c w) (hc : c ≤ 80000) (m : Int) (hm : 1 ≤ m) (hm2 : m ≤ 1000) :
    Calls Try.prog 28 #[.pointer (some ⟨R, 0, none⟩), .int .i64 m] w fun e w' => ∃ x, e = .returned (.int .i64 x) ∧ 0 ≤ x ∧ x < m ∧ Ds R P B W ob n cb f v0 v1 v2 v3 X (c + 1) w' := by
  obtain ⟨q, hq, hr⟩ := h.rd
  refine (pick_rd R ob n cb f q m w hr (by omega) hm hm2).mono ?_
  rintro e w' ⟨x, rfl, h0, h1, p', hp', hrd, hbt⟩
  exact ⟨x, rfl, h0, h1, h.but hbt.out ⟨p', by omega, hrd.out⟩⟩
theorem of_ds (h : Ds R P B W ob n cb f v0 v1 v2 v3 X c w) (hc : c ≤ 80000) (S : Nat → Prop) (l : List ByteArray) (v : Value) (hat : AtL S w l v) (hS : ∀ b, S b → b < w.heap.size ∧ b ≠ R) (h1 : 1 ≤ l.length) (h2 : l.length ≤ 1000) :
    Calls Try.prog 45 #[.pointer (some ⟨R, 0, none⟩), v] w fun e w' => ∃ s, s ∈ l ∧ e = .returned (.string s) ∧ Ds R P B W ob n cb f v0 v1 v2 v3 X (c + 1) w' := by
  obtain ⟨q, hq, hr⟩ := h.rd
  refine (of_rd R ob n cb f q S l v w hr (by omega) hat hS h1 h2).mono ?_
  rintro e w' ⟨s, hs, rfl, p', hp', hrd, hbt⟩
  exact ⟨s, hs, rfl, h.but hbt.out ⟨p', by omega, hrd.out⟩⟩
theorem of_row (h : Ds R P B W ob n cb f v0 v1 v2 v3 X c w) (hc : c ≤ 80000) (h1 : 1 ≤ X.ss.length) :
    Calls Try.prog 45 #[.pointer (some ⟨R, 0, none⟩), v0] w fun e w' => ∃ s, s ∈ X.ss ∧ e = .returned (.string s) ∧ Ds R P B W ob n cb f v0 v1 v2 v3 X (c + 1) w' := by
  have hl := h.low
  have hat : AtL (fun b => B ≤ b ∧ b < w.heap.size) w (X.ss.map id) v0 := Row.at_ h.pl.s id rfl (fun g hg => World.ownsRow.lt h.pl.s g hg) (fun x hx => ⟨rfl, h.ok.s x hx⟩)
  rw [List.map_id] at hat
  exact of_ds h hc _ X.ss v0 hat (fun b hb => ⟨hb.2, by omega⟩) h1 (by have := h.ok.ns; omega)
theorem Ds.store {u0 u1 u2 u3 : Value} {Y : PlL} (h : Ds R P B W ob n cb f v0 v1 v2 v3 X c w) (hp : PlR B w u0 u1 u2 u3 Y) (ho : Y.Ok) : Ds R P B W ob n cb f u0 u1 u2 u3 Y c ((((w.setCell ⟨P, 0, none⟩ u0).setCell ⟨P, 1, none⟩ u1).setCell ⟨P, 2, none⟩ u2).setCell ⟨P, 3, none⟩ u3) := by
  have hl := h.low
  have hs := h.size
  obtain ⟨r1, r2, r3, r4⟩ := ret4 h.bx u0 u1 u2 u3
  obtain ⟨q, hq, hr⟩ := h.rd
  refine ⟨⟨q, hq, ?_⟩, (((h.bt.set (.inr rfl) 0 u0).set (.inr rfl) 1 u1).set (.inr rfl) 2 u2).set (.inr rfl) 3 u3, r1, hp.block fun g hg _ => r2 g (by omega), ho, hl⟩
  exact hr.but fun b hb => r2 b (by omega)
end
end Go.Proofs.Ytgjcppdeljoimaa
