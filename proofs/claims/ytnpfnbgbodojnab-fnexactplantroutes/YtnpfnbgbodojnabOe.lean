/-
  Contracts of the program's small functions on a way: its last place, and the way one valve longer, in lists of its own.
-/
import Derived.Test.YtnpfnbgbodojnabOj
import Derived.Test.YtnpfnbgbodojnabFr
import Derived.Test.YtnpfnbgbodojnabKt
import Derived.Test.YtnpfnbgbodojnabHc
import Derived.Deep.Cut
namespace Go.Proofs.Ytnpfnbgbodojnab
open Go.RowKit Go.Sort

theorem elS1 : ElT Try.prog 23 9 1 16 := by
  obtain ⟨i, hi, hz, h1, h2⟩ := info_parts info9b
  exact ⟨under24b, ⟨i, _, hi, hz, h1, h2, rfl⟩, by decide⟩

/-- An append that alone may come up now. -/
theorem anyC_append {P : Program} {md : Region.Mode} {ops : Array Oper} {C : World → Prop} {n f : Nat} {L : Array Bool → Act → World → Prop} {listed : Array Bool} {i d : Nat} {o : Oper} {a : Act} {w : World} {t e : TypeId} {size bytes base k m : Nat} {v sv : Value} {xs news : List Value}
    (hc : ops[i]? = some o ∧ o.guard = none ∧ o.dst = some d ∧ i < n) (r0 : Region.ready md ops listed = [i]) (T : ElT P t e size bytes) (s x : Operand) (ho : o.op = .call { callee := .builtin .append, args := #[s, x], argTypes := #[t, t] })
    (hs : a.eval s = v) (hx : a.eval x = sv) (hown : w.ownsRow base e size v k xs) (hsrc : Src w sv m size news) (h1 : ∀ u ∈ news, u.oneCell' = true) (h63 : k + m ≤ maxLen) (hbytes : (k + m) * bytes ≤ 140737488355328) (hbase : base ≤ w.heap.size)
    (K : ∀ v' w', w'.ownsRow base e size v' (k + m) (xs ++ news) → w.grownBy w' v.ownBlock → C w' ∧ anyC P md ops C n L f (listed.setIfInBounds i true) (a.put (some d) v') w') : anyC P md ops C n L (f + 1) listed a w := by
  obtain ⟨c1, c2, c3, c4⟩ := hc
  obtain ⟨v', w', hr, h2, h3, _⟩ := exec_append_at T s x ho hs hx hown hsrc h1 h63 hbytes hbase
  obtain ⟨k1, k2⟩ := K v' w' h2 h3
  refine anyC_step [i] r0 (by simp) (one_list ⟨c4, o, c1, c2, v', w', hr, k1, ?_⟩)
  rw [c3]; exact k2

set_option maxRecDepth 100000 in
set_option maxHeartbeats 1000000 in
theorem last_any (B : Nat) (u v : Value) (m : Nat) (f : Nat → ByteArray) (w : World) (h : Lst B w u (m + 1) 1 (cS f)) (hB : B ≤ w.heap.size) :
    Calls Try.prog 63 #[.agg #[u, v]] w fun e w' => e = .returned (.string (f m)) ∧ Below w.heap.size w w' := by
  obtain ⟨oa, cap, rfl, hn, hc⟩ := h
  unfold maxLen at hn
  obtain ⟨b, off, rfl, hbB, hcell⟩ := hc m (by omega)
  have c0 := cell_past (hcell 0 (by omega)) (by omega) (.cells #[.slice (some ⟨b, off, none⟩) (m + 1) cap, v] 34)
  simp only [cS, Nat.mul_one, Nat.add_zero] at c0
  clear hc hcell
  go_enter Try.func63, Try.ntmps63
  go_wp2
  go_ret
  exact ⟨rfl, (Below.refl _ _).alloc (Nat.le_refl _) _⟩

set_option maxRecDepth 100000 in
set_option maxHeartbeats 8000000 in
theorem withNext_any (B : Nat) (u v : Value) (r : RT) (va pl : ByteArray) (w : World) (h : Lst B w u r.1.length 1 (cS (nthB r.1))) (h' : Lst B w v r.2.length 1 (cS (nthB r.2))) (hB : B ≤ w.heap.size) (hl : r.1.length ≤ 1000) (hl' : r.2.length ≤ 1000)
    (hs : ∀ i, i < r.1.length → (nthB r.1 i).size ≤ 1048576) (hs' : ∀ i, i < r.2.length → (nthB r.2 i).size ≤ 1048576) (hva : va.size ≤ 1048576) (hpl : pl.size ≤ 1048576) :
    Calls Try.prog 101 #[.agg #[u, v], .string va, .string pl] w fun e w' => ∃ z : RR, e = .returned (.agg #[z.u, z.v]) ∧ z.r = (r.1 ++ [pl], r.2 ++ [va]) ∧ RowZ w.heap.size w' z ∧ z.g ≠ z.h ∧ Below w.heap.size w w' := by
  obtain ⟨ou, cu, rfl⟩ := slice_lst h
  obtain ⟨ov, cv, rfl⟩ := slice_lst h'
  obtain ⟨W, hW⟩ : ∃ W, W = (w.alloc (.cells #[.slice ou r.1.length cu, .slice ov r.2.length cv] 34)).alloc (.cells #[.slice none 0 0, .slice none 0 0] 34) := ⟨_, rfl⟩
  have eW : Hid (W = (w.alloc (.cells #[.slice ou r.1.length cu, .slice ov r.2.length cv] 34)).alloc (.cells #[.slice none 0 0, .slice none 0 0] 34)) := hW
  have sW : W.heap.size = w.heap.size + 1 + 1 := by rw [hW]; simp
  have bW : Hid (Below w.heap.size w W) := by rw [hW]; exact ((Below.refl _ _).alloc (Nat.le_refl _) _).alloc (by simp) _
  have hp : W.heap[w.heap.size]? = some (.cells #[.slice ou r.1.length cu, .slice ov r.2.length cv] 34 (0, 0)) := by rw [hW]; exact (Below.heap_alloc _ _ _ (by simp)).trans (heap_alloc_new w _)
  have hr : Hid (W.heap[w.heap.size + 1]? = some (.cells #[.slice none 0 0, .slice none 0 0] 34 (0, 0))) := by
    have := heap_alloc_new (w.alloc (.cells #[.slice ou r.1.length cu, .slice ov r.2.length cv] 34)) (.cells #[.slice none 0 0, .slice none 0 0] 34)
    rw [World.size_alloc] at this
    rw [hW]; exact this
  have x0 := (cell_row hp 0 _ rfl).1
  have x1 := (cell_row hp 1 _ rfl).1
  simp only [List.getElem_toArray, List.getElem_cons_zero, List.getElem_cons_succ] at x0 x1
  have q0 := fun d os => cell_regrown x0 d os
  have q1 := fun d os => cell_regrown x1 d os
  have L1 : Hid (Lst B W.drew (.slice ou r.1.length cu) r.1.length 1 (cS (nthB r.1))) := h.kept bW.out.drew hB
  have L2 : Hid (∀ w', Below W.heap.size W w' → Lst B w' (.slice ov r.2.length cv) r.2.length 1 (cS (nthB r.2))) := fun w' hb => h'.kept (bW.out.trans (hb.mono (by omega))) hB
  have HS : Hid _ := hs
  have HS' : Hid _ := hs'
  clear hW hp h h' hs hs'
  go_enter Try.func101, Try.ntmps101
  go_upto_region 1 with fail
  rw [← eW.out]
  refine wp_region_mix 14 [0, 1, 3, 7, 8, 10] (by kernel_rfl) (by kernel_rfl) ?_
  simp only [List.filterMap_cons, List.filterMap_nil, List.getElem?_cons_succ, List.getElem?_cons_zero]
  repeat (first | go_big_quiet_step (fail) | quiet_step (fail))
  refine wpQuiet_nil ?_
  clear x0 x1 q0 q1
  refine call1 (md := .any) (f := 7) (i := 2) (dc := 9) (fn := 112) ⟨rfl, rfl, rfl, by decide⟩ (by kernel_rfl) ?run ((freshI_any B _ r.1 W.drew L1.out (by show B ≤ W.heap.size; omega) (by omega) HS.out).mono ?_)
  case run => go_simp
  rintro e w1 ⟨a1, rfl, o1, hb1⟩
  have k1 : Below W.heap.size W w1 := ((Below.refl _ _).drew).trans hb1
  refine ⟨_, rfl, regrown_of_below k1, ?_⟩
  refine call1 (md := .any) (f := 6) (i := 4) (dc := 11) (fn := 33) ⟨rfl, rfl, rfl, by decide⟩ (by kernel_rfl) ?run ((clones_any pl w1 hpl).mono ?_)
  case run => go_simp
  rintro e w2 ⟨rfl, hb2⟩
  have k2 : Below W.heap.size W w2 := k1.trans (hb2.mono k1.size)
  refine ⟨_, rfl, regrown_of_below k2, ?_⟩
  have k3 : Below W.heap.size W (w2.alloc (.cells #[.string pl] 9)) := k2.alloc k2.size _
  refine anyC_step [5] (by kernel_rfl) (by simp) (one_list ⟨by decide, _, rfl, rfl, .slice (some ⟨w2.heap.size, 0, none⟩) 1 1, w2.alloc (.cells #[.string pl] 9), by go_simp, regrown_of_below k3, ?_⟩)
  have b3 : Below w2.heap.size w2 (w2.alloc (.cells #[.string pl] 9)) := (Below.refl _ _).alloc (Nat.le_refl _) _
  have o3 : (w2.alloc (.cells #[.string pl] 9)).ownsRow W.heap.size 9 1 a1 r.1.length (r.1.map .string) := own_belowR (own_belowR o1 hb2) b3
  have ob3 : (w2.alloc (.cells #[.string pl] 9)).ownsRow W.heap.size 9 1 (.slice (some ⟨w2.heap.size, 0, none⟩) 1 1) 1 [.string pl] := own_built k2.size (by unfold maxLen; omega) rfl
  refine anyC_append (i := 6) (d := 13) ⟨rfl, rfl, rfl, by decide⟩ (by kernel_rfl) elS1 (.tmp 9) (.tmp 12) rfl rfl rfl o3 (own_src ob3) (fun x hx => by simp at hx; subst hx; rfl) (by unfold maxLen; omega) (by omega) k3.size ?_
  intro a4 w4 o4 hg4
  have k4 : Below W.heap.size W w4 := k3.grown hg4 k3.size (fun q hq => (o3.lt q hq).1)
  refine ⟨regrown_of_below k4, ?_⟩
  clear hg4 o1 o3 ob3 b3 hb1 hb2
  refine call1 (md := .any) (f := 3) (i := 9) (dc := 16) (fn := 112) ⟨rfl, rfl, rfl, by decide⟩ (by kernel_rfl) ?run ((freshI_any B _ r.2 w4 (L2.out w4 k4) (by have := k4.size; omega) (by omega) HS'.out).mono ?_)
  case run => go_simp
  rintro e w5 ⟨a5, rfl, o5, hb5⟩
  have k5 : Below W.heap.size W w5 := k4.trans (hb5.mono k4.size)
  have p5 := own_belowR o4 hb5
  refine ⟨_, rfl, regrown_of_below k5, ?_⟩
  refine call1 (md := .any) (f := 2) (i := 11) (dc := 18) (fn := 33) ⟨rfl, rfl, rfl, by decide⟩ (by kernel_rfl) ?run ((clones_any va w5 hva).mono ?_)
  case run => go_simp
  rintro e w6 ⟨rfl, hb6⟩
  have k6 : Below W.heap.size W w6 := k5.trans (hb6.mono k5.size)
  refine ⟨_, rfl, regrown_of_below k6, ?_⟩
  have k7 : Below W.heap.size W (w6.alloc (.cells #[.string va] 9)) := k6.alloc k6.size _
  refine anyC_step [12] (by kernel_rfl) (by simp) (one_list ⟨by decide, _, rfl, rfl, .slice (some ⟨w6.heap.size, 0, none⟩) 1 1, w6.alloc (.cells #[.string va] 9), by go_simp, regrown_of_below k7, ?_⟩)
  have b7 : Below w6.heap.size w6 (w6.alloc (.cells #[.string va] 9)) := (Below.refl _ _).alloc (Nat.le_refl _) _
  have o7 : (w6.alloc (.cells #[.string va] 9)).ownsRow w4.heap.size 9 1 a5 r.2.length (r.2.map .string) := own_belowR (own_belowR o5 hb6) b7
  have p7 := own_belowR (own_belowR p5 hb6) b7
  have ob7 : (w6.alloc (.cells #[.string va] 9)).ownsRow w4.heap.size 9 1 (.slice (some ⟨w6.heap.size, 0, none⟩) 1 1) 1 [.string va] := own_built (by have := hb5.size; have := hb6.size; omega) (by unfold maxLen; omega) rfl
  have ap : apV a5 a4 := apV.fresh o7 (Nat.le_refl _) o4
  refine anyC_append (i := 13) (d := 20) ⟨rfl, rfl, rfl, by decide⟩ (by kernel_rfl) elS1 (.tmp 16) (.tmp 19) rfl rfl rfl o7 (own_src ob7) (fun x hx => by simp at hx; subst hx; rfl) (by unfold maxLen; omega) (by omega) (by have := hb5.size; have := hb6.size; simp; omega) ?_
  intro a8 w8 o8 hg8
  have k8 : Below W.heap.size W w8 := k7.grown hg8 k7.size (fun q hq => by have := (o7.lt q hq).1; have := k4.size; omega)
  have p8 := own_beside p7 hg8 ap
  refine ⟨regrown_of_below k8, ?_⟩
  refine ⟨by kernel_rfl, ?_⟩
  simp only [List.drop_succ_cons, List.drop_zero]
  obtain ⟨gp, GP, _⟩ := RowG.of_own (l := r.1 ++ [pl]) (by simpa using p8) (by simp)
  obtain ⟨gq, GQ, _⟩ := RowG.of_own (l := r.2 ++ [va]) (by simpa using o8) (by simp)
  have hne : gp ≠ gq := fun e => by
    have h1 := (o4.lt gp GP.blk.1).2
    have h2 := GQ.blk.2
    omega
  have RP : Hid (RowG W.heap.size w8 a4 (r.1 ++ [pl]) gp) := GP
  have RQ : Hid (RowG W.heap.size w8 a8 (r.2 ++ [va]) gq) := GQ.le (by have := k4.size; omega)
  have HNE : Hid (gp ≠ gq) := hne
  have K8 : Hid (Below W.heap.size W w8) := k8
  have hres := (k8.block _ (by omega)).trans hr.out
  obtain ⟨rr0, rf0⟩ := cell_row hres 0 _ rfl
  obtain ⟨rr1, rf1⟩ := cell_row hres 1 _ rfl
  have lp : (r.1 ++ [pl]).length = r.1.length + 1 := by simp
  have lq : (r.2 ++ [va]).length = r.2.length + 1 := by simp
  obtain ⟨cp, _, ep, _⟩ := GP
  obtain ⟨cq, _, eq, _⟩ := GQ
  rw [lp] at ep
  rw [lq] at eq
  subst ep eq
  have f0 := (cell_row (set_row (set_row hres 0 (.slice (some ⟨gp, 0, none⟩) (r.1.length + 1) cp)) 1 (.slice (some ⟨gq, 0, none⟩) (r.2.length + 1) cq)) 0 (.slice (some ⟨gp, 0, none⟩) (r.1.length + 1) cp) rfl).1
  have f1 := (cell_row (set_row (set_row hres 0 (.slice (some ⟨gp, 0, none⟩) (r.1.length + 1) cp)) 1 (.slice (some ⟨gq, 0, none⟩) (r.2.length + 1) cq)) 1 (.slice (some ⟨gq, 0, none⟩) (r.2.length + 1) cq) rfl).1
  clear hg8 o8 p8 p7 p5 o7 ob7 ap o4 o5 k1 k2 k3 k4 k5 k6 k7 k8 b7 hb5 hb6 hne lp lq
  simp only [Act.put, List.setIfInBounds_toArray, List.set_cons_zero, List.set_cons_succ]
  go_wp2_with fail
  refine bodyPost_ret (v := .agg #[.slice (some ⟨gp, 0, none⟩) (r.1.length + 1) cp, .slice (some ⟨gq, 0, none⟩) (r.2.length + 1) cq]) (by simp [results, Try.results101, go_sem, f0, f1]) rfl ⟨⟨(r.1 ++ [pl], r.2 ++ [va]), _, _, gp, gq⟩, rfl, rfl, ⟨?_, ?_⟩, HNE.out, ?_⟩
  · have hb := RP.out.blk.2
    exact (RP.out.le (by omega)).same (((Below.heap_setCell _ _ _ _ (by show gp ≠ w.heap.size + 1; omega)).trans (Below.heap_setCell _ _ _ _ (by show gp ≠ w.heap.size + 1; omega))))
  · have hb := RQ.out.blk.2
    exact (RQ.out.le (by omega)).same (((Below.heap_setCell _ _ _ _ (by show gq ≠ w.heap.size + 1; omega)).trans (Below.heap_setCell _ _ _ _ (by show gq ≠ w.heap.size + 1; omega))))
  · exact ((bW.out.trans (K8.out.mono (by omega))).setCell (by show w.heap.size ≤ w.heap.size + 1; omega) _).setCell (by show w.heap.size ≤ w.heap.size + 1; omega) _

end Go.Proofs.Ytnpfnbgbodojnab
