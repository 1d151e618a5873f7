/-
  Several texts in one.
-/
import Derived.Test.YtidojjecjjochadGreatDoorM31
import Derived.Test.YtidojjecjjochadGreatDoorM26
/-
  Laws on a region that draws its order, step by step, in a class of worlds. No program is named here.
-/
namespace Go.Proofs.YtidojjecjjochadGreatDoor
open Go.Sort

section
variable {P : Program}
/-- The same laws in a class of worlds: what only reads what is the same in all of them is taken first. -/
theorem wp_region_movesC {id : Nat} {Q : Exit → Act → World → Prop} {a : Act} {w : World} {l : List Oper} (C : World → Prop) (n : Nat) (ks : List Nat) (hm : P.follows .mixedOrders = true) (hB : movesB l n ks = true) (hC : C w.drew)
    (h : anyH P .any l.toArray C n (tailC P Q l n) (n - ks.length) (doneV l ks) (movD (ks.filterMap fun k => l[k]?) a) w.drew) : (Code.region id l.toArray true).wp P Q a w := by
  simp only [movesB, Bool.and_eq_true, decide_eq_true_eq] at hB
  obtain ⟨⟨⟨⟨⟨hsel, hn⟩, hkn⟩, hs1⟩, hc1⟩, hm1⟩ := hB
  have hn' : n < l.toArray.size := by simpa using hn
  have hdl : (l.drop n).length = l.length - n := by simp
  have inv1 : HeadInv .any l.toArray n (Array.replicate l.length false) :=
    ⟨by simp, fun j oj _ hl => (by rw [getD_replicate_false] at hl; cases hl), fun t _ ht => getD_in (by simpa using ht) (getD_replicate_false _ _)⟩
  have H0 := anyH_moves (P := P) (md := .any) (C := C) (L := tailC P Q l n) hsel hs1 hc1 hn' (fun listed a w hL => seqB_ready hL.1) _ w.drew hC ks _ _ a (mixV_ops ks _ hm1) inv1 (fun k hk => hk) hm1 h
  have G := any_of_H (Q := Q) (g := l.length - n) (fun listed a' w' hL => by
    have := wpAny_of_seq (P := P) (md := .any) (ops := l.toArray) (Q' := Q) (l.drop n) n listed a' w' (fun j => by simp [List.getElem?_drop]) (by rw [hdl]; exact hL.1) hL.2
    rwa [hdl] at this) _ _ _ _ H0
  rw [show ks.length + (n - ks.length) + (l.length - n) = l.toArray.size by simp; omega] at G
  refine wp_region_any hm ?_
  simpa using G
theorem takeHQ {C : World → Prop} {Q : Exit → Act → World → Prop} {l : List Oper} {n f : Nat} {listed : Array Bool} {i d : Nat} {oi : Oper} {a : Act} {w : World} (v : Value) (hi : l.toArray[i]? = some oi ∧ oi.dst = some d) (hB : takeB l n listed i = true) (hw : Region.wanted oi (yielded l.toArray a.tmps) = true) (hC : C w) (hrun : ∀ w, C w → (execOp a.eval oi).run P w = .ok (.value v) w)
    (h : anyH P .any l.toArray C n (tailC P Q l n) f (listed.setIfInBounds i true) (a.put (some d) v) w) : anyH P .any l.toArray C n (tailC P Q l n) (f + 1) listed a w := by
  obtain ⟨h1, h2⟩ := hi
  simp only [takeB, Bool.and_eq_true, decide_eq_true_eq] at hB
  obtain ⟨⟨⟨⟨⟨⟨⟨hsel, hn⟩, hin⟩, hs⟩, hc⟩, hr⟩, hf⟩, hv⟩ := hB
  have hr' : i ∈ Region.ready .any l.toArray listed := by simpa using hr
  refine anyH_first h1 hsel hs hc (by simpa using hn) hin (fun listed a w hL => seqB_ready hL.1) f listed a w hC (inv_of hv) (fun k hk => by rw [getD_replicate_false] at hk; cases hk) (Region.free_spec h1 hf) hr' (.inl ⟨hw, hrun⟩) ?_
  rw [h2]; exact h
end
end Go.Proofs.YtidojjecjjochadGreatDoor

/-
  Somebody who shares has more, in a book of the call's own: the program's letHave.
-/
namespace Go.Proofs.YtidojjecjjochadGreatDoor
open Go.RowKit Go.Sort

theorem hdX_twoR {x : HB} {m : Nat} (h1 : ∀ b, x.2.1.1.ownBlock = some b → m ≤ b) (h2 : ∀ b, x.2.2.1.ownBlock = some b → b < m) : (hdX x).Nodup := by
  unfold hdX
  rw [List.nodup_append]
  refine ⟨?_, ?_, fun a ha b hb e => ?_⟩
  · cases x.2.1.1.ownBlock <;> simp
  · cases x.2.2.1.ownBlock <;> simp
  · rw [Option.mem_toList] at ha hb
    have := h1 a ha
    have := h2 b hb
    omega

set_option maxRecDepth 100000 in
set_option maxHeartbeats 16000000 in
theorem letHv_any (B gb q : Nat) (v0 v1 : Value) (T : List ByteArray) (L : List HB) (x : ByteArray) (SN : Nat → Prop) (nd : List ByteArray) (on : Option Addr) (nn kn : Nat) (w : World) (hbx : w.heap[gb]? = some (.cells #[v0, v1] 30 (0, 0))) (hp : PkO B w v0 v1 T L) (hgb : B ≤ gb) (hq : atI (L.map dH) x = (q : Int)) (hql : q < L.length) (hL : L.length ≤ 64) (hsm : SmD (T, L.map dH)) (hN : AtL SN w nd (.slice on nn kn)) (hSN : ∀ b, SN b → b < B) (hnl : nd.length ≤ 64) (hnz : ∀ s ∈ nd, s.size ≤ 64) (hasc : AscZ L[q].2.1.2) :
    Calls Tryz.prog 52 #[.pointer (some ⟨gb, 0, none⟩), .agg #[.string x, .slice on nn kn]] w fun e w' => e = .returned (.tuple #[]) ∧ ∃ L', w'.heap[gb]? = some (.cells #[v0, v1] 30 (0, 0)) ∧ PkO B w' v0 v1 T L' ∧ L'.map dH = (L.map dH).set q (askB (dH L[q]) nd) ∧ Below B w w' := by
  have hro := hp.bs.ro
  obtain ⟨o0, k0, rfl⟩ := Row.form hp.th
  rcases hro.2 with ⟨_, h0⟩ | ⟨g, cap, cur, rfl, hbg, hg, hnc, hm, hcs, hxs⟩
  · omega
  clear hxs hcs hm
  have hgl := (Array.getElem?_eq_some_iff.1 hg).1
  have hbl := (Array.getElem?_eq_some_iff.1 hbx).1
  have hne : gb ≠ g := fun e => by subst e; exact tyK_ne hbx hg
  obtain ⟨n, en⟩ : ∃ n, L.length = n := ⟨_, rfl⟩
  obtain ⟨nt, ent⟩ : ∃ n, T.length = n := ⟨_, rfl⟩
  have hql0 := hql
  rw [en] at hql hL hbx hp hro hnc
  rw [ent] at hbx hp
  rw [en, ent]
  obtain ⟨W, hW⟩ : ∃ W, W = w.alloc (.cells #[.string x, .slice on nn kn] 51) := ⟨_, rfl⟩
  have EW : Hid (W = w.alloc (.cells #[.string x, .slice on nn kn] 51)) := hW
  have BW : Hid (Below w.heap.size w W) := by rw [hW]; exact (Below.refl _ _).alloc (Nat.le_refl _) _
  have RX : Hid (W.heap[w.heap.size]? = some (.cells #[.string x, .slice on nn kn] 51 (0, 0))) := by rw [hW]; exact heap_alloc_new w _
  have sW : w.heap.size + 1 ≤ W.heap.size := by rw [hW]; simp
  clear hW
  have HP : Hid (PkO B w (.slice o0 nt k0) (.slice (some ⟨g, 0, none⟩) n cap) T L) := hp
  have HBX : Hid (w.heap[gb]? = some (.cells #[.slice o0 nt k0, .slice (some ⟨g, 0, none⟩) n cap] 30 (0, 0))) := hbx
  have HG : Hid (w.heap[g]? = some (.cells cur 44 (0, 0))) := hg
  have HAT : Hid (∀ u, Below w.heap.size w u → AtL (fun b => b < w.heap.size) u (L.map dH) (.slice (some ⟨g, 0, none⟩) n cap)) := fun u hu => (hp.at_.2.up (fun b hb => hb.2)).same (Same.of_below hu (fun b hb => hb))
  have HEN : Hid (L.length = n) := en
  have HQ : Hid (idxI (L.map dH) (fun p : DShareBatch => eqB p.1 x) = (q : Int)) := hq
  have HB : Hid (B ≤ g ∧ B ≤ gb ∧ B ≤ w.heap.size) := ⟨hbg, hgb, by omega⟩
  have HSM : Hid (SmD (T, L.map dH)) := hsm
  have HSN : Hid (∀ b, SN b → b < B) := hSN
  have HN : Hid (AtL SN w nd (.slice on nn kn)) := hN
  clear hp hbx hg hq hro en ent hbg hgb hsm hSN hN
  go_enter Tryz.func52, Tryz.ntmps52
  go_upto_region 1 with fail
  rw [← EW.out]
  have CELLS : Hid (∀ v, Below W.heap.size W v → v.cell? ⟨gb, 0, none⟩ = some (.slice o0 nt k0) ∧ v.cell? ⟨gb, 1, none⟩ = some (.slice (some ⟨g, 0, none⟩) n cap) ∧ v.cell? ⟨w.heap.size, 0, none⟩ = some (.string x)) := fun v hv => by
    have r1 := (hv.block gb (by omega)).trans ((BW.out.block gb hbl).trans HBX.out)
    have r2 := (hv.block w.heap.size (by omega)).trans RX.out
    exact ⟨(cell_row r1 0 _ rfl).1, (cell_row r1 1 _ rfl).1, (cell_row r2 0 _ rfl).1⟩
  refine wp_region_movesC (fun v => Below W.heap.size W v) 11 [0, 4] (by kernel_rfl) (by kernel_rfl) (Below.refl _ _).drew ?_
  simp only [List.filterMap_cons, List.filterMap_nil, List.getElem?_cons_succ, List.getElem?_cons_zero, movD, mvOf, Act.put]
  refine takeHQ (f := 8) (i := 1) (.pointer (some ⟨gb, 0, none⟩)) ⟨rfl, rfl⟩ (by kernel_rfl) rfl (Below.refl _ _).drew ?r1 ?_
  case r1 => intro v hv; go_simp
  simp only [Act.put, List.setIfInBounds_toArray, List.set_cons_zero, List.set_cons_succ]
  refine takeHQ (f := 7) (i := 2) (.pointer (some ⟨gb, 1, none⟩)) ⟨rfl, rfl⟩ (by kernel_rfl) rfl (Below.refl _ _).drew ?r2 ?_
  case r2 => intro v hv; go_simp
  simp only [Act.put, List.setIfInBounds_toArray, List.set_cons_zero, List.set_cons_succ]
  refine takeHQ (f := 6) (i := 3) (.slice (some ⟨g, 0, none⟩) n cap) ⟨rfl, rfl⟩ (by kernel_rfl) rfl (Below.refl _ _).drew ?r3 ?_
  case r3 => intro v hv; obtain ⟨c0, c1, c2⟩ := CELLS.out v hv; go_simp
  simp only [Act.put, List.setIfInBounds_toArray, List.set_cons_zero, List.set_cons_succ]
  refine takeHQ (f := 5) (i := 5) (.pointer (some ⟨gb, 0, none⟩)) ⟨rfl, rfl⟩ (by kernel_rfl) rfl (Below.refl _ _).drew ?r5 ?_
  case r5 => intro v hv; go_simp
  simp only [Act.put, List.setIfInBounds_toArray, List.set_cons_zero, List.set_cons_succ]
  refine takeHQ (f := 4) (i := 6) (.agg #[.slice o0 nt k0, .slice (some ⟨g, 0, none⟩) n cap]) ⟨rfl, rfl⟩ (by kernel_rfl) rfl (Below.refl _ _).drew ?r6 ?_
  case r6 => intro v hv; obtain ⟨c0, c1, c2⟩ := CELLS.out v hv; go_simp
  simp only [Act.put, List.setIfInBounds_toArray, List.set_cons_zero, List.set_cons_succ]
  refine takeHQ (f := 3) (i := 7) (.pointer (some ⟨w.heap.size, 0, none⟩)) ⟨rfl, rfl⟩ (by kernel_rfl) rfl (Below.refl _ _).drew ?r7 ?_
  case r7 => intro v hv; go_simp
  simp only [Act.put, List.setIfInBounds_toArray, List.set_cons_zero, List.set_cons_succ]
  refine takeHQ (f := 2) (i := 8) (.string x) ⟨rfl, rfl⟩ (by kernel_rfl) rfl (Below.refl _ _).drew ?r8 ?_
  case r8 => intro v hv; obtain ⟨c0, c1, c2⟩ := CELLS.out v hv; go_simp
  simp only [Act.put, List.setIfInBounds_toArray, List.set_cons_zero, List.set_cons_succ]
  have hdr : Below w.heap.size w W.drew := BW.out.drew
  refine callHd (f := 1) (i := 9) ⟨rfl, rfl⟩ (by decide) (by kernel_rfl) rfl ?r9 ((batchAtI_any (fun b => b < w.heap.size) (.slice o0 nt k0) (.slice (some ⟨g, 0, none⟩) n cap) (L.map dH) x W.drew (HAT.out _ hdr) (fun b hb => Nat.lt_of_lt_of_le hb hdr.size)).mono ?_)
  case r9 => go_simp
  rintro e w1 ⟨rfl, hb1⟩
  have BW1 : Below W.heap.size W w1 := (Below.refl _ _).drew.trans hb1
  clear hb1
  refine ⟨_, rfl, BW1, ?_⟩
  rw [HQ.out]
  simp only [Act.put, List.setIfInBounds_toArray, List.set_cons_zero, List.set_cons_succ]
  refine oneHd (f := 0) (i := 10) (.pointer (some ⟨g, q * 3, none⟩)) w1 ⟨rfl, rfl⟩ (by decide) (by kernel_rfl) rfl ?r10 BW1 ?_
  case r10 => go_simp
  simp only [Act.put, List.setIfInBounds_toArray, List.set_cons_zero, List.set_cons_succ]
  refine ⟨by kernel_rfl, ?_⟩
  simp only [List.drop_succ_cons, List.drop_zero]
  have HW1 : Hid (Below w.heap.size w w1) := BW.out.trans (BW1.mono BW.out.size)
  have X1 : Hid (w1.heap[w.heap.size]? = some (.cells #[.string x, .slice on nn kn] 51 (0, 0))) := (BW1.block _ (by omega)).trans RX.out
  have sw1 := BW1.size
  have HP1 : Hid (PkO B w1 (.slice o0 nt k0) (.slice (some ⟨g, 0, none⟩) n cap) T L) := HP.out.below HW1.out
  have RB1 : Hid (w1.heap[gb]? = some (.cells #[.slice o0 nt k0, .slice (some ⟨g, 0, none⟩) n cap] 30 (0, 0))) := (HW1.out.block gb hbl).trans HBX.out
  have HN1 : Hid (AtL SN w1 nd (.slice on nn kn)) := HN.out.same (Same.of_below HW1.out (fun b hb => by have := HSN.out b hb; have := HB.out.2.2; omega))
  clear BW1 CELLS HAT BW RX EW hdr HP HN HBX
  obtain ⟨ph, mh, jh, eh⟩ : ∃ a b c, L[q].2.1.1 = .slice a b c := by obtain ⟨a, c, e⟩ := Row.form (HP1.out.bs.el _ (List.getElem_mem hql0)).h; exact ⟨a, _, c, e⟩
  obtain ⟨pn, mn, jn, enn⟩ : ∃ a b c, L[q].2.2.1 = .slice a b c := by obtain ⟨a, c, e⟩ := Row.form (HP1.out.bs.el _ (List.getElem_mem hql0)).n; exact ⟨a, _, c, e⟩
  have CE : Hid (∀ j, j < 3 → w1.cell? ⟨g, q * 3 + j, none⟩ = some (eH L[q] j) ∧ w1.frozen? ⟨g, q * 3 + j, none⟩ = false) := by
    obtain ⟨g', cap', e, _, _, hc⟩ := Row.cell HP1.out.bs.ro hql0
    cases e
    exact hc
  have EH : Hid (L[q].2.1.1 = .slice ph mh jh) := eh
  have ENN : Hid (L[q].2.2.1 = .slice pn mn jn) := enn
  clear eh enn
  have hgl1 : g < w1.heap.size := Nat.lt_of_lt_of_le hgl HW1.out.size
  have HE : Hid (HbO B w1 L[q]) := HP1.out.bs.el _ (List.getElem_mem hql0)
  have CELLS : Hid (∀ v, Below w1.heap.size w1 v → v.cell? ⟨g, q * 3 + 1, none⟩ = some (.slice ph mh jh) ∧ v.cell? ⟨w.heap.size, 1, none⟩ = some (.slice on nn kn)) := fun v hv => by
    refine ⟨(hv.cell (p := ⟨g, q * 3 + 1, none⟩) hgl1).trans ((CE.out 1 (by decide)).1.trans ?_), ?_⟩
    · show some L[q].2.1.1 = _; rw [EH.out]
    · exact (hv.cell (p := ⟨w.heap.size, 1, none⟩) (by show w.heap.size < _; omega)).trans (cell_row X1.out 1 _ rfl).1
  have CT : Hid (Calls Tryz.prog 69 #[.slice ph mh jh, .slice on nn kn] w1.drew fun e w' => ∃ r, e = .returned r ∧ Row w' w1.drew.heap.size 9 1 eS r (insF L[q].2.1.2 nd) ∧ Below w1.drew.heap.size w1.drew w') := by
    have hrow := HE.out.h
    rw [EH.out] at hrow
    have hd : Below w1.heap.size w1 w1.drew := (Below.refl _ _).drew
    have hs := HSM.out.2.2 _ (List.mem_map_of_mem (List.getElem_mem hql0))
    have e : (dH L[q]).2.1 = L[q].2.1.2 := rfl
    rw [e] at hs
    exact togetherZ_any (fun b => B ≤ b ∧ b < w1.heap.size) SN L[q].2.1.2 nd (.slice ph mh jh) (.slice on nn kn) w1.drew ((str_at hrow HE.out.zh).same (Same.of_below hd (fun b hb => hb.2))) (HN1.out.same (Same.of_below hd (fun b hb => by have := HSN.out b hb; have := HB.out.2.2; have := HW1.out.size; omega))) (fun b hb => hb.2) (fun b hb => by have := HSN.out b hb; have := HB.out.2.2; have := HW1.out.size; show b < w1.heap.size; omega) hasc (by have := hs.2.1.1; omega) (by omega) (fun s hs' => by have := hs.2.1.2 s hs'; omega) (fun s hs' => by have := hnz s hs'; omega)
  go_upto_region 2 with fail
  refine wp_region_movesC (fun v => Below w1.heap.size w1 v) 8 [] (by kernel_rfl) (by kernel_rfl) (Below.refl _ _).drew ?_
  simp only [List.filterMap_nil, movD]
  refine takeHQ (f := 7) (i := 0) (.pointer (some ⟨g, q * 3, none⟩)) ⟨rfl, rfl⟩ (by kernel_rfl) rfl (Below.refl _ _).drew ?r0 ?_
  case r0 => intro v hv; go_simp
  simp only [Act.put, List.setIfInBounds_toArray, List.set_cons_zero, List.set_cons_succ]
  refine takeHQ (f := 6) (i := 1) (.pointer (some ⟨g, q * 3, none⟩)) ⟨rfl, rfl⟩ (by kernel_rfl) rfl (Below.refl _ _).drew ?r1 ?_
  case r1 => intro v hv; go_simp
  simp only [Act.put, List.setIfInBounds_toArray, List.set_cons_zero, List.set_cons_succ]
  refine takeHQ (f := 5) (i := 2) (.pointer (some ⟨g, q * 3, none⟩)) ⟨rfl, rfl⟩ (by kernel_rfl) rfl (Below.refl _ _).drew ?r2 ?_
  case r2 => intro v hv; go_simp
  simp only [Act.put, List.setIfInBounds_toArray, List.set_cons_zero, List.set_cons_succ]
  refine takeHQ (f := 4) (i := 3) (.pointer (some ⟨g, q * 3 + 1, none⟩)) ⟨rfl, rfl⟩ (by kernel_rfl) rfl (Below.refl _ _).drew ?r3 ?_
  case r3 => intro v hv; go_simp
  simp only [Act.put, List.setIfInBounds_toArray, List.set_cons_zero, List.set_cons_succ]
  refine takeHQ (f := 3) (i := 4) (.slice ph mh jh) ⟨rfl, rfl⟩ (by kernel_rfl) rfl (Below.refl _ _).drew ?r4 ?_
  case r4 => intro v hv; obtain ⟨c0, c1⟩ := CELLS.out v hv; go_simp
  simp only [Act.put, List.setIfInBounds_toArray, List.set_cons_zero, List.set_cons_succ]
  refine takeHQ (f := 2) (i := 5) (.pointer (some ⟨w.heap.size, 1, none⟩)) ⟨rfl, rfl⟩ (by kernel_rfl) rfl (Below.refl _ _).drew ?r5 ?_
  case r5 => intro v hv; go_simp
  simp only [Act.put, List.setIfInBounds_toArray, List.set_cons_zero, List.set_cons_succ]
  refine takeHQ (f := 1) (i := 6) (.slice on nn kn) ⟨rfl, rfl⟩ (by kernel_rfl) rfl (Below.refl _ _).drew ?r6 ?_
  case r6 => intro v hv; obtain ⟨c0, c1⟩ := CELLS.out v hv; go_simp
  simp only [Act.put, List.setIfInBounds_toArray, List.set_cons_zero, List.set_cons_succ]
  refine callHd (f := 0) (i := 7) ⟨rfl, rfl⟩ (by decide) (by kernel_rfl) rfl ?r7 (Calls.mono CT.out ?_)
  case r7 => go_simp
  rintro e w2 ⟨r, rfl, hr, hb2⟩
  have b12 : Below w1.heap.size w1 w2 := (Below.refl _ _).drew.trans hb2
  refine ⟨_, rfl, b12, ?_⟩
  obtain ⟨pr, jr, er⟩ := Row.form hr
  obtain ⟨mr, emr⟩ : ∃ n, (insF L[q].2.1.2 nd).length = n := ⟨_, rfl⟩
  rw [emr] at er
  subst er
  simp only [Act.put, List.setIfInBounds_toArray, List.set_cons_zero, List.set_cons_succ]
  refine ⟨by kernel_rfl, ?_⟩
  simp only [List.drop_succ_cons, List.drop_zero]
  have HRR : Hid (Row w2 w1.heap.size 9 1 eS (.slice pr mr jr) (insF L[q].2.1.2 nd)) := hr
  have B2 : Hid (Below w1.heap.size w1 w2) := b12
  have HP2 : Hid (PkO B w2 (.slice o0 nt k0) (.slice (some ⟨g, 0, none⟩) n cap) T L) := HP1.out.below b12
  have y2 := (b12.cell (p := ⟨g, q * 3 + 1, none⟩) hgl1).trans (CE.out 1 (by decide)).1
  have f2 := (b12.frozen (p := ⟨g, q * 3 + 1, none⟩) hgl1).trans (CE.out 1 (by decide)).2
  clear hr hb2 emr CT b12 CELLS
  go_wp2_with fail
  go_end0
  have hlen : L.length = n := HEN.out
  have RFIN : Row (w2.setCell ⟨g, q * 3 + 1, none⟩ (.slice pr mr jr)) B 44 3 eH (.slice (some ⟨g, 0, none⟩) n cap) (L.set q (L[q].1, (.slice pr mr jr, insF L[q].2.1.2 nd), L[q].2.2)) := by
    have h0 := HP2.out.bs.ro
    rw [← hlen] at h0 ⊢
    exact (Row.put h0 hql0 (j := 1) (by decide) (.slice pr mr jr) (L[q].1, (.slice pr mr jr, insF L[q].2.1.2 nd), L[q].2.2) (fun t ht => by
      match t, ht with
      | 0, _ => rfl
      | 1, _ => rfl
      | 2, _ => rfl)).1
  have OTF : ∀ b, b ≠ g → (w2.setCell ⟨g, q * 3 + 1, none⟩ (.slice pr mr jr)).heap[b]? = w2.heap[b]? := fun b hb => Below.heap_setCell _ _ _ _ hb
  have gty : ∃ c, w2.heap[g]? = some (.cells c 44 (0, 0)) := Row.typed HP2.out.bs.ro g rfl
  have ks : ∀ (b : Nat) (c : Array Value), w2.heap[b]? = some (.cells c 9 (0, 0)) → (w2.setCell ⟨g, q * 3 + 1, none⟩ (.slice pr mr jr)).heap[b]? = w2.heap[b]? := fun b c hc => OTF b (fun e => by subst e; obtain ⟨c', hc'⟩ := gty; exact tyS_ne hc hc')
  have hB2 : Below B w w2 := (HW1.out.mono HB.out.2.2).trans (B2.out.mono (by have := HB.out.2.2; have := HW1.out.size; omega))
  have hbb : (w2.setCell ⟨g, q * 3 + 1, none⟩ (.slice pr mr jr)).heap[gb]? = some (.cells #[.slice o0 nt k0, .slice (some ⟨g, 0, none⟩) n cap] 30 (0, 0)) := (OTF gb hne).trans ((B2.out.block gb (by have := HW1.out.size; omega)).trans RB1.out)
  have hnb : ∀ b, (Value.slice pr mr jr).ownBlock = some b → w1.heap.size ≤ b := fun b hb => (World.ownsRow.lt HRR.out b hb).1
  have hoL : ∀ b, L[q].2.2.1.ownBlock = some b → b ∈ hdX L[q] := fun b hb => hdX_mem.2 (.inr hb)
  refine ⟨rfl, L.set q (L[q].1, (.slice pr mr jr, insF L[q].2.1.2 nd), L[q].2.2), hbb, ?_, ?_, hB2.setCell (p := ⟨g, q * 3 + 1, none⟩) HB.out.1 _⟩
  · refine HP1.out.setE hql0 RFIN ⟨strRow_kept (Row.low HRR.out (by have := HB.out.2.2; have := HW1.out.size; omega)) ks, strRow_kept (Row.below HE.out.n B2.out) ks, HE.out.z, fun s hs => ?_, HE.out.zn⟩ (fun b c hc _ => ?_) ?_ ?_
    · rcases insF_mem hs with h | h
      · exact HE.out.zh s h
      · have := hnz s h; unfold maxLen; omega
    · have h2 := (B2.out.block b (Array.getElem?_eq_some_iff.1 hc).1).trans hc
      exact (ks b c h2).trans (h2.trans hc.symm)
    · exact hdX_twoR (m := w1.heap.size) (fun b hb => hnb b hb) (fun b hb => (HE.out.lt (hoL b hb)).2)
    · intro b hb
      rcases hdX_mem.1 hb with hb | hb
      · exact .inr (hnb b hb)
      · exact .inl (hoL b hb)
  · rw [List.map_set]
    rfl

end Go.Proofs.YtidojjecjjochadGreatDoor
