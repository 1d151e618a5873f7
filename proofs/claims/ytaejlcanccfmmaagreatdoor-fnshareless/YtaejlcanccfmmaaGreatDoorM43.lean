/-
  Several texts in one.
-/
import Derived.Test.YtaejlcanccfmmaaGreatDoorM42
import Derived.Test.YtaejlcanccfmmaaGreatDoorM40
import Derived.Test.YtaejlcanccfmmaaGreatDoorM26
import Derived.Test.YtaejlcanccfmmaaGreatDoorM41
namespace Go.Proofs.YtaejlcanccfmmaaGreatDoor
open Go.RowKit Go.Sort
set_option maxRecDepth 100000 in
set_option maxHeartbeats 16000000 in
theorem letNl_any (B gb q : Nat) (v0 v1 : Value) (T : List ByteArray) (L : List HB) (x : ByteArray) (SN : Nat → Prop) (nd : List ByteArray) (on : Option Addr) (nn kn : Nat) (w : World) (hbx : w.heap[gb]? = some (.cells #[v0, v1] 26 (0, 0))) (hp : PkO B w v0 v1 T L) (hgb : B ≤ gb) (hq : atZI (L.map dH) x = (q : Int)) (hql : q < L.length) (hL : L.length ≤ 64) (hsm : SmD (T, L.map dH)) (hN : AtL SN w nd (.slice on nn kn)) (hSN : ∀ b, SN b → b < B) (hnl : nd.length ≤ 64) (hnz : ∀ s ∈ nd, s.size ≤ 64) :
    Calls Tryz.prog 52 #[.pointer (some ⟨gb, 0, none⟩), .agg #[.string x, .slice on nn kn]] w fun e w' => e = .returned (.tuple #[]) ∧ ∃ L', w'.heap[gb]? = some (.cells #[v0, v1] 26 (0, 0)) ∧ PkO B w' v0 v1 T L' ∧ L'.map dH = (L.map dH).set q (lesB (dH L[q]) nd) ∧ Below B w w' := by
  have hro := hp.bs.ro
  obtain ⟨o0, k0, rfl⟩ := Row.form hp.th
  rcases hro.2 with ⟨_, h0⟩ | ⟨g, cap, cur, rfl, hbg, hg, hnc, hm, hcs, hxs⟩
  · omega
  clear hxs hcs hm
  have hgl := (Array.getElem?_eq_some_iff.1 hg).1
  have hbl := (Array.getElem?_eq_some_iff.1 hbx).1
  have hne : gb ≠ g := fun e => by subst e; exact tyK_ne hbx hg
  obtain ⟨n, en⟩ : ∃ n, L.length = n := ⟨_, rfl⟩
  obtain ⟨nt, ent⟩ : ∃ n, T.length = n := ⟨_, rfl⟩
  have hql0 := hql
  rw [en] at hql hL hbx hp hro hnc
  rw [ent] at hbx hp
  rw [en, ent]
  obtain ⟨W, EW, BW, RX, sW⟩ := box_new w #[.string x, .slice on nn kn] 38
  have HP : Hid (PkO B w (.slice o0 nt k0) (.slice (some ⟨g, 0, none⟩) n cap) T L) := hp
  have HBX : Hid (w.heap[gb]? = some (.cells #[.slice o0 nt k0, .slice (some ⟨g, 0, none⟩) n cap] 26 (0, 0))) := hbx
  have HG : Hid (w.heap[g]? = some (.cells cur 43 (0, 0))) := hg
  have HAT : Hid (∀ u, Below w.heap.size w u → AtL (fun b => b < w.heap.size) u (L.map dH) (.slice (some ⟨g, 0, none⟩) n cap)) := fun u hu => (hp.at_.2.up (fun b hb => hb.2)).same (Same.of_below hu (fun b hb => hb))
  have HEN : Hid (L.length = n) := en
  have HQ : Hid (idxI (L.map dH) (fun p : DShareBatch => eqB p.1 x) = (q : Int)) := hq
  have HB : Hid (B ≤ g ∧ B ≤ gb ∧ B ≤ w.heap.size) := ⟨hbg, hgb, by omega⟩
  have HSM : Hid (SmD (T, L.map dH)) := hsm
  have HSN : Hid (∀ b, SN b → b < B) := hSN
  have HN : Hid (AtL SN w nd (.slice on nn kn)) := hN
  clear hp hbx hg hq hro en ent hbg hgb hsm hSN hN
  go_enter Tryz.func52, Tryz.ntmps52
  go_upto_region 1 with fail
  rw [← EW.out]
  have CELLS : Hid (∀ v, Below W.heap.size W v → v.cell? ⟨gb, 0, none⟩ = some (.slice o0 nt k0) ∧ v.cell? ⟨gb, 1, none⟩ = some (.slice (some ⟨g, 0, none⟩) n cap) ∧ v.cell? ⟨w.heap.size, 0, none⟩ = some (.string x)) := fun v hv => by
    have r1 := (hv.block gb (by omega)).trans ((BW.out.block gb hbl).trans HBX.out)
    have r2 := (hv.block w.heap.size (by omega)).trans RX.out
    exact ⟨(cell_row r1 0 _ rfl).1, (cell_row r1 1 _ rfl).1, (cell_row r2 0 _ rfl).1⟩
  refine wp_region_movesC (fun v => Below W.heap.size W v) 11 [0, 4] (by kernel_rfl) (by kernel_rfl) (Below.refl _ _).drew ?_
  simp only [List.filterMap_cons, List.filterMap_nil, List.getElem?_cons_succ, List.getElem?_cons_zero, movD, mvOf, Act.put]
  refine takeHQ (f := 8) (i := 1) (.pointer (some ⟨gb, 0, none⟩)) ⟨rfl, rfl⟩ (by kernel_rfl) rfl (Below.refl _ _).drew ?r1 ?_
  case r1 => intro v hv; go_simp
  simp only [Act.put, List.setIfInBounds_toArray, List.set_cons_zero, List.set_cons_succ]
  refine takeHQ (f := 7) (i := 2) (.pointer (some ⟨gb, 1, none⟩)) ⟨rfl, rfl⟩ (by kernel_rfl) rfl (Below.refl _ _).drew ?r2 ?_
  case r2 => intro v hv; go_simp
  simp only [Act.put, List.setIfInBounds_toArray, List.set_cons_zero, List.set_cons_succ]
  refine takeHQ (f := 6) (i := 3) (.slice (some ⟨g, 0, none⟩) n cap) ⟨rfl, rfl⟩ (by kernel_rfl) rfl (Below.refl _ _).drew ?r3 ?_
  case r3 => intro v hv; obtain ⟨c0, c1, c2⟩ := CELLS.out v hv; go_simp
  simp only [Act.put, List.setIfInBounds_toArray, List.set_cons_zero, List.set_cons_succ]
  refine takeHQ (f := 5) (i := 5) (.pointer (some ⟨gb, 0, none⟩)) ⟨rfl, rfl⟩ (by kernel_rfl) rfl (Below.refl _ _).drew ?r5 ?_
  case r5 => intro v hv; go_simp
  simp only [Act.put, List.setIfInBounds_toArray, List.set_cons_zero, List.set_cons_succ]
  refine takeHQ (f := 4) (i := 6) (.agg #[.slice o0 nt k0, .slice (some ⟨g, 0, none⟩) n cap]) ⟨rfl, rfl⟩ (by kernel_rfl) rfl (Below.refl _ _).drew ?r6 ?_
  case r6 => intro v hv; obtain ⟨c0, c1, c2⟩ := CELLS.out v hv; go_simp
  simp only [Act.put, List.setIfInBounds_toArray, List.set_cons_zero, List.set_cons_succ]
  refine takeHQ (f := 3) (i := 7) (.pointer (some ⟨w.heap.size, 0, none⟩)) ⟨rfl, rfl⟩ (by kernel_rfl) rfl (Below.refl _ _).drew ?r7 ?_
  case r7 => intro v hv; go_simp
  simp only [Act.put, List.setIfInBounds_toArray, List.set_cons_zero, List.set_cons_succ]
  refine takeHQ (f := 2) (i := 8) (.string x) ⟨rfl, rfl⟩ (by kernel_rfl) rfl (Below.refl _ _).drew ?r8 ?_
  case r8 => intro v hv; obtain ⟨c0, c1, c2⟩ := CELLS.out v hv; go_simp
  simp only [Act.put, List.setIfInBounds_toArray, List.set_cons_zero, List.set_cons_succ]
  have hdr : Below w.heap.size w W.drew := BW.out.drew
  refine callHd (f := 1) (i := 9) ⟨rfl, rfl⟩ (by decide) (by kernel_rfl) rfl ?r9 ((batchAtI_any (fun b => b < w.heap.size) (.slice o0 nt k0) (.slice (some ⟨g, 0, none⟩) n cap) (L.map dH) x W.drew (HAT.out _ hdr) (fun b hb => Nat.lt_of_lt_of_le hb hdr.size)).mono ?_)
  case r9 => go_simp
  rintro e w1 ⟨rfl, hb1⟩
  have BW1 : Below W.heap.size W w1 := (Below.refl _ _).drew.trans hb1
  clear hb1
  refine ⟨_, rfl, BW1, ?_⟩
  rw [HQ.out]
  simp only [Act.put, List.setIfInBounds_toArray, List.set_cons_zero, List.set_cons_succ]
  refine oneHd (f := 0) (i := 10) (.pointer (some ⟨g, q * 3, none⟩)) w1 ⟨rfl, rfl⟩ (by decide) (by kernel_rfl) rfl ?r10 BW1 ?_
  case r10 => go_simp
  simp only [Act.put, List.setIfInBounds_toArray, List.set_cons_zero, List.set_cons_succ]
  refine ⟨by kernel_rfl, ?_⟩
  simp only [List.drop_succ_cons, List.drop_zero]
  have HW1 : Hid (Below w.heap.size w w1) := BW.out.trans (BW1.mono BW.out.size)
  have X1 : Hid (w1.heap[w.heap.size]? = some (.cells #[.string x, .slice on nn kn] 38 (0, 0))) := (BW1.block _ (by omega)).trans RX.out
  have sw1 := BW1.size
  have HP1 : Hid (PkO B w1 (.slice o0 nt k0) (.slice (some ⟨g, 0, none⟩) n cap) T L) := HP.out.below HW1.out
  have RB1 : Hid (w1.heap[gb]? = some (.cells #[.slice o0 nt k0, .slice (some ⟨g, 0, none⟩) n cap] 26 (0, 0))) := (HW1.out.block gb hbl).trans HBX.out
  have HN1 : Hid (AtL SN w1 nd (.slice on nn kn)) := HN.out.same (Same.of_below HW1.out (fun b hb => by have := HSN.out b hb; have := HB.out.2.2; omega))
  clear BW1 CELLS HAT BW RX EW hdr HP HN HBX
  obtain ⟨ph, mh, jh, eh⟩ : ∃ a b c, L[q].2.1.1 = .slice a b c := by obtain ⟨a, c, e⟩ := Row.form (HP1.out.bs.el _ (List.getElem_mem hql0)).h; exact ⟨a, _, c, e⟩
  obtain ⟨pn, mn, jn, enn⟩ : ∃ a b c, L[q].2.2.1 = .slice a b c := by obtain ⟨a, c, e⟩ := Row.form (HP1.out.bs.el _ (List.getElem_mem hql0)).n; exact ⟨a, _, c, e⟩
  have CE : Hid (∀ j, j < 3 → w1.cell? ⟨g, q * 3 + j, none⟩ = some (eH L[q] j) ∧ w1.frozen? ⟨g, q * 3 + j, none⟩ = false) := by
    obtain ⟨g', cap', e, _, _, hc⟩ := Row.cell HP1.out.bs.ro hql0
    cases e
    exact hc
  have EH : Hid (L[q].2.1.1 = .slice ph mh jh) := eh
  have ENN : Hid (L[q].2.2.1 = .slice pn mn jn) := enn
  clear eh enn
  have u1 := (cell_row X1.out 1 (.slice on nn kn) rfl).1
  have CF : Hid (Calls Tryz.prog 48 #[.slice on nn kn] w1 fun e w' => ∃ r, e = .returned r ∧ Row w' w1.heap.size 9 1 eS r nd ∧ Below w1.heap.size w1 w') := freshT_any SN _ nd w1 HN1.out (fun b hb => by have := HSN.out b hb; have := HB.out.2.2; have := HW1.out.size; omega) (by omega) (fun s hs => by have := hnz s hs; omega)
  go_upto_region 2 with fail
  go_wp2_with fail
  refine Calls.mono CF.out ?_
  rintro e w2 ⟨r, rfl, hr, hb2⟩
  obtain ⟨pr, jr, er⟩ := Row.form hr
  obtain ⟨mr, emr⟩ : ∃ n, nd.length = n := ⟨_, rfl⟩
  rw [emr] at er
  subst er
  have HRR : Hid (Row w2 w1.heap.size 9 1 eS (.slice pr mr jr) nd) := hr
  have B2 : Hid (Below w1.heap.size w1 w2) := hb2
  have s2 := hb2.size
  have HP2 : Hid (PkO B w2 (.slice o0 nt k0) (.slice (some ⟨g, 0, none⟩) n cap) T L) := HP1.out.below hb2
  have hgl1 : g < w1.heap.size := Nat.lt_of_lt_of_le hgl HW1.out.size
  have y2 := (hb2.cell (p := ⟨g, q * 3 + 2, none⟩) hgl1).trans (CE.out 2 (by decide)).1
  have f2 := (hb2.frozen (p := ⟨g, q * 3 + 2, none⟩) hgl1).trans (CE.out 2 (by decide)).2
  clear hr hb2 emr u1 CF
  go_upto_region 3 with fail
  have hlen : L.length = n := HEN.out
  have RPUT : Hid (Row (w2.setCell ⟨g, q * 3 + 2, none⟩ (.slice pr mr jr)) B 43 3 eH (.slice (some ⟨g, 0, none⟩) n cap) (L.set q (L[q].1, L[q].2.1, (.slice pr mr jr, nd)))) := by
    have h0 := HP2.out.bs.ro
    rw [← hlen] at h0 ⊢
    exact (Row.put h0 hql0 (j := 2) (by decide) (.slice pr mr jr) (L[q].1, L[q].2.1, (.slice pr mr jr, nd)) (fun t ht => by
      match t, ht with
      | 0, _ => rfl
      | 1, _ => rfl
      | 2, _ => rfl)).1
  have OTH : Hid (∀ b, b ≠ g → (w2.setCell ⟨g, q * 3 + 2, none⟩ (.slice pr mr jr)).heap[b]? = w2.heap[b]?) := fun b hb => Below.heap_setCell _ _ _ _ hb
  have SZ3 : Hid ((w2.setCell ⟨g, q * 3 + 2, none⟩ (.slice pr mr jr)).heap.size ≤ w2.heap.size ∧ w2.heap.size ≤ (w2.setCell ⟨g, q * 3 + 2, none⟩ (.slice pr mr jr)).heap.size) := by simp [Hid]
  have BL3 : Hid (Below B w2 (w2.setCell ⟨g, q * 3 + 2, none⟩ (.slice pr mr jr))) := (Below.refl _ _).setCell (p := ⟨g, q * 3 + 2, none⟩) HB.out.1 _
  generalize w2.setCell ⟨g, q * 3 + 2, none⟩ (.slice pr mr jr) = w3 at RPUT OTH SZ3 BL3 ⊢
  clear y2 f2
  have s3 := SZ3.out.2
  have HE : Hid (HbO B w2 L[q]) := HP2.out.bs.el _ (List.getElem_mem hql0)
  have hTY : ∀ (b : Nat) (c : Array Value), w2.heap[b]? = some (.cells c 9 (0, 0)) → w3.heap[b]? = w2.heap[b]? := fun b c hc => OTH.out b (fun e => by subst e; exact tyS_ne hc ((B2.out.block b (Nat.lt_of_lt_of_le hgl HW1.out.size)).trans ((HW1.out.block b hgl).trans HG.out)))
  have HTY : Hid (∀ (b : Nat) (c : Array Value), w2.heap[b]? = some (.cells c 9 (0, 0)) → w3.heap[b]? = w2.heap[b]?) := hTY
  have HE3 : Hid (HbO B w3 L[q]) := HE.out.kept hTY
  have HRR3 : Hid (Row w3 w1.heap.size 9 1 eS (.slice pr mr jr) nd) := strRow_kept HRR.out hTY
  have hgnb : g ≠ w.heap.size := by omega
  have X3 : Hid (w3.heap[w.heap.size]? = some (.cells #[.string x, .slice on nn kn] 38 (0, 0))) := (OTH.out _ (fun e => hgnb e.symm)).trans ((B2.out.block _ (by omega)).trans X1.out)
  have HN3 : Hid (AtL SN w3 nd (.slice on nn kn)) := HN1.out.same (fun b hb => by
    have h1 := HSN.out b hb
    have h2 := HB.out.1
    exact (OTH.out b (by omega)).trans (B2.out.block b (by have := HB.out.2.2; have := HW1.out.size; omega)))
  have CELL1 : w3.cell? ⟨g, q * 3 + 1, none⟩ = some (.slice ph mh jh) ∧ w3.frozen? ⟨g, q * 3 + 1, none⟩ = false := by
    obtain ⟨g', cap', e, _, _, hc⟩ := Row.cell RPUT.out (i := q) (by rw [List.length_set]; exact hql0)
    cases e
    have := hc 1 (by decide)
    rw [List.getElem_set_self] at this
    exact ⟨this.1.trans (by show some L[q].2.1.1 = _; rw [EH.out]), this.2⟩
  obtain ⟨y1, f1⟩ := CELL1
  have CD : Hid (Calls Tryz.prog 78 #[.slice ph mh jh, .func (.func 79) #[] #[.pointer (some ⟨w.heap.size, 0, none⟩)]] w3 fun e w' => ∃ v', e = .returned v' ∧ Row w' B 9 1 eS v' (L[q].2.1.2.filter fun y => hasB nd y) ∧ w3.grownBy w' (Value.slice ph mh jh).ownBlock ∧ (v'.ownBlock = none ∨ v'.ownBlock = (Value.slice ph mh jh).ownBlock)) := by
    have hrow := HE3.out.h
    rw [EH.out] at hrow
    refine delF_any B w.heap.size SN (.slice ph mh jh) (.slice on nn kn) L[q].2.1.2 nd w3 hrow HE3.out.zh ?_ HN3.out (cell_row X3.out 1 _ rfl).1 (fun b hb => ?_) (fun b hb => ?_) (by omega)
    · have := (HSM.out.2.2 _ (List.mem_map_of_mem (List.getElem_mem hql0))).2.1.1
      show L[q].2.1.2.length ≤ _
      have e : (dH L[q]).2.1 = L[q].2.1.2 := rfl
      rw [e] at this
      omega
    · have h1 := (World.ownsRow.lt hrow b hb).1
      refine ⟨fun h2 => by have := HSN.out b h2; omega, fun e => ?_⟩
      obtain ⟨c, hc⟩ := Row.typed hrow b hb
      subst e
      rw [X3.out] at hc
      injection hc with h3
      injection h3 with _ h4
      revert h4
      decide
    · have := HSN.out b hb; have := HB.out.2.2; have := HW1.out.size; omega
  have hmf : ∀ (fn : Fn) (first cap : Array Value) (w : World), (Instr.makeFunc fn first cap).run Tryz.prog w = .ok (.func fn first cap) w := fun _ _ _ _ => rfl
  go_wp2_with fail
  refine Calls.mono CD.out ?_
  rintro e w4 ⟨v', rfl, hr4, hg4, hv4⟩
  obtain ⟨pv, jv, ev⟩ := Row.form hr4
  obtain ⟨mv, emv⟩ : ∃ n, (L[q].2.1.2.filter fun y => hasB nd y).length = n := ⟨_, rfl⟩
  rw [emv] at ev
  subst ev
  have HR4 : Hid (Row w4 B 9 1 eS (.slice pv mv jv) (L[q].2.1.2.filter fun y => hasB nd y)) := hr4
  have HG4 : Hid (w3.grownBy w4 (Value.slice ph mh jh).ownBlock) := hg4
  have HV4 : Hid ((Value.slice pv mv jv).ownBlock = none ∨ (Value.slice pv mv jv).ownBlock = (Value.slice ph mh jh).ownBlock) := hv4
  have gty : ∃ c, w3.heap[g]? = some (.cells c 43 (0, 0)) := Row.typed RPUT.out g rfl
  have hgne : (Value.slice ph mh jh).ownBlock ≠ some g := fun e => by
    have hrow := HE3.out.h
    rw [EH.out] at hrow
    obtain ⟨c, hc⟩ := Row.typed hrow g e
    obtain ⟨c', hc'⟩ := gty
    exact tyS_ne hc hc'
  have hg3 : g < w3.heap.size := by omega
  have RG4 : Hid (Row w4 B 43 3 eH (.slice (some ⟨g, 0, none⟩) n cap) (L.set q (L[q].1, L[q].2.1, (.slice pr mr jr, nd)))) := Row.block RPUT.out fun b hb => by
    cases hb
    exact hg4.block g hg3 (fun e => hgne e.symm)
  have s4 := hg4.size
  clear hr4 hg4 hv4 emv y1 f1 CD
  have CELL4 : w4.cell? ⟨g, q * 3 + 1, none⟩ = some (.slice ph mh jh) ∧ w4.frozen? ⟨g, q * 3 + 1, none⟩ = false := by
    obtain ⟨g', cap', e, _, _, hc⟩ := Row.cell RG4.out (i := q) (by rw [List.length_set]; exact hql0)
    cases e
    have := hc 1 (by decide)
    rw [List.getElem_set_self] at this
    exact ⟨this.1.trans (by show some L[q].2.1.1 = _; rw [EH.out]), this.2⟩
  obtain ⟨y1, f1⟩ := CELL4
  go_wp2_with fail
  go_end0
  have RFIN : Row (w4.setCell ⟨g, q * 3 + 1, none⟩ (.slice pv mv jv)) B 43 3 eH (.slice (some ⟨g, 0, none⟩) n cap) (L.set q (L[q].1, (.slice pv mv jv, L[q].2.1.2.filter fun y => hasB nd y), (.slice pr mr jr, nd))) := by
    have h0 := RG4.out
    have hl1 : (L.set q (L[q].1, L[q].2.1, (Value.slice pr mr jr, nd))).length = n := by rw [List.length_set]; exact HEN.out
    rw [← hl1] at h0
    have h1 := (Row.put h0 (i := q) (by rw [List.length_set]; exact hql0) (j := 1) (by decide) (.slice pv mv jv) (L[q].1, (.slice pv mv jv, L[q].2.1.2.filter fun y => hasB nd y), (.slice pr mr jr, nd)) (fun t ht => by
      rw [List.getElem_set_self]
      match t, ht with
      | 0, _ => rfl
      | 1, _ => rfl
      | 2, _ => rfl)).1
    rw [List.set_set, hl1] at h1
    exact h1
  have OTF : ∀ b, b ≠ g → (w4.setCell ⟨g, q * 3 + 1, none⟩ (.slice pv mv jv)).heap[b]? = w4.heap[b]? := fun b hb => Below.heap_setCell _ _ _ _ hb
  have gty4 : ∃ c, w4.heap[g]? = some (.cells c 43 (0, 0)) := Row.typed RG4.out g rfl
  have ks4 : ∀ (b : Nat) (c : Array Value), w4.heap[b]? = some (.cells c 9 (0, 0)) → (w4.setCell ⟨g, q * 3 + 1, none⟩ (.slice pv mv jv)).heap[b]? = w4.heap[b]? := fun b c hc => OTF b (fun e => by subst e; obtain ⟨c', hc'⟩ := gty4; exact tyS_ne hc hc')
  have hB2 : Below B w w2 := (HW1.out.mono HB.out.2.2).trans (B2.out.mono (by have := HB.out.2.2; have := HW1.out.size; omega))
  have hB4 : Below B w w4 := (hB2.trans BL3.out).grown HG4.out (by have := HB.out.2.2; have := HW1.out.size; omega) (fun p hpp => by
    have hrow := HE3.out.h
    rw [EH.out] at hrow
    exact (World.ownsRow.lt hrow p hpp).1)
  have hgbn : gb ≠ g := hne
  have hbb : (w4.setCell ⟨g, q * 3 + 1, none⟩ (.slice pv mv jv)).heap[gb]? = some (.cells #[.slice o0 nt k0, .slice (some ⟨g, 0, none⟩) n cap] 26 (0, 0)) := by
    have r3 : w3.heap[gb]? = some (.cells #[.slice o0 nt k0, .slice (some ⟨g, 0, none⟩) n cap] 26 (0, 0)) := (OTH.out gb hgbn).trans ((B2.out.block gb (by have := HW1.out.size; omega)).trans RB1.out)
    refine (OTF gb hgbn).trans ((HG4.out.block gb (by omega) (fun e => ?_)).trans r3)
    have hrow := HE3.out.h
    rw [EH.out] at hrow
    obtain ⟨c, hc⟩ := Row.typed hrow gb e.symm
    exact tyKS_ne r3 hc
  have hnb : ∀ b, (Value.slice pr mr jr).ownBlock = some b → w1.heap.size ≤ b := fun b hb => (World.ownsRow.lt HRR.out b hb).1
  have hob : ∀ b, (Value.slice pv mv jv).ownBlock = some b → (Value.slice ph mh jh).ownBlock = some b := fun b hb => by
    rcases HV4.out with h | h
    · rw [h] at hb; cases hb
    · rw [← h]; exact hb
  have hoL : ∀ b, (Value.slice ph mh jh).ownBlock = some b → b ∈ hdX L[q] := fun b hb => hdX_mem.2 (.inl (by rw [EH.out]; exact hb))
  refine ⟨rfl, L.set q (L[q].1, (.slice pv mv jv, L[q].2.1.2.filter fun y => hasB nd y), (.slice pr mr jr, nd)), hbb, ?_, ?_, hB4.setCell (p := ⟨g, q * 3 + 1, none⟩) HB.out.1 _⟩
  · refine HP1.out.setE hql0 RFIN ⟨strRow_kept HR4.out ks4, strRow_kept (Row.low (Row.block HRR3.out fun b hb => ?_) (by have := HB.out.2.2; have := HW1.out.size; omega)) ks4, HE3.out.z, fun s hs => HE3.out.zh s (List.mem_filter.1 hs).1, fun s hs => by have := hnz s hs; unfold maxLen; omega⟩ (fun b c hc hnn => ?_) ?_ ?_
    · refine HG4.out.block b (by have := (World.ownsRow.lt HRR3.out b hb).2; omega) (fun e => ?_)
      have h1 := hnb b hb
      have h2 := hoL b e.symm
      have h3 := ((HP1.out.bs.el _ (List.getElem_mem hql0)).lt h2).2
      omega
    · have hbl1 := (Array.getElem?_eq_some_iff.1 hc).1
      have h2 := (B2.out.block b hbl1).trans hc
      have h3 := (HTY.out b c h2).trans h2
      have h4 : w4.heap[b]? = w3.heap[b]? := HG4.out.block b (by omega) (fun e => hnn (hoL b e.symm))
      exact (ks4 b c (h4.trans h3)).trans (h4.trans (h3.trans hc.symm))
    · exact hdX_two (m := w1.heap.size) (fun b hb => ((HP1.out.bs.el _ (List.getElem_mem hql0)).lt (hoL b (hob b hb))).2) (fun b hb => hnb b hb)
    · intro b hb
      rcases hdX_mem.1 hb with hb | hb
      · exact .inl (hoL b (hob b hb))
      · exact .inr (hnb b hb)
  · rw [List.map_set]
    rfl
end Go.Proofs.YtaejlcanccfmmaaGreatDoor

namespace Go.Proofs.YtaejlcanccfmmaaGreatDoor
open Go.RowKit Go.Sort
noncomputable def lsR (D : DShareBook) (x : ByteArray) (nd : List ByteArray) : DShareBook := if ndC D.2 x nd = 0 then (D.1, D.2.set (atZI D.2 x).toNat (lesB (btN D.2 (atZI D.2 x).toNat) nd)) else D
theorem les_is (D : DShareBook) (x : ByteArray) (nd : List ByteArray) : (if bokB D = true then lsR D x nd else ([], [])) = (lesS D x nd).1 ∧ (if bokB D = true then ndC D.2 x nd else 1) = (lesS D x nd).2 := by
  by_cases h : bokB D = true
  · rw [if_pos h, if_pos h]
    by_cases h1 : atZI D.2 x < 0
    · have e := ndC_3 (nd := nd) h1
      unfold lsR lesS
      rw [e, if_neg (by decide), if_pos h, if_pos h1]
      exact ⟨rfl, rfl⟩
    · cases h2 : subB (btN D.2 (atZI D.2 x).toNat).2.2 nd
      · have e := ndC_2 h1 h2
        unfold lsR lesS
        rw [e, if_neg (by decide), if_pos h, if_neg h1, if_neg (by rw [h2]; decide)]
        exact ⟨rfl, rfl⟩
      · have e := ndC_0 h1 h2
        unfold lsR lesS
        rw [e, if_pos rfl, if_pos h, if_neg h1, if_pos h2]
        exact ⟨rfl, rfl⟩
  · unfold lesS
    rw [if_neg h, if_neg h, if_neg h]
    exact ⟨rfl, rfl⟩
theorem nd_small {D : DShareBook} {x : ByteArray} {nd : List ByteArray} (h : BokP D) (h1 : ¬ atZI D.2 x < 0) (h2 : subB (btN D.2 (atZI D.2 x).toNat).2.2 nd = true) : SmL nd := by
  obtain ⟨q, eq, hq⟩ := at_lt h1
  rw [eq, Int.toNat_natCast, btN_at hq] at h2
  have hs := (bok_small h).1.2.2 _ (List.getElem_mem hq)
  have hl := sub_lenM h2
  exact hs.2.2.of_sub h2 (by have := hs.2.2.1; omega)
set_option maxRecDepth 100000 in
set_option maxHeartbeats 4000000 in
theorem refLs_any (S SN : Nat → Prop) (Bs : List DShareBatch) (o0 oa : Option Addr) (n0 k0 nb kb : Nat) (x : ByteArray) (nd : List ByteArray) (on : Option Addr) (nn kn : Nat) (w : World) (h1 : AtL S w Bs (.slice oa nb kb)) (hS : ∀ b, S b → b < w.heap.size) (hN : AtL SN w nd (.slice on nn kn)) (hSN : ∀ b, SN b → b < w.heap.size) :
    Calls Tryz.prog 137 #[.agg #[.string x, .slice on nn kn], .agg #[.slice o0 n0 k0, .slice oa nb kb]] w fun e w' => e = .returned (errW x (ndC Bs x nd)) ∧ Below w.heap.size w w' := by
  have HC : Hid (∀ o1 o2, Calls Tryz.prog 138 #[.agg #[.slice o0 n0 k0, .slice oa nb kb], .string x, .slice on nn kn] ((w.alloc o1).alloc o2) fun e w' => e = .returned (errW x (ndC Bs x nd)) ∧ Below w.heap.size w w') := fun o1 o2 => by
    have hb : Below w.heap.size w ((w.alloc o1).alloc o2) := ((Below.refl _ _).alloc (Nat.le_refl _) _).alloc (by simp) _
    refine (refN_any S SN Bs o0 oa n0 k0 nb kb x nd on nn kn _ (h1.same (Same.of_below hb hS)) (fun b hb' => Nat.lt_of_lt_of_le (hS b hb') hb.size) (hN.same (Same.of_below hb hSN)) (fun b hb' => Nat.lt_of_lt_of_le (hSN b hb') hb.size)).mono ?_
    rintro e w' ⟨he, hb2⟩
    exact ⟨he, hb.trans (hb2.mono hb.size)⟩
  obtain ⟨RV, eRV⟩ : ∃ v, errW x (ndC Bs x nd) = v := ⟨_, rfl⟩
  rw [eRV] at HC
  rw [eRV]
  clear h1 hS hN hSN eRV
  go_enter Tryz.func137, Tryz.ntmps137
  go_wp2_with fail
  refine Calls.mono (HC.out _ _) ?_
  rintro e w1 ⟨rfl, hb1⟩
  have B1 : Hid (Below w.heap.size w w1) := hb1
  clear hb1
  go_wp2_with fail
  go_ret
  exact ⟨rfl, B1.out⟩
theorem lesP_any (S : Nat → Prop) (T : List ByteArray) (Bs : List DShareBatch) (nd : List ByteArray) (o0 oa : Option Addr) (n0 k0 nb kb : Nat) (os : Option Addr) (ns ks : Nat) (x : ByteArray) (w : World) (h0 : AtL S w T (.slice o0 n0 k0)) (h1 : AtL S w Bs (.slice oa nb kb)) (h2 : AtL S w nd (.slice os ns ks)) (hS : ∀ b, S b → b < w.heap.size) (_ : Lay.tot (α := DShareBook) (T, Bs) ≤ 1048576) (_ : totL nd ≤ 1048576) (_ : x.size ≤ 1048576) (hl : Laid0 w) :
    Calls Tryz.prog 5 #[.agg #[.slice o0 n0 k0, .slice oa nb kb], .string x, .slice os ns ks] w (AnsW w (lesS (T, Bs) x nd).1 (lesS (T, Bs) x nd).2) := by
  rw [← (les_is (T, Bs) x nd).1, ← (les_is (T, Bs) x nd).2]
  refine topW_S x os ns ks _ _ o0 oa n0 k0 nb kb w fun u hu => ?_
  have h0u := h0.same (Same.of_below hu hS)
  have h1u := h1.same (Same.of_below hu hS)
  have h2u := h2.same (Same.of_below hu hS)
  have hSu : ∀ b, S b → b < u.heap.size := fun b hb => Nat.lt_of_lt_of_le (hS b hb) hu.size
  refine ansW_S x os ns ks (ndC Bs x nd) (lsR (T, Bs) x nd) S T Bs o0 oa n0 k0 nb kb u h0u h1u hSu (hl.below hu) (fun _ v hv => ?_) (fun hok hc v hv => ?_) (fun hc => ?_)
  · exact refLs_any S S Bs o0 oa n0 k0 nb kb x nd os ns ks v (h1u.same (Same.of_below hv hSu)) (fun b hb => Nat.lt_of_lt_of_le (hSu b hb) hv.size) (h2u.same (Same.of_below hv hSu)) (fun b hb => Nat.lt_of_lt_of_le (hSu b hb) hv.size)
  · have hsm := bok_small (bok_iff.1 hok)
    have hn : ¬ atZI Bs x < 0 := fun h => by rw [ndC_3 h] at hc; exact absurd hc (by decide)
    have hs : subB (btN Bs (atZI Bs x).toNat).2.2 nd = true := by
      cases hq : subB (btN Bs (atZI Bs x).toNat).2.2 nd
      · rw [ndC_2 hn hq] at hc; exact absurd hc (by decide)
      · rfl
    have hnd := nd_small (D := (T, Bs)) (bok_iff.1 hok) hn hs
    obtain ⟨q, eq, hq⟩ := at_lt hn
    have hSv : ∀ b, S b → b < v.heap.size := fun b hb => Nat.lt_of_lt_of_le (hSu b hb) hv.size
    have h2v := h2u.same (Same.of_below hv hSu)
    refine behW_S x os ns ks (lsR (T, Bs) x nd) S T Bs o0 oa n0 k0 nb kb v (h0u.same (Same.of_below hv hSu)) (h1u.same (Same.of_below hv hSu)) hSv hsm.1 (fun B gb v0 v1 L z hz hB hgb hbx hp hm => ?_)
    have hlen : L.length = Bs.length := by rw [← hm, List.length_map]
    refine (letNl_any B gb q v0 v1 T L x S nd os ns ks z hbx hp hgb (by rw [hm]; exact eq) (by omega) (by have := hsm.2.2; simp only at this; omega) (by rw [hm]; exact hsm.1) (h2v.same (Same.of_below hz hSv)) (fun b hb => Nat.lt_of_lt_of_le (hSv b hb) hB) hnd.1 hnd.2).mono ?_
    rintro e w' ⟨he, L', hb', hp', hm', hbe⟩
    refine ⟨he, v0, v1, L', hb', ?_, ?_, hbe⟩
    · unfold lsR
      rw [if_pos hc]
      exact hp'
    · unfold lsR
      rw [if_pos hc, eq, Int.toNat_natCast, hm', hm, btN_at hq]
      simp only
      congr 2
      have : (L.map dH)[q]'(by rw [List.length_map]; omega) = Bs[q] := by simp only [hm]
      rw [← this, List.getElem_map]
  · unfold lsR
    rw [if_neg hc]
end Go.Proofs.YtaejlcanccfmmaaGreatDoor
