import Derived.Test.YtaejlcanccfmmaaGreatDoorZsc
namespace Go.Proofs.YtaejlcanccfmmaaGreatDoor
open Go.RowKit Go.Sort
set_option maxRecDepth 100000 in
set_option maxHeartbeats 16000000 in
theorem drawN_any (SP : SpoilC) (ob : Option Addr) (n cb : Nat) (f : Nat → Int) (w : World) (hn : n ≤ maxLen) (hnc : n ≤ cb) (fb : ∀ i, 0 ≤ f i ∧ f i ≤ 255)
    (ce : ∀ i, i < n → ∃ b off, ob = some ⟨b, off, none⟩ ∧ b < w.heap.size ∧ w.cell? ⟨b, off + i, none⟩ = some (.int .u8 (f i))) :
    Calls Tryz.prog 11 #[.slice ob n cb] w fun e w' => DaE w e w' := by
  have HSP : Hid SpoilC := SP
  have HOP : Hid (1 ≤ n → ∃ a, ob = some a) := fun h => by obtain ⟨b, off, h1, _⟩ := ce 0 (by omega); exact ⟨_, h1⟩
  have HCE : Hid _ := ce
  have HFB : Hid _ := fb
  obtain ⟨W, hW⟩ : ∃ W, W = w.alloc (.cells #[.slice none 0 0, .slice none 0 0] 26) := ⟨_, rfl⟩
  have EW : Hid (W = w.alloc (.cells #[.slice none 0 0, .slice none 0 0] 26)) := hW
  have BW : Hid (Below w.heap.size w W) := by rw [hW]; exact (Below.refl _ _).alloc (Nat.le_refl _) _
  have R1 : Hid (W.heap[w.heap.size]? = some (.cells #[.slice none 0 0, .slice none 0 0] 26 (0, 0))) := by rw [hW]; exact heap_alloc_new w _
  have SW : Hid (W.heap.size = w.heap.size + 1) := by rw [hW]; simp [Hid]
  clear ce fb hW SP
  go_enter Tryz.func11, Tryz.ntmps11
  go_upto_region 1 with fail
  rw [← EW.out]
  go_wp2_with fail
  refine (open_any ob n cb W hn hnc HOP.out).mono ?_
  rintro e W1 ⟨n', hn1, hn2, rfl, hW1⟩
  obtain ⟨R, hR⟩ : ∃ R, R = W.heap.size := ⟨_, rfl⟩
  have sw := SW.out
  have RD1 : Hid (Rd R W1 ob n' cb 0 f) := by
    rw [hW1, hR]
    refine ⟨heap_alloc_new W _, hn1, by omega, by omega, HFB.out, fun i hi => ?_⟩
    obtain ⟨b, off, h1, h2, h3⟩ := HCE.out i (by omega)
    exact ⟨b, off, h1, by omega, (World.cell?_of_block (w := w) (a := ⟨b, off + i, none⟩) ((Below.heap_alloc W _ b (by omega)).trans (BW.out.block b h2))).trans h3⟩
  have B1 : Hid (Below W.heap.size W W1) := by show Below W.heap.size W W1; rw [hW1]; exact (Below.refl _ _).alloc (Nat.le_refl _) _
  have s1 : W1.heap.size = w.heap.size + 2 := by rw [hW1]; simp; omega
  have rlo : R = w.heap.size + 1 := by omega
  rw [← hR]
  clear hR hW1 hn2 hn hnc HCE HFB HOP
  have RS1 : Hid (W1.heap[w.heap.size]? = some (.cells #[.slice none 0 0, .slice none 0 0] 26 (0, 0))) := (B1.out.block _ (by omega)).trans R1.out
  have BL1 : Hid (Below w.heap.size w W1) := BW.out.trans (B1.out.mono (by omega))
  have HR : Hid (R = w.heap.size + 1) := rlo
  have HS1 : Hid (W1.heap.size = w.heap.size + 2) := s1
  clear R1 B1 BW rlo s1 sw
  go_wp2_with fail
  refine (any_rd HSP.out R ob n' cb f 0 W1 RD1.out (by omega)).mono ?_
  rintro e W2 ⟨p0, m0, j0, p1, m1, j1, D, rfl, hsz, hat, q2, hq2, rd2, bt2⟩
  have rr := HR.out
  have s1 := HS1.out
  have s2 := bt2.out.size
  obtain ⟨U, hU⟩ : ∃ U, U = W2.alloc (.cells #[.slice p0 m0 j0, .slice p1 m1 j1] 26) := ⟨_, rfl⟩
  have EU : Hid (U = W2.alloc (.cells #[.slice p0 m0 j0, .slice p1 m1 j1] 26)) := hU
  obtain ⟨gb, hgb⟩ : ∃ g, g = W2.heap.size := ⟨_, rfl⟩
  have EGB : Hid (gb = W2.heap.size) := hgb
  have bU : Below W2.heap.size W2 U := by rw [hU]; exact (Below.refl _ _).alloc (Nat.le_refl _) _
  have sU := bU.size
  have hbt : But (fun k => k = R) W1 U := bt2.out.trans (But.of_below bU)
  have RSU : Hid (U.heap[w.heap.size]? = some (.cells #[.slice none 0 0, .slice none 0 0] 26 (0, 0))) := (hbt.block _ (by omega) (by omega)).trans RS1.out
  have BKU : Hid (U.heap[gb]? = some (.cells #[.slice p0 m0 j0, .slice p1 m1 j1] 26 (0, 0))) := by rw [hgb, hU]; exact heap_alloc_new W2 _
  have RDU : Hid (Rd R U ob n' cb q2 f) := rd2.out.but (fun b hb => bU.block b (by omega))
  have BLU : Hid (Below w.heap.size w U) := BL1.out.trans (hbt.below (B := w.heap.size) (fun b hb => by omega) (by omega))
  have ATU : Hid (AtL (fun b => W1.heap.size < b ∧ b < U.heap.size) U D.1 (.slice p0 m0 j0) ∧ AtL (fun b => W1.heap.size < b ∧ b < U.heap.size) U D.2 (.slice p1 m1 j1)) := ⟨(hat.out.1.same (fun b hb => bU.block b hb.2)).up (fun b hb => ⟨hb.1, by omega⟩), (hat.out.2.same (fun b hb => bU.block b hb.2)).up (fun b hb => ⟨hb.1, by omega⟩)⟩
  have HSZ : Hid (SzD 17 D) := hsz
  have hgl : w.heap.size + 2 ≤ gb := by omega
  clear hU hgb bU hbt hat hsz rd2 bt2 RS1 RD1 BL1 sU s2 s1 rr
  have CS : Hid (Calls Tryz.prog 26 #[.pointer (some ⟨R, 0, none⟩), .slice p0 m0 j0, .int .i64 2] U fun e w' => ∃ v M, e = .returned v ∧ M.length ≤ m0 ∧ (∀ s ∈ M, s ∈ D.1) ∧ Hid (Row w' U.heap.size 9 1 eS v M) ∧ ∃ p', p' ≤ q2 + 1000 ∧ Hid (Rd R w' ob n' cb p' f) ∧ Hid (But (fun k => k = R) U w')) := by
    have rr := HR.out
    have s1 := HS1.out
    have em : D.1.length = m0 := by obtain ⟨_, _, e, _⟩ := ATU.out.1; cases e; rfl
    have h17 := HSZ.out.1.1
    exact some_rd R ob n' cb f q2 (fun b => W1.heap.size < b ∧ b < U.heap.size) D.1 p0 m0 j0 2 U RDU.out (by omega) ATU.out.1 (fun b hb => ⟨hb.2, by omega⟩) (by omega) (by omega) (by omega)
  have EM0 : Hid (m0 ≤ 17) := by
    have em : D.1.length = m0 := by obtain ⟨_, _, e, _⟩ := ATU.out.1; cases e; rfl
    have h17 := HSZ.out.1.1
    show _ ≤ _
    omega
  go_upto_region 3 with fail
  rw [← EU.out, ← EGB.out]
  clear EU EGB
  have y0 := (cell_row BKU.out 0 _ rfl).1
  go_wp2_with fail
  refine Calls.mono CS.out ?_
  rintro e V3 ⟨lv, M, rfl, hml, hmm, hrow, q3, hq3, rd3, bt3⟩
  clear y0 CS
  have MZ : SzL 64 M := ⟨by have := EM0.out; omega, fun z hz => by have := HSZ.out.1.2 z (hmm z hz); omega⟩
  obtain ⟨ov, kv, elv⟩ := Row.form hrow.out
  obtain ⟨nv, env⟩ : ∃ x, M.length = x := ⟨_, rfl⟩
  rw [env] at elv
  subst elv
  have ENV : Hid (M.length = nv) := env
  have SUW : Hid (W1.heap.size < U.heap.size) := by
    have hgb : gb < U.heap.size := (Array.getElem?_eq_some_iff.1 BKU.out).1
    have := HS1.out
    show _ < _
    omega
  go_wp2_with fail
  refine (pick_rd R ob n' cb f q3 12 V3 rd3.out (by omega) (by omega) (by omega)).mono ?_
  rintro e V4 ⟨z, rfl, hz0, hz1, q4, hq4, rd4, bt4⟩
  have hbt : But (fun k => k = R) U V4 := bt3.out.trans bt4.out
  have sV := hbt.size
  have wl := (Array.getElem?_eq_some_iff.1 RSU.out).1
  have gl := (Array.getElem?_eq_some_iff.1 BKU.out).1
  have rr := HR.out
  have s1 := HS1.out
  have sU := SUW.out
  have RSV4 : Hid (V4.heap[w.heap.size]? = some (.cells #[.slice none 0 0, .slice none 0 0] 26 (0, 0))) := (hbt.block _ wl (by omega)).trans RSU.out
  have BKV4 : Hid (V4.heap[gb]? = some (.cells #[.slice p0 m0 j0, .slice p1 m1 j1] 26 (0, 0))) := (hbt.block _ gl (by omega)).trans BKU.out
  have RDV4 : Hid (Rd R V4 ob n' cb q4 f) := rd4.out
  have BLV4 : Hid (Below w.heap.size w V4) := BLU.out.trans (hbt.below (B := w.heap.size) (fun b hb => by omega) (by omega))
  have ATV4 : Hid (AtL (fun b => W1.heap.size < b ∧ b < V4.heap.size) V4 D.1 (.slice p0 m0 j0) ∧ AtL (fun b => W1.heap.size < b ∧ b < V4.heap.size) V4 D.2 (.slice p1 m1 j1)) := ⟨(ATU.out.1.same (fun b hb => hbt.block b hb.2 (by omega))).up (fun b hb => ⟨hb.1, by omega⟩), (ATU.out.2.same (fun b hb => hbt.block b hb.2 (by omega))).up (fun b hb => ⟨hb.1, by omega⟩)⟩
  have MRV4 : Hid (Row V4 U.heap.size 9 1 eS (.slice ov nv kv) M) := Row.block hrow.out (fun q hq => by have := World.ownsRow.lt hrow.out q hq; exact bt4.out.block q this.2 (by omega))
  have MZV4 : Hid (SzL 65 M) := ⟨by have := MZ.1; omega, fun x hx => by have := MZ.2 x hx; omega⟩
  have ATL : Hid (AtL (fun b => W1.heap.size < b ∧ b < U.heap.size) V4 D.1 (.slice p0 m0 j0) ∧ AtL (fun b => W1.heap.size < b ∧ b < U.heap.size) V4 D.2 (.slice p1 m1 j1)) := ⟨ATU.out.1.same (fun b hb => hbt.block b hb.2 (by omega)), ATU.out.2.same (fun b hb => hbt.block b hb.2 (by omega))⟩
  have HSV4 : Hid (U.heap.size ≤ V4.heap.size) := sV
  have H64 : Hid (SzL 64 M) := MZ
  clear hbt sV wl gl rr s1 sU rd3 rd4 bt3 bt4 hrow MZ env hml hmm RSU BKU RDU BLU ATU
  by_cases hz : z = 0
  · subst hz
    have s4 := HSV4.out
    obtain ⟨Z3, hZ3⟩ : ∃ Z, Z = V4.alloc (.cells #[.string ⟨#[]⟩, .string ⟨#[122, 122]⟩, .string ⟨#[97]⟩] 9) := ⟨_, rfl⟩
    have EZ3 : Hid (Z3 = V4.alloc (.cells #[.string ⟨#[]⟩, .string ⟨#[122, 122]⟩, .string ⟨#[97]⟩] 9)) := hZ3
    have bZ3 : Below V4.heap.size V4 Z3 := by rw [hZ3]; exact (Below.refl _ _).alloc (Nat.le_refl _) _
    have hat3 : AtL (fun b => b = V4.heap.size) Z3 ([⟨#[]⟩, ⟨#[122, 122]⟩, ⟨#[97]⟩] : List ByteArray) (.slice (some ⟨V4.heap.size, 0, none⟩) 3 3) := by rw [hZ3]; exact lit_at 9 V4 [⟨#[]⟩, ⟨#[122, 122]⟩, ⟨#[97]⟩] (by unfold maxLen; simp) (by intro s hs; simp at hs; rcases hs with rfl | rfl | rfl <;> (unfold maxLen; decide))
    have szZ3 : V4.heap.size < Z3.heap.size := by rw [hZ3]; simp
    have ltR4 := RDV4.out.lt
    have CO3 : Hid (Calls Tryz.prog 28 #[.pointer (some ⟨R, 0, none⟩), .slice (some ⟨V4.heap.size, 0, none⟩) 3 3] Z3 fun e w' => ∃ s, s ∈ ([⟨#[]⟩, ⟨#[122, 122]⟩, ⟨#[97]⟩] : List ByteArray) ∧ e = .returned (.string s) ∧ ∃ p', p' ≤ q4 + 1 ∧ Hid (Rd R w' ob n' cb p' f) ∧ Hid (But (fun k => k = R) Z3 w')) := of_rd R ob n' cb f q4 (fun b => b = V4.heap.size) _ _ Z3 (RDV4.out.but (fun b hb => bZ3.block b (by omega))) (by omega) hat3 (fun b hb => ⟨by omega, by omega⟩) (by decide) (by decide)
    have BZ3 : Hid (Below V4.heap.size V4 Z3) := bZ3
    clear hZ3 hat3 bZ3
    go_wp2_with fail
    rw [← EZ3.out]
    refine Calls.mono CO3.out ?_
    rintro e V5 ⟨s, hs, rfl, q5, hq5, rd5, bt5⟩
    have hbt5 : But (fun k => k = R) V4 V5 := (But.of_below BZ3.out).trans bt5.out
    have sV5 := hbt5.size
    have s65 : s.size ≤ 65 := by simp at hs; rcases hs with rfl | rfl | rfl <;> decide
    have MR5 : Hid (Row V5 U.heap.size 9 1 eS (.slice ov nv kv) M) := Row.block MRV4.out (fun q hq => by
      have := World.ownsRow.lt MRV4.out q hq
      have hu := HR.out
      have h1 := HS1.out
      have h2 := SUW.out
      exact hbt5.block q this.2 (by omega))
    have hsr : Hid (Src (V5.alloc (.cells #[.string s] 9)) (.slice (some ⟨V5.heap.size, 0, none⟩) 1 1) 1 1 (enc 1 eS [s])) := ⟨rfl, .inr ⟨_, _, rfl, by exact cell_one_new _ _ _⟩⟩
    have HB5 : Hid (But (fun k => k = R) V4 V5) := hbt5
    have HR5 : Hid (Rd R V5 ob n' cb q5 f) := rd5.out
    have HQ5 : Hid (q5 ≤ q4 + 1) := hq5
    have h64 := H64.out.1
    have hnv : nv ≤ 64 := by have := ENV.out; omega
    have hml : M.length ≤ 64 := h64
    clear hbt5 rd5 bt5 hs hq5 CO3 BZ3 EZ3 szZ3 h64
    go_wp2_with (first
      | (at_builtin; refine wpList_app elS rfl _ _ rfl rfl rfl (MR5.out.alloc _) hsr.out (flatS.enc_one _) (by unfold maxLen; omega) (by omega) (by simp; omega) ?_; intro v' V6 hown hg hbk))
    have ROW : Row V6 U.heap.size 9 1 eS v' (M ++ [s]) := by
      show World.ownsRow _ _ _ _ _ _ _
      rw [List.length_append, enc_append]
      exact hown
    obtain ⟨ov', kv', ev'⟩ := Row.form ROW
    obtain ⟨nv', env'⟩ : ∃ x, (M ++ [s]).length = x := ⟨_, rfl⟩
    rw [env'] at ev'
    subst ev'
    have rr := HR.out
    have s1 := HS1.out
    have sU := SUW.out
    have s5 := HB5.out.size
    have sa : (V5.alloc (.cells #[.string s] 9)).heap.size = V5.heap.size + 1 := by simp
    have s6 := hg.size
    have KEEP : ∀ b, b < V5.heap.size → b < U.heap.size ∨ (∃ c, V5.heap[b]? = some (.cells c 26 (0, 0))) ∨ (∃ c t, V5.heap[b]? = some (.cells c t (0, 0)) ∧ t ≠ 9) → V6.heap[b]? = V5.heap[b]? := fun b hb hc => by
      refine (hg.block b (by omega) (fun e => ?_)).trans (Below.heap_alloc _ _ _ hb)
      have ho := World.ownsRow.lt MR5.out b e.symm
      obtain ⟨c0, h0⟩ := Row.typed MR5.out b e.symm
      rcases hc with hc | ⟨c, hc⟩ | ⟨c, t, hc, ht⟩
      · omega
      · rw [h0] at hc
        injection hc with h1
        injection h1 with _ h2
        revert h2
        decide
      · rw [h0] at hc
        injection hc with h1
        injection h1 with _ h2
        exact ht h2.symm
    have wl := (Array.getElem?_eq_some_iff.1 RSV4.out).1
    have gl := (Array.getElem?_eq_some_iff.1 BKV4.out).1
    have RS5 : V5.heap[w.heap.size]? = some (.cells #[.slice none 0 0, .slice none 0 0] 26 (0, 0)) := (HB5.out.block _ wl (by omega)).trans RSV4.out
    have BK5 : V5.heap[gb]? = some (.cells #[.slice p0 m0 j0, .slice p1 m1 j1] 26 (0, 0)) := (HB5.out.block _ gl (by omega)).trans BKV4.out
    have RSV6 : Hid (V6.heap[w.heap.size]? = some (.cells #[.slice none 0 0, .slice none 0 0] 26 (0, 0))) := (KEEP _ (by omega) (.inr (.inl ⟨_, RS5⟩))).trans RS5
    have BKV6 : Hid (V6.heap[gb]? = some (.cells #[.slice p0 m0 j0, .slice p1 m1 j1] 26 (0, 0))) := (KEEP _ (by omega) (.inr (.inl ⟨_, BK5⟩))).trans BK5
    have BL56 : Below U.heap.size V5 V6 := ((Below.refl U.heap.size V5).alloc (by omega) _).grown hg (by simp; omega) (fun p hp => (World.ownsRow.lt MR5.out p hp).1)
    have RDV6 : Hid (Rd R V6 ob n' cb q5 f) := HR5.out.but (fun b hb => BL56.block b (by omega))
    have BLV6 : Hid (Below w.heap.size w V6) := (BLV4.out.trans (HB5.out.below (B := w.heap.size) (fun b hb => by omega) (by omega))).trans (BL56.mono (by omega))
    have AT5 : AtL (fun b => W1.heap.size < b ∧ b < U.heap.size) V6 D.1 (.slice p0 m0 j0) ∧ AtL (fun b => W1.heap.size < b ∧ b < U.heap.size) V6 D.2 (.slice p1 m1 j1) := ⟨ATL.out.1.same (fun b hb => (BL56.block b hb.2).trans (HB5.out.block b (by omega) (by omega))), ATL.out.2.same (fun b hb => (BL56.block b hb.2).trans (HB5.out.block b (by omega) (by omega)))⟩
    have sz56 := BL56.size
    have ATV6 : Hid (AtL (fun b => W1.heap.size < b ∧ b < V6.heap.size) V6 D.1 (.slice p0 m0 j0) ∧ AtL (fun b => W1.heap.size < b ∧ b < V6.heap.size) V6 D.2 (.slice p1 m1 j1)) := ⟨AT5.1.up (fun b hb => ⟨hb.1, by omega⟩), AT5.2.up (fun b hb => ⟨hb.1, by omega⟩)⟩
    have MRV6 : Hid (Row V6 U.heap.size 9 1 eS (.slice ov' nv' kv') (M ++ [s])) := ROW
    have MZV6 : Hid (SzL 65 (M ++ [s])) := ⟨by rw [List.length_append]; simp; omega, fun x hx => by
      rcases List.mem_append.1 hx with hx | hx
      · have := H64.out.2 x hx; omega
      · rw [List.mem_singleton.1 hx]; exact s65⟩
    have hq5 := HQ5.out
    clear hown hg hbk ROW KEEP RS5 BK5 BL56 AT5 sz56 wl gl rr s1 sU s5 sa s6 RSV4 BKV4 RDV4 BLV4 ATV4 ATL MRV4 MZV4 HSV4 MR5 HR5 HB5 hsr s65
    generalize M ++ [s] = M6 at MRV6 MZV6 env'
    go_upto_region 6 with fail
    have CY : (fun v : World => v.heap[gb]? = some (.cells #[.slice p0 m0 j0, .slice p1 m1 j1] 26 (0, 0))) V6.drew := BKV6.out
    refine wp_region_all (fun v : World => v.heap[gb]? = some (.cells #[.slice p0 m0 j0, .slice p1 m1 j1] 26 (0, 0))) (by kernel_rfl) ?_
    refine takeA (f := 7) (i := 0) (.agg #[.slice p0 m0 j0, .slice p1 m1 j1]) ⟨rfl, rfl⟩ (by kernel_rfl) rfl CY ?r0 ?_
    case r0 => intro v hv; have c0 := (cell_row hv 0 _ rfl).1; have c1 := (cell_row hv 1 _ rfl).1; go_simp
    simp only [Act.put, List.setIfInBounds_toArray, List.set_cons_zero, List.set_cons_succ]
    refine takeA (f := 6) (i := 1) (.pointer (some ⟨R, 0, none⟩)) ⟨rfl, rfl⟩ (by kernel_rfl) rfl CY ?r1 ?_
    case r1 => intro v hv; go_simp
    simp only [Act.put, List.setIfInBounds_toArray, List.set_cons_zero, List.set_cons_succ]
    refine takeA (f := 5) (i := 4) (.slice ov' nv' kv') ⟨rfl, rfl⟩ (by kernel_rfl) rfl CY ?r4 ?_
    case r4 => intro v hv; go_simp
    simp only [Act.put, List.setIfInBounds_toArray, List.set_cons_zero, List.set_cons_succ]
    obtain ⟨Z, hZ⟩ : ∃ Z, Z = V6.drew.alloc (.cells (([⟨#[97, 108, 101]⟩, ⟨#[98]⟩, ⟨#[99, 45, 99]⟩, ⟨#[100, 97, 114, 107]⟩, ⟨#[120, 57]⟩, ⟨#[122, 122]⟩, ⟨#[122, 122]⟩, ⟨#[]⟩] : List ByteArray).map Value.string).toArray 9) := ⟨_, rfl⟩
    have bZ : Below V6.heap.size V6 Z := by rw [hZ]; exact ((Below.refl _ _).drew).alloc (Nat.le_refl _) _
    have CZ : (fun v : World => v.heap[gb]? = some (.cells #[.slice p0 m0 j0, .slice p1 m1 j1] 26 (0, 0))) Z := (bZ.block gb (Array.getElem?_eq_some_iff.1 BKV6.out).1).trans BKV6.out
    refine oneHd (f := 4) (i := 2) (.slice (some ⟨V6.drew.heap.size, 0, none⟩) 8 8) Z ⟨rfl, rfl⟩ (by decide) (by kernel_rfl) rfl ?r2 CZ ?_
    case r2 => rw [hZ]; go_simp
    simp only [Act.put, List.setIfInBounds_toArray, List.set_cons_zero, List.set_cons_succ]
    have hat8 : AtL (fun b => b = V6.drew.heap.size) Z ([⟨#[97, 108, 101]⟩, ⟨#[98]⟩, ⟨#[99, 45, 99]⟩, ⟨#[100, 97, 114, 107]⟩, ⟨#[120, 57]⟩, ⟨#[122, 122]⟩, ⟨#[122, 122]⟩, ⟨#[]⟩] : List ByteArray) (.slice (some ⟨V6.drew.heap.size, 0, none⟩) 8 8) := by rw [hZ]; exact lit_at 9 V6.drew [⟨#[97, 108, 101]⟩, ⟨#[98]⟩, ⟨#[99, 45, 99]⟩, ⟨#[100, 97, 114, 107]⟩, ⟨#[120, 57]⟩, ⟨#[122, 122]⟩, ⟨#[122, 122]⟩, ⟨#[]⟩] (by unfold maxLen; simp) (by intro s hs; simp at hs; rcases hs with rfl | rfl | rfl | rfl | rfl | rfl | rfl <;> (unfold maxLen; decide))
    have ltR := RDV6.out.lt
    have rdZ : Rd R Z ob n' cb q5 f := RDV6.out.but (fun b hb => bZ.block b (by omega))
    have szd : V6.drew.heap.size = V6.heap.size := rfl
    have szZ : V6.heap.size < Z.heap.size := by rw [hZ]; simp
    clear hZ
    have CO : Hid (Calls Tryz.prog 28 #[.pointer (some ⟨R, 0, none⟩), .slice (some ⟨V6.drew.heap.size, 0, none⟩) 8 8] Z fun e w' => ∃ s, s ∈ ([⟨#[97, 108, 101]⟩, ⟨#[98]⟩, ⟨#[99, 45, 99]⟩, ⟨#[100, 97, 114, 107]⟩, ⟨#[120, 57]⟩, ⟨#[122, 122]⟩, ⟨#[122, 122]⟩, ⟨#[]⟩] : List ByteArray) ∧ e = .returned (.string s) ∧ ∃ p', p' ≤ q5 + 1 ∧ Hid (Rd R w' ob n' cb p' f) ∧ Hid (But (fun k => k = R) Z w')) := of_rd R ob n' cb f q5 (fun b => b = V6.drew.heap.size) _ _ Z rdZ (by omega) hat8 (fun b hb => ⟨by omega, by omega⟩) (by decide) (by decide)
    refine callHd (f := 3) (i := 3) ⟨rfl, rfl⟩ (by decide) (by kernel_rfl) rfl ?r3 (Calls.mono CO.out ?_)
    case r3 => go_simp
    rintro e Y ⟨s, hs, rfl, q9, hq9, rd9, bt9⟩
    have rr := HR.out
    have s1 := HS1.out
    have bt : But (fun k => k = R) V6 Y := (But.of_below bZ).trans bt9.out
    have wl := (Array.getElem?_eq_some_iff.1 RSV6.out).1
    have gl := (Array.getElem?_eq_some_iff.1 BKV6.out).1
    have sY := bt.size
    have RS : Y.heap[w.heap.size]? = some (.cells #[.slice none 0 0, .slice none 0 0] 26 (0, 0)) := (bt.block _ wl (by omega)).trans RSV6.out
    have CYY : (fun v : World => v.heap[gb]? = some (.cells #[.slice p0 m0 j0, .slice p1 m1 j1] 26 (0, 0))) Y := (bt.block gb gl (by omega)).trans BKV6.out
    refine ⟨_, rfl, CYY, ?_⟩
    simp only [Act.put, List.setIfInBounds_toArray, List.set_cons_zero, List.set_cons_succ]
    have sz64 : s.size ≤ 64 := by simp at hs; rcases hs with rfl | rfl | rfl | rfl | rfl | rfl | rfl <;> decide
    obtain ⟨F, hF⟩ : ∃ F, F = (Y.setCell ⟨w.heap.size, 0, none⟩ (.slice p0 m0 j0)).setCell ⟨w.heap.size, 1, none⟩ (.slice p1 m1 j1) := ⟨_, rfl⟩
    have OTH : ∀ q, q ≠ w.heap.size → F.heap[q]? = Y.heap[q]? := fun q hq => by rw [hF]; exact (Below.heap_setCell _ _ _ _ hq).trans (Below.heap_setCell _ _ _ _ hq)
    have FR : F.heap[w.heap.size]? = some (.cells #[.slice p0 m0 j0, .slice p1 m1 j1] 26 (0, 0)) := by
      rw [hF]
      have := set_row (set_row RS 0 (.slice p0 m0 j0)) 1 (.slice p1 m1 j1)
      simpa using this
    have szf : F.heap.size = Y.heap.size := by rw [hF]; simp [World.setCell]
    have BLY : Below w.heap.size w Y := BLV6.out.trans (bt.below (B := w.heap.size) (fun b hb => by omega) (by omega))
    have BEL : Below w.heap.size w F := by rw [hF]; exact (BLY.setCell (p := ⟨w.heap.size, 0, none⟩) (Nat.le_refl _) _).setCell (p := ⟨w.heap.size, 1, none⟩) (Nat.le_refl _) _
    have CF : (fun v : World => v.heap[gb]? = some (.cells #[.slice p0 m0 j0, .slice p1 m1 j1] 26 (0, 0))) F := (OTH gb (by omega)).trans CYY
    have MA : AtL (fun b => U.heap.size ≤ b ∧ b < V6.heap.size) V6 M6 (.slice ov' nv' kv') := flatS.row_at MRV6.out (fun b hb => by have := World.ownsRow.lt MRV6.out b hb; exact ⟨this.1, this.2⟩) (fun z hz => Nat.le_trans (MZV6.out.2 z hz) (by unfold maxLen; omega))
    have sU := SUW.out
    have FIN : Hid (DaE w (.returned (.tuple #[.agg #[.slice p0 m0 j0, .slice p1 m1 j1], .string s, .slice ov' nv' kv'])) F) :=
      ⟨p0, m0, j0, p1, m1, j1, D, s, _, _, _, M6, rfl, HSZ.out, sz64, MZV6.out, ⟨AtL.up (ATV6.out.1.same (fun b hb => (OTH b (by omega)).trans (bt.block b hb.2 (by omega)))) (fun b hb => ⟨by omega, by omega⟩), AtL.up (ATV6.out.2.same (fun b hb => (OTH b (by omega)).trans (bt.block b hb.2 (by omega)))) (fun b hb => ⟨by omega, by omega⟩), AtL.up (MA.same (fun b hb => (OTH b (by omega)).trans (bt.block b hb.2 (by omega)))) (fun b hb => ⟨by omega, by omega⟩)⟩, BEL⟩
    obtain ⟨z0, f0⟩ := cell_row RS 0 (.slice none 0 0) rfl
    obtain ⟨z1, f1⟩ := cell_row RS 1 (.slice none 0 0) rfl
    have g0 := (cell_row FR 0 (.slice p0 m0 j0) rfl).1
    have g1 := (cell_row FR 1 (.slice p1 m1 j1) rfl).1
    have HF : Hid (F = (Y.setCell ⟨w.heap.size, 0, none⟩ (.slice p0 m0 j0)).setCell ⟨w.heap.size, 1, none⟩ (.slice p1 m1 j1)) := hF
    clear hF rr s1 RS OTH FR szf BLY BEL MA sU bt wl gl sY rd9 bt9 rdZ hat8 bZ CO
    refine storeHd (f := 2) (i := 5) F ⟨rfl, rfl⟩ (by decide) (by kernel_rfl) rfl ?r5 CF ?_
    case r5 => rw [HF.out]; go_simp
    refine oneHd (f := 1) (i := 6) (.string s) F ⟨rfl, rfl⟩ (by decide) (by kernel_rfl) rfl ?r6 CF ?_
    case r6 => go_simp
    simp only [Act.put, List.setIfInBounds_toArray, List.set_cons_zero, List.set_cons_succ]
    refine oneHd (f := 0) (i := 7) (.slice ov' nv' kv') F ⟨rfl, rfl⟩ (by decide) (by kernel_rfl) rfl ?r7 CF ?_
    case r7 => go_simp
    simp only [Act.put, List.setIfInBounds_toArray, List.set_cons_zero, List.set_cons_succ]
    refine ⟨by kernel_rfl, ?_⟩
    go_wp2_with fail
    exact bodyPost_ret (v := .tuple #[.agg #[.slice p0 m0 j0, .slice p1 m1 j1], .string s, .slice ov' nv' kv']) (by simp [results, Tryz.results11, go_sem, g0, g1]) rfl FIN.out
  · clear ATL
    go_upto_region 6 with fail
    have CY : (fun v : World => v.heap[gb]? = some (.cells #[.slice p0 m0 j0, .slice p1 m1 j1] 26 (0, 0))) V4.drew := BKV4.out
    refine wp_region_all (fun v : World => v.heap[gb]? = some (.cells #[.slice p0 m0 j0, .slice p1 m1 j1] 26 (0, 0))) (by kernel_rfl) ?_
    refine takeA (f := 7) (i := 0) (.agg #[.slice p0 m0 j0, .slice p1 m1 j1]) ⟨rfl, rfl⟩ (by kernel_rfl) rfl CY ?r0 ?_
    case r0 => intro v hv; have c0 := (cell_row hv 0 _ rfl).1; have c1 := (cell_row hv 1 _ rfl).1; go_simp
    simp only [Act.put, List.setIfInBounds_toArray, List.set_cons_zero, List.set_cons_succ]
    refine takeA (f := 6) (i := 1) (.pointer (some ⟨R, 0, none⟩)) ⟨rfl, rfl⟩ (by kernel_rfl) rfl CY ?r1 ?_
    case r1 => intro v hv; go_simp
    simp only [Act.put, List.setIfInBounds_toArray, List.set_cons_zero, List.set_cons_succ]
    refine takeA (f := 5) (i := 4) (.slice ov nv kv) ⟨rfl, rfl⟩ (by kernel_rfl) rfl CY ?r4 ?_
    case r4 => intro v hv; go_simp
    simp only [Act.put, List.setIfInBounds_toArray, List.set_cons_zero, List.set_cons_succ]
    obtain ⟨Z, hZ⟩ : ∃ Z, Z = V4.drew.alloc (.cells (([⟨#[97, 108, 101]⟩, ⟨#[98]⟩, ⟨#[99, 45, 99]⟩, ⟨#[100, 97, 114, 107]⟩, ⟨#[120, 57]⟩, ⟨#[122, 122]⟩, ⟨#[122, 122]⟩, ⟨#[]⟩] : List ByteArray).map Value.string).toArray 9) := ⟨_, rfl⟩
    have bZ : Below V4.heap.size V4 Z := by rw [hZ]; exact ((Below.refl _ _).drew).alloc (Nat.le_refl _) _
    have CZ : (fun v : World => v.heap[gb]? = some (.cells #[.slice p0 m0 j0, .slice p1 m1 j1] 26 (0, 0))) Z := (bZ.block gb (Array.getElem?_eq_some_iff.1 BKV4.out).1).trans BKV4.out
    refine oneHd (f := 4) (i := 2) (.slice (some ⟨V4.drew.heap.size, 0, none⟩) 8 8) Z ⟨rfl, rfl⟩ (by decide) (by kernel_rfl) rfl ?r2 CZ ?_
    case r2 => rw [hZ]; go_simp
    simp only [Act.put, List.setIfInBounds_toArray, List.set_cons_zero, List.set_cons_succ]
    have hat8 : AtL (fun b => b = V4.drew.heap.size) Z ([⟨#[97, 108, 101]⟩, ⟨#[98]⟩, ⟨#[99, 45, 99]⟩, ⟨#[100, 97, 114, 107]⟩, ⟨#[120, 57]⟩, ⟨#[122, 122]⟩, ⟨#[122, 122]⟩, ⟨#[]⟩] : List ByteArray) (.slice (some ⟨V4.drew.heap.size, 0, none⟩) 8 8) := by rw [hZ]; exact lit_at 9 V4.drew [⟨#[97, 108, 101]⟩, ⟨#[98]⟩, ⟨#[99, 45, 99]⟩, ⟨#[100, 97, 114, 107]⟩, ⟨#[120, 57]⟩, ⟨#[122, 122]⟩, ⟨#[122, 122]⟩, ⟨#[]⟩] (by unfold maxLen; simp) (by intro s hs; simp at hs; rcases hs with rfl | rfl | rfl | rfl | rfl | rfl | rfl <;> (unfold maxLen; decide))
    have ltR := RDV4.out.lt
    have rdZ : Rd R Z ob n' cb q4 f := RDV4.out.but (fun b hb => bZ.block b (by omega))
    have szd : V4.drew.heap.size = V4.heap.size := rfl
    have szZ : V4.heap.size < Z.heap.size := by rw [hZ]; simp
    clear hZ
    have CO : Hid (Calls Tryz.prog 28 #[.pointer (some ⟨R, 0, none⟩), .slice (some ⟨V4.drew.heap.size, 0, none⟩) 8 8] Z fun e w' => ∃ s, s ∈ ([⟨#[97, 108, 101]⟩, ⟨#[98]⟩, ⟨#[99, 45, 99]⟩, ⟨#[100, 97, 114, 107]⟩, ⟨#[120, 57]⟩, ⟨#[122, 122]⟩, ⟨#[122, 122]⟩, ⟨#[]⟩] : List ByteArray) ∧ e = .returned (.string s) ∧ ∃ p', p' ≤ q4 + 1 ∧ Hid (Rd R w' ob n' cb p' f) ∧ Hid (But (fun k => k = R) Z w')) := of_rd R ob n' cb f q4 (fun b => b = V4.drew.heap.size) _ _ Z rdZ (by omega) hat8 (fun b hb => ⟨by omega, by omega⟩) (by decide) (by decide)
    refine callHd (f := 3) (i := 3) ⟨rfl, rfl⟩ (by decide) (by kernel_rfl) rfl ?r3 (Calls.mono CO.out ?_)
    case r3 => go_simp
    rintro e Y ⟨s, hs, rfl, q9, hq9, rd9, bt9⟩
    have rr := HR.out
    have s1 := HS1.out
    have bt : But (fun k => k = R) V4 Y := (But.of_below bZ).trans bt9.out
    have wl := (Array.getElem?_eq_some_iff.1 RSV4.out).1
    have gl := (Array.getElem?_eq_some_iff.1 BKV4.out).1
    have sY := bt.size
    have RS : Y.heap[w.heap.size]? = some (.cells #[.slice none 0 0, .slice none 0 0] 26 (0, 0)) := (bt.block _ wl (by omega)).trans RSV4.out
    have CYY : (fun v : World => v.heap[gb]? = some (.cells #[.slice p0 m0 j0, .slice p1 m1 j1] 26 (0, 0))) Y := (bt.block gb gl (by omega)).trans BKV4.out
    refine ⟨_, rfl, CYY, ?_⟩
    simp only [Act.put, List.setIfInBounds_toArray, List.set_cons_zero, List.set_cons_succ]
    have sz64 : s.size ≤ 64 := by simp at hs; rcases hs with rfl | rfl | rfl | rfl | rfl | rfl | rfl <;> decide
    obtain ⟨F, hF⟩ : ∃ F, F = (Y.setCell ⟨w.heap.size, 0, none⟩ (.slice p0 m0 j0)).setCell ⟨w.heap.size, 1, none⟩ (.slice p1 m1 j1) := ⟨_, rfl⟩
    have OTH : ∀ q, q ≠ w.heap.size → F.heap[q]? = Y.heap[q]? := fun q hq => by rw [hF]; exact (Below.heap_setCell _ _ _ _ hq).trans (Below.heap_setCell _ _ _ _ hq)
    have FR : F.heap[w.heap.size]? = some (.cells #[.slice p0 m0 j0, .slice p1 m1 j1] 26 (0, 0)) := by
      rw [hF]
      have := set_row (set_row RS 0 (.slice p0 m0 j0)) 1 (.slice p1 m1 j1)
      simpa using this
    have szf : F.heap.size = Y.heap.size := by rw [hF]; simp [World.setCell]
    have BLY : Below w.heap.size w Y := BLV4.out.trans (bt.below (B := w.heap.size) (fun b hb => by omega) (by omega))
    have BEL : Below w.heap.size w F := by rw [hF]; exact (BLY.setCell (p := ⟨w.heap.size, 0, none⟩) (Nat.le_refl _) _).setCell (p := ⟨w.heap.size, 1, none⟩) (Nat.le_refl _) _
    have CF : (fun v : World => v.heap[gb]? = some (.cells #[.slice p0 m0 j0, .slice p1 m1 j1] 26 (0, 0))) F := (OTH gb (by omega)).trans CYY
    have MA : AtL (fun b => U.heap.size ≤ b ∧ b < V4.heap.size) V4 M (.slice ov nv kv) := flatS.row_at MRV4.out (fun b hb => by have := World.ownsRow.lt MRV4.out b hb; exact ⟨this.1, this.2⟩) (fun z hz => Nat.le_trans (MZV4.out.2 z hz) (by unfold maxLen; omega))
    have sU := SUW.out
    have FIN : Hid (DaE w (.returned (.tuple #[.agg #[.slice p0 m0 j0, .slice p1 m1 j1], .string s, .slice ov nv kv])) F) :=
      ⟨p0, m0, j0, p1, m1, j1, D, s, _, _, _, M, rfl, HSZ.out, sz64, MZV4.out, ⟨AtL.up (ATV4.out.1.same (fun b hb => (OTH b (by omega)).trans (bt.block b hb.2 (by omega)))) (fun b hb => ⟨by omega, by omega⟩), AtL.up (ATV4.out.2.same (fun b hb => (OTH b (by omega)).trans (bt.block b hb.2 (by omega)))) (fun b hb => ⟨by omega, by omega⟩), AtL.up (MA.same (fun b hb => (OTH b (by omega)).trans (bt.block b hb.2 (by omega)))) (fun b hb => ⟨by omega, by omega⟩)⟩, BEL⟩
    obtain ⟨z0, f0⟩ := cell_row RS 0 (.slice none 0 0) rfl
    obtain ⟨z1, f1⟩ := cell_row RS 1 (.slice none 0 0) rfl
    have g0 := (cell_row FR 0 (.slice p0 m0 j0) rfl).1
    have g1 := (cell_row FR 1 (.slice p1 m1 j1) rfl).1
    have HF : Hid (F = (Y.setCell ⟨w.heap.size, 0, none⟩ (.slice p0 m0 j0)).setCell ⟨w.heap.size, 1, none⟩ (.slice p1 m1 j1)) := hF
    clear hF rr s1 RS OTH FR szf BLY BEL MA sU bt wl gl sY rd9 bt9 rdZ hat8 bZ CO
    refine storeHd (f := 2) (i := 5) F ⟨rfl, rfl⟩ (by decide) (by kernel_rfl) rfl ?r5 CF ?_
    case r5 => rw [HF.out]; go_simp
    refine oneHd (f := 1) (i := 6) (.string s) F ⟨rfl, rfl⟩ (by decide) (by kernel_rfl) rfl ?r6 CF ?_
    case r6 => go_simp
    simp only [Act.put, List.setIfInBounds_toArray, List.set_cons_zero, List.set_cons_succ]
    refine oneHd (f := 0) (i := 7) (.slice ov nv kv) F ⟨rfl, rfl⟩ (by decide) (by kernel_rfl) rfl ?r7 CF ?_
    case r7 => go_simp
    simp only [Act.put, List.setIfInBounds_toArray, List.set_cons_zero, List.set_cons_succ]
    refine ⟨by kernel_rfl, ?_⟩
    go_wp2_with fail
    exact bodyPost_ret (v := .tuple #[.agg #[.slice p0 m0 j0, .slice p1 m1 j1], .string s, .slice ov nv kv]) (by simp [results, Tryz.results11, go_sem, g0, g1]) rfl FIN.out
end Go.Proofs.YtaejlcanccfmmaaGreatDoor
