/-
  A thing of a book of shares, drawn: l55Thing.
-/
import Derived.Test.YthgnhjkkfhfgmaaZdd
import Derived.Test.YthgnhjkkfhfgmaaM29
namespace Go.Proofs.Ythgnhjkkfhfgmaa
open Go.RowKit Go.Sort

set_option maxRecDepth 100000 in
set_option maxHeartbeats 16000000 in
theorem thing_rd (R : Nat) (ob : Option Addr) (n cb : Nat) (f : Nat → Int) (p : Int) (T : List ByteArray) (o0 o1 : Option Addr) (n0 k0 n1 k1 : Nat) (w : World) (h : Rd R w ob n cb p f) (hp : p ≤ 80000) (hT : AtL (fun b => b < w.heap.size ∧ b ≠ R) w T (.slice o0 n0 k0)) (hTz : SzL 64 T) :
    Calls Try.prog 11 #[.pointer (some ⟨R, 0, none⟩), .agg #[.slice o0 n0 k0, .slice o1 n1 k1]] w fun e w' => ∃ s : ByteArray, e = .returned (.string s) ∧ s.size ≤ 64 ∧ ∃ p', p' ≤ p + 3 ∧ Hid (Rd R w' ob n cb p' f) ∧ Hid (But (fun k => k = R) w w') := by
  have rlt := h.lt
  have en0 : T.length = n0 := by obtain ⟨_, _, e, _⟩ := hT; cases e; rfl
  have hn0 : n0 ≤ 64 := by have := hTz.1; omega
  have EN0 : Hid (T.length = n0) := en0
  have HT : Hid (∀ u, But (fun k => k = R) w u → AtL (fun b => b < w.heap.size ∧ b ≠ R) u T (.slice o0 n0 k0)) := fun u hu => hT.same (fun b hb => hu.block b hb.1 hb.2)
  have HTZ : Hid (SzL 64 T) := hTz
  obtain ⟨v1, ev⟩ : ∃ v, v = Value.slice o1 n1 k1 := ⟨_, rfl⟩
  rw [← ev]
  clear en0 hT hTz ev
  obtain ⟨W, hW⟩ : ∃ W, W = w.alloc (.cells #[.slice o0 n0 k0, v1] 26) := ⟨_, rfl⟩
  have EW : Hid (W = w.alloc (.cells #[.slice o0 n0 k0, v1] 26)) := hW
  have BW : Hid (Below w.heap.size w W) := by rw [hW]; exact (Below.refl _ _).alloc (Nat.le_refl _) _
  have R1 : Hid (W.heap[w.heap.size]? = some (.cells #[.slice o0 n0 k0, v1] 26 (0, 0))) := by rw [hW]; exact heap_alloc_new w _
  have sW : w.heap.size + 1 ≤ W.heap.size := by rw [hW]; simp
  have RD0 : Hid (Rd R W ob n cb p f) := h.but (fun b hb => BW.out.block b (by omega))
  have BT0 : Hid (But (fun k => k = R) w W) := But.of_below BW.out
  have OF3 : Hid (∀ (V : World) (q : Int), Rd R V ob n cb q f → q ≤ 90000 → Calls Try.prog 23 #[.pointer (some ⟨R, 0, none⟩), .slice (some ⟨V.heap.size, 0, none⟩) 3 3] (V.alloc (.cells #[.string ⟨#[]⟩, .string ⟨#[122, 122]⟩, .string ⟨#[107, 101, 103]⟩] 9)) fun e w' => ∃ s, s.size ≤ 64 ∧ e = .returned (.string s) ∧ ∃ p', p' ≤ q + 1 ∧ Rd R w' ob n cb p' f ∧ But (fun k => k = R) V w') := fun V q hV hq => by
    have hr := hV.lt
    refine (of_rd R ob n cb f q (fun b => b = V.heap.size) ([⟨#[]⟩, ⟨#[122, 122]⟩, ⟨#[107, 101, 103]⟩] : List ByteArray) _ _ (hV.but (fun b hb => Below.heap_alloc _ _ _ (by omega))) hq (lit_at 9 V [⟨#[]⟩, ⟨#[122, 122]⟩, ⟨#[107, 101, 103]⟩] (by unfold maxLen; simp) (by intro s hs; simp at hs; rcases hs with rfl | rfl | rfl <;> (unfold maxLen; decide))) (fun b hb => ⟨by rw [hb]; simp, by omega⟩) (by decide) (by decide)).mono ?_
    rintro e w' ⟨s, hs, he, p', hp', rd, bt⟩
    refine ⟨s, ?_, he, p', hp', rd.out, (But.of_below ((Below.refl _ _).alloc (Nat.le_refl _) _)).trans bt.out⟩
    simp at hs
    rcases hs with rfl | rfl | rfl <;> decide
  clear hW h
  go_enter Try.func11, Try.ntmps11
  go_upto_region 1 with fail
  rw [← EW.out]
  have y0 := (cell_row R1.out 0 (.slice o0 n0 k0) rfl).1
  by_cases hb0 : n0 = 0
  · subst hb0
    go_wp2_with fail
    refine (OF3.out W p RD0.out (by omega)).mono ?_
    rintro e V2 ⟨s, hs, rfl, q2, hq2, rd2, bt2⟩
    go_wp2_with fail
    go_ret
    exact ⟨s, rfl, hs, q2, by omega, rd2, BT0.out.trans bt2⟩
  go_wp2_with fail
  refine (pick_rd R ob n cb f p 10 W RD0.out (by omega) (by omega) (by omega)).mono ?_
  rintro e u1 ⟨z, rfl, hz0, hz1, q1, hq1, rdn, btn⟩
  have BT1 : Hid (But (fun k => k = R) w u1) := BT0.out.trans btn.out
  have BK1 : Hid (u1.heap[w.heap.size]? = some (.cells #[.slice o0 n0 k0, v1] 26 (0, 0))) := (btn.out.block _ (by omega) (by omega)).trans R1.out
  by_cases hz : z = 0
  · subst hz
    go_wp2_with fail
    refine (OF3.out u1 q1 rdn.out (by omega)).mono ?_
    rintro e V2 ⟨s, hs, rfl, q2, hq2, rd2, bt2⟩
    go_wp2_with fail
    go_ret
    exact ⟨s, rfl, hs, q2, by omega, rd2, BT1.out.trans bt2⟩
  have hzp : 0 < z := by omega
  clear y0 btn
  go_upto_region 2 with fail
  have HBK : Hid (u1.drew.heap[w.heap.size]? = some (.cells #[.slice o0 n0 k0, v1] 26 (0, 0))) := BK1.out
  refine wp_region_movesC (fun v => v.heap[w.heap.size]? = some (.cells #[.slice o0 n0 k0, v1] 26 (0, 0))) 7 [] (by kernel_rfl) (by kernel_rfl) HBK.out ?_
  simp only [List.filterMap_nil, movD]
  refine takeHQ (f := 6) (i := 0) (.pointer (some ⟨w.heap.size, 0, none⟩)) ⟨rfl, rfl⟩ (by kernel_rfl) rfl (HBK.out) ?r0 ?_
  case r0 => intro v hv; go_simp
  simp only [Act.put, List.setIfInBounds_toArray, List.set_cons_zero, List.set_cons_succ]
  refine takeHQ (f := 5) (i := 1) (.slice o0 n0 k0) ⟨rfl, rfl⟩ (by kernel_rfl) rfl (HBK.out) ?r1 ?_
  case r1 => intro v hv; have c1 := (cell_row hv 0 _ rfl).1; go_simp
  simp only [Act.put, List.setIfInBounds_toArray, List.set_cons_zero, List.set_cons_succ]
  refine takeHQ (f := 4) (i := 2) (.pointer (some ⟨R, 0, none⟩)) ⟨rfl, rfl⟩ (by kernel_rfl) rfl (HBK.out) ?r2 ?_
  case r2 => intro v hv; go_simp
  simp only [Act.put, List.setIfInBounds_toArray, List.set_cons_zero, List.set_cons_succ]
  refine takeHQ (f := 3) (i := 3) (.pointer (some ⟨w.heap.size, 0, none⟩)) ⟨rfl, rfl⟩ (by kernel_rfl) rfl (HBK.out) ?r3 ?_
  case r3 => intro v hv; go_simp
  simp only [Act.put, List.setIfInBounds_toArray, List.set_cons_zero, List.set_cons_succ]
  refine takeHQ (f := 2) (i := 4) (.slice o0 n0 k0) ⟨rfl, rfl⟩ (by kernel_rfl) rfl (HBK.out) ?r4 ?_
  case r4 => intro v hv; have c1 := (cell_row hv 0 _ rfl).1; go_simp
  simp only [Act.put, List.setIfInBounds_toArray, List.set_cons_zero, List.set_cons_succ]
  refine takeHQ (f := 1) (i := 5) (.int .i64 n0) ⟨rfl, rfl⟩ (by kernel_rfl) rfl (HBK.out) ?r5 ?_
  case r5 => intro v hv; go_simp
  simp only [Act.put, List.setIfInBounds_toArray, List.set_cons_zero, List.set_cons_succ]
  have rdd : Rd R u1.drew ob n cb q1 f := rdn.out.but (fun b hb => rfl)
  refine callHd (f := 0) (i := 6) ⟨rfl, rfl⟩ (by decide) (by kernel_rfl) rfl ?r6 ((pick_rd R ob n cb f q1 n0 u1.drew rdd (by omega) (by omega) (by omega)).mono ?_)
  case r6 => go_simp
  rintro e V2 ⟨y, rfl, hy0, hy1, q2, hq2, rd2, bt2⟩
  obtain ⟨k, rfl⟩ : ∃ k : Nat, y = (k : Int) := ⟨y.toNat, by omega⟩
  have hbu : But (fun k => k = R) w V2 := BT1.out.trans ((But.of_below ((Below.refl u1.heap.size u1).drew)).trans bt2.out)
  have BT2 : Hid (But (fun k => k = R) w V2) := hbu
  have BK2 : V2.heap[w.heap.size]? = some (.cells #[.slice o0 n0 k0, v1] 26 (0, 0)) := (bt2.out.block _ (Array.getElem?_eq_some_iff.1 HBK.out).1 (by omega)).trans HBK.out
  refine ⟨_, rfl, BK2, ?_⟩
  simp only [Act.put, List.setIfInBounds_toArray, List.set_cons_zero, List.set_cons_succ]
  refine ⟨by kernel_rfl, ?_⟩
  simp only [List.drop_succ_cons, List.drop_zero]
  have hkb : k < n0 := by omega
  have hkl : k < T.length := by have := EN0.out; omega
  obtain ⟨bn, fn, e9, _, ck⟩ := atl_strO (HT.out V2 hbu) k hkl
  have HS : Hid (T[k].size ≤ 64) := HTZ.out.2 _ (List.getElem_mem hkl)
  generalize T[k] = s at ck HS
  subst e9
  clear hbu BK2 bt2 rdd HBK BK1 hkl
  go_wp2_with fail
  go_ret
  exact ⟨s, rfl, HS.out, q2, by omega, rd2, BT2⟩

end Go.Proofs.Ythgnhjkkfhfgmaa
