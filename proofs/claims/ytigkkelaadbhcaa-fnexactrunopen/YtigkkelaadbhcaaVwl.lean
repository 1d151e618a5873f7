/-
  The law FnExactRunOpen, walked: whatever the things, the call returns true, and nothing that was there before has turned.
-/
import Derived.Test.YtigkkelaadbhcaaVws
import Derived.Test.YtigkkelaadbhcaaVwk
import Derived.Test.YtigkkelaadbhcaaVwh
import Derived.Test.YtigkkelaadbhcaaVwp
namespace Go.Proofs.Ytigkkelaadbhcaa
open Go.RowKit
open Go.Sort

set_option maxRecDepth 100000 in
set_option maxHeartbeats 16000000 in
theorem lawO_any (T : List ByteArray) (S : Nat → Prop) (oA : Option Addr) (nA kA : Nat) (w : World) (h : AtL S w T (.slice oA nA kA)) (hS : ∀ b, S b → b < w.heap.size) :
    Calls Try.prog 3 #[.slice oA nA kA] w fun e w' => e = .returned (.bool true) ∧ Below w.heap.size w w' := by
  have H : Hid (∀ w', Below w.heap.size w w' → AtL S w' T (.slice oA nA kA)) := fun w' hb => h.same (Same.of_below hb hS)
  have HS : Hid (∀ w', Below w.heap.size w w' → ∀ b, S b → b < w'.heap.size) := fun w' hb b hb' => Nat.lt_of_lt_of_le (hS b hb') hb.size
  have kw : Hid (Below w.heap.size w w) := Below.refl _ _
  clear h hS
  go_enter Try.func3, Try.ntmps3
  go_wp2_with fail
  refine (szStringS_any S T (.slice oA nA kA) 1048576 w (H.out _ kw.out) (HS.out _ kw.out) (by omega) (by omega)).mono ?_
  rintro e w1 ⟨y, rfl, hy, hb1⟩
  have kw1 : Hid (Below w.heap.size w w1) := hb1
  have HY : Hid (y < 0 ∨ y + (totL T : Int) = 1048576) := hy
  clear hy hb1
  by_cases hneg : y < 0
  · go_wp2_with fail
    go_ret
    exact ⟨rfl, kw1.out⟩
  have HM : Hid (totL T ≤ 1048576) := by have := HY.out; show _ ≤ _; omega
  have HCT : Hid (cntL T ≤ 1048576) := Nat.le_trans (cntZ_strs T) HM.out
  obtain ⟨D, hD⟩ : ∃ D : DShareBook, D = ((opT T, []) : DShareBook) := ⟨_, rfl⟩
  have HCD : Hid (Own.cnt D ≤ 1048576) := by
    refine cnt_book ?_
    rw [hD, tot_DShareBook]
    have hle : totL (opT T) ≤ totL T := by
      unfold opT
      split
      · exact Nat.le_refl _
      · simp [totL, sumTo]
    have := HM.out
    simp only
    rw [show totL ([] : List DShareBatch) = 0 from rfl]
    omega
  have MZ : Hid (∀ (S : Nat → Prop) (o0 : Option Addr) (n0 k0 : Nat) (u : World), AtL S u T (.slice o0 n0 k0) → (∀ b, S b → b < u.heap.size) → Calls Try.prog 5 #[.slice o0 n0 k0] u fun e w' => ∃ p m j, e = .returned (.tuple #[.agg #[.int .i64 0, .int .i64 0, .slice p m j, .slice none 0 0, .slice none 0 0, .slice none 0 0], .bool (bokB (T, []))]) ∧ Lay.At (fun b => u.heap.size ≤ b ∧ b < w'.heap.size) w' D (cs [.slice p m j, .slice none 0 0]) ∧ Below u.heap.size u w') := fun S o0 n0 k0 u hu hSu => by
    have hl := totL_len T
    have hm := HM.out
    refine (openX_any S T o0 n0 k0 u hu (by omega) hSu).mono ?_
    rintro e w' ⟨r0, he, ha, hb⟩
    obtain ⟨p, j, e0, -⟩ := id ha
    rw [e0] at he ha
    rw [hD]
    exact ⟨p, _, j, he, at_DShareBook.2 ⟨ha, atl_noneV _ _⟩, hb⟩
  have PI : Hid (∀ (S : Nat → Prop) (o0 : Option Addr) (n0 k0 : Nat) (u : World), AtL S u T (.slice o0 n0 k0) → (∀ b, S b → b < u.heap.size) → Calls Try.prog 7 #[.slice o0 n0 k0] u fun e w' => ∃ p m j p' m' j', e = .returned (.tuple #[.agg #[.int .i64 0, .int .i64 0, .slice p m j, .slice p' m' j', .slice none 0 0, .slice none 0 0], .bool (bokB (T, []))]) ∧ Own.On (fun b => u.heap.size ≤ b ∧ b < w'.heap.size) w' D (cs [.slice p m j, .slice p' m' j']) ∧ Below u.heap.size u w') := fun S o0 n0 k0 u hu hSu => by
    refine (openP_any S T o0 n0 k0 u hu hSu).mono ?_
    rintro e w' ⟨r0, r1, he, ha, hb⟩
    obtain ⟨p, j, e0, -⟩ := id (at_DShareBook.1 (Own.on_at ha)).1
    obtain ⟨p', j', e1, -⟩ := id (at_DShareBook.1 (Own.on_at ha)).2
    have e0 : r0 = _ := e0
    have e1 : r1 = _ := e1
    subst e0
    subst e1
    rw [hD]
    exact ⟨p, _, j, p', _, j', he, ha, hb⟩
  obtain ⟨bk, hbk⟩ : ∃ b, bokB (T, []) = b := ⟨_, rfl⟩
  rw [hbk] at MZ PI
  clear HY hD hbk kw
  have sc : w.heap.size ≤ w1.heap.size := kw1.out.size
  go_wp2_with fail
  refine (toStringS_any S T (.slice oA nA kA) _ (H.out _ kw1.out) (HS.out _ kw1.out) HM.out).mono ?_
  rintro e w2 ⟨r, rfl, gg, hb⟩
  obtain ⟨pla, jla, e0, -⟩ := id (gg)
  obtain ⟨mla, em0⟩ : ∃ n, T.length = n := ⟨_, rfl⟩
  rw [em0] at e0
  subst e0
  have Ya : Hid (AtL (fun b => w1.heap.size ≤ b ∧ b < w2.heap.size) w2 T (.slice pla mla jla)) := gg
  clear gg em0
  have zw2 := hb.size
  have kw2 : Hid (Below w.heap.size w w2) := kw1.out.trans (hb.mono kw1.out.size)
  clear hb kw1
  clear hneg
  go_wp2_with fail
  refine Calls.mono (MZ.out _ _ _ _ w2 Ya.out (fun b hb => hb.2)) ?_
  rintro e w3 ⟨p0u, m0u, j0u, rfl, uu, hb⟩
  have U : Hid (Lay.At (fun b => w2.heap.size ≤ b ∧ b < w3.heap.size) w3 D (cs [.slice p0u m0u j0u, .slice none 0 0])) := uu
  clear uu
  clear Ya
  have zw3 := hb.size
  have kw3 : Hid (Below w.heap.size w w3) := kw2.out.trans (hb.mono kw2.out.size)
  clear hb kw2
  obtain ⟨Bu, hBX⟩ : ∃ V, V = w3.alloc (.cells #[.int .i64 0, .int .i64 0, .slice p0u m0u j0u, .slice none 0 0, .slice none 0 0, .slice none 0 0] 30) := ⟨_, rfl⟩
  have EB : Hid (Bu = w3.alloc (.cells #[.int .i64 0, .int .i64 0, .slice p0u m0u j0u, .slice none 0 0, .slice none 0 0, .slice none 0 0] 30)) := hBX
  have hbx : Below w3.heap.size w3 Bu := by rw [hBX]; exact (Below.refl _ _).alloc (Nat.le_refl _) _
  obtain ⟨gu, hg⟩ : ∃ g, g = w3.heap.size := ⟨_, rfl⟩
  have EG : Hid (gu = w3.heap.size) := hg
  have Ru : Hid (Bu.heap[gu]? = some (.cells #[.int .i64 0, .int .i64 0, .slice p0u m0u j0u, .slice none 0 0, .slice none 0 0, .slice none 0 0] 30 (0, 0))) := by rw [hg, hBX]; exact heap_alloc_new w3 _
  have lu : w3.heap.size ≤ gu ∧ gu < Bu.heap.size := by rw [hg, hBX]; simp
  obtain ⟨lua, lub⟩ := lu
  clear hBX hg
  have zBu := hbx.size
  have kBu : Hid (Below w.heap.size w Bu) := kw3.out.trans (hbx.mono kw3.out.size)
  have U : Hid (Lay.At (fun b => w2.heap.size ≤ b ∧ b < w3.heap.size) Bu D (cs [.slice p0u m0u j0u, .slice none 0 0])) := Lay.same U.out (Same.of_below hbx (fun b hb => by omega))
  clear hbx kw3
  go_upto_region 6 with fail
  rw [← EB.out, ← EG.out]
  clear EB EG
  go_wp2_with fail
  refine (toStringS_own S T (.slice oA nA kA) _ (H.out _ kBu.out) (HS.out _ kBu.out) HM.out).mono ?_
  rintro e w4 ⟨r, rfl, gg, hb⟩
  obtain ⟨plx, jlx, e0, -⟩ := id (gg.at_)
  obtain ⟨mlx, em0⟩ : ∃ n, T.length = n := ⟨_, rfl⟩
  rw [em0] at e0
  subst e0
  have Yx : Hid (OnL (fun b => Bu.heap.size ≤ b ∧ b < w4.heap.size) w4 T (.slice plx mlx jlx)) := gg
  clear gg em0
  have zw4 := hb.size
  have kw4 : Hid (Below w.heap.size w w4) := kBu.out.trans (hb.mono kBu.out.size)
  have U : Hid (Lay.At (fun b => w2.heap.size ≤ b ∧ b < w3.heap.size) w4 D (cs [.slice p0u m0u j0u, .slice none 0 0])) := Lay.same U.out (Same.of_below hb (fun b hb => by omega))
  have Ru : Hid (w4.heap[gu]? = some (.cells #[.int .i64 0, .int .i64 0, .slice p0u m0u j0u, .slice none 0 0, .slice none 0 0, .slice none 0 0] 30 (0, 0))) := (hb.block _ (by omega)).trans Ru.out
  clear hb kBu
  have CA : Hid _ := PI.out _ _ _ _ w4 Yx.out.at_ (fun b hb => by omega)
  go_wp2_with fail
  refine Calls.mono CA.out ?_
  rintro e w5 ⟨p0g, m0g, j0g, p1g, m1g, j1g, rfl, hon, hb⟩
  clear CA
  have Gg : Hid (Own.On (fun b => w4.heap.size ≤ b ∧ b < w5.heap.size) w5 D (cs [.slice p0g m0g j0g, .slice p1g m1g j1g])) := hon
  clear hon
  have zw5 := hb.size
  have kw5 : Hid (Below w.heap.size w w5) := kw4.out.trans (hb.mono kw4.out.size)
  have U : Hid (Lay.At (fun b => w2.heap.size ≤ b ∧ b < w3.heap.size) w5 D (cs [.slice p0u m0u j0u, .slice none 0 0])) := Lay.same U.out (Same.of_below hb (fun b hb => by omega))
  have Ru : Hid (w5.heap[gu]? = some (.cells #[.int .i64 0, .int .i64 0, .slice p0u m0u j0u, .slice none 0 0, .slice none 0 0, .slice none 0 0] 30 (0, 0))) := (hb.block _ (by omega)).trans Ru.out
  have Yx : Hid (OnL (fun b => Bu.heap.size ≤ b ∧ b < w4.heap.size) w5 T (.slice plx mlx jlx)) := Yx.out.same (fun b hb' => hb.block b (by omega))
  clear hb kw4
  obtain ⟨Bg, hBX⟩ : ∃ V, V = w5.alloc (.cells #[.int .i64 0, .int .i64 0, .slice p0g m0g j0g, .slice p1g m1g j1g, .slice none 0 0, .slice none 0 0] 30) := ⟨_, rfl⟩
  have EB : Hid (Bg = w5.alloc (.cells #[.int .i64 0, .int .i64 0, .slice p0g m0g j0g, .slice p1g m1g j1g, .slice none 0 0, .slice none 0 0] 30)) := hBX
  have hbx : Below w5.heap.size w5 Bg := by rw [hBX]; exact (Below.refl _ _).alloc (Nat.le_refl _) _
  obtain ⟨gg, hg⟩ : ∃ g, g = w5.heap.size := ⟨_, rfl⟩
  have EG : Hid (gg = w5.heap.size) := hg
  have Rg : Hid (Bg.heap[gg]? = some (.cells #[.int .i64 0, .int .i64 0, .slice p0g m0g j0g, .slice p1g m1g j1g, .slice none 0 0, .slice none 0 0] 30 (0, 0))) := by rw [hg, hBX]; exact heap_alloc_new w5 _
  have lg : w5.heap.size ≤ gg ∧ gg < Bg.heap.size := by rw [hg, hBX]; simp
  obtain ⟨lga, lgb⟩ := lg
  clear hBX hg
  have zBg := hbx.size
  have kBg : Hid (Below w.heap.size w Bg) := kw5.out.trans (hbx.mono kw5.out.size)
  have U : Hid (Lay.At (fun b => w2.heap.size ≤ b ∧ b < w3.heap.size) Bg D (cs [.slice p0u m0u j0u, .slice none 0 0])) := Lay.same U.out (Same.of_below hbx (fun b hb => by omega))
  have Ru : Hid (Bg.heap[gu]? = some (.cells #[.int .i64 0, .int .i64 0, .slice p0u m0u j0u, .slice none 0 0, .slice none 0 0, .slice none 0 0] 30 (0, 0))) := (hbx.block _ (by omega)).trans Ru.out
  have Yx : Hid (OnL (fun b => Bu.heap.size ≤ b ∧ b < w4.heap.size) Bg T (.slice plx mlx jlx)) := Yx.out.same (fun b hb' => hbx.block b (by omega))
  have Gg : Hid (Own.On (fun b => w4.heap.size ≤ b ∧ b < w5.heap.size) Bg D (cs [.slice p0g m0g j0g, .slice p1g m1g j1g])) := Own.on_same Gg.out (fun b hb' => hbx.block b (by omega))
  clear hbx kw5
  go_upto_region 8 with fail
  rw [← EB.out, ← EG.out]
  clear EB EG
  have b0 := (cell_row Rg.out 0 (.int .i64 0) rfl).1
  have b1 := (cell_row Rg.out 1 (.int .i64 0) rfl).1
  have b2 := (cell_row Rg.out 2 (.slice p0g m0g j0g) rfl).1
  have b3 := (cell_row Rg.out 3 (.slice p1g m1g j1g) rfl).1
  have b4 := (cell_row Rg.out 4 (.slice none 0 0) rfl).1
  have b5 := (cell_row Rg.out 5 (.slice none 0 0) rfl).1
  have d0 := (cell_row Ru.out 0 (.int .i64 0) rfl).1
  have d1 := (cell_row Ru.out 1 (.int .i64 0) rfl).1
  have d2 := (cell_row Ru.out 2 (.slice p0u m0u j0u) rfl).1
  have d3 := (cell_row Ru.out 3 (.slice none 0 0) rfl).1
  have d4 := (cell_row Ru.out 4 (.slice none 0 0) rfl).1
  have d5 := (cell_row Ru.out 5 (.slice none 0 0) rfl).1
  go_wp2_with fail
  refine (eqRunHouse_nil _ _ D (.slice p0g m0g j0g) (.slice p1g m1g j1g) (.slice p0u m0u j0u) (.slice none 0 0) Bg (Own.on_at Gg.out) U.out (fun b hb => by omega) (fun b hb => by omega)).mono ?_
  rintro e w6 ⟨rfl, hb⟩
  have zw6 := hb.size
  have kw6 : Hid (Below w.heap.size w w6) := kBg.out.trans (hb.mono kBg.out.size)
  have U : Hid (Lay.At (fun b => w2.heap.size ≤ b ∧ b < w3.heap.size) w6 D (cs [.slice p0u m0u j0u, .slice none 0 0])) := Lay.same U.out (Same.of_below hb (fun b hb => by omega))
  have Ru : Hid (w6.heap[gu]? = some (.cells #[.int .i64 0, .int .i64 0, .slice p0u m0u j0u, .slice none 0 0, .slice none 0 0, .slice none 0 0] 30 (0, 0))) := (hb.block _ (by omega)).trans Ru.out
  have Yx : Hid (OnL (fun b => Bu.heap.size ≤ b ∧ b < w4.heap.size) w6 T (.slice plx mlx jlx)) := Yx.out.same (fun b hb' => hb.block b (by omega))
  have Gg : Hid (Own.On (fun b => w4.heap.size ≤ b ∧ b < w5.heap.size) w6 D (cs [.slice p0g m0g j0g, .slice p1g m1g j1g])) := Own.on_same Gg.out (fun b hb' => hb.block b (by omega))
  have Rg : Hid (w6.heap[gg]? = some (.cells #[.int .i64 0, .int .i64 0, .slice p0g m0g j0g, .slice p1g m1g j1g, .slice none 0 0, .slice none 0 0] 30 (0, 0))) := (hb.block _ (by omega)).trans Rg.out
  clear hb kBg
  clear b0 b1 b2 b3 b4 b5 d0 d1 d2 d3 d4 d5
  have nb : (bk != bk) = false := by simp
  go_wp2_with fail
  refine (toStringS_any S T (.slice oA nA kA) _ (H.out _ kw6.out) (HS.out _ kw6.out) HM.out).mono ?_
  rintro e w7 ⟨r, rfl, gg, hb⟩
  obtain ⟨plk, jlk, e0, -⟩ := id (gg)
  obtain ⟨mlk, em0⟩ : ∃ n, T.length = n := ⟨_, rfl⟩
  rw [em0] at e0
  subst e0
  have Yk : Hid (AtL (fun b => w6.heap.size ≤ b ∧ b < w7.heap.size) w7 T (.slice plk mlk jlk)) := gg
  clear gg em0
  have zw7 := hb.size
  have kw7 : Hid (Below w.heap.size w w7) := kw6.out.trans (hb.mono kw6.out.size)
  have U : Hid (Lay.At (fun b => w2.heap.size ≤ b ∧ b < w3.heap.size) w7 D (cs [.slice p0u m0u j0u, .slice none 0 0])) := Lay.same U.out (Same.of_below hb (fun b hb => by omega))
  have Ru : Hid (w7.heap[gu]? = some (.cells #[.int .i64 0, .int .i64 0, .slice p0u m0u j0u, .slice none 0 0, .slice none 0 0, .slice none 0 0] 30 (0, 0))) := (hb.block _ (by omega)).trans Ru.out
  have Yx : Hid (OnL (fun b => Bu.heap.size ≤ b ∧ b < w4.heap.size) w7 T (.slice plx mlx jlx)) := Yx.out.same (fun b hb' => hb.block b (by omega))
  have Gg : Hid (Own.On (fun b => w4.heap.size ≤ b ∧ b < w5.heap.size) w7 D (cs [.slice p0g m0g j0g, .slice p1g m1g j1g])) := Own.on_same Gg.out (fun b hb' => hb.block b (by omega))
  have Rg : Hid (w7.heap[gg]? = some (.cells #[.int .i64 0, .int .i64 0, .slice p0g m0g j0g, .slice p1g m1g j1g, .slice none 0 0, .slice none 0 0] 30 (0, 0))) := (hb.block _ (by omega)).trans Rg.out
  clear hb kw6
  go_wp2_with fail
  refine (eqStringS_any _ _ T (.slice plx mlx jlx) (.slice plk mlk jlk) w7 Yx.out.at_ Yk.out (fun b hb => by omega) (fun b hb => by omega)).mono ?_
  rintro e w8 ⟨rfl, hb⟩
  clear Yk
  have zw8 := hb.size
  have kw8 : Hid (Below w.heap.size w w8) := kw7.out.trans (hb.mono kw7.out.size)
  have U : Hid (Lay.At (fun b => w2.heap.size ≤ b ∧ b < w3.heap.size) w8 D (cs [.slice p0u m0u j0u, .slice none 0 0])) := Lay.same U.out (Same.of_below hb (fun b hb => by omega))
  have Ru : Hid (w8.heap[gu]? = some (.cells #[.int .i64 0, .int .i64 0, .slice p0u m0u j0u, .slice none 0 0, .slice none 0 0, .slice none 0 0] 30 (0, 0))) := (hb.block _ (by omega)).trans Ru.out
  have Yx : Hid (OnL (fun b => Bu.heap.size ≤ b ∧ b < w4.heap.size) w8 T (.slice plx mlx jlx)) := Yx.out.same (fun b hb' => hb.block b (by omega))
  have Gg : Hid (Own.On (fun b => w4.heap.size ≤ b ∧ b < w5.heap.size) w8 D (cs [.slice p0g m0g j0g, .slice p1g m1g j1g])) := Own.on_same Gg.out (fun b hb' => hb.block b (by omega))
  have Rg : Hid (w8.heap[gg]? = some (.cells #[.int .i64 0, .int .i64 0, .slice p0g m0g j0g, .slice p1g m1g j1g, .slice none 0 0, .slice none 0 0] 30 (0, 0))) := (hb.block _ (by omega)).trans Rg.out
  clear hb kw7
  go_wp2_with fail
  refine (markStringS_any _ T (.slice plx mlx jlx) 1 w8 Yx.out (fun b hb => by omega) (by omega) (by have := HCT.out; omega)).mono ?_
  rintro e w9 ⟨rfl, _, bu⟩
  have zw9 := bu.size
  have kw9 : Hid (Below w.heap.size w w9) := kw8.out.trans (bu.below (B := w.heap.size) (fun b hb => by omega) (by omega))
  have U : Hid (Lay.At (fun b => w2.heap.size ≤ b ∧ b < w3.heap.size) w9 D (cs [.slice p0u m0u j0u, .slice none 0 0])) := Lay.same U.out (fun b hb => bu.block b (by omega) (by omega))
  have Ru : Hid (w9.heap[gu]? = some (.cells #[.int .i64 0, .int .i64 0, .slice p0u m0u j0u, .slice none 0 0, .slice none 0 0, .slice none 0 0] 30 (0, 0))) := (bu.block _ (by omega) (by omega)).trans Ru.out
  have Gg : Hid (Own.On (fun b => w4.heap.size ≤ b ∧ b < w5.heap.size) w9 D (cs [.slice p0g m0g j0g, .slice p1g m1g j1g])) := Own.on_same Gg.out (fun b hb => bu.block b (by omega) (by omega))
  have Rg : Hid (w9.heap[gg]? = some (.cells #[.int .i64 0, .int .i64 0, .slice p0g m0g j0g, .slice p1g m1g j1g, .slice none 0 0, .slice none 0 0] 30 (0, 0))) := (bu.block _ (by omega) (by omega)).trans Rg.out
  clear bu kw8
  clear Yx
  have hcl0 : (cntL T : Int) ≤ 1048576 := by have := HCT.out; omega
  have dk : decide (1 + (cntL T : Int) < 0) = false := by simp; omega
  have b0 := (cell_row Rg.out 0 (.int .i64 0) rfl).1
  have b1 := (cell_row Rg.out 1 (.int .i64 0) rfl).1
  have b2 := (cell_row Rg.out 2 (.slice p0g m0g j0g) rfl).1
  have b3 := (cell_row Rg.out 3 (.slice p1g m1g j1g) rfl).1
  have b4 := (cell_row Rg.out 4 (.slice none 0 0) rfl).1
  have b5 := (cell_row Rg.out 5 (.slice none 0 0) rfl).1
  have d0 := (cell_row Ru.out 0 (.int .i64 0) rfl).1
  have d1 := (cell_row Ru.out 1 (.int .i64 0) rfl).1
  have d2 := (cell_row Ru.out 2 (.slice p0u m0u j0u) rfl).1
  have d3 := (cell_row Ru.out 3 (.slice none 0 0) rfl).1
  have d4 := (cell_row Ru.out 4 (.slice none 0 0) rfl).1
  have d5 := (cell_row Ru.out 5 (.slice none 0 0) rfl).1
  go_wp2_with fail
  refine (eqRunHouse_nil _ _ D (.slice p0g m0g j0g) (.slice p1g m1g j1g) (.slice p0u m0u j0u) (.slice none 0 0) w9 (Own.on_at Gg.out) U.out (fun b hb => by omega) (fun b hb => by omega)).mono ?_
  rintro e w10 ⟨rfl, hb⟩
  have zw10 := hb.size
  have kw10 : Hid (Below w.heap.size w w10) := kw9.out.trans (hb.mono kw9.out.size)
  have U : Hid (Lay.At (fun b => w2.heap.size ≤ b ∧ b < w3.heap.size) w10 D (cs [.slice p0u m0u j0u, .slice none 0 0])) := Lay.same U.out (Same.of_below hb (fun b hb => by omega))
  have Ru : Hid (w10.heap[gu]? = some (.cells #[.int .i64 0, .int .i64 0, .slice p0u m0u j0u, .slice none 0 0, .slice none 0 0, .slice none 0 0] 30 (0, 0))) := (hb.block _ (by omega)).trans Ru.out
  have Gg : Hid (Own.On (fun b => w4.heap.size ≤ b ∧ b < w5.heap.size) w10 D (cs [.slice p0g m0g j0g, .slice p1g m1g j1g])) := Own.on_same Gg.out (fun b hb' => hb.block b (by omega))
  have Rg : Hid (w10.heap[gg]? = some (.cells #[.int .i64 0, .int .i64 0, .slice p0g m0g j0g, .slice p1g m1g j1g, .slice none 0 0, .slice none 0 0] 30 (0, 0))) := (hb.block _ (by omega)).trans Rg.out
  clear hb kw9
  clear b0 b1 b2 b3 b4 b5 d0 d1 d2 d3 d4 d5 dk
  have b0 := (cell_row Rg.out 0 (.int .i64 0) rfl).1
  have b1 := (cell_row Rg.out 1 (.int .i64 0) rfl).1
  have b2 := (cell_row Rg.out 2 (.slice p0g m0g j0g) rfl).1
  have b3 := (cell_row Rg.out 3 (.slice p1g m1g j1g) rfl).1
  have b4 := (cell_row Rg.out 4 (.slice none 0 0) rfl).1
  have b5 := (cell_row Rg.out 5 (.slice none 0 0) rfl).1
  go_wp2_with fail
  refine (markRunHouse_nil _ D (.slice p0g m0g j0g) (.slice p1g m1g j1g) 1 w10 Gg.out (fun b hb => by omega) (by omega) (by have := HCD.out; omega)).mono ?_
  rintro e w11 ⟨rfl, mm, bu⟩
  clear b0 b1 b2 b3 b4 b5
  have M : Hid (Lay.At (fun b => w4.heap.size ≤ b ∧ b < w5.heap.size) w11 (Own.mkD 1 D) (cs [.slice p0g m0g j0g, .slice p1g m1g j1g])) := mm
  clear mm
  have zw11 := bu.size
  have kw11 : Hid (Below w.heap.size w w11) := kw10.out.trans (bu.below (B := w.heap.size) (fun b hb => by omega) (by omega))
  have U : Hid (Lay.At (fun b => w2.heap.size ≤ b ∧ b < w3.heap.size) w11 D (cs [.slice p0u m0u j0u, .slice none 0 0])) := Lay.same U.out (fun b hb => bu.block b (by omega) (by omega))
  have Ru : Hid (w11.heap[gu]? = some (.cells #[.int .i64 0, .int .i64 0, .slice p0u m0u j0u, .slice none 0 0, .slice none 0 0, .slice none 0 0] 30 (0, 0))) := (bu.block _ (by omega) (by omega)).trans Ru.out
  have Rg : Hid (w11.heap[gg]? = some (.cells #[.int .i64 0, .int .i64 0, .slice p0g m0g j0g, .slice p1g m1g j1g, .slice none 0 0, .slice none 0 0] 30 (0, 0))) := (bu.block _ (by omega) (by omega)).trans Rg.out
  clear bu kw10
  clear Gg
  have hcl : (Own.cnt D : Int) ≤ 1048576 := by have := HCD.out; omega
  have b0 := (cell_row Rg.out 0 (.int .i64 0) rfl).1
  have b1 := (cell_row Rg.out 1 (.int .i64 0) rfl).1
  have b2 := (cell_row Rg.out 2 (.slice p0g m0g j0g) rfl).1
  have b3 := (cell_row Rg.out 3 (.slice p1g m1g j1g) rfl).1
  have b4 := (cell_row Rg.out 4 (.slice none 0 0) rfl).1
  have b5 := (cell_row Rg.out 5 (.slice none 0 0) rfl).1
  go_wp2_with fail
  refine (heldRunHouse_nil _ D (.slice p0g m0g j0g) (.slice p1g m1g j1g) 1 w11 M.out (fun b hb => by omega) (by omega) (by have := HCD.out; omega)).mono ?_
  rintro e w12 ⟨rfl, hb⟩
  clear b0 b1 b2 b3 b4 b5
  have zw12 := hb.size
  have kw12 : Hid (Below w.heap.size w w12) := kw11.out.trans (hb.mono kw11.out.size)
  have U : Hid (Lay.At (fun b => w2.heap.size ≤ b ∧ b < w3.heap.size) w12 D (cs [.slice p0u m0u j0u, .slice none 0 0])) := Lay.same U.out (Same.of_below hb (fun b hb => by omega))
  have Ru : Hid (w12.heap[gu]? = some (.cells #[.int .i64 0, .int .i64 0, .slice p0u m0u j0u, .slice none 0 0, .slice none 0 0, .slice none 0 0] 30 (0, 0))) := (hb.block _ (by omega)).trans Ru.out
  have Rg : Hid (w12.heap[gg]? = some (.cells #[.int .i64 0, .int .i64 0, .slice p0g m0g j0g, .slice p1g m1g j1g, .slice none 0 0, .slice none 0 0] 30 (0, 0))) := (hb.block _ (by omega)).trans Rg.out
  have M : Hid (Lay.At (fun b => w4.heap.size ≤ b ∧ b < w5.heap.size) w12 (Own.mkD 1 D) (cs [.slice p0g m0g j0g, .slice p1g m1g j1g])) := Lay.same M.out (Same.of_below hb (fun b hb => by omega))
  clear hb kw11
  go_wp2_with fail
  refine (toStringS_any S T (.slice oA nA kA) _ (H.out _ kw12.out) (HS.out _ kw12.out) HM.out).mono ?_
  rintro e w13 ⟨r, rfl, gg, hb⟩
  obtain ⟨ple, jle, e0, -⟩ := id (gg)
  obtain ⟨mle, em0⟩ : ∃ n, T.length = n := ⟨_, rfl⟩
  rw [em0] at e0
  subst e0
  have Ye : Hid (AtL (fun b => w12.heap.size ≤ b ∧ b < w13.heap.size) w13 T (.slice ple mle jle)) := gg
  clear gg em0
  have zw13 := hb.size
  have kw13 : Hid (Below w.heap.size w w13) := kw12.out.trans (hb.mono kw12.out.size)
  have U : Hid (Lay.At (fun b => w2.heap.size ≤ b ∧ b < w3.heap.size) w13 D (cs [.slice p0u m0u j0u, .slice none 0 0])) := Lay.same U.out (Same.of_below hb (fun b hb => by omega))
  have Ru : Hid (w13.heap[gu]? = some (.cells #[.int .i64 0, .int .i64 0, .slice p0u m0u j0u, .slice none 0 0, .slice none 0 0, .slice none 0 0] 30 (0, 0))) := (hb.block _ (by omega)).trans Ru.out
  have Rg : Hid (w13.heap[gg]? = some (.cells #[.int .i64 0, .int .i64 0, .slice p0g m0g j0g, .slice p1g m1g j1g, .slice none 0 0, .slice none 0 0] 30 (0, 0))) := (hb.block _ (by omega)).trans Rg.out
  have M : Hid (Lay.At (fun b => w4.heap.size ≤ b ∧ b < w5.heap.size) w13 (Own.mkD 1 D) (cs [.slice p0g m0g j0g, .slice p1g m1g j1g])) := Lay.same M.out (Same.of_below hb (fun b hb => by omega))
  clear hb kw12
  have CA : Hid _ := PI.out _ _ _ _ w13 Ye.out (fun b hb => by omega)
  go_wp2_with fail
  refine Calls.mono CA.out ?_
  rintro e w14 ⟨p0h, m0h, j0h, p1h, m1h, j1h, rfl, hon, hb⟩
  clear CA
  have Gh : Hid (Own.On (fun b => w13.heap.size ≤ b ∧ b < w14.heap.size) w14 D (cs [.slice p0h m0h j0h, .slice p1h m1h j1h])) := hon
  clear hon
  have zw14 := hb.size
  have kw14 : Hid (Below w.heap.size w w14) := kw13.out.trans (hb.mono kw13.out.size)
  have U : Hid (Lay.At (fun b => w2.heap.size ≤ b ∧ b < w3.heap.size) w14 D (cs [.slice p0u m0u j0u, .slice none 0 0])) := Lay.same U.out (Same.of_below hb (fun b hb => by omega))
  have Ru : Hid (w14.heap[gu]? = some (.cells #[.int .i64 0, .int .i64 0, .slice p0u m0u j0u, .slice none 0 0, .slice none 0 0, .slice none 0 0] 30 (0, 0))) := (hb.block _ (by omega)).trans Ru.out
  have Rg : Hid (w14.heap[gg]? = some (.cells #[.int .i64 0, .int .i64 0, .slice p0g m0g j0g, .slice p1g m1g j1g, .slice none 0 0, .slice none 0 0] 30 (0, 0))) := (hb.block _ (by omega)).trans Rg.out
  have M : Hid (Lay.At (fun b => w4.heap.size ≤ b ∧ b < w5.heap.size) w14 (Own.mkD 1 D) (cs [.slice p0g m0g j0g, .slice p1g m1g j1g])) := Lay.same M.out (Same.of_below hb (fun b hb => by omega))
  have Ye : Hid (AtL (fun b => w12.heap.size ≤ b ∧ b < w13.heap.size) w14 T (.slice ple mle jle)) := Ye.out.same (Same.of_below hb (fun b hb => by omega))
  clear hb kw13
  obtain ⟨Bh, hBX⟩ : ∃ V, V = w14.alloc (.cells #[.int .i64 0, .int .i64 0, .slice p0h m0h j0h, .slice p1h m1h j1h, .slice none 0 0, .slice none 0 0] 30) := ⟨_, rfl⟩
  have EB : Hid (Bh = w14.alloc (.cells #[.int .i64 0, .int .i64 0, .slice p0h m0h j0h, .slice p1h m1h j1h, .slice none 0 0, .slice none 0 0] 30)) := hBX
  have hbx : Below w14.heap.size w14 Bh := by rw [hBX]; exact (Below.refl _ _).alloc (Nat.le_refl _) _
  obtain ⟨gh, hg⟩ : ∃ g, g = w14.heap.size := ⟨_, rfl⟩
  have EG : Hid (gh = w14.heap.size) := hg
  have Rh : Hid (Bh.heap[gh]? = some (.cells #[.int .i64 0, .int .i64 0, .slice p0h m0h j0h, .slice p1h m1h j1h, .slice none 0 0, .slice none 0 0] 30 (0, 0))) := by rw [hg, hBX]; exact heap_alloc_new w14 _
  have lh : w14.heap.size ≤ gh ∧ gh < Bh.heap.size := by rw [hg, hBX]; simp
  obtain ⟨lha, lhb⟩ := lh
  clear hBX hg
  have zBh := hbx.size
  have kBh : Hid (Below w.heap.size w Bh) := kw14.out.trans (hbx.mono kw14.out.size)
  have U : Hid (Lay.At (fun b => w2.heap.size ≤ b ∧ b < w3.heap.size) Bh D (cs [.slice p0u m0u j0u, .slice none 0 0])) := Lay.same U.out (Same.of_below hbx (fun b hb => by omega))
  have Ru : Hid (Bh.heap[gu]? = some (.cells #[.int .i64 0, .int .i64 0, .slice p0u m0u j0u, .slice none 0 0, .slice none 0 0, .slice none 0 0] 30 (0, 0))) := (hbx.block _ (by omega)).trans Ru.out
  have Rg : Hid (Bh.heap[gg]? = some (.cells #[.int .i64 0, .int .i64 0, .slice p0g m0g j0g, .slice p1g m1g j1g, .slice none 0 0, .slice none 0 0] 30 (0, 0))) := (hbx.block _ (by omega)).trans Rg.out
  have M : Hid (Lay.At (fun b => w4.heap.size ≤ b ∧ b < w5.heap.size) Bh (Own.mkD 1 D) (cs [.slice p0g m0g j0g, .slice p1g m1g j1g])) := Lay.same M.out (Same.of_below hbx (fun b hb => by omega))
  have Ye : Hid (AtL (fun b => w12.heap.size ≤ b ∧ b < w13.heap.size) Bh T (.slice ple mle jle)) := Ye.out.same (Same.of_below hbx (fun b hb => by omega))
  have Gh : Hid (Own.On (fun b => w13.heap.size ≤ b ∧ b < w14.heap.size) Bh D (cs [.slice p0h m0h j0h, .slice p1h m1h j1h])) := Own.on_same Gh.out (fun b hb' => hbx.block b (by omega))
  clear hbx kw14
  clear Ye
  go_upto_region 25 with fail
  rw [← EB.out, ← EG.out]
  clear EB EG
  have b0 := (cell_row Rh.out 0 (.int .i64 0) rfl).1
  have b1 := (cell_row Rh.out 1 (.int .i64 0) rfl).1
  have b2 := (cell_row Rh.out 2 (.slice p0h m0h j0h) rfl).1
  have b3 := (cell_row Rh.out 3 (.slice p1h m1h j1h) rfl).1
  have b4 := (cell_row Rh.out 4 (.slice none 0 0) rfl).1
  have b5 := (cell_row Rh.out 5 (.slice none 0 0) rfl).1
  have d0 := (cell_row Ru.out 0 (.int .i64 0) rfl).1
  have d1 := (cell_row Ru.out 1 (.int .i64 0) rfl).1
  have d2 := (cell_row Ru.out 2 (.slice p0u m0u j0u) rfl).1
  have d3 := (cell_row Ru.out 3 (.slice none 0 0) rfl).1
  have d4 := (cell_row Ru.out 4 (.slice none 0 0) rfl).1
  have d5 := (cell_row Ru.out 5 (.slice none 0 0) rfl).1
  go_wp2_with fail
  refine (eqRunHouse_nil _ _ D (.slice p0h m0h j0h) (.slice p1h m1h j1h) (.slice p0u m0u j0u) (.slice none 0 0) Bh (Own.on_at Gh.out) U.out (fun b hb => by omega) (fun b hb => by omega)).mono ?_
  rintro e w15 ⟨rfl, hb⟩
  have zw15 := hb.size
  have kw15 : Hid (Below w.heap.size w w15) := kBh.out.trans (hb.mono kBh.out.size)
  have U : Hid (Lay.At (fun b => w2.heap.size ≤ b ∧ b < w3.heap.size) w15 D (cs [.slice p0u m0u j0u, .slice none 0 0])) := Lay.same U.out (Same.of_below hb (fun b hb => by omega))
  have Ru : Hid (w15.heap[gu]? = some (.cells #[.int .i64 0, .int .i64 0, .slice p0u m0u j0u, .slice none 0 0, .slice none 0 0, .slice none 0 0] 30 (0, 0))) := (hb.block _ (by omega)).trans Ru.out
  have Rg : Hid (w15.heap[gg]? = some (.cells #[.int .i64 0, .int .i64 0, .slice p0g m0g j0g, .slice p1g m1g j1g, .slice none 0 0, .slice none 0 0] 30 (0, 0))) := (hb.block _ (by omega)).trans Rg.out
  have M : Hid (Lay.At (fun b => w4.heap.size ≤ b ∧ b < w5.heap.size) w15 (Own.mkD 1 D) (cs [.slice p0g m0g j0g, .slice p1g m1g j1g])) := Lay.same M.out (Same.of_below hb (fun b hb => by omega))
  have Gh : Hid (Own.On (fun b => w13.heap.size ≤ b ∧ b < w14.heap.size) w15 D (cs [.slice p0h m0h j0h, .slice p1h m1h j1h])) := Own.on_same Gh.out (fun b hb' => hb.block b (by omega))
  have Rh : Hid (w15.heap[gh]? = some (.cells #[.int .i64 0, .int .i64 0, .slice p0h m0h j0h, .slice p1h m1h j1h, .slice none 0 0, .slice none 0 0] 30 (0, 0))) := (hb.block _ (by omega)).trans Rh.out
  clear hb kBh
  clear b0 b1 b2 b3 b4 b5 d0 d1 d2 d3 d4 d5
  have b0 := (cell_row Rg.out 0 (.int .i64 0) rfl).1
  have b1 := (cell_row Rg.out 1 (.int .i64 0) rfl).1
  have b2 := (cell_row Rg.out 2 (.slice p0g m0g j0g) rfl).1
  have b3 := (cell_row Rg.out 3 (.slice p1g m1g j1g) rfl).1
  have b4 := (cell_row Rg.out 4 (.slice none 0 0) rfl).1
  have b5 := (cell_row Rg.out 5 (.slice none 0 0) rfl).1
  go_wp2_with fail
  refine (heldRunHouse_nil _ D (.slice p0g m0g j0g) (.slice p1g m1g j1g) 1 w15 M.out (fun b hb => by omega) (by omega) (by have := HCD.out; omega)).mono ?_
  rintro e w16 ⟨rfl, hb⟩
  clear b0 b1 b2 b3 b4 b5
  have zw16 := hb.size
  have kw16 : Hid (Below w.heap.size w w16) := kw15.out.trans (hb.mono kw15.out.size)
  have U : Hid (Lay.At (fun b => w2.heap.size ≤ b ∧ b < w3.heap.size) w16 D (cs [.slice p0u m0u j0u, .slice none 0 0])) := Lay.same U.out (Same.of_below hb (fun b hb => by omega))
  have Ru : Hid (w16.heap[gu]? = some (.cells #[.int .i64 0, .int .i64 0, .slice p0u m0u j0u, .slice none 0 0, .slice none 0 0, .slice none 0 0] 30 (0, 0))) := (hb.block _ (by omega)).trans Ru.out
  have Rg : Hid (w16.heap[gg]? = some (.cells #[.int .i64 0, .int .i64 0, .slice p0g m0g j0g, .slice p1g m1g j1g, .slice none 0 0, .slice none 0 0] 30 (0, 0))) := (hb.block _ (by omega)).trans Rg.out
  have M : Hid (Lay.At (fun b => w4.heap.size ≤ b ∧ b < w5.heap.size) w16 (Own.mkD 1 D) (cs [.slice p0g m0g j0g, .slice p1g m1g j1g])) := Lay.same M.out (Same.of_below hb (fun b hb => by omega))
  have Gh : Hid (Own.On (fun b => w13.heap.size ≤ b ∧ b < w14.heap.size) w16 D (cs [.slice p0h m0h j0h, .slice p1h m1h j1h])) := Own.on_same Gh.out (fun b hb' => hb.block b (by omega))
  have Rh : Hid (w16.heap[gh]? = some (.cells #[.int .i64 0, .int .i64 0, .slice p0h m0h j0h, .slice p1h m1h j1h, .slice none 0 0, .slice none 0 0] 30 (0, 0))) := (hb.block _ (by omega)).trans Rh.out
  clear hb kw15
  have FB := kw16.out
  go_wp2_with fail
  go_ret
  exact ⟨rfl, FB⟩
end Go.Proofs.Ytigkkelaadbhcaa
