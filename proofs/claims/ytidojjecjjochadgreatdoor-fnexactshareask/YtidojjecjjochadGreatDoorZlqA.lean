/-
  The law FnExactShareAsk, walked: whatever the arguments, the call returns true, and nothing that was there before has turned.
-/
import Derived.Test.YtidojjecjjochadGreatDoorM11
import Derived.Test.YtidojjecjjochadGreatDoorZxe
import Derived.Test.YtidojjecjjochadGreatDoorZxk
import Derived.Test.YtidojjecjjochadGreatDoorM15
import Derived.Test.YtidojjecjjochadGreatDoorM21
import Derived.Deep.RegionWith
import Derived.Test.YtidojjecjjochadGreatDoorM23
namespace Go.Proofs.YtidojjecjjochadGreatDoor
open Go.RowKit
open Go.Sort

set_option maxRecDepth 100000 in
set_option maxHeartbeats 16000000 in
theorem lawqA_any (T : List ByteArray) (Bs : List DShareBatch) (x : ByteArray) (lst : List ByteArray) (D : DShareBook) (cd : Int) (hD : Lay.tot D ≤ 1048576)
    (PI : (∀ (S : Nat → Prop) (o0 oa : Option Addr) (n0 k0 nb kb : Nat) (os : Option Addr) (ns ks : Nat) (w : World), AtL S w T (.slice o0 n0 k0) → AtL S w Bs (.slice oa nb kb) → AtL S w lst (.slice os ns ks) → (∀ b, S b → b < w.heap.size) → Lay.tot (α := DShareBook) (T, Bs) ≤ 1048576 → totL lst ≤ 1048576 → x.size ≤ 1048576 → Laid0 w → Calls Tryz.prog 9 #[.agg #[.slice o0 n0 k0, .slice oa nb kb], .string x, .slice os ns ks] w (AnsW w D cd)))
    (MZ : (∀ (S : Nat → Prop) (o0 oa : Option Addr) (n0 k0 nb kb : Nat) (os : Option Addr) (ns ks : Nat) (w : World), AtL S w T (.slice o0 n0 k0) → AtL S w Bs (.slice oa nb kb) → AtL S w lst (.slice os ns ks) → (∀ b, S b → b < w.heap.size) → Lay.tot (α := DShareBook) (T, Bs) ≤ 1048576 → totL lst ≤ 1048576 → x.size ≤ 1048576 → Calls Tryz.prog 6 #[.agg #[.slice o0 n0 k0, .slice oa nb kb], .string x, .slice os ns ks] w fun e w' => ∃ r0 r1, e = .returned (.tuple #[.agg #[r0, r1], .int .i64 cd]) ∧ AtL (fun b => w.heap.size ≤ b ∧ b < w'.heap.size) w' D.1 r0 ∧ AtL (fun b => w.heap.size ≤ b ∧ b < w'.heap.size) w' D.2 r1 ∧ Below w.heap.size w w'))
    (S : Nat → Prop) (c : Nat → Value) (os : Option Addr) (ns ks : Nat) (w : World) (h : Lay.At S w ((T, Bs) : DShareBook) c) (hls : AtL S w lst (.slice os ns ks)) (hS : ∀ b, S b → b < w.heap.size) (hl : Laid0 w) :
    Calls Tryz.prog 3 #[.agg #[c 0, c 1], .string x, .slice os ns ks] w fun e w' => e = .returned (.bool true) ∧ Below w.heap.size w w' := by
  have H : Hid (∀ w', Below w.heap.size w w' → Lay.At S w' ((T, Bs) : DShareBook) c) := fun w' hb => Lay.same h (Same.of_below hb hS)
  have HL : Hid (∀ w', Below w.heap.size w w' → Laid0 w') := fun w' hb => hl.below hb
  have HS : Hid (∀ w', Below w.heap.size w w' → ∀ b, S b → b < w'.heap.size) := fun w' hb b hb' => Nat.lt_of_lt_of_le (hS b hb') hb.size
  have HLS : Hid (∀ w', Below w.heap.size w w' → AtL S w' lst (.slice os ns ks)) := fun w' hb => hls.same (Same.of_below hb hS)
  have HPI : Hid (∀ (S : Nat → Prop) (o0 oa : Option Addr) (n0 k0 nb kb : Nat) (os : Option Addr) (ns ks : Nat) (w : World), AtL S w T (.slice o0 n0 k0) → AtL S w Bs (.slice oa nb kb) → AtL S w lst (.slice os ns ks) → (∀ b, S b → b < w.heap.size) → Lay.tot (α := DShareBook) (T, Bs) ≤ 1048576 → totL lst ≤ 1048576 → x.size ≤ 1048576 → Laid0 w → Calls Tryz.prog 9 #[.agg #[.slice o0 n0 k0, .slice oa nb kb], .string x, .slice os ns ks] w (AnsW w D cd)) := PI
  have HMZ : Hid (∀ (S : Nat → Prop) (o0 oa : Option Addr) (n0 k0 nb kb : Nat) (os : Option Addr) (ns ks : Nat) (w : World), AtL S w T (.slice o0 n0 k0) → AtL S w Bs (.slice oa nb kb) → AtL S w lst (.slice os ns ks) → (∀ b, S b → b < w.heap.size) → Lay.tot (α := DShareBook) (T, Bs) ≤ 1048576 → totL lst ≤ 1048576 → x.size ≤ 1048576 → Calls Tryz.prog 6 #[.agg #[.slice o0 n0 k0, .slice oa nb kb], .string x, .slice os ns ks] w fun e w' => ∃ r0 r1, e = .returned (.tuple #[.agg #[r0, r1], .int .i64 cd]) ∧ AtL (fun b => w.heap.size ≤ b ∧ b < w'.heap.size) w' D.1 r0 ∧ AtL (fun b => w.heap.size ≤ b ∧ b < w'.heap.size) w' D.2 r1 ∧ Below w.heap.size w w') := MZ
  have HCD : Hid (Own.cnt D ≤ 1048576) := cnt_book hD
  clear h hl PI MZ hD hls
  obtain ⟨w0, hw0⟩ : ∃ w0, w0 = w.alloc (.cells #[c 0, c 1] 25) := ⟨_, rfl⟩
  have EW : Hid (w0 = w.alloc (.cells #[c 0, c 1] 25)) := hw0
  have kw0 : Hid (Below (w.heap.size + 1) (w.alloc (.cells #[c 0, c 1] 25)) w0) := by rw [hw0]; exact Below.refl _ _
  clear hw0
  have s0 : w.heap.size + 1 ≤ w0.heap.size := by have := kw0.out.size; simpa using this
  go_enter Tryz.func3, Tryz.ntmps3
  go_upto_region 1 with fail
  rw [← EW.out]
  by_cases hx : 1048576 < x.size
  · go_wp2_with fail
    go_ret
    exact ⟨rfl, below_end kw0.out⟩
  have a0 := box_at _ _ kw0.out 0 (c 0) rfl
  have a1 := box_at _ _ kw0.out 1 (c 1) rfl
  go_wp2_with fail
  refine (szShareBook_any S (T, Bs) c 1048576 _ (H.out _ (below_end kw0.out)) (HS.out _ (below_end kw0.out)) (by omega) (by omega)).mono ?_
  rintro e w1 ⟨y, rfl, hy, hb1⟩
  clear a0 a1
  have kw1 : Hid (Below (w.heap.size + 1) (w.alloc (.cells #[c 0, c 1] 25)) w1) := below_of kw0.out hb1
  have HY : Hid (y < 0 ∨ y + (Lay.tot (α := DShareBook) (T, Bs) : Int) = 1048576) := hy
  clear hy hb1
  by_cases hneg : y < 0
  · go_wp2_with fail
    go_ret
    exact ⟨rfl, below_end kw1.out⟩
  have HM : Hid (Lay.tot (α := DShareBook) (T, Bs) ≤ 1048576) := by have := HY.out; show _ ≤ _; omega
  have HCB : Hid (Own.cnt (α := DShareBook) (T, Bs) ≤ 1048576) := cnt_book HM.out
  have hy1 : y ≤ 1048576 := by have := HY.out; omega
  go_wp2_with fail
  refine (szStringS_any S lst (.slice os ns ks) y _ (HLS.out _ (below_end kw1.out)) (HS.out _ (below_end kw1.out)) (by omega) hy1).mono ?_
  rintro e w2 ⟨z, rfl, hz, hb2⟩
  have kw2 : Hid (Below (w.heap.size + 1) (w.alloc (.cells #[c 0, c 1] 25)) w2) := below_of kw1.out hb2
  have HZ : Hid (z < 0 ∨ z + (totL lst : Int) = y) := hz
  clear hz hb2
  by_cases hneg2 : z < 0
  · go_wp2_with fail
    go_ret
    exact ⟨rfl, below_end kw2.out⟩
  have HML : Hid (totL lst ≤ 1048576) := by have := HZ.out; show _ ≤ _; omega
  have HCL : Hid (cntL lst ≤ 1048576) := Nat.le_trans (cntZ_strs lst) HML.out
  clear HZ hy1 kw1
  have HXS : Hid (x.size ≤ 1048576) := by show _ ≤ _; omega
  have sc : w.heap.size + 1 ≤ w2.heap.size := by have := kw2.out.size; simpa using this
  clear HY kw0 hx s0
  have a0 := box_at _ _ kw2.out 0 (c 0) rfl
  have a1 := box_at _ _ kw2.out 1 (c 1) rfl
  go_wp2_with fail
  refine (toShareBook_any S (T, Bs) c _ (H.out _ (below_end kw2.out)) (HS.out _ (below_end kw2.out)) HM.out).mono ?_
  rintro e w3 ⟨g, rfl, gg, hb⟩
  clear a0 a1
  obtain ⟨⟨p0a, j0a, e0, -⟩, ⟨p1a, j1a, e1, -⟩⟩ := at_DShareBook.1 (gg)
  simp only at e0 e1
  obtain ⟨m0a, em0⟩ : ∃ n, T.length = n := ⟨_, rfl⟩
  obtain ⟨m1a, em1⟩ : ∃ n, Bs.length = n := ⟨_, rfl⟩
  rw [em0] at e0
  rw [em1] at e1
  have GG := Lay.ext gg (c' := cs [.slice p0a m0a j0a, .slice p1a m1a j1a]) (fun j hj => by
    have : j < 2 := hj
    match j, this with
    | 0, _ => exact e0.symm
    | 1, _ => exact e1.symm)
  rw [e0, e1]
  clear e0 e1 em0 em1
  have Xa : Hid (Lay.At (fun b => w2.heap.size ≤ b ∧ b < w3.heap.size) w3 ((T, Bs) : DShareBook) (cs [.slice p0a m0a j0a, .slice p1a m1a j1a])) := GG
  clear GG gg
  have zw3 := hb.size
  have kw3 : Hid (Below (w.heap.size + 1) (w.alloc (.cells #[c 0, c 1] 25)) w3) := below_of kw2.out hb
  clear hb kw2
  clear hneg hneg2
  go_wp2_with fail
  refine (toStringS_any S lst (.slice os ns ks) _ (HLS.out _ (below_end kw3.out)) (HS.out _ (below_end kw3.out)) HML.out).mono ?_
  rintro e w4 ⟨r, rfl, gg, hb⟩
  obtain ⟨pla, jla, e0, -⟩ := id (gg)
  obtain ⟨mla, em0⟩ : ∃ n, lst.length = n := ⟨_, rfl⟩
  rw [em0] at e0
  subst e0
  have Ya : Hid (AtL (fun b => w3.heap.size ≤ b ∧ b < w4.heap.size) w4 lst (.slice pla mla jla)) := gg
  clear gg em0
  have zw4 := hb.size
  have kw4 : Hid (Below (w.heap.size + 1) (w.alloc (.cells #[c 0, c 1] 25)) w4) := below_of kw3.out hb
  have Xa : Hid (Lay.At (fun b => w2.heap.size ≤ b ∧ b < w3.heap.size) w4 ((T, Bs) : DShareBook) (cs [.slice p0a m0a j0a, .slice p1a m1a j1a])) := Lay.same Xa.out (Same.of_below hb (fun b hb => by omega))
  clear hb kw3
  have CA : Hid _ := HMZ.out (fun b => b < w4.heap.size) _ _ _ _ _ _ _ _ _ w4 (at_DShareBook.1 (Lay.up Xa.out (fun b hb => by omega))).1 (at_DShareBook.1 (Lay.up Xa.out (fun b hb => by omega))).2 (AtL.up Ya.out (fun b hb => by omega)) (fun b hb => hb) HM.out HML.out HXS.out
  go_wp2_with fail
  refine Calls.mono CA.out ?_
  rintro e w5 ⟨r0, r1, rfl, u0, u1, hb⟩
  clear CA
  have uu := And.intro u0 u1
  obtain ⟨p0u, j0u, e0, -⟩ := id (uu).1
  obtain ⟨p1u, j1u, e1, -⟩ := id (uu).2
  obtain ⟨m0u, em0⟩ : ∃ n, D.1.length = n := ⟨_, rfl⟩
  obtain ⟨m1u, em1⟩ : ∃ n, D.2.length = n := ⟨_, rfl⟩
  rw [em0] at e0
  rw [em1] at e1
  subst e0
  subst e1
  clear em0 em1
  have U : Hid (Lay.At (fun b => w4.heap.size ≤ b ∧ b < w5.heap.size) w5 D (cs [.slice p0u m0u j0u, .slice p1u m1u j1u])) := bookL_cs uu.1 uu.2
  clear uu u0 u1
  clear Xa Ya
  have zw5 := hb.size
  have kw5 : Hid (Below (w.heap.size + 1) (w.alloc (.cells #[c 0, c 1] 25)) w5) := below_of kw4.out hb
  clear hb kw4
  obtain ⟨Bu, hBX⟩ : ∃ V, V = w5.alloc (.cells #[.slice p0u m0u j0u, .slice p1u m1u j1u] 30) := ⟨_, rfl⟩
  have EB : Hid (Bu = w5.alloc (.cells #[.slice p0u m0u j0u, .slice p1u m1u j1u] 30)) := hBX
  have hbx : Below w5.heap.size w5 Bu := by rw [hBX]; exact (Below.refl _ _).alloc (Nat.le_refl _) _
  obtain ⟨gu, hg⟩ : ∃ g, g = w5.heap.size := ⟨_, rfl⟩
  have EG : Hid (gu = w5.heap.size) := hg
  have Ru : Hid (Bu.heap[gu]? = some (.cells #[.slice p0u m0u j0u, .slice p1u m1u j1u] 30 (0, 0))) := by rw [hg, hBX]; exact heap_alloc_new w5 _
  have lu : w5.heap.size ≤ gu ∧ gu < Bu.heap.size := by rw [hg, hBX]; simp
  obtain ⟨lua, lub⟩ := lu
  clear hBX hg
  have zBu := hbx.size
  have kBu : Hid (Below (w.heap.size + 1) (w.alloc (.cells #[c 0, c 1] 25)) Bu) := below_of kw5.out hbx
  have U : Hid (Lay.At (fun b => w4.heap.size ≤ b ∧ b < w5.heap.size) Bu D (cs [.slice p0u m0u j0u, .slice p1u m1u j1u])) := Lay.same U.out (Same.of_below hbx (fun b hb => by omega))
  clear hbx kw5
  go_upto_region 11 with fail
  rw [← EB.out, ← EG.out]
  clear EB EG
  have a0 := box_at _ _ kBu.out 0 (c 0) rfl
  have a1 := box_at _ _ kBu.out 1 (c 1) rfl
  go_wp2_with fail
  refine (toShareBook_own S (T, Bs) c _ (H.out _ (below_end kBu.out)) (HS.out _ (below_end kBu.out)) HM.out).mono ?_
  rintro e w6 ⟨g, rfl, gg, hb⟩
  clear a0 a1
  obtain ⟨⟨p0x, j0x, e0, -⟩, ⟨p1x, j1x, e1, -⟩⟩ := at_DShareBook.1 (Own.on_at gg)
  simp only at e0 e1
  obtain ⟨m0x, em0⟩ : ∃ n, T.length = n := ⟨_, rfl⟩
  obtain ⟨m1x, em1⟩ : ∃ n, Bs.length = n := ⟨_, rfl⟩
  rw [em0] at e0
  rw [em1] at e1
  have GG := Own.on_ext gg (c' := cs [.slice p0x m0x j0x, .slice p1x m1x j1x]) (fun j hj => by
    have : j < 2 := hj
    match j, this with
    | 0, _ => exact e0.symm
    | 1, _ => exact e1.symm)
  rw [e0, e1]
  clear e0 e1 em0 em1
  have Xx : Hid (Own.On (fun b => Bu.heap.size ≤ b ∧ b < w6.heap.size) w6 ((T, Bs) : DShareBook) (cs [.slice p0x m0x j0x, .slice p1x m1x j1x])) := GG
  clear GG gg
  have zw6 := hb.size
  have kw6 : Hid (Below (w.heap.size + 1) (w.alloc (.cells #[c 0, c 1] 25)) w6) := below_of kBu.out hb
  have U : Hid (Lay.At (fun b => w4.heap.size ≤ b ∧ b < w5.heap.size) w6 D (cs [.slice p0u m0u j0u, .slice p1u m1u j1u])) := Lay.same U.out (Same.of_below hb (fun b hb => by omega))
  have Ru : Hid (w6.heap[gu]? = some (.cells #[.slice p0u m0u j0u, .slice p1u m1u j1u] 30 (0, 0))) := (hb.block _ (by omega)).trans Ru.out
  clear hb kBu
  obtain ⟨Bx, hBX⟩ : ∃ V, V = w6.alloc (.cells #[.slice p0x m0x j0x, .slice p1x m1x j1x] 30) := ⟨_, rfl⟩
  have EB : Hid (Bx = w6.alloc (.cells #[.slice p0x m0x j0x, .slice p1x m1x j1x] 30)) := hBX
  have hbx : Below w6.heap.size w6 Bx := by rw [hBX]; exact (Below.refl _ _).alloc (Nat.le_refl _) _
  obtain ⟨gx, hg⟩ : ∃ g, g = w6.heap.size := ⟨_, rfl⟩
  have EG : Hid (gx = w6.heap.size) := hg
  have Rx : Hid (Bx.heap[gx]? = some (.cells #[.slice p0x m0x j0x, .slice p1x m1x j1x] 30 (0, 0))) := by rw [hg, hBX]; exact heap_alloc_new w6 _
  have lx : w6.heap.size ≤ gx ∧ gx < Bx.heap.size := by rw [hg, hBX]; simp
  obtain ⟨lxa, lxb⟩ := lx
  clear hBX hg
  have zBx := hbx.size
  have kBx : Hid (Below (w.heap.size + 1) (w.alloc (.cells #[c 0, c 1] 25)) Bx) := below_of kw6.out hbx
  have U : Hid (Lay.At (fun b => w4.heap.size ≤ b ∧ b < w5.heap.size) Bx D (cs [.slice p0u m0u j0u, .slice p1u m1u j1u])) := Lay.same U.out (Same.of_below hbx (fun b hb => by omega))
  have Ru : Hid (Bx.heap[gu]? = some (.cells #[.slice p0u m0u j0u, .slice p1u m1u j1u] 30 (0, 0))) := (hbx.block _ (by omega)).trans Ru.out
  have Xx : Hid (Own.On (fun b => Bu.heap.size ≤ b ∧ b < w6.heap.size) Bx ((T, Bs) : DShareBook) (cs [.slice p0x m0x j0x, .slice p1x m1x j1x])) := Own.on_same Xx.out (fun b hb' => hbx.block b (by omega))
  clear hbx kw6
  go_upto_region 12 with fail
  rw [← EB.out, ← EG.out]
  clear EB EG
  go_wp2_with fail
  refine (toStringS_own S lst (.slice os ns ks) _ (HLS.out _ (below_end kBx.out)) (HS.out _ (below_end kBx.out)) HML.out).mono ?_
  rintro e w7 ⟨r, rfl, gg, hb⟩
  obtain ⟨ply, jly, e0, -⟩ := id (gg.at_)
  obtain ⟨mly, em0⟩ : ∃ n, lst.length = n := ⟨_, rfl⟩
  rw [em0] at e0
  subst e0
  have Yy : Hid (OnL (fun b => Bx.heap.size ≤ b ∧ b < w7.heap.size) w7 lst (.slice ply mly jly)) := gg
  clear gg em0
  have zw7 := hb.size
  have kw7 : Hid (Below (w.heap.size + 1) (w.alloc (.cells #[c 0, c 1] 25)) w7) := below_of kBx.out hb
  have U : Hid (Lay.At (fun b => w4.heap.size ≤ b ∧ b < w5.heap.size) w7 D (cs [.slice p0u m0u j0u, .slice p1u m1u j1u])) := Lay.same U.out (Same.of_below hb (fun b hb => by omega))
  have Ru : Hid (w7.heap[gu]? = some (.cells #[.slice p0u m0u j0u, .slice p1u m1u j1u] 30 (0, 0))) := (hb.block _ (by omega)).trans Ru.out
  have Xx : Hid (Own.On (fun b => Bu.heap.size ≤ b ∧ b < w6.heap.size) w7 ((T, Bs) : DShareBook) (cs [.slice p0x m0x j0x, .slice p1x m1x j1x])) := Own.on_same Xx.out (fun b hb' => hb.block b (by omega))
  have Rx : Hid (w7.heap[gx]? = some (.cells #[.slice p0x m0x j0x, .slice p1x m1x j1x] 30 (0, 0))) := (hb.block _ (by omega)).trans Rx.out
  clear hb kBx
  have b0 := (cell_row Rx.out 0 (.slice p0x m0x j0x) rfl).1
  have b1 := (cell_row Rx.out 1 (.slice p1x m1x j1x) rfl).1
  have CA : Hid (Calls Tryz.prog 9 #[.agg #[.slice p0x m0x j0x, .slice p1x m1x j1x], .string x, .slice ply mly jly] w7 (AnsW w7 D cd)) := HPI.out (fun b => b < w7.heap.size) _ _ _ _ _ _ _ _ _ w7 (at_DShareBook.1 (Lay.up (Own.on_at Xx.out) (fun b hb => by omega))).1 (at_DShareBook.1 (Lay.up (Own.on_at Xx.out) (fun b hb => by omega))).2 (AtL.up (Yy.out.at_) (fun b hb => by omega)) (fun b hb => hb) HM.out HML.out HXS.out (HL.out _ (below_end kw7.out))
  go_wp2_with fail
  refine Calls.mono CA.out ?_
  rintro e w8 ⟨r0, r1, L, rfl, hp, hmap, hb⟩
  have hon : Own.On (fun b => w7.heap.size ≤ b ∧ b < w8.heap.size) w8 D (cs [r0, r1]) := by have := hp.on; rw [hmap] at this; exact this
  clear hp hmap CA
  obtain ⟨p0g, j0g, e0, -⟩ := id ((at_DShareBook.1 (Own.on_at hon))).1
  obtain ⟨p1g, j1g, e1, -⟩ := id ((at_DShareBook.1 (Own.on_at hon))).2
  obtain ⟨m0g, em0⟩ : ∃ n, D.1.length = n := ⟨_, rfl⟩
  obtain ⟨m1g, em1⟩ : ∃ n, D.2.length = n := ⟨_, rfl⟩
  rw [em0] at e0
  rw [em1] at e1
  subst e0
  subst e1
  clear em0 em1
  have Gg : Hid (Own.On (fun b => w7.heap.size ≤ b ∧ b < w8.heap.size) w8 D (cs [.slice p0g m0g j0g, .slice p1g m1g j1g])) := hon
  clear hon
  have zw8 := hb.size
  have kw8 : Hid (Below (w.heap.size + 1) (w.alloc (.cells #[c 0, c 1] 25)) w8) := below_of kw7.out hb
  have U : Hid (Lay.At (fun b => w4.heap.size ≤ b ∧ b < w5.heap.size) w8 D (cs [.slice p0u m0u j0u, .slice p1u m1u j1u])) := Lay.same U.out (Same.of_below hb (fun b hb => by omega))
  have Ru : Hid (w8.heap[gu]? = some (.cells #[.slice p0u m0u j0u, .slice p1u m1u j1u] 30 (0, 0))) := (hb.block _ (by omega)).trans Ru.out
  have Xx : Hid (Own.On (fun b => Bu.heap.size ≤ b ∧ b < w6.heap.size) w8 ((T, Bs) : DShareBook) (cs [.slice p0x m0x j0x, .slice p1x m1x j1x])) := Own.on_same Xx.out (fun b hb' => hb.block b (by omega))
  have Rx : Hid (w8.heap[gx]? = some (.cells #[.slice p0x m0x j0x, .slice p1x m1x j1x] 30 (0, 0))) := (hb.block _ (by omega)).trans Rx.out
  have Yy : Hid (OnL (fun b => Bx.heap.size ≤ b ∧ b < w7.heap.size) w8 lst (.slice ply mly jly)) := Yy.out.same (fun b hb' => hb.block b (by omega))
  clear hb kw7
  clear b0 b1
  obtain ⟨Bg, hBX⟩ : ∃ V, V = w8.alloc (.cells #[.slice p0g m0g j0g, .slice p1g m1g j1g] 30) := ⟨_, rfl⟩
  have EB : Hid (Bg = w8.alloc (.cells #[.slice p0g m0g j0g, .slice p1g m1g j1g] 30)) := hBX
  have hbx : Below w8.heap.size w8 Bg := by rw [hBX]; exact (Below.refl _ _).alloc (Nat.le_refl _) _
  obtain ⟨gg, hg⟩ : ∃ g, g = w8.heap.size := ⟨_, rfl⟩
  have EG : Hid (gg = w8.heap.size) := hg
  have Rg : Hid (Bg.heap[gg]? = some (.cells #[.slice p0g m0g j0g, .slice p1g m1g j1g] 30 (0, 0))) := by rw [hg, hBX]; exact heap_alloc_new w8 _
  have lg : w8.heap.size ≤ gg ∧ gg < Bg.heap.size := by rw [hg, hBX]; simp
  obtain ⟨lga, lgb⟩ := lg
  clear hBX hg
  have zBg := hbx.size
  have kBg : Hid (Below (w.heap.size + 1) (w.alloc (.cells #[c 0, c 1] 25)) Bg) := below_of kw8.out hbx
  have U : Hid (Lay.At (fun b => w4.heap.size ≤ b ∧ b < w5.heap.size) Bg D (cs [.slice p0u m0u j0u, .slice p1u m1u j1u])) := Lay.same U.out (Same.of_below hbx (fun b hb => by omega))
  have Ru : Hid (Bg.heap[gu]? = some (.cells #[.slice p0u m0u j0u, .slice p1u m1u j1u] 30 (0, 0))) := (hbx.block _ (by omega)).trans Ru.out
  have Xx : Hid (Own.On (fun b => Bu.heap.size ≤ b ∧ b < w6.heap.size) Bg ((T, Bs) : DShareBook) (cs [.slice p0x m0x j0x, .slice p1x m1x j1x])) := Own.on_same Xx.out (fun b hb' => hbx.block b (by omega))
  have Rx : Hid (Bg.heap[gx]? = some (.cells #[.slice p0x m0x j0x, .slice p1x m1x j1x] 30 (0, 0))) := (hbx.block _ (by omega)).trans Rx.out
  have Yy : Hid (OnL (fun b => Bx.heap.size ≤ b ∧ b < w7.heap.size) Bg lst (.slice ply mly jly)) := Yy.out.same (fun b hb' => hbx.block b (by omega))
  have Gg : Hid (Own.On (fun b => w7.heap.size ≤ b ∧ b < w8.heap.size) Bg D (cs [.slice p0g m0g j0g, .slice p1g m1g j1g])) := Own.on_same Gg.out (fun b hb' => hbx.block b (by omega))
  clear hbx kw8
  go_upto_region 14 with fail
  rw [← EB.out, ← EG.out]
  clear EB EG
  have b0 := (cell_row Rg.out 0 (.slice p0g m0g j0g) rfl).1
  have b1 := (cell_row Rg.out 1 (.slice p1g m1g j1g) rfl).1
  have d0 := (cell_row Ru.out 0 (.slice p0u m0u j0u) rfl).1
  have d1 := (cell_row Ru.out 1 (.slice p1u m1u j1u) rfl).1
  go_wp2_with fail
  refine (eqShareBook_any _ _ D (cs [.slice p0g m0g j0g, .slice p1g m1g j1g]) (cs [.slice p0u m0u j0u, .slice p1u m1u j1u]) Bg (Own.on_at Gg.out) U.out (fun b hb => by omega) (fun b hb => by omega)).mono ?_
  rintro e w9 ⟨rfl, hb⟩
  have zw9 := hb.size
  have kw9 : Hid (Below (w.heap.size + 1) (w.alloc (.cells #[c 0, c 1] 25)) w9) := below_of kBg.out hb
  have U : Hid (Lay.At (fun b => w4.heap.size ≤ b ∧ b < w5.heap.size) w9 D (cs [.slice p0u m0u j0u, .slice p1u m1u j1u])) := Lay.same U.out (Same.of_below hb (fun b hb => by omega))
  have Ru : Hid (w9.heap[gu]? = some (.cells #[.slice p0u m0u j0u, .slice p1u m1u j1u] 30 (0, 0))) := (hb.block _ (by omega)).trans Ru.out
  have Xx : Hid (Own.On (fun b => Bu.heap.size ≤ b ∧ b < w6.heap.size) w9 ((T, Bs) : DShareBook) (cs [.slice p0x m0x j0x, .slice p1x m1x j1x])) := Own.on_same Xx.out (fun b hb' => hb.block b (by omega))
  have Rx : Hid (w9.heap[gx]? = some (.cells #[.slice p0x m0x j0x, .slice p1x m1x j1x] 30 (0, 0))) := (hb.block _ (by omega)).trans Rx.out
  have Yy : Hid (OnL (fun b => Bx.heap.size ≤ b ∧ b < w7.heap.size) w9 lst (.slice ply mly jly)) := Yy.out.same (fun b hb' => hb.block b (by omega))
  have Gg : Hid (Own.On (fun b => w7.heap.size ≤ b ∧ b < w8.heap.size) w9 D (cs [.slice p0g m0g j0g, .slice p1g m1g j1g])) := Own.on_same Gg.out (fun b hb' => hb.block b (by omega))
  have Rg : Hid (w9.heap[gg]? = some (.cells #[.slice p0g m0g j0g, .slice p1g m1g j1g] 30 (0, 0))) := (hb.block _ (by omega)).trans Rg.out
  clear hb kBg
  clear b0 b1 d0 d1
  have a0 := box_at _ _ kw9.out 0 (c 0) rfl
  have a1 := box_at _ _ kw9.out 1 (c 1) rfl
  have d0 := (cell_row Rx.out 0 (.slice p0x m0x j0x) rfl).1
  have d1 := (cell_row Rx.out 1 (.slice p1x m1x j1x) rfl).1
  go_upto_region 16 with fail
  have SZ : Hid (w.heap.size + 1 ≤ w9.heap.size) := by have := kw9.out.size; show _ ≤ _; simpa using this
  go_region_with (first
    | (go_at_call 7; refine (toShareBook_any S (T, Bs) c _ (by exact H.out _ (below_end kw9.out).drew) (fun b hb => by exact HS.out _ (below_end kw9.out) b hb) HM.out).mono ?_; rintro e w10 ⟨r, rfl, G6, hb6⟩; have HG6 : Hid (Lay.At (fun b => w9.heap.size ≤ b ∧ b < w10.heap.size) w10 (T, Bs) r) := G6; clear G6; have zz : w9.heap.size ≤ w10.heap.size := hb6.size; have g0 := (hb6.cell (p := ⟨gx, 0, none⟩) (by show gx < w9.heap.size; omega)).trans d0; have g1 := (hb6.cell (p := ⟨gx, 1, none⟩) (by show gx < w9.heap.size; omega)).trans d1; have BA : Hid (Below w9.heap.size w9 w10) := ((Below.refl _ _).drew).trans hb6; have XA : Hid (Own.On (fun b => Bu.heap.size ≤ b ∧ b < w6.heap.size) w10 ((T, Bs) : DShareBook) (cs [.slice p0x m0x j0x, .slice p1x m1x j1x])) := Own.on_same Xx.out (fun b hb2 => BA.out.block b (by omega)))
    | (go_at_call 10; refine (eqShareBook_any (fun b => Bu.heap.size ≤ b ∧ b < w6.heap.size) (fun b => w9.heap.size ≤ b ∧ b < w10.heap.size) (T, Bs) (cs [.slice p0x m0x j0x, .slice p1x m1x j1x]) r _ (Own.on_at XA.out) HG6.out (fun b hb => by omega) (fun b hb => hb.2)).mono ?_; rintro e w11 ⟨rfl, hb7⟩; have hb : Below w9.heap.size w9 w11 := BA.out.trans (hb7.mono zz)))
  all_goals
    clear HG6 hb7 hb6 a0 a1 d0 d1 g0 g1 BA XA zz
    have zw11 := hb.size
    have kw11 : Hid (Below (w.heap.size + 1) (w.alloc (.cells #[c 0, c 1] 25)) w11) := below_of kw9.out hb
    have U : Hid (Lay.At (fun b => w4.heap.size ≤ b ∧ b < w5.heap.size) w11 D (cs [.slice p0u m0u j0u, .slice p1u m1u j1u])) := Lay.same U.out (Same.of_below hb (fun b hb => by omega))
    have Ru : Hid (w11.heap[gu]? = some (.cells #[.slice p0u m0u j0u, .slice p1u m1u j1u] 30 (0, 0))) := (hb.block _ (by omega)).trans Ru.out
    have Xx : Hid (Own.On (fun b => Bu.heap.size ≤ b ∧ b < w6.heap.size) w11 ((T, Bs) : DShareBook) (cs [.slice p0x m0x j0x, .slice p1x m1x j1x])) := Own.on_same Xx.out (fun b hb' => hb.block b (by omega))
    have Rx : Hid (w11.heap[gx]? = some (.cells #[.slice p0x m0x j0x, .slice p1x m1x j1x] 30 (0, 0))) := (hb.block _ (by omega)).trans Rx.out
    have Yy : Hid (OnL (fun b => Bx.heap.size ≤ b ∧ b < w7.heap.size) w11 lst (.slice ply mly jly)) := Yy.out.same (fun b hb' => hb.block b (by omega))
    have Gg : Hid (Own.On (fun b => w7.heap.size ≤ b ∧ b < w8.heap.size) w11 D (cs [.slice p0g m0g j0g, .slice p1g m1g j1g])) := Own.on_same Gg.out (fun b hb' => hb.block b (by omega))
    have Rg : Hid (w11.heap[gg]? = some (.cells #[.slice p0g m0g j0g, .slice p1g m1g j1g] 30 (0, 0))) := (hb.block _ (by omega)).trans Rg.out
    clear hb kw9
    go_wp2_with fail
    refine (toStringS_any S lst (.slice os ns ks) _ (HLS.out _ (below_end kw11.out)) (HS.out _ (below_end kw11.out)) HML.out).mono ?_
    rintro e w12 ⟨r, rfl, gg, hb⟩
    obtain ⟨plk, jlk, e0, -⟩ := id (gg)
    obtain ⟨mlk, em0⟩ : ∃ n, lst.length = n := ⟨_, rfl⟩
    rw [em0] at e0
    subst e0
    have Yk : Hid (AtL (fun b => w11.heap.size ≤ b ∧ b < w12.heap.size) w12 lst (.slice plk mlk jlk)) := gg
    clear gg em0
    have zw12 := hb.size
    have kw12 : Hid (Below (w.heap.size + 1) (w.alloc (.cells #[c 0, c 1] 25)) w12) := below_of kw11.out hb
    have U : Hid (Lay.At (fun b => w4.heap.size ≤ b ∧ b < w5.heap.size) w12 D (cs [.slice p0u m0u j0u, .slice p1u m1u j1u])) := Lay.same U.out (Same.of_below hb (fun b hb => by omega))
    have Ru : Hid (w12.heap[gu]? = some (.cells #[.slice p0u m0u j0u, .slice p1u m1u j1u] 30 (0, 0))) := (hb.block _ (by omega)).trans Ru.out
    have Xx : Hid (Own.On (fun b => Bu.heap.size ≤ b ∧ b < w6.heap.size) w12 ((T, Bs) : DShareBook) (cs [.slice p0x m0x j0x, .slice p1x m1x j1x])) := Own.on_same Xx.out (fun b hb' => hb.block b (by omega))
    have Rx : Hid (w12.heap[gx]? = some (.cells #[.slice p0x m0x j0x, .slice p1x m1x j1x] 30 (0, 0))) := (hb.block _ (by omega)).trans Rx.out
    have Yy : Hid (OnL (fun b => Bx.heap.size ≤ b ∧ b < w7.heap.size) w12 lst (.slice ply mly jly)) := Yy.out.same (fun b hb' => hb.block b (by omega))
    have Gg : Hid (Own.On (fun b => w7.heap.size ≤ b ∧ b < w8.heap.size) w12 D (cs [.slice p0g m0g j0g, .slice p1g m1g j1g])) := Own.on_same Gg.out (fun b hb' => hb.block b (by omega))
    have Rg : Hid (w12.heap[gg]? = some (.cells #[.slice p0g m0g j0g, .slice p1g m1g j1g] 30 (0, 0))) := (hb.block _ (by omega)).trans Rg.out
    clear hb kw11
    go_wp2_with fail
    refine (eqStringS_any _ _ lst (.slice ply mly jly) (.slice plk mlk jlk) w12 Yy.out.at_ Yk.out (fun b hb => by omega) (fun b hb => by omega)).mono ?_
    rintro e w13 ⟨rfl, hb⟩
    clear Yk
    have zw13 := hb.size
    have kw13 : Hid (Below (w.heap.size + 1) (w.alloc (.cells #[c 0, c 1] 25)) w13) := below_of kw12.out hb
    have U : Hid (Lay.At (fun b => w4.heap.size ≤ b ∧ b < w5.heap.size) w13 D (cs [.slice p0u m0u j0u, .slice p1u m1u j1u])) := Lay.same U.out (Same.of_below hb (fun b hb => by omega))
    have Ru : Hid (w13.heap[gu]? = some (.cells #[.slice p0u m0u j0u, .slice p1u m1u j1u] 30 (0, 0))) := (hb.block _ (by omega)).trans Ru.out
    have Xx : Hid (Own.On (fun b => Bu.heap.size ≤ b ∧ b < w6.heap.size) w13 ((T, Bs) : DShareBook) (cs [.slice p0x m0x j0x, .slice p1x m1x j1x])) := Own.on_same Xx.out (fun b hb' => hb.block b (by omega))
    have Rx : Hid (w13.heap[gx]? = some (.cells #[.slice p0x m0x j0x, .slice p1x m1x j1x] 30 (0, 0))) := (hb.block _ (by omega)).trans Rx.out
    have Yy : Hid (OnL (fun b => Bx.heap.size ≤ b ∧ b < w7.heap.size) w13 lst (.slice ply mly jly)) := Yy.out.same (fun b hb' => hb.block b (by omega))
    have Gg : Hid (Own.On (fun b => w7.heap.size ≤ b ∧ b < w8.heap.size) w13 D (cs [.slice p0g m0g j0g, .slice p1g m1g j1g])) := Own.on_same Gg.out (fun b hb' => hb.block b (by omega))
    have Rg : Hid (w13.heap[gg]? = some (.cells #[.slice p0g m0g j0g, .slice p1g m1g j1g] 30 (0, 0))) := (hb.block _ (by omega)).trans Rg.out
    clear hb kw12
    have d0 := (cell_row Rx.out 0 (.slice p0x m0x j0x) rfl).1
    have d1 := (cell_row Rx.out 1 (.slice p1x m1x j1x) rfl).1
    go_wp2_with fail
    refine (markShareBook_any _ (T, Bs) (cs [.slice p0x m0x j0x, .slice p1x m1x j1x]) 1 w13 Xx.out (fun b hb => by omega) (by omega) (by have := HCB.out; omega)).mono ?_
    rintro e w14 ⟨rfl, _, bu⟩
    clear d0 d1
    clear Rx
    have zw14 := bu.size
    have kw14 : Hid (Below (w.heap.size + 1) (w.alloc (.cells #[c 0, c 1] 25)) w14) := kw13.out.trans (bu.below (B := w.heap.size + 1) (fun b hb => by omega) (by omega))
    have U : Hid (Lay.At (fun b => w4.heap.size ≤ b ∧ b < w5.heap.size) w14 D (cs [.slice p0u m0u j0u, .slice p1u m1u j1u])) := Lay.same U.out (fun b hb => bu.block b (by omega) (by omega))
    have Ru : Hid (w14.heap[gu]? = some (.cells #[.slice p0u m0u j0u, .slice p1u m1u j1u] 30 (0, 0))) := (bu.block _ (by omega) (by omega)).trans Ru.out
    have Yy : Hid (OnL (fun b => Bx.heap.size ≤ b ∧ b < w7.heap.size) w14 lst (.slice ply mly jly)) := Yy.out.same (fun b hb => bu.block b (by omega) (by omega))
    have Gg : Hid (Own.On (fun b => w7.heap.size ≤ b ∧ b < w8.heap.size) w14 D (cs [.slice p0g m0g j0g, .slice p1g m1g j1g])) := Own.on_same Gg.out (fun b hb => bu.block b (by omega) (by omega))
    have Rg : Hid (w14.heap[gg]? = some (.cells #[.slice p0g m0g j0g, .slice p1g m1g j1g] 30 (0, 0))) := (bu.block _ (by omega) (by omega)).trans Rg.out
    clear bu kw13
    clear Xx
    go_wp2_with fail
    refine (markStringS_any _ lst (.slice ply mly jly) (1 + (Own.cnt (α := DShareBook) (T, Bs) : Int)) w14 Yy.out (fun b hb => by omega) (by omega) (by have := HCB.out; have := HCL.out; omega)).mono ?_
    rintro e w15 ⟨rfl, _, bu⟩
    have zw15 := bu.size
    have kw15 : Hid (Below (w.heap.size + 1) (w.alloc (.cells #[c 0, c 1] 25)) w15) := kw14.out.trans (bu.below (B := w.heap.size + 1) (fun b hb => by omega) (by omega))
    have U : Hid (Lay.At (fun b => w4.heap.size ≤ b ∧ b < w5.heap.size) w15 D (cs [.slice p0u m0u j0u, .slice p1u m1u j1u])) := Lay.same U.out (fun b hb => bu.block b (by omega) (by omega))
    have Ru : Hid (w15.heap[gu]? = some (.cells #[.slice p0u m0u j0u, .slice p1u m1u j1u] 30 (0, 0))) := (bu.block _ (by omega) (by omega)).trans Ru.out
    have Gg : Hid (Own.On (fun b => w7.heap.size ≤ b ∧ b < w8.heap.size) w15 D (cs [.slice p0g m0g j0g, .slice p1g m1g j1g])) := Own.on_same Gg.out (fun b hb => bu.block b (by omega) (by omega))
    have Rg : Hid (w15.heap[gg]? = some (.cells #[.slice p0g m0g j0g, .slice p1g m1g j1g] 30 (0, 0))) := (bu.block _ (by omega) (by omega)).trans Rg.out
    clear bu kw14
    clear Yy
    have dk : decide (1 + (Own.cnt (α := DShareBook) (T, Bs) : Int) + (cntL lst : Int) < 0) = false := by simp; omega
    have b0 := (cell_row Rg.out 0 (.slice p0g m0g j0g) rfl).1
    have b1 := (cell_row Rg.out 1 (.slice p1g m1g j1g) rfl).1
    have d0 := (cell_row Ru.out 0 (.slice p0u m0u j0u) rfl).1
    have d1 := (cell_row Ru.out 1 (.slice p1u m1u j1u) rfl).1
    go_wp2_with fail
    refine (eqShareBook_any _ _ D (cs [.slice p0g m0g j0g, .slice p1g m1g j1g]) (cs [.slice p0u m0u j0u, .slice p1u m1u j1u]) w15 (Own.on_at Gg.out) U.out (fun b hb => by omega) (fun b hb => by omega)).mono ?_
    rintro e w16 ⟨rfl, hb⟩
    have zw16 := hb.size
    have kw16 : Hid (Below (w.heap.size + 1) (w.alloc (.cells #[c 0, c 1] 25)) w16) := below_of kw15.out hb
    have U : Hid (Lay.At (fun b => w4.heap.size ≤ b ∧ b < w5.heap.size) w16 D (cs [.slice p0u m0u j0u, .slice p1u m1u j1u])) := Lay.same U.out (Same.of_below hb (fun b hb => by omega))
    have Ru : Hid (w16.heap[gu]? = some (.cells #[.slice p0u m0u j0u, .slice p1u m1u j1u] 30 (0, 0))) := (hb.block _ (by omega)).trans Ru.out
    have Gg : Hid (Own.On (fun b => w7.heap.size ≤ b ∧ b < w8.heap.size) w16 D (cs [.slice p0g m0g j0g, .slice p1g m1g j1g])) := Own.on_same Gg.out (fun b hb' => hb.block b (by omega))
    have Rg : Hid (w16.heap[gg]? = some (.cells #[.slice p0g m0g j0g, .slice p1g m1g j1g] 30 (0, 0))) := (hb.block _ (by omega)).trans Rg.out
    clear hb kw15
    clear b0 b1 d0 d1 dk
    have b0 := (cell_row Rg.out 0 (.slice p0g m0g j0g) rfl).1
    have b1 := (cell_row Rg.out 1 (.slice p1g m1g j1g) rfl).1
    go_wp2_with fail
    refine (markShareBook_any _ D (cs [.slice p0g m0g j0g, .slice p1g m1g j1g]) 1 w16 Gg.out (fun b hb => by omega) (by omega) (by have := HCD.out; omega)).mono ?_
    rintro e w17 ⟨rfl, mm, bu⟩
    clear b0 b1
    have M : Hid (Lay.At (fun b => w7.heap.size ≤ b ∧ b < w8.heap.size) w17 (Own.mkD 1 D) (cs [.slice p0g m0g j0g, .slice p1g m1g j1g])) := Own.on_at mm
    clear mm
    have zw17 := bu.size
    have kw17 : Hid (Below (w.heap.size + 1) (w.alloc (.cells #[c 0, c 1] 25)) w17) := kw16.out.trans (bu.below (B := w.heap.size + 1) (fun b hb => by omega) (by omega))
    have U : Hid (Lay.At (fun b => w4.heap.size ≤ b ∧ b < w5.heap.size) w17 D (cs [.slice p0u m0u j0u, .slice p1u m1u j1u])) := Lay.same U.out (fun b hb => bu.block b (by omega) (by omega))
    have Ru : Hid (w17.heap[gu]? = some (.cells #[.slice p0u m0u j0u, .slice p1u m1u j1u] 30 (0, 0))) := (bu.block _ (by omega) (by omega)).trans Ru.out
    have Rg : Hid (w17.heap[gg]? = some (.cells #[.slice p0g m0g j0g, .slice p1g m1g j1g] 30 (0, 0))) := (bu.block _ (by omega) (by omega)).trans Rg.out
    clear bu kw16
    clear Gg
    have hcl : (Own.cnt D : Int) ≤ 1048576 := by have := HCD.out; omega
    have b0 := (cell_row Rg.out 0 (.slice p0g m0g j0g) rfl).1
    have b1 := (cell_row Rg.out 1 (.slice p1g m1g j1g) rfl).1
    go_wp2_with fail
    refine (heldShareBook_any _ D (cs [.slice p0g m0g j0g, .slice p1g m1g j1g]) 1 w17 M.out (fun b hb => by omega) (by omega) (by have := HCD.out; omega)).mono ?_
    rintro e w18 ⟨rfl, hb⟩
    clear b0 b1
    have zw18 := hb.size
    have kw18 : Hid (Below (w.heap.size + 1) (w.alloc (.cells #[c 0, c 1] 25)) w18) := below_of kw17.out hb
    have U : Hid (Lay.At (fun b => w4.heap.size ≤ b ∧ b < w5.heap.size) w18 D (cs [.slice p0u m0u j0u, .slice p1u m1u j1u])) := Lay.same U.out (Same.of_below hb (fun b hb => by omega))
    have Ru : Hid (w18.heap[gu]? = some (.cells #[.slice p0u m0u j0u, .slice p1u m1u j1u] 30 (0, 0))) := (hb.block _ (by omega)).trans Ru.out
    have Rg : Hid (w18.heap[gg]? = some (.cells #[.slice p0g m0g j0g, .slice p1g m1g j1g] 30 (0, 0))) := (hb.block _ (by omega)).trans Rg.out
    have M : Hid (Lay.At (fun b => w7.heap.size ≤ b ∧ b < w8.heap.size) w18 (Own.mkD 1 D) (cs [.slice p0g m0g j0g, .slice p1g m1g j1g])) := Lay.same M.out (Same.of_below hb (fun b hb => by omega))
    clear hb kw17
    have a0 := box_at _ _ kw18.out 0 (c 0) rfl
    have a1 := box_at _ _ kw18.out 1 (c 1) rfl
    go_wp2_with fail
    refine (toShareBook_any S (T, Bs) c _ (H.out _ (below_end kw18.out)) (HS.out _ (below_end kw18.out)) HM.out).mono ?_
    rintro e w19 ⟨g, rfl, gg, hb⟩
    clear a0 a1
    obtain ⟨⟨p0e, j0e, e0, -⟩, ⟨p1e, j1e, e1, -⟩⟩ := at_DShareBook.1 (gg)
    simp only at e0 e1
    obtain ⟨m0e, em0⟩ : ∃ n, T.length = n := ⟨_, rfl⟩
    obtain ⟨m1e, em1⟩ : ∃ n, Bs.length = n := ⟨_, rfl⟩
    rw [em0] at e0
    rw [em1] at e1
    have GG := Lay.ext gg (c' := cs [.slice p0e m0e j0e, .slice p1e m1e j1e]) (fun j hj => by
      have : j < 2 := hj
      match j, this with
      | 0, _ => exact e0.symm
      | 1, _ => exact e1.symm)
    rw [e0, e1]
    clear e0 e1 em0 em1
    have Xe : Hid (Lay.At (fun b => w18.heap.size ≤ b ∧ b < w19.heap.size) w19 ((T, Bs) : DShareBook) (cs [.slice p0e m0e j0e, .slice p1e m1e j1e])) := GG
    clear GG gg
    have zw19 := hb.size
    have kw19 : Hid (Below (w.heap.size + 1) (w.alloc (.cells #[c 0, c 1] 25)) w19) := below_of kw18.out hb
    have U : Hid (Lay.At (fun b => w4.heap.size ≤ b ∧ b < w5.heap.size) w19 D (cs [.slice p0u m0u j0u, .slice p1u m1u j1u])) := Lay.same U.out (Same.of_below hb (fun b hb => by omega))
    have Ru : Hid (w19.heap[gu]? = some (.cells #[.slice p0u m0u j0u, .slice p1u m1u j1u] 30 (0, 0))) := (hb.block _ (by omega)).trans Ru.out
    have Rg : Hid (w19.heap[gg]? = some (.cells #[.slice p0g m0g j0g, .slice p1g m1g j1g] 30 (0, 0))) := (hb.block _ (by omega)).trans Rg.out
    have M : Hid (Lay.At (fun b => w7.heap.size ≤ b ∧ b < w8.heap.size) w19 (Own.mkD 1 D) (cs [.slice p0g m0g j0g, .slice p1g m1g j1g])) := Lay.same M.out (Same.of_below hb (fun b hb => by omega))
    clear hb kw18
    go_wp2_with fail
    refine (toStringS_any S lst (.slice os ns ks) _ (HLS.out _ (below_end kw19.out)) (HS.out _ (below_end kw19.out)) HML.out).mono ?_
    rintro e w20 ⟨r, rfl, gg, hb⟩
    obtain ⟨plf, jlf, e0, -⟩ := id (gg)
    obtain ⟨mlf, em0⟩ : ∃ n, lst.length = n := ⟨_, rfl⟩
    rw [em0] at e0
    subst e0
    have Yf : Hid (AtL (fun b => w19.heap.size ≤ b ∧ b < w20.heap.size) w20 lst (.slice plf mlf jlf)) := gg
    clear gg em0
    have zw20 := hb.size
    have kw20 : Hid (Below (w.heap.size + 1) (w.alloc (.cells #[c 0, c 1] 25)) w20) := below_of kw19.out hb
    have U : Hid (Lay.At (fun b => w4.heap.size ≤ b ∧ b < w5.heap.size) w20 D (cs [.slice p0u m0u j0u, .slice p1u m1u j1u])) := Lay.same U.out (Same.of_below hb (fun b hb => by omega))
    have Ru : Hid (w20.heap[gu]? = some (.cells #[.slice p0u m0u j0u, .slice p1u m1u j1u] 30 (0, 0))) := (hb.block _ (by omega)).trans Ru.out
    have Rg : Hid (w20.heap[gg]? = some (.cells #[.slice p0g m0g j0g, .slice p1g m1g j1g] 30 (0, 0))) := (hb.block _ (by omega)).trans Rg.out
    have M : Hid (Lay.At (fun b => w7.heap.size ≤ b ∧ b < w8.heap.size) w20 (Own.mkD 1 D) (cs [.slice p0g m0g j0g, .slice p1g m1g j1g])) := Lay.same M.out (Same.of_below hb (fun b hb => by omega))
    have Xe : Hid (Lay.At (fun b => w18.heap.size ≤ b ∧ b < w19.heap.size) w20 ((T, Bs) : DShareBook) (cs [.slice p0e m0e j0e, .slice p1e m1e j1e])) := Lay.same Xe.out (Same.of_below hb (fun b hb => by omega))
    clear hb kw19
    have CA : Hid (Calls Tryz.prog 9 #[.agg #[.slice p0e m0e j0e, .slice p1e m1e j1e], .string x, .slice plf mlf jlf] w20 (AnsW w20 D cd)) := HPI.out (fun b => b < w20.heap.size) _ _ _ _ _ _ _ _ _ w20 (at_DShareBook.1 (Lay.up Xe.out (fun b hb => by omega))).1 (at_DShareBook.1 (Lay.up Xe.out (fun b hb => by omega))).2 (AtL.up (Yf.out) (fun b hb => by omega)) (fun b hb => hb) HM.out HML.out HXS.out (HL.out _ (below_end kw20.out))
    go_wp2_with fail
    refine Calls.mono CA.out ?_
    rintro e w21 ⟨r0, r1, L, rfl, hp, hmap, hb⟩
    have hon : Own.On (fun b => w20.heap.size ≤ b ∧ b < w21.heap.size) w21 D (cs [r0, r1]) := by have := hp.on; rw [hmap] at this; exact this
    clear hp hmap CA
    obtain ⟨p0h, j0h, e0, -⟩ := id ((at_DShareBook.1 (Own.on_at hon))).1
    obtain ⟨p1h, j1h, e1, -⟩ := id ((at_DShareBook.1 (Own.on_at hon))).2
    obtain ⟨m0h, em0⟩ : ∃ n, D.1.length = n := ⟨_, rfl⟩
    obtain ⟨m1h, em1⟩ : ∃ n, D.2.length = n := ⟨_, rfl⟩
    rw [em0] at e0
    rw [em1] at e1
    subst e0
    subst e1
    clear em0 em1
    have Gh : Hid (Own.On (fun b => w20.heap.size ≤ b ∧ b < w21.heap.size) w21 D (cs [.slice p0h m0h j0h, .slice p1h m1h j1h])) := hon
    clear hon
    have zw21 := hb.size
    have kw21 : Hid (Below (w.heap.size + 1) (w.alloc (.cells #[c 0, c 1] 25)) w21) := below_of kw20.out hb
    have U : Hid (Lay.At (fun b => w4.heap.size ≤ b ∧ b < w5.heap.size) w21 D (cs [.slice p0u m0u j0u, .slice p1u m1u j1u])) := Lay.same U.out (Same.of_below hb (fun b hb => by omega))
    have Ru : Hid (w21.heap[gu]? = some (.cells #[.slice p0u m0u j0u, .slice p1u m1u j1u] 30 (0, 0))) := (hb.block _ (by omega)).trans Ru.out
    have Rg : Hid (w21.heap[gg]? = some (.cells #[.slice p0g m0g j0g, .slice p1g m1g j1g] 30 (0, 0))) := (hb.block _ (by omega)).trans Rg.out
    have M : Hid (Lay.At (fun b => w7.heap.size ≤ b ∧ b < w8.heap.size) w21 (Own.mkD 1 D) (cs [.slice p0g m0g j0g, .slice p1g m1g j1g])) := Lay.same M.out (Same.of_below hb (fun b hb => by omega))
    have Xe : Hid (Lay.At (fun b => w18.heap.size ≤ b ∧ b < w19.heap.size) w21 ((T, Bs) : DShareBook) (cs [.slice p0e m0e j0e, .slice p1e m1e j1e])) := Lay.same Xe.out (Same.of_below hb (fun b hb => by omega))
    have Yf : Hid (AtL (fun b => w19.heap.size ≤ b ∧ b < w20.heap.size) w21 lst (.slice plf mlf jlf)) := Yf.out.same (Same.of_below hb (fun b hb => by omega))
    clear hb kw20
    clear Xe Yf
    obtain ⟨Bh, hBX⟩ : ∃ V, V = w21.alloc (.cells #[.slice p0h m0h j0h, .slice p1h m1h j1h] 30) := ⟨_, rfl⟩
    have EB : Hid (Bh = w21.alloc (.cells #[.slice p0h m0h j0h, .slice p1h m1h j1h] 30)) := hBX
    have hbx : Below w21.heap.size w21 Bh := by rw [hBX]; exact (Below.refl _ _).alloc (Nat.le_refl _) _
    obtain ⟨gh, hg⟩ : ∃ g, g = w21.heap.size := ⟨_, rfl⟩
    have EG : Hid (gh = w21.heap.size) := hg
    have Rh : Hid (Bh.heap[gh]? = some (.cells #[.slice p0h m0h j0h, .slice p1h m1h j1h] 30 (0, 0))) := by rw [hg, hBX]; exact heap_alloc_new w21 _
    have lh : w21.heap.size ≤ gh ∧ gh < Bh.heap.size := by rw [hg, hBX]; simp
    obtain ⟨lha, lhb⟩ := lh
    clear hBX hg
    have zBh := hbx.size
    have kBh : Hid (Below (w.heap.size + 1) (w.alloc (.cells #[c 0, c 1] 25)) Bh) := below_of kw21.out hbx
    have U : Hid (Lay.At (fun b => w4.heap.size ≤ b ∧ b < w5.heap.size) Bh D (cs [.slice p0u m0u j0u, .slice p1u m1u j1u])) := Lay.same U.out (Same.of_below hbx (fun b hb => by omega))
    have Ru : Hid (Bh.heap[gu]? = some (.cells #[.slice p0u m0u j0u, .slice p1u m1u j1u] 30 (0, 0))) := (hbx.block _ (by omega)).trans Ru.out
    have Rg : Hid (Bh.heap[gg]? = some (.cells #[.slice p0g m0g j0g, .slice p1g m1g j1g] 30 (0, 0))) := (hbx.block _ (by omega)).trans Rg.out
    have M : Hid (Lay.At (fun b => w7.heap.size ≤ b ∧ b < w8.heap.size) Bh (Own.mkD 1 D) (cs [.slice p0g m0g j0g, .slice p1g m1g j1g])) := Lay.same M.out (Same.of_below hbx (fun b hb => by omega))
    have Gh : Hid (Own.On (fun b => w20.heap.size ≤ b ∧ b < w21.heap.size) Bh D (cs [.slice p0h m0h j0h, .slice p1h m1h j1h])) := Own.on_same Gh.out (fun b hb' => hbx.block b (by omega))
    clear hbx kw21
    go_upto_region 34 with fail
    rw [← EB.out, ← EG.out]
    clear EB EG
    have b0 := (cell_row Rh.out 0 (.slice p0h m0h j0h) rfl).1
    have b1 := (cell_row Rh.out 1 (.slice p1h m1h j1h) rfl).1
    have d0 := (cell_row Ru.out 0 (.slice p0u m0u j0u) rfl).1
    have d1 := (cell_row Ru.out 1 (.slice p1u m1u j1u) rfl).1
    go_wp2_with fail
    refine (eqShareBook_any _ _ D (cs [.slice p0h m0h j0h, .slice p1h m1h j1h]) (cs [.slice p0u m0u j0u, .slice p1u m1u j1u]) Bh (Own.on_at Gh.out) U.out (fun b hb => by omega) (fun b hb => by omega)).mono ?_
    rintro e w22 ⟨rfl, hb⟩
    have zw22 := hb.size
    have kw22 : Hid (Below (w.heap.size + 1) (w.alloc (.cells #[c 0, c 1] 25)) w22) := below_of kBh.out hb
    have U : Hid (Lay.At (fun b => w4.heap.size ≤ b ∧ b < w5.heap.size) w22 D (cs [.slice p0u m0u j0u, .slice p1u m1u j1u])) := Lay.same U.out (Same.of_below hb (fun b hb => by omega))
    have Ru : Hid (w22.heap[gu]? = some (.cells #[.slice p0u m0u j0u, .slice p1u m1u j1u] 30 (0, 0))) := (hb.block _ (by omega)).trans Ru.out
    have Rg : Hid (w22.heap[gg]? = some (.cells #[.slice p0g m0g j0g, .slice p1g m1g j1g] 30 (0, 0))) := (hb.block _ (by omega)).trans Rg.out
    have M : Hid (Lay.At (fun b => w7.heap.size ≤ b ∧ b < w8.heap.size) w22 (Own.mkD 1 D) (cs [.slice p0g m0g j0g, .slice p1g m1g j1g])) := Lay.same M.out (Same.of_below hb (fun b hb => by omega))
    have Gh : Hid (Own.On (fun b => w20.heap.size ≤ b ∧ b < w21.heap.size) w22 D (cs [.slice p0h m0h j0h, .slice p1h m1h j1h])) := Own.on_same Gh.out (fun b hb' => hb.block b (by omega))
    have Rh : Hid (w22.heap[gh]? = some (.cells #[.slice p0h m0h j0h, .slice p1h m1h j1h] 30 (0, 0))) := (hb.block _ (by omega)).trans Rh.out
    clear hb kBh
    clear b0 b1 d0 d1
    clear Rh Gh
    have b0 := (cell_row Rg.out 0 (.slice p0g m0g j0g) rfl).1
    have b1 := (cell_row Rg.out 1 (.slice p1g m1g j1g) rfl).1
    go_wp2_with fail
    refine (heldShareBook_any _ D (cs [.slice p0g m0g j0g, .slice p1g m1g j1g]) 1 w22 M.out (fun b hb => by omega) (by omega) (by have := HCD.out; omega)).mono ?_
    rintro e w23 ⟨rfl, hb⟩
    clear b0 b1
    have zw23 := hb.size
    have kw23 : Hid (Below (w.heap.size + 1) (w.alloc (.cells #[c 0, c 1] 25)) w23) := below_of kw22.out hb
    have U : Hid (Lay.At (fun b => w4.heap.size ≤ b ∧ b < w5.heap.size) w23 D (cs [.slice p0u m0u j0u, .slice p1u m1u j1u])) := Lay.same U.out (Same.of_below hb (fun b hb => by omega))
    have Ru : Hid (w23.heap[gu]? = some (.cells #[.slice p0u m0u j0u, .slice p1u m1u j1u] 30 (0, 0))) := (hb.block _ (by omega)).trans Ru.out
    have Rg : Hid (w23.heap[gg]? = some (.cells #[.slice p0g m0g j0g, .slice p1g m1g j1g] 30 (0, 0))) := (hb.block _ (by omega)).trans Rg.out
    have M : Hid (Lay.At (fun b => w7.heap.size ≤ b ∧ b < w8.heap.size) w23 (Own.mkD 1 D) (cs [.slice p0g m0g j0g, .slice p1g m1g j1g])) := Lay.same M.out (Same.of_below hb (fun b hb => by omega))
    clear hb kw22
    go_wp2_with fail
    go_ret
    exact ⟨rfl, below_end kw23.out⟩

end Go.Proofs.YtidojjecjjochadGreatDoor
