/-
  Several texts in one.
-/
import Derived.Test.YtobchllaopdchacGreatM20
import Derived.Test.YtobchllaopdchacGreatM32
import Derived.Test.YtobchllaopdchacGreatM0
namespace Go.Proofs.YtobchllaopdchacGreat
open Go.RowKit Go.Sort
set_option maxRecDepth 100000 in
set_option maxHeartbeats 8000000 in
theorem left_any (S : Nat → Prop) (nm : ByteArray) (r : List DRecPhase) (sl : List DRunSlot) (at_ : ByteArray) (si st : Int) (o1 o2 : Option Addr) (n1 k1 n2 k2 : Nat) (w : World) (hr : AtL S w r (.slice o1 n1 k1)) (hS : ∀ b, S b → b < w.heap.size) (tr : totL r ≤ 1048576) (hR : runB (nm, r, sl, at_, si, st) = true) :
    Calls Tryz.prog 20 #[.agg #[.string nm, .slice o1 n1 k1, .slice o2 n2 k2, .string at_, .int .i64 si, .int .i64 st]] w fun e w' => e = .returned (.int .i64 (lefI (nm, r, sl, at_, si, st))) ∧ Below w.heap.size w w' := by
  have ta_y : ∀ W, (Instr.typeAssert (.iface 83 (.agg #[.int .i64 si])) 86 83 true).run Tryz.prog W = .ok (.tuple #[.agg #[.int .i64 si], .bool true]) W := fun W => by kernel_rfl
  have ta_n : ∀ W, (Instr.typeAssert (.iface 130 (.agg #[])) 86 83 true).run Tryz.prog W = .ok (.tuple #[.agg #[.int .i64 0], .bool false]) W := fun W => by kernel_rfl
  obtain ⟨hrec, ⟨l1, l2⟩, l3, l4⟩ := run_left hR
  simp only at hrec l1 l2 l3 l4
  obtain ⟨D, hD⟩ : ∃ D, bndF 12 r at_ = D := ⟨_, rfl⟩
  rw [hD] at l3 l4
  obtain ⟨V, hV⟩ : ∃ V, V = lefI (nm, r, sl, at_, si, st) := ⟨_, rfl⟩
  have V1 : Hid (si = -1 → V = D) := fun e => by rw [hV]; unfold lefI; simp only; rw [hD, if_neg (by omega)]; omega
  have V2 : Hid (¬ si = -1 → V = D - si) := fun e => by rw [hV]; unfold lefI; simp only; rw [hD]; split <;> omega
  rw [← hV]
  obtain ⟨W, EW, BW, RW, sW⟩ := box_new w #[.string nm, .slice o1 n1 k1, .slice o2 n2 k2, .string at_, .int .i64 si, .int .i64 st] 49
  have Y : Hid (∀ u, Below W.heap.size W u → Below w.heap.size w u ∧ u.cell? ⟨w.heap.size, 0, none⟩ = some (.string nm) ∧ u.cell? ⟨w.heap.size, 1, none⟩ = some (.slice o1 n1 k1) ∧ u.cell? ⟨w.heap.size, 2, none⟩ = some (.slice o2 n2 k2) ∧ u.cell? ⟨w.heap.size, 3, none⟩ = some (.string at_) ∧ u.cell? ⟨w.heap.size, 4, none⟩ = some (.int .i64 si) ∧ u.cell? ⟨w.heap.size, 5, none⟩ = some (.int .i64 st)) := fun u hu => by
    have b1 := (hu.block _ (by omega)).trans RW.out
    have p := fun i v h => (cell_row b1 i v h).1
    exact ⟨BW.out.trans (hu.mono (by omega)), p 0 _ rfl, p 1 _ rfl, p 2 _ rfl, p 3 _ rfl, p 4 _ rfl, p 5 _ rfl⟩
  have CB : Hid (Calls Tryz.prog 45 #[.slice o1 n1 k1, .string at_] W fun e w' => e = .returned (.int .i64 D) ∧ Below W.heap.size W w') := by
    have h1 := boundI_any S r _ at_ W (hr.same (Same.of_below BW.out hS)) (fun b hb => Nat.lt_of_lt_of_le (hS b hb) BW.out.size) tr
    rw [if_pos hrec, hD] at h1
    exact h1
  clear hr hS tr hR hrec hD hV
  obtain ⟨_, y0, y1, y2, y3, y4, y5⟩ := Y.out W (Below.refl _ _)
  go_enter Tryz.func20, Tryz.ntmps20
  go_upto_region 1 with fail
  rw [← EW.out]
  go_wp2_with fail
  refine CB.out.mono ?_; rintro e w1 ⟨rfl, hb1⟩
  have B1 : Hid (Below W.heap.size W w1) := hb1
  clear hb1 y0 y1 y2 y3 y4 y5 CB
  obtain ⟨bw1', y0, y1, y2, y3, y4, y5⟩ := Y.out w1 B1.out
  have bw1 : Hid _ := bw1'
  clear bw1'
  have C4 : Hid _ := pace_any nm at_ si st o1 o2 n1 k1 n2 k2 w1
  by_cases hsi : si = -1
  · have er : Hid (V = D) := V1.out hsi
    subst hsi
    rw [pa_w] at C4
    go_wp2_with fail
    refine Calls.mono C4.out ?_; rintro e w3 ⟨rfl, hb3⟩
    have B3 : Hid (Below w.heap.size w w3) := bw1.out.trans (hb3.mono bw1.out.size)
    clear hb3 C4 y0 y1 y2 y3 y4 y5
    go_wp2_with fail
    go_ret
    rw [er.out]
    exact ⟨rfl, B3.out.alloc B3.out.size _⟩
  have er : Hid (V = D - si) := V2.out hsi
  have wp1 : IntKind.i64.wrap (D - si) = D - si := wrap_l _ (by omega) (by omega)
  rw [pa_g hsi] at C4
  go_wp2_with fail
  refine Calls.mono C4.out ?_; rintro e w3 ⟨rfl, hb3⟩
  have B3 : Hid (Below w.heap.size w w3) := bw1.out.trans (hb3.mono bw1.out.size)
  clear hb3 C4 y0 y1 y2 y3 y4 y5
  go_wp2_with fail
  go_ret
  rw [er.out]
  exact ⟨rfl, B3.out.alloc B3.out.size _⟩
set_option maxRecDepth 100000 in
set_option maxHeartbeats 8000000 in
theorem leftOne_any (s L : Int) (nm at_ : ByteArray) (si st : Int) (o1 o2 : Option Addr) (n1 k1 n2 k2 : Nat) (w : World) (hs1 : -200000000000000000 ≤ s) (hs2 : s ≤ 1800000000000000000) (hl1 : -1000 ≤ L) (hl2 : L ≤ 12000)
    (hC : ∀ u, Below w.heap.size w u → Calls Tryz.prog 20 #[.agg #[.string nm, .slice o1 n1 k1, .slice o2 n2 k2, .string at_, .int .i64 si, .int .i64 st]] u fun e w' => e = .returned (.int .i64 L) ∧ Below u.heap.size u w') :
    Calls Tryz.prog 19 #[.int .i64 s, .agg #[.string nm, .slice o1 n1 k1, .slice o2 n2 k2, .string at_, .int .i64 si, .int .i64 st]] w fun e w' => e = .returned (.int .i64 (s + L)) ∧ Below w.heap.size w w' := by
  have CH : Hid _ := hC
  obtain ⟨W, EW, BW, RW, -⟩ := box_new w #[.string nm, .slice o1 n1 k1, .slice o2 n2 k2, .string at_, .int .i64 si, .int .i64 st] 49
  clear hC
  have y0 := (cell_row RW.out 0 _ rfl).1
  have y1 := (cell_row RW.out 1 _ rfl).1
  have y2 := (cell_row RW.out 2 _ rfl).1
  have y3 := (cell_row RW.out 3 _ rfl).1
  have y4 := (cell_row RW.out 4 _ rfl).1
  have y5 := (cell_row RW.out 5 _ rfl).1
  have C := CH.out W BW.out
  have wp1 : IntKind.i64.wrap (s + L) = s + L := wrap_l _ (by omega) (by omega)
  go_enter Tryz.func19, Tryz.ntmps19
  go_upto_region 1 with fail
  rw [← EW.out]
  go_wp2_with fail
  refine C.mono ?_; rintro e w1 ⟨rfl, hb1⟩
  have B1 : Hid (Below w.heap.size w w1) := BW.out.trans (hb1.mono BW.out.size)
  clear hb1 y0 y1 y2 y3 y4 y5 C
  go_wp2_with fail
  go_ret
  exact ⟨rfl, B1.out⟩
set_option maxRecDepth 100000 in
set_option maxHeartbeats 8000000 in
theorem foldL_any (S : Nat → Prop) (Ba : List DRunBatch) (oa : Option Addr) (n cap : Nat) (w : World) (h : AtL S w Ba (.slice oa n cap)) (hS : ∀ b, S b → b < w.heap.size) (hR : ∀ i (hi : i < Ba.length), runB Ba[i] = true) (hZ : ∀ i (hi : i < Ba.length), totL Ba[i].2.1 ≤ 1048576) (hm4 : n ≤ 5) :
    Calls Tryz.prog 18 #[.slice oa n cap, .int .i64 0, .func (.func 19) #[] #[]] w fun e w' => e = .returned (.int .i64 (lefS Ba)) ∧ Below w.heap.size w w' := by
  have en : Ba.length = n := by obtain ⟨_, _, e, _⟩ := h; cases e; rfl
  have EN : Hid (Ba.length ≤ n ∧ n ≤ Ba.length) := ⟨by omega, by omega⟩
  have H : Hid _ := h.ups hS
  have HS : Hid _ := lt_up hS
  have HR : Hid (∀ i (hi : i < Ba.length), runB Ba[i] = true) := hR
  have HZ : Hid (∀ i (hi : i < Ba.length), totL Ba[i].2.1 ≤ 1048576) := hZ
  clear h hS en hR hZ
  go_enter Tryz.func18, Tryz.ntmps18
  go_wp2_with fail
  go_loopw [1, 11] (fun v i wr => ∃ (q : Nat) (s : Int), q ≤ n ∧ v = .int .i64 s ∧ i = .int .i64 q ∧ Hid (s = lefS (Ba.take q)) ∧ Hid (Below w.heap.size w wr)) (fun _ i _ => n - (intOf i).toNat)
  case atStart => exact ⟨0, 0, Nat.zero_le _, rfl, rfl, by simp [Hid, lefS], Below.refl _ _⟩
  case round =>
    obtain ⟨k, s, hk, rfl, rfl, hsum, hbel⟩ := hrel
    have hs := hbel.out.size
    by_cases hlt : k < n
    case neg =>
      have ev : Hid (lefS Ba = s) := by show _ = _; rw [hsum.out, List.take_of_length_le (by have := EN.out; omega)]
      go_wp2_with fail
      go_ret
      rw [ev.out]
      exact ⟨rfl, hbel.out⟩
    have hks : k < Ba.length := by have := EN.out; omega
    obtain ⟨b, off, o1, o2, n1, k1, n2, k2, rfl, hbS, c0, c1, c2, c3, c4, c5, z0, hr, _⟩ := rb_at (H.out wr hbel.out) k hks
    obtain ⟨f, ef⟩ : ∃ f, Ba[k] = f := ⟨_, rfl⟩
    have bd0 := lefS_bd HR.out k (by omega)
    rw [← hsum.out] at bd0
    have bl := lefI_bd (HR.out k hks)
    have rn := HR.out k hks
    have zz := HZ.out k hks
    have tk := lef_take hks
    rw [← hsum.out] at tk
    rw [ef] at c0 c3 c4 c5 z0 hr bl rn zz tk
    obtain ⟨nm, r, sl, at_, si, st⟩ := f
    simp only at c0 c3 c4 c5 z0 hr zz
    obtain ⟨L, hL⟩ : ∃ L, lefI (nm, r, sl, at_, si, st) = L := ⟨_, rfl⟩
    rw [hL] at bl tk
    have TK : Hid (s + L = lefS (Ba.take (k + 1))) := tk.symm
    have CW : Hid (∀ W', Below wr.heap.size wr W' → Calls Tryz.prog 19 #[.int .i64 s, .agg #[.string nm, .slice o1 n1 k1, .slice o2 n2 k2, .string at_, .int .i64 si, .int .i64 st]] W' fun e w' => e = .returned (.int .i64 (s + L)) ∧ Below W'.heap.size W' w') := fun W' hW' =>
      leftOne_any s L nm at_ si st o1 o2 n1 k1 n2 k2 W' (by omega) (by omega) bl.1 bl.2 (fun u hu => by
        have b1 : Below wr.heap.size wr u := hW'.trans (hu.mono hW'.size)
        have b2 : Below w.heap.size w u := hbel.out.trans (b1.mono hs)
        have h1 := left_any S nm r sl at_ si st o1 o2 n1 k1 n2 k2 u (hr.same (Same.of_below b1 (HS.out wr hbel.out))) (HS.out u b2) zz rn
        rw [hL] at h1
        exact h1)
    have BXX : Hid (∀ o, Below w.heap.size w (wr.alloc o)) := fun o => hbel.out.alloc hs o
    clear z0 ef hr tk bl rn zz hL bd0 hbS
    go_wp2_with fail
    refine Calls.mono (CW.out _ ((Below.refl _ _).alloc (Nat.le_refl _) _)) ?_; rintro e w1 ⟨rfl, hb1⟩
    have B1 : Hid (Below w.heap.size w w1) := (BXX.out _).trans (hb1.mono (BXX.out _).size)
    clear hb1
    go_wp2_with fail
    go_roundw
    case rel => exact ⟨k + 1, s + L, by omega, rfl, by go_num, TK.out, B1.out⟩
    case measure => simp [intOf]; omega
set_option maxRecDepth 100000 in
set_option maxHeartbeats 8000000 in
theorem leftI_any (S : Nat → Prop) (now last : Int) (o2 o3 o4 o5 : Option Addr) (n2 k2 n3 k3 n4 k4 n5 k5 : Nat) (T : List ByteArray) (Bs : List DShareBatch) (Ba : List DRunBatch) (Do : List DRunDone) (w : World) (hT0 : AtL S w T (.slice o2 n2 k2)) (hB : AtL S w Bs (.slice o3 n3 k3)) (h : AtL S w Ba (.slice o4 n4 k4)) (hD : AtL S w Do (.slice o5 n5 k5)) (hS : ∀ b, S b → b < w.heap.size) (ht : Lay.tot (α := DShareBook) (T, Bs) ≤ 1048576) (hZ : ∀ i (hi : i < Ba.length), totL Ba[i].2.1 ≤ 1048576 ∧ totL Ba[i].2.2.1 ≤ 1048576 ∧ Ba[i].2.2.2.1.size ≤ 1048576) :
    Calls Tryz.prog 7 #[.agg #[.int .i64 now, .int .i64 last, .slice o2 n2 k2, .slice o3 n3 k3, .slice o4 n4 k4, .slice o5 n5 k5]] w fun e w' => e = .returned (.int .i64 (lefH now last T Bs Ba Do)) ∧ Below w.heap.size w w' := by
  have hmf : ∀ (fn : Fn) (first cap : Array Value) (w : World), (Instr.makeFunc fn first cap).run Tryz.prog w = .ok (.func fn first cap) w := fun _ _ _ _ => rfl
  have HS : Hid _ := lt_up hS
  obtain ⟨W, EW, BW, RW, sW⟩ := box_new w #[.int .i64 now, .int .i64 last, .slice o2 n2 k2, .slice o3 n3 k3, .slice o4 n4 k4, .slice o5 n5 k5] 38
  have Y : Hid (∀ u, Below W.heap.size W u → Below w.heap.size w u ∧ u.cell? ⟨w.heap.size, 0, none⟩ = some (.int .i64 now) ∧ u.cell? ⟨w.heap.size, 1, none⟩ = some (.int .i64 last) ∧ u.cell? ⟨w.heap.size, 2, none⟩ = some (.slice o2 n2 k2) ∧ u.cell? ⟨w.heap.size, 3, none⟩ = some (.slice o3 n3 k3) ∧ u.cell? ⟨w.heap.size, 4, none⟩ = some (.slice o4 n4 k4) ∧ u.cell? ⟨w.heap.size, 5, none⟩ = some (.slice o5 n5 k5)) := fun u hu => by
    have b1 := (hu.block _ (by omega)).trans RW.out
    have p := fun i v h => (cell_row b1 i v h).1
    exact ⟨BW.out.trans (hu.mono (by omega)), p 0 _ rfl, p 1 _ rfl, p 2 _ rfl, p 3 _ rfl, p 4 _ rfl, p 5 _ rfl⟩
  have CO : Hid _ := houI_any S now last o2 o3 o4 o5 n2 k2 n3 k3 n4 k4 n5 k5 T Bs Ba Do W (hT0.same (Same.of_below BW.out hS)) (hB.same (Same.of_below BW.out hS)) (h.same (Same.of_below BW.out hS)) (hD.same (Same.of_below BW.out hS)) (HS.out W BW.out) ht hZ
  have en4 : Ba.length = n4 := by obtain ⟨_, _, e, _⟩ := id h; cases e; rfl
  have CF : Hid (houB now last T Bs Ba Do = true → ∀ u, Below w.heap.size w u → Calls Tryz.prog 18 #[.slice o4 n4 k4, .int .i64 0, .func (.func 19) #[] #[]] u fun e w' => e = .returned (.int .i64 (lefS Ba)) ∧ Below u.heap.size u w') := fun c u hu =>
    foldL_any S Ba o4 n4 k4 u (h.same (Same.of_below hu hS)) (HS.out u hu) (hou_run c) (fun i hi => (hZ i hi).1) (by have := hou_five c; omega)
  clear hT0 hB h hD hS ht hZ en4
  obtain ⟨V, hV⟩ : ∃ V, V = lefH now last T Bs Ba Do := ⟨_, rfl⟩
  have V0 : Hid (houB now last T Bs Ba Do = false → V = 0) := fun c => by rw [hV]; exact lefH_no c
  have V1 : Hid (houB now last T Bs Ba Do = true → lefS Ba = V) := fun c => by rw [hV]; exact (lefH_yes c).symm
  rw [← hV]
  clear hV
  obtain ⟨_, y0, y1, y2, y3, y4, y5⟩ := Y.out W (Below.refl _ _)
  go_enter Tryz.func7, Tryz.ntmps7
  go_upto_region 1 with fail
  rw [← EW.out]
  cases c : houB now last T Bs Ba Do
  · have er : Hid (V = 0) := V0.out c
    rw [c] at CO
    go_wp2_with fail
    refine Calls.mono CO.out ?_; rintro e w1 ⟨rfl, hb1⟩
    have B1 : Hid (Below w.heap.size w w1) := BW.out.trans (hb1.mono BW.out.size)
    clear hb1 y0 y1 y2 y3 y4 y5 CO
    go_wp2_with fail
    go_ret
    rw [er.out]
    exact ⟨rfl, B1.out⟩
  · have er : Hid (lefS Ba = V) := V1.out c
    have CG := CF.out c
    rw [er.out] at CG
    have CG' : Hid _ := CG
    rw [c] at CO
    clear CG c V0 V1 CF
    go_wp2_with fail
    refine Calls.mono CO.out ?_; rintro e w1 ⟨rfl, hb1⟩
    have B1 : Hid (Below W.heap.size W w1) := hb1
    clear hb1 y0 y1 y2 y3 y4 y5 CO
    obtain ⟨bw1', y0, y1, y2, y3, y4, y5⟩ := Y.out w1 B1.out
    have bw1 : Hid _ := bw1'
    clear bw1' y0 y1 y2 y3 y5
    have CF := CG'.out w1 bw1.out
    go_wp2_with fail
    refine CF.mono ?_; rintro e w2 ⟨rfl, hb2⟩
    have B2 : Hid (Below w.heap.size w w2) := bw1.out.trans (hb2.mono bw1.out.size)
    clear hb2 y4 CF
    go_wp2_with fail
    go_ret
    exact ⟨rfl, B2.out⟩
end Go.Proofs.YtobchllaopdchacGreat

namespace Go.Proofs.YtobchllaopdchacGreat
open Go.RowKit
set_option maxRecDepth 100000 in
set_option maxHeartbeats 4000000 in
theorem szRecPhase_any (S : Nat → Prop) (a : DRecPhase) (c : Nat → Value) (x : Int) (w : World) (h : Lay.At S w a c) (_hS : ∀ b, S b → b < w.heap.size) (h0 : 0 ≤ x) (h1 : x ≤ 1048576) :
    Calls Tryz.prog 93 #[.agg #[c 0, c 1, c 2, c 3, c 4, c 5, c 6, c 7], .int .i64 x] w fun e w' => ∃ y : Int, e = .returned (.int .i64 y) ∧ (y < 0 ∨ y + (Lay.tot a : Int) = x) ∧ Below w.heap.size w w' := by
  rw [tot_DRecPhase]
  rw [at_DRecPhase] at h
  obtain ⟨⟨e0, z0⟩, ⟨e1, z1, y1⟩, ⟨e2, z2⟩, ⟨e3, z3⟩, ⟨e4, z4, y4⟩, ⟨e5, z5, y5⟩, ⟨e6, z6⟩, ⟨e7, z7⟩⟩ := h
  rw [e0, e1, e2, e3, e4, e5, e6, e7]
  clear e0 e1 e2 e3 e4 e5 e6 e7
  unfold maxLen at z0
  unfold maxLen at z2
  unfold maxLen at z3
  unfold maxLen at z6
  unfold maxLen at z7
  have b0 : Hid (Below w.heap.size w (w.alloc (.cells #[.string a.1, .int .i64 a.2.1, .string a.2.2.1, .string a.2.2.2.1, .int .i64 a.2.2.2.2.1, .int .i64 a.2.2.2.2.2.1, .string a.2.2.2.2.2.2.1, .string a.2.2.2.2.2.2.2] 135))) := (Below.refl _ _).alloc (Nat.le_refl _) _
  go_enter Tryz.func93, Tryz.ntmps93
  by_cases n0 : x < (a.1.size : Int)
  · go_wp2_with fail
    go_ret
    exact ⟨_, rfl, Or.inl (by omega), b0.out⟩
  · have _u := trivial
    by_cases n2 : (x - (a.1.size : Int)) < (a.2.2.1.size : Int)
    · go_wp2_with fail
      go_ret
      exact ⟨_, rfl, Or.inl (by omega), b0.out⟩
    · have _u := trivial
      by_cases n3 : ((x - (a.1.size : Int)) - (a.2.2.1.size : Int)) < (a.2.2.2.1.size : Int)
      · go_wp2_with fail
        go_ret
        exact ⟨_, rfl, Or.inl (by omega), b0.out⟩
      · have _u := trivial
        by_cases n6 : (((x - (a.1.size : Int)) - (a.2.2.1.size : Int)) - (a.2.2.2.1.size : Int)) < (a.2.2.2.2.2.2.1.size : Int)
        · go_wp2_with fail
          go_ret
          exact ⟨_, rfl, Or.inl (by omega), b0.out⟩
        · have _u := trivial
          by_cases n7 : ((((x - (a.1.size : Int)) - (a.2.2.1.size : Int)) - (a.2.2.2.1.size : Int)) - (a.2.2.2.2.2.2.1.size : Int)) < (a.2.2.2.2.2.2.2.size : Int)
          · go_wp2_with fail
            go_ret
            exact ⟨_, rfl, Or.inl (by omega), b0.out⟩
          · have _u := trivial
            go_wp2_with fail
            go_ret
            exact ⟨_, rfl, Or.inr (by omega), b0.out⟩
end Go.Proofs.YtobchllaopdchacGreat

namespace Go.Proofs.YtobchllaopdchacGreat
open Go.RowKit
set_option maxRecDepth 100000 in
set_option maxHeartbeats 4000000 in
theorem szRecPhaseS_any (S : Nat → Prop) (l : List DRecPhase) (v : Value) (x : Int) (w : World) (h : AtL S w l v) (hS : ∀ b, S b → b < w.heap.size) (h0 : 0 ≤ x) (h1 : x ≤ 1048576) :
    Calls Tryz.prog 52 #[v, .int .i64 x] w fun e w' => ∃ y : Int, e = .returned (.int .i64 y) ∧ (y < 0 ∨ y + (totL l : Int) = x) ∧ Below w.heap.size w w' := by
  obtain ⟨oa, cap, rfl, hn, hc⟩ := h
  have ht : totL l = l.length + sumTo l l.length := rfl
  obtain ⟨n, en⟩ : ∃ n, l.length = n := ⟨_, rfl⟩
  rw [en] at ht hn
  rw [en]
  unfold maxLen at hn
  have HC : Hid _ := hc
  clear hc
  have HT : Hid _ := ht
  clear ht
  by_cases hx : (n : Int) ≤ x
  · go_enter Tryz.func52, Tryz.ntmps52
    go_wp2
    go_loopw [1, 5] (fun q i wr => ∃ (k : Nat) (y : Int), k ≤ n ∧ i = .int .i64 k ∧ q = .int .i64 y ∧ 0 ≤ y ∧ y ≤ x ∧ Hid (y + ((n + sumTo l k : Nat) : Int) = x) ∧ Hid (Below w.heap.size w wr)) (fun _ i _ => n - (intOf i).toNat)
    case atStart => exact ⟨0, _, Nat.zero_le _, rfl, rfl, by omega, by omega, by rw [sumTo_zero]; show _ = _; omega, Below.refl _ _⟩
    case round =>
      obtain ⟨k, y, hk, rfl, rfl, hy0, hy1, hsum, hbel⟩ := hrel
      have hs := hbel.out.size
      by_cases hlt : k < n
      · obtain ⟨b, off, rfl, hbS, cc, hcell, hat⟩ := HC.out k (by omega)
        have hb := hS b hbS
        have hsu := sumTo_succ l k (by omega)
        rw [width_DRecPhase] at hcell
        have e0 : wr.cell? ⟨b, off + k * 8, none⟩ = some (cc 0) := (hbel.out.cell (p := ⟨b, off + k * 8, none⟩) (by show b < _; omega)).trans (by have hq := hcell 0 (by omega); first | exact hq | simpa using hq)
        have e1 : wr.cell? ⟨b, off + k * 8 + 1, none⟩ = some (cc 1) := (hbel.out.cell (p := ⟨b, off + k * 8 + 1, none⟩) (by show b < _; omega)).trans (by have hq := hcell 1 (by omega); first | exact hq | simpa using hq)
        have e2 : wr.cell? ⟨b, off + k * 8 + 2, none⟩ = some (cc 2) := (hbel.out.cell (p := ⟨b, off + k * 8 + 2, none⟩) (by show b < _; omega)).trans (by have hq := hcell 2 (by omega); first | exact hq | simpa using hq)
        have e3 : wr.cell? ⟨b, off + k * 8 + 3, none⟩ = some (cc 3) := (hbel.out.cell (p := ⟨b, off + k * 8 + 3, none⟩) (by show b < _; omega)).trans (by have hq := hcell 3 (by omega); first | exact hq | simpa using hq)
        have e4 : wr.cell? ⟨b, off + k * 8 + 4, none⟩ = some (cc 4) := (hbel.out.cell (p := ⟨b, off + k * 8 + 4, none⟩) (by show b < _; omega)).trans (by have hq := hcell 4 (by omega); first | exact hq | simpa using hq)
        have e5 : wr.cell? ⟨b, off + k * 8 + 5, none⟩ = some (cc 5) := (hbel.out.cell (p := ⟨b, off + k * 8 + 5, none⟩) (by show b < _; omega)).trans (by have hq := hcell 5 (by omega); first | exact hq | simpa using hq)
        have e6 : wr.cell? ⟨b, off + k * 8 + 6, none⟩ = some (cc 6) := (hbel.out.cell (p := ⟨b, off + k * 8 + 6, none⟩) (by show b < _; omega)).trans (by have hq := hcell 6 (by omega); first | exact hq | simpa using hq)
        have e7 : wr.cell? ⟨b, off + k * 8 + 7, none⟩ = some (cc 7) := (hbel.out.cell (p := ⟨b, off + k * 8 + 7, none⟩) (by show b < _; omega)).trans (by have hq := hcell 7 (by omega); first | exact hq | simpa using hq)
        clear hcell
        have HSU : Hid _ := hsu
        clear hsu
        have HAT : Hid _ := hat
        clear hat
        go_wp2_with fail
        refine (szRecPhase_any S _ cc _ _ (Lay.same HAT.out (Same.of_below hbel.out hS)) (fun b hb => by have := hS b hb; omega) hy0 (by omega)).mono ?_
        rintro e u ⟨z, rfl, hz1, hbu⟩
        by_cases hneg : z < 0
        · go_wp2_with fail
          go_ret
          exact ⟨_, rfl, Or.inl (by omega), hbel.out.trans (hbu.mono hs)⟩
        · go_wp2_with fail
          go_roundw
          case rel => exact ⟨k + 1, z, by omega, by go_num, rfl, by omega, by omega, by rw [HSU.out]; have := hsum.out; show _ = _; omega, hbel.out.trans (hbu.mono hs)⟩
          case measure => simp [intOf]; omega
      · have hkn : k = n := by omega
        subst hkn
        go_wp2
        go_ret
        exact ⟨y, rfl, Or.inr (by have := hsum.out; rw [HT.out]; omega), hbel.out⟩
  · go_enter Tryz.func52, Tryz.ntmps52
    go_wp2
    go_ret
    exact ⟨-1, rfl, Or.inl (by omega), Below.refl _ _⟩
end Go.Proofs.YtobchllaopdchacGreat

namespace Go.Proofs.YtobchllaopdchacGreat
open Go.RowKit
set_option maxRecDepth 100000 in
set_option maxHeartbeats 4000000 in
theorem szRunSlot_any (S : Nat → Prop) (a : DRunSlot) (c : Nat → Value) (x : Int) (w : World) (h : Lay.At S w a c) (_hS : ∀ b, S b → b < w.heap.size) (h0 : 0 ≤ x) (h1 : x ≤ 1048576) :
    Calls Tryz.prog 94 #[.agg #[c 0, c 1], .int .i64 x] w fun e w' => ∃ y : Int, e = .returned (.int .i64 y) ∧ (y < 0 ∨ y + (Lay.tot a : Int) = x) ∧ Below w.heap.size w w' := by
  rw [tot_DRunSlot]
  rw [at_DRunSlot] at h
  obtain ⟨⟨e0, z0⟩, ⟨e1, z1⟩⟩ := h
  rw [e0, e1]
  clear e0 e1
  unfold maxLen at z0
  unfold maxLen at z1
  have b0 : Hid (Below w.heap.size w (w.alloc (.cells #[.string a.1, .string a.2] 138))) := (Below.refl _ _).alloc (Nat.le_refl _) _
  go_enter Tryz.func94, Tryz.ntmps94
  by_cases n0 : x < (a.1.size : Int)
  · go_wp2_with fail
    go_ret
    exact ⟨_, rfl, Or.inl (by omega), b0.out⟩
  · have _u := trivial
    by_cases n1 : (x - (a.1.size : Int)) < (a.2.size : Int)
    · go_wp2_with fail
      go_ret
      exact ⟨_, rfl, Or.inl (by omega), b0.out⟩
    · have _u := trivial
      go_wp2_with fail
      go_ret
      exact ⟨_, rfl, Or.inr (by omega), b0.out⟩
set_option maxRecDepth 100000 in
set_option maxHeartbeats 4000000 in
theorem szRunSlotS_any (S : Nat → Prop) (l : List DRunSlot) (v : Value) (x : Int) (w : World) (h : AtL S w l v) (hS : ∀ b, S b → b < w.heap.size) (h0 : 0 ≤ x) (h1 : x ≤ 1048576) :
    Calls Tryz.prog 53 #[v, .int .i64 x] w fun e w' => ∃ y : Int, e = .returned (.int .i64 y) ∧ (y < 0 ∨ y + (totL l : Int) = x) ∧ Below w.heap.size w w' := by
  obtain ⟨oa, cap, rfl, hn, hc⟩ := h
  have ht : totL l = l.length + sumTo l l.length := rfl
  obtain ⟨n, en⟩ : ∃ n, l.length = n := ⟨_, rfl⟩
  rw [en] at ht hn
  rw [en]
  unfold maxLen at hn
  have HC : Hid _ := hc
  clear hc
  have HT : Hid _ := ht
  clear ht
  by_cases hx : (n : Int) ≤ x
  · go_enter Tryz.func53, Tryz.ntmps53
    go_wp2
    go_loopw [1, 5] (fun q i wr => ∃ (k : Nat) (y : Int), k ≤ n ∧ i = .int .i64 k ∧ q = .int .i64 y ∧ 0 ≤ y ∧ y ≤ x ∧ Hid (y + ((n + sumTo l k : Nat) : Int) = x) ∧ Hid (Below w.heap.size w wr)) (fun _ i _ => n - (intOf i).toNat)
    case atStart => exact ⟨0, _, Nat.zero_le _, rfl, rfl, by omega, by omega, by rw [sumTo_zero]; show _ = _; omega, Below.refl _ _⟩
    case round =>
      obtain ⟨k, y, hk, rfl, rfl, hy0, hy1, hsum, hbel⟩ := hrel
      have hs := hbel.out.size
      by_cases hlt : k < n
      · obtain ⟨b, off, rfl, hbS, cc, hcell, hat⟩ := HC.out k (by omega)
        have hb := hS b hbS
        have hsu := sumTo_succ l k (by omega)
        rw [width_DRunSlot] at hcell
        have e0 : wr.cell? ⟨b, off + k * 2, none⟩ = some (cc 0) := (hbel.out.cell (p := ⟨b, off + k * 2, none⟩) (by show b < _; omega)).trans (by have hq := hcell 0 (by omega); first | exact hq | simpa using hq)
        have e1 : wr.cell? ⟨b, off + k * 2 + 1, none⟩ = some (cc 1) := (hbel.out.cell (p := ⟨b, off + k * 2 + 1, none⟩) (by show b < _; omega)).trans (by have hq := hcell 1 (by omega); first | exact hq | simpa using hq)
        clear hcell
        have HSU : Hid _ := hsu
        clear hsu
        have HAT : Hid _ := hat
        clear hat
        go_wp2_with fail
        refine (szRunSlot_any S _ cc _ _ (Lay.same HAT.out (Same.of_below hbel.out hS)) (fun b hb => by have := hS b hb; omega) hy0 (by omega)).mono ?_
        rintro e u ⟨z, rfl, hz1, hbu⟩
        by_cases hneg : z < 0
        · go_wp2_with fail
          go_ret
          exact ⟨_, rfl, Or.inl (by omega), hbel.out.trans (hbu.mono hs)⟩
        · go_wp2_with fail
          go_roundw
          case rel => exact ⟨k + 1, z, by omega, by go_num, rfl, by omega, by omega, by rw [HSU.out]; have := hsum.out; show _ = _; omega, hbel.out.trans (hbu.mono hs)⟩
          case measure => simp [intOf]; omega
      · have hkn : k = n := by omega
        subst hkn
        go_wp2
        go_ret
        exact ⟨y, rfl, Or.inr (by have := hsum.out; rw [HT.out]; omega), hbel.out⟩
  · go_enter Tryz.func53, Tryz.ntmps53
    go_wp2
    go_ret
    exact ⟨-1, rfl, Or.inl (by omega), Below.refl _ _⟩
set_option maxRecDepth 100000 in
set_option maxHeartbeats 4000000 in
theorem szRunBatch_any (S : Nat → Prop) (a : DRunBatch) (c : Nat → Value) (x : Int) (w : World) (h : Lay.At S w a c) (hS : ∀ b, S b → b < w.heap.size) (h0 : 0 ≤ x) (h1 : x ≤ 1048576) :
    Calls Tryz.prog 26 #[.agg #[c 0, c 1, c 2, c 3, c 4, c 5], .int .i64 x] w fun e w' => ∃ y : Int, e = .returned (.int .i64 y) ∧ (y < 0 ∨ y + (Lay.tot a : Int) = x) ∧ Below w.heap.size w w' := by
  rw [tot_DRunBatch]
  rw [at_DRunBatch] at h
  obtain ⟨⟨e0, z0⟩, H1, H2, ⟨e3, z3⟩, ⟨e4, z4, y4⟩, ⟨e5, z5, y5⟩⟩ := h
  obtain ⟨v1, e1⟩ : ∃ v, c 1 = v := ⟨_, rfl⟩
  rw [e1] at H1
  obtain ⟨v2, e2⟩ : ∃ v, c 2 = v := ⟨_, rfl⟩
  rw [e2] at H2
  rw [e0, e1, e2, e3, e4, e5]
  clear e0 e1 e2 e3 e4 e5
  unfold maxLen at z0
  unfold maxLen at z3
  have b0 : Hid (Below w.heap.size w (w.alloc (.cells #[.string a.1, v1, v2, .string a.2.2.2.1, .int .i64 a.2.2.2.2.1, .int .i64 a.2.2.2.2.2] 66))) := (Below.refl _ _).alloc (Nat.le_refl _) _
  go_enter Tryz.func26, Tryz.ntmps26
  by_cases n0 : x < (a.1.size : Int)
  · go_wp2_with fail
    go_ret
    exact ⟨_, rfl, Or.inl (by omega), b0.out⟩
  · have _u := trivial
    go_wp2_with fail
    refine (szRecPhaseS_any S _ v1 _ _ (H1.same (Same.of_below b0.out hS)) (fun b hb => by have := hS b hb; have := b0.out.size; omega) (by omega) (by omega)).mono ?_
    rintro e w1 ⟨y1, rfl, t1, u1⟩
    have b1 : Hid (Below w.heap.size w w1) := b0.out.trans (u1.mono b0.out.size)
    have x1_2 : w1.cell? ⟨w.heap.size, 2, none⟩ = some (v2) := (u1.cell (p := ⟨w.heap.size, 2, none⟩) (by simp)).trans (by simp)
    have x1_3 : w1.cell? ⟨w.heap.size, 3, none⟩ = some (.string a.2.2.2.1) := (u1.cell (p := ⟨w.heap.size, 3, none⟩) (by simp)).trans (by simp)
    have s1 : w.heap.size < w1.heap.size := by have := u1.size; simp at this; omega
    by_cases n1 : y1 < 0
    · go_wp2_with fail
      go_ret
      exact ⟨_, rfl, Or.inl (by omega), b1.out⟩
    · have _u := trivial
      go_wp2_with fail
      refine (szRunSlotS_any S _ v2 _ _ (H2.same (Same.of_below b1.out hS)) (fun b hb => by have := hS b hb; have := b1.out.size; omega) (by omega) (by omega)).mono ?_
      rintro e w2 ⟨y2, rfl, t2, u2⟩
      have b2 : Hid (Below w.heap.size w w2) := b1.out.trans (u2.mono b1.out.size)
      have x2_3 : w2.cell? ⟨w.heap.size, 3, none⟩ = some (.string a.2.2.2.1) := (u2.cell (p := ⟨w.heap.size, 3, none⟩) (by show w.heap.size < _; omega)).trans x1_3
      have s2 : w.heap.size < w2.heap.size := by have := u2.size; omega
      by_cases n2 : y2 < 0
      · go_wp2_with fail
        go_ret
        exact ⟨_, rfl, Or.inl (by omega), b2.out⟩
      · have _u := trivial
        by_cases n3 : y2 < (a.2.2.2.1.size : Int)
        · go_wp2_with fail
          go_ret
          exact ⟨_, rfl, Or.inl (by omega), b2.out⟩
        · have _u := trivial
          go_wp2_with fail
          go_ret
          exact ⟨_, rfl, Or.inr (by omega), b2.out⟩
end Go.Proofs.YtobchllaopdchacGreat

namespace Go.Proofs.YtobchllaopdchacGreat
open Go.RowKit
set_option maxRecDepth 100000 in
set_option maxHeartbeats 4000000 in
theorem szStringS_any (S : Nat → Prop) (l : List ByteArray) (v : Value) (x : Int) (w : World) (h : AtL S w l v) (hS : ∀ b, S b → b < w.heap.size) (h0 : 0 ≤ x) (h1 : x ≤ 1048576) :
    Calls Tryz.prog 24 #[v, .int .i64 x] w fun e w' => ∃ y : Int, e = .returned (.int .i64 y) ∧ (y < 0 ∨ y + (totL l : Int) = x) ∧ Below w.heap.size w w' := by
  obtain ⟨oa, cap, rfl, hn, hc⟩ := h
  have ht : totL l = l.length + sumTo l l.length := rfl
  obtain ⟨n, en⟩ : ∃ n, l.length = n := ⟨_, rfl⟩
  rw [en] at ht hn
  rw [en]
  unfold maxLen at hn
  have HC : Hid _ := hc
  clear hc
  have HT : Hid _ := ht
  clear ht
  by_cases hx : (n : Int) ≤ x
  · go_enter Tryz.func24, Tryz.ntmps24
    go_wp2
    go_loopw [1, 5] (fun q i wr => ∃ (k : Nat) (y : Int), k ≤ n ∧ i = .int .i64 k ∧ q = .int .i64 y ∧ 0 ≤ y ∧ y ≤ x ∧ Hid (y + ((n + sumTo l k : Nat) : Int) = x) ∧ Hid (Below w.heap.size w wr)) (fun _ i _ => n - (intOf i).toNat)
    case atStart => exact ⟨0, _, Nat.zero_le _, rfl, rfl, by omega, by omega, by rw [sumTo_zero]; show _ = _; omega, Below.refl _ _⟩
    case round =>
      obtain ⟨k, y, hk, rfl, rfl, hy0, hy1, hsum, hbel⟩ := hrel
      have hs := hbel.out.size
      by_cases hlt : k < n
      · obtain ⟨b, off, rfl, hbS, cc, hcell, hat⟩ := HC.out k (by omega)
        have hb := hS b hbS
        have hsu := sumTo_succ l k (by omega)
        rw [width_str] at hcell
        have e0 : wr.cell? ⟨b, off + k, none⟩ = some (cc 0) := (hbel.out.cell (p := ⟨b, off + k, none⟩) (by show b < _; omega)).trans (by have hq := hcell 0 (by omega); first | exact hq | simpa using hq)
        clear hcell
        rw [at_str] at hat
        obtain ⟨ec, hz⟩ := hat
        rw [ec] at e0
        clear ec
        unfold maxLen at hz
        rw [tot_str] at hsu
        obtain ⟨f, ef⟩ : ∃ f, l[k]'(by omega) = f := ⟨_, rfl⟩
        rw [ef] at e0 hz hsu
        have HSU : Hid _ := hsu
        clear hsu
        by_cases hs : (f.size : Int) ≤ y
        · go_wp2
          go_roundw
          case rel => exact ⟨k + 1, _, by omega, by go_num, rfl, by omega, by omega, by rw [HSU.out]; have := hsum.out; show _ = _; omega, hbel.out⟩
          case measure => simp [intOf]; omega
        · go_wp2
          go_ret
          exact ⟨_, rfl, Or.inl (by omega), hbel.out⟩
      · have hkn : k = n := by omega
        subst hkn
        go_wp2
        go_ret
        exact ⟨y, rfl, Or.inr (by have := hsum.out; rw [HT.out]; omega), hbel.out⟩
  · go_enter Tryz.func24, Tryz.ntmps24
    go_wp2
    go_ret
    exact ⟨-1, rfl, Or.inl (by omega), Below.refl _ _⟩
set_option maxRecDepth 100000 in
set_option maxHeartbeats 4000000 in
theorem szShareBatch_any (S : Nat → Prop) (a : DShareBatch) (c : Nat → Value) (x : Int) (w : World) (h : Lay.At S w a c) (hS : ∀ b, S b → b < w.heap.size) (h0 : 0 ≤ x) (h1 : x ≤ 1048576) :
    Calls Tryz.prog 51 #[.agg #[c 0, c 1, c 2], .int .i64 x] w fun e w' => ∃ y : Int, e = .returned (.int .i64 y) ∧ (y < 0 ∨ y + (Lay.tot a : Int) = x) ∧ Below w.heap.size w w' := by
  rw [tot_DShareBatch]
  rw [at_DShareBatch] at h
  obtain ⟨⟨e0, z0⟩, H1, H2⟩ := h
  obtain ⟨v1, e1⟩ : ∃ v, c 1 = v := ⟨_, rfl⟩
  rw [e1] at H1
  obtain ⟨v2, e2⟩ : ∃ v, c 2 = v := ⟨_, rfl⟩
  rw [e2] at H2
  rw [e0, e1, e2]
  clear e0 e1 e2
  unfold maxLen at z0
  have b0 : Hid (Below w.heap.size w (w.alloc (.cells #[.string a.1, v1, v2] 94))) := (Below.refl _ _).alloc (Nat.le_refl _) _
  go_enter Tryz.func51, Tryz.ntmps51
  by_cases n0 : x < (a.1.size : Int)
  · go_wp2_with fail
    go_ret
    exact ⟨_, rfl, Or.inl (by omega), b0.out⟩
  · have _u := trivial
    go_wp2_with fail
    refine (szStringS_any S _ v1 _ _ (H1.same (Same.of_below b0.out hS)) (fun b hb => by have := hS b hb; have := b0.out.size; omega) (by omega) (by omega)).mono ?_
    rintro e w1 ⟨y1, rfl, t1, u1⟩
    have b1 : Hid (Below w.heap.size w w1) := b0.out.trans (u1.mono b0.out.size)
    have x1_2 : w1.cell? ⟨w.heap.size, 2, none⟩ = some (v2) := (u1.cell (p := ⟨w.heap.size, 2, none⟩) (by simp)).trans (by simp)
    have s1 : w.heap.size < w1.heap.size := by have := u1.size; simp at this; omega
    by_cases n1 : y1 < 0
    · go_wp2_with fail
      go_ret
      exact ⟨_, rfl, Or.inl (by omega), b1.out⟩
    · have _u := trivial
      go_wp2_with fail
      refine (szStringS_any S _ v2 _ _ (H2.same (Same.of_below b1.out hS)) (fun b hb => by have := hS b hb; have := b1.out.size; omega) (by omega) (by omega)).mono ?_
      rintro e w2 ⟨y2, rfl, t2, u2⟩
      have b2 : Hid (Below w.heap.size w w2) := b1.out.trans (u2.mono b1.out.size)
      have s2 : w.heap.size < w2.heap.size := by have := u2.size; omega
      by_cases n2 : y2 < 0
      · go_wp2_with fail
        go_ret
        exact ⟨_, rfl, Or.inl (by omega), b2.out⟩
      · have _u := trivial
        go_wp2_with fail
        go_ret
        exact ⟨_, rfl, Or.inr (by omega), b2.out⟩
set_option maxRecDepth 100000 in
set_option maxHeartbeats 4000000 in
theorem szShareBatchS_any (S : Nat → Prop) (l : List DShareBatch) (v : Value) (x : Int) (w : World) (h : AtL S w l v) (hS : ∀ b, S b → b < w.heap.size) (h0 : 0 ≤ x) (h1 : x ≤ 1048576) :
    Calls Tryz.prog 25 #[v, .int .i64 x] w fun e w' => ∃ y : Int, e = .returned (.int .i64 y) ∧ (y < 0 ∨ y + (totL l : Int) = x) ∧ Below w.heap.size w w' := by
  obtain ⟨oa, cap, rfl, hn, hc⟩ := h
  have ht : totL l = l.length + sumTo l l.length := rfl
  obtain ⟨n, en⟩ : ∃ n, l.length = n := ⟨_, rfl⟩
  rw [en] at ht hn
  rw [en]
  unfold maxLen at hn
  have HC : Hid _ := hc
  clear hc
  have HT : Hid _ := ht
  clear ht
  by_cases hx : (n : Int) ≤ x
  · go_enter Tryz.func25, Tryz.ntmps25
    go_wp2
    go_loopw [1, 5] (fun q i wr => ∃ (k : Nat) (y : Int), k ≤ n ∧ i = .int .i64 k ∧ q = .int .i64 y ∧ 0 ≤ y ∧ y ≤ x ∧ Hid (y + ((n + sumTo l k : Nat) : Int) = x) ∧ Hid (Below w.heap.size w wr)) (fun _ i _ => n - (intOf i).toNat)
    case atStart => exact ⟨0, _, Nat.zero_le _, rfl, rfl, by omega, by omega, by rw [sumTo_zero]; show _ = _; omega, Below.refl _ _⟩
    case round =>
      obtain ⟨k, y, hk, rfl, rfl, hy0, hy1, hsum, hbel⟩ := hrel
      have hs := hbel.out.size
      by_cases hlt : k < n
      · obtain ⟨b, off, rfl, hbS, cc, hcell, hat⟩ := HC.out k (by omega)
        have hb := hS b hbS
        have hsu := sumTo_succ l k (by omega)
        rw [width_DShareBatch] at hcell
        have e0 : wr.cell? ⟨b, off + k * 3, none⟩ = some (cc 0) := (hbel.out.cell (p := ⟨b, off + k * 3, none⟩) (by show b < _; omega)).trans (by have hq := hcell 0 (by omega); first | exact hq | simpa using hq)
        have e1 : wr.cell? ⟨b, off + k * 3 + 1, none⟩ = some (cc 1) := (hbel.out.cell (p := ⟨b, off + k * 3 + 1, none⟩) (by show b < _; omega)).trans (by have hq := hcell 1 (by omega); first | exact hq | simpa using hq)
        have e2 : wr.cell? ⟨b, off + k * 3 + 2, none⟩ = some (cc 2) := (hbel.out.cell (p := ⟨b, off + k * 3 + 2, none⟩) (by show b < _; omega)).trans (by have hq := hcell 2 (by omega); first | exact hq | simpa using hq)
        clear hcell
        have HSU : Hid _ := hsu
        clear hsu
        have HAT : Hid _ := hat
        clear hat
        go_wp2_with fail
        refine (szShareBatch_any S _ cc _ _ (Lay.same HAT.out (Same.of_below hbel.out hS)) (fun b hb => by have := hS b hb; omega) hy0 (by omega)).mono ?_
        rintro e u ⟨z, rfl, hz1, hbu⟩
        by_cases hneg : z < 0
        · go_wp2_with fail
          go_ret
          exact ⟨_, rfl, Or.inl (by omega), hbel.out.trans (hbu.mono hs)⟩
        · go_wp2_with fail
          go_roundw
          case rel => exact ⟨k + 1, z, by omega, by go_num, rfl, by omega, by omega, by rw [HSU.out]; have := hsum.out; show _ = _; omega, hbel.out.trans (hbu.mono hs)⟩
          case measure => simp [intOf]; omega
      · have hkn : k = n := by omega
        subst hkn
        go_wp2
        go_ret
        exact ⟨y, rfl, Or.inr (by have := hsum.out; rw [HT.out]; omega), hbel.out⟩
  · go_enter Tryz.func25, Tryz.ntmps25
    go_wp2
    go_ret
    exact ⟨-1, rfl, Or.inl (by omega), Below.refl _ _⟩
set_option maxRecDepth 100000 in
set_option maxHeartbeats 4000000 in
theorem szShareBook_any (S : Nat → Prop) (a : DShareBook) (c : Nat → Value) (x : Int) (w : World) (h : Lay.At S w a c) (hS : ∀ b, S b → b < w.heap.size) (h0 : 0 ≤ x) (h1 : x ≤ 1048576) :
    Calls Tryz.prog 9 #[.agg #[c 0, c 1], .int .i64 x] w fun e w' => ∃ y : Int, e = .returned (.int .i64 y) ∧ (y < 0 ∨ y + (Lay.tot a : Int) = x) ∧ Below w.heap.size w w' := by
  rw [tot_DShareBook]
  rw [at_DShareBook] at h
  obtain ⟨H0, H1⟩ := h
  obtain ⟨v0, e0⟩ : ∃ v, c 0 = v := ⟨_, rfl⟩
  rw [e0] at H0
  obtain ⟨v1, e1⟩ : ∃ v, c 1 = v := ⟨_, rfl⟩
  rw [e1] at H1
  rw [e0, e1]
  clear e0 e1
  have b0 : Hid (Below w.heap.size w (w.alloc (.cells #[v0, v1] 25))) := (Below.refl _ _).alloc (Nat.le_refl _) _
  go_enter Tryz.func9, Tryz.ntmps9
  go_wp2_with fail
  refine (szStringS_any S _ v0 _ _ (H0.same (Same.of_below b0.out hS)) (fun b hb => by have := hS b hb; have := b0.out.size; omega) (by omega) (by omega)).mono ?_
  rintro e w1 ⟨y0, rfl, t0, u1⟩
  have b1 : Hid (Below w.heap.size w w1) := b0.out.trans (u1.mono b0.out.size)
  have x1_1 : w1.cell? ⟨w.heap.size, 1, none⟩ = some (v1) := (u1.cell (p := ⟨w.heap.size, 1, none⟩) (by simp)).trans (by simp)
  have s1 : w.heap.size < w1.heap.size := by have := u1.size; simp at this; omega
  by_cases n0 : y0 < 0
  · go_wp2_with fail
    go_ret
    exact ⟨_, rfl, Or.inl (by omega), b1.out⟩
  · have _u := trivial
    go_wp2_with fail
    refine (szShareBatchS_any S _ v1 _ _ (H1.same (Same.of_below b1.out hS)) (fun b hb => by have := hS b hb; have := b1.out.size; omega) (by omega) (by omega)).mono ?_
    rintro e w2 ⟨y1, rfl, t1, u2⟩
    have b2 : Hid (Below w.heap.size w w2) := b1.out.trans (u2.mono b1.out.size)
    have s2 : w.heap.size < w2.heap.size := by have := u2.size; omega
    by_cases n1 : y1 < 0
    · go_wp2_with fail
      go_ret
      exact ⟨_, rfl, Or.inl (by omega), b2.out⟩
    · have _u := trivial
      go_wp2_with fail
      go_ret
      exact ⟨_, rfl, Or.inr (by omega), b2.out⟩
end Go.Proofs.YtobchllaopdchacGreat
