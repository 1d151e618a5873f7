/-
  Several texts in one.
-/
import Derived.Test.YtigkkelaadbhcabGreatM43
import Derived.Test.YtigkkelaadbhcabGreatM23
import Derived.Test.YtigkkelaadbhcabGreatM1
import Derived.Test.YtigkkelaadbhcabGreatLy
import Derived.StringKeys
import Derived.Maps.Own
import Derived.WideKeyEntry
import Derived.WalkLawsBesides
namespace Go.Proofs.YtigkkelaadbhcabGreat
open Go.RowKit Go.Sort
noncomputable def nedB (Bs : List DShareBatch) (b : DRunBatch) : Bool := match Bs[(atZI Bs b.1).toNat]? with | some f => shrB b f.2.1 f.2.2 | none => false
theorem ned_at {Bs : List DShareBatch} {b : DRunBatch} {q : Nat} (hq : q < Bs.length) (h : atZI Bs b.1 = (q : Int)) : nedB Bs b = shrB b Bs[q].2.1 Bs[q].2.2 := by
  unfold nedB
  rw [h, Int.toNat_natCast, List.getElem?_eq_getElem hq]
set_option maxRecDepth 100000 in
set_option maxHeartbeats 8000000 in
theorem needs1_any (S : Nat → Prop) (nm : ByteArray) (r : List DRecPhase) (sl : List DRunSlot) (at_ : ByteArray) (si st : Int) (o1 o2 : Option Addr) (n1 k1 n2 k2 : Nat) (Bs : List DShareBatch) (p2 p3 : Option Addr) (m2 l2 m3 l3 hb : Nat) (w : World) (hn : nm.size ≤ maxLen) (hr : AtL S w r (.slice o1 n1 k1)) (h : AtL S w sl (.slice o2 n2 k2)) (hB : AtL S w Bs (.slice p3 m3 l3)) (hS : ∀ b, S b → b < w.heap.size) (tr : totL r ≤ 1048576) (ts : totL sl ≤ 1048576) (hx : at_.size ≤ 1048576) (hf : ¬ atZI Bs nm < 0) (h2 : w.cell? ⟨hb, 2, none⟩ = some (.slice p2 m2 l2)) (h3 : w.cell? ⟨hb, 3, none⟩ = some (.slice p3 m3 l3)) (hlt : hb < w.heap.size) :
    Calls Tryz.prog 89 #[.agg #[.string nm, .slice o1 n1 k1, .slice o2 n2 k2, .string at_, .int .i64 si, .int .i64 st], .pointer (some ⟨hb, 0, none⟩)] w fun e w' => e = .returned (.bool (!(nedB Bs (nm, r, sl, at_, si, st)))) ∧ Below w.heap.size w w' := by
  have HN : Hid (nm.size ≤ maxLen) := hn
  have TR : Hid (totL r ≤ 1048576) := tr
  have TS : Hid (totL sl ≤ 1048576) := ts
  have TX : Hid (at_.size ≤ 1048576) := hx
  obtain ⟨q, eq, hqb⟩ := at_lt hf
  have EQ : Hid (atZI Bs nm = (q : Int)) := eq
  obtain ⟨V, hV⟩ : ∃ V, V = nedB Bs (nm, r, sl, at_, si, st) := ⟨_, rfl⟩
  have EV : Hid (V = shrB (nm, r, sl, at_, si, st) Bs[q].2.1 Bs[q].2.2) := by show _ = _; rw [hV]; exact ned_at hqb eq
  rw [← hV]
  clear hV hf eq
  obtain ⟨W, EW, BW, RW, sW⟩ := box_new w #[.string nm, .slice o1 n1 k1, .slice o2 n2 k2, .string at_, .int .i64 si, .int .i64 st] 52
  have HR : Hid _ := hr.ups hS
  have HA : Hid _ := h.ups hS
  have HB : Hid _ := hB.ups hS
  have HS : Hid _ := lt_up hS
  have hqm : Hid (q < m3) := by have en : Bs.length = m3 := by { obtain ⟨_, _, e, _⟩ := hB; cases e; rfl }
                                show _ < _; omega
  obtain ⟨bb, off, oh, nh, kh, on, nn, kn, rfl, hbS, e0, e1, e2, AH, AN, z0⟩ := bat_at hB q hqb
  have hbw := hS bb hbS
  have HH : Hid (∀ u, Below w.heap.size w u → AtL S u Bs[q].2.1 (.slice oh nh kh) ∧ AtL S u Bs[q].2.2 (.slice on nn kn)) := fun u hu => ⟨AH.same (Same.of_below hu hS), AN.same (Same.of_below hu hS)⟩
  obtain ⟨x, ex⟩ : ∃ x, Bs[q].1 = x := ⟨_, rfl⟩
  rw [ex] at e0
  have Y : Hid (∀ u, Below W.heap.size W u → Below w.heap.size w u ∧ u.cell? ⟨w.heap.size, 0, none⟩ = some (.string nm) ∧ u.cell? ⟨w.heap.size, 1, none⟩ = some (.slice o1 n1 k1) ∧ u.cell? ⟨w.heap.size, 2, none⟩ = some (.slice o2 n2 k2) ∧ u.cell? ⟨w.heap.size, 3, none⟩ = some (.string at_) ∧ u.cell? ⟨w.heap.size, 4, none⟩ = some (.int .i64 si) ∧ u.cell? ⟨w.heap.size, 5, none⟩ = some (.int .i64 st) ∧ u.cell? ⟨hb, 2, none⟩ = some (.slice p2 m2 l2) ∧ u.cell? ⟨hb, 3, none⟩ = some (.slice (some ⟨bb, off, none⟩) m3 l3) ∧ u.cell? ⟨bb, off + q * 3, none⟩ = some (.string x) ∧ u.cell? ⟨bb, off + q * 3 + 1, none⟩ = some (.slice oh nh kh) ∧ u.cell? ⟨bb, off + q * 3 + 2, none⟩ = some (.slice on nn kn)) := fun u hu => by
    have B : Below w.heap.size w u := BW.out.trans (hu.mono (by omega))
    have p := fun i v h => (cell_row ((hu.block _ (by omega)).trans RW.out) i v h).1
    exact ⟨B, p 0 _ rfl, p 1 _ rfl, p 2 _ rfl, p 3 _ rfl, p 4 _ rfl, p 5 _ rfl, (B.cell (p := ⟨hb, 2, none⟩) hlt).trans h2, (B.cell (p := ⟨hb, 3, none⟩) hlt).trans h3, (B.cell (p := ⟨bb, off + q * 3, none⟩) hbw).trans e0, (B.cell (p := ⟨bb, off + q * 3 + 1, none⟩) hbw).trans e1, (B.cell (p := ⟨bb, off + q * 3 + 2, none⟩) hbw).trans e2⟩
  clear hr h hB hS hn tr ts hx h2 h3 e0 e1 e2 AH AN z0 ex
  obtain ⟨_, y0, y1, y2, y3, y4, y5, z2, z3, x0, x1, x2⟩ := Y.out W (Below.refl _ _)
  go_enter Tryz.func89, Tryz.ntmps89
  go_upto_region 1 with fail
  rw [← EW.out]
  have HDR : Hid (Below W.heap.size W W.drew) := (Below.refl _ _).drew
  have q0 := fun d os => cell_regrown y0 d os
  have q1 := fun d os => cell_regrown y1 d os
  have q2 := fun d os => cell_regrown y2 d os
  have q3 := fun d os => cell_regrown y3 d os
  have q4 := fun d os => cell_regrown y4 d os
  have q5 := fun d os => cell_regrown y5 d os
  have g2 := fun d os => cell_regrown z2 d os
  have g3 := fun d os => cell_regrown z3 d os
  have w0 := fun d os => cell_regrown x0 d os
  have w1 := fun d os => cell_regrown x1 d os
  have w2 := fun d os => cell_regrown x2 d os
  clear y0 y1 y2 y3 y4 y5 z2 z3 x0 x1 x2
  have bdr : Hid (Below w.heap.size w W.drew) := BW.out.trans (HDR.out.mono BW.out.size)
  have CA : Hid (Calls Tryz.prog 91 #[.agg #[.slice p2 m2 l2, .slice (some ⟨bb, off, none⟩) m3 l3], .string nm] W.drew fun e w' => e = .returned (.int .i64 (q : Int)) ∧ Below W.drew.heap.size W.drew w') := by
    have := batchAtI_any S (.slice p2 m2 l2) _ Bs nm W.drew (HB.out _ bdr.out) (HS.out _ bdr.out)
    rw [show idxI Bs (fun p : DShareBatch => eqB p.1 nm) = (q : Int) from EQ.out] at this
    exact this
  have hqn : q < m3 := hqm.out
  have hng0 : ¬ ((q : Int) < 0) := by omega
  refine wp_region_guarded 13 [0, 1, 2, 3, 4, 5, 6, 7] (by kernel_rfl) (by kernel_rfl) ?_
  simp only [List.filterMap_cons, List.filterMap_nil, List.getElem?_cons_succ, List.getElem?_cons_zero]
  repeat (first | go_big_quiet_step (fail) | quiet_step (fail))
  refine wpQuiet_nil ?_
  refine callG (md := .any) (f := 4) (i := 8) (dc := 12) (fn := 91) ⟨rfl, rfl, by decide⟩ (by kernel_rfl) ?want ?run (Calls.mono CA.out ?_)
  case want => rfl
  case run => go_simp
  rintro e w3 ⟨rfl, hb3⟩
  have C3 : Hid (Below W.heap.size W w3) := HDR.out.trans (hb3.mono HDR.out.size)
  have bw3 : Hid (Below w.heap.size w w3) := BW.out.trans (C3.out.mono BW.out.size)
  refine ⟨_, rfl, regrown_of_below C3.out, ?_⟩
  clear hb3 CA
  simp only [Act.put, List.setIfInBounds_toArray, List.set_cons_zero, List.set_cons_succ]
  refine lexG (g := 2) [9, 10] (by kernel_rfl) (regrown_of_below C3.out) ?_
  simp only [List.filterMap_cons, List.filterMap_nil, List.getElem?_cons_succ, List.getElem?_cons_zero]
  show wpQuiet _ _ _ _ [_, _] _
  repeat (first | go_big_quiet_step (fail) | quiet_step (fail))
  refine wpQuiet_nil ?_
  refine callG (md := .any) (f := 1) (i := 11) (dc := 15) (fn := 90) ⟨rfl, rfl, by decide⟩ (by kernel_rfl) ?want ?run ((sharesAs_any S nm r sl at_ si st o1 o2 n1 k1 n2 k2 x Bs[q].2.1 Bs[q].2.2 oh on nh kh nn kn w3 HN.out (HR.out _ bw3.out) (HA.out _ bw3.out) (HH.out _ bw3.out).1 (HH.out _ bw3.out).2 (HS.out _ bw3.out) TR.out TS.out TX.out).mono ?_)
  case want => rfl
  case run => go_simp
  rintro e w4 ⟨rfl, hb4⟩
  rw [← EV.out]
  have C4 : Hid (Below W.heap.size W w4) := C3.out.trans (hb4.mono C3.out.size)
  have bw4 : Hid (Below w.heap.size w w4) := BW.out.trans (C4.out.mono BW.out.size)
  refine ⟨_, rfl, regrown_of_below C4.out, ?_⟩
  clear hb4
  simp only [Act.put, List.setIfInBounds_toArray, List.set_cons_zero, List.set_cons_succ]
  refine oneGX (i := 12) (dc := 16) (.bool (!V)) ⟨rfl, rfl, by decide⟩ (by kernel_rfl) rfl ?run (regrown_of_below C4.out) ?_
  case run => go_simp
  simp only [Act.put, List.setIfInBounds_toArray, List.set_cons_zero, List.set_cons_succ]
  refine ⟨by kernel_rfl, ?_⟩
  simp only [List.drop_succ_cons, List.drop_zero]
  go_wp2_with fail
  go_ret
  exact ⟨rfl, bw4.out⟩
set_option maxRecDepth 100000 in
set_option maxHeartbeats 8000000 in
theorem needIdx_any (S : Nat → Prop) (Ba : List DRunBatch) (oa : Option Addr) (n cap : Nat) (Bs : List DShareBatch) (p2 p3 : Option Addr) (m2 l2 m3 l3 hb : Nat) (w : World) (h : AtL S w Ba (.slice oa n cap)) (hB : AtL S w Bs (.slice p3 m3 l3)) (hS : ∀ b, S b → b < w.heap.size) (hT : ∀ i (hi : i < Ba.length), totL Ba[i].2.1 ≤ 1048576 ∧ totL Ba[i].2.2.1 ≤ 1048576 ∧ Ba[i].2.2.2.1.size ≤ 1048576) (hf : ∀ i (hi : i < Ba.length), ¬ atZI Bs Ba[i].1 < 0) (h2 : w.cell? ⟨hb, 2, none⟩ = some (.slice p2 m2 l2)) (h3 : w.cell? ⟨hb, 3, none⟩ = some (.slice p3 m3 l3)) (hlt' : hb < w.heap.size) :
    Calls Tryz.prog 117 #[.slice oa n cap, .func (.func 89) #[] #[.pointer (some ⟨hb, 0, none⟩)]] w fun e w' => e = .returned (.int .i64 (idxI Ba (fun d => !(nedB Bs d)))) ∧ Below w.heap.size w w' := by
  have en : Ba.length = n := by obtain ⟨_, _, e, _⟩ := h; cases e; rfl
  have hmx : n ≤ 9223372036854775807 := by obtain ⟨_, _, e, hf, _⟩ := id h; cases e; have := hf.1; unfold maxLen at this; omega
  have EN : Hid (Ba.length ≤ n ∧ n ≤ Ba.length) := ⟨by omega, by omega⟩
  have H : Hid _ := h.ups hS
  have HB : Hid _ := hB.ups hS
  have HS : Hid _ := lt_up hS
  have HT : Hid _ := hT
  have HF : Hid _ := hf
  have HX : Hid (∀ u, Below w.heap.size w u → u.cell? ⟨hb, 2, none⟩ = some (.slice p2 m2 l2) ∧ u.cell? ⟨hb, 3, none⟩ = some (.slice p3 m3 l3)) := fun u hu => ⟨(hu.cell (p := ⟨hb, 2, none⟩) hlt').trans h2, (hu.cell (p := ⟨hb, 3, none⟩) hlt').trans h3⟩
  obtain ⟨V, hV⟩ : ∃ V, V = idxI Ba (fun d => !(nedB Bs d)) := ⟨_, rfl⟩
  have NO : Hid ((∀ i (hi : i < Ba.length), nedB Bs Ba[i] = true) → V = -1) := fun h => by rw [hV]; exact idx_no (fun i hi => by show (!(nedB Bs Ba[i])) = false; rw [h i hi]; rfl)
  have HIT : Hid (∀ k (hk : k < Ba.length), nedB Bs Ba[k] = false → (∀ j (hj : j < Ba.length), j < k → nedB Bs Ba[j] = true) → V = (k : Int)) := fun k hk h1 h2 => by
    rw [hV]
    exact idx_yes hk (by show (!(nedB Bs Ba[k])) = true; rw [h1]; rfl) (fun j hj hjk => by show (!(nedB Bs Ba[j])) = false; rw [h2 j hj hjk]; rfl)
  rw [← hV]
  clear h hB hS hT hf h2 h3 en hV
  go_enter Tryz.func117, Tryz.ntmps117
  go_wp2_with fail
  go_loopw [8] (fun i wr => ∃ k : Nat, k ≤ n ∧ i = .int .i64 k ∧ Hid (∀ j (hj : j < Ba.length), j < k → nedB Bs Ba[j] = true) ∧ Hid (Below w.heap.size w wr)) (fun i _ => n - (intOf i).toNat)
  case atStart => exact ⟨0, Nat.zero_le _, rfl, fun _ _ h => by omega, Below.refl _ _⟩
  case round =>
    obtain ⟨k, hk, rfl, hall, hbel⟩ := hrel
    have hs := hbel.out.size
    by_cases hlt : k < n
    case neg =>
      have AV : Hid (V = -1) := NO.out (fun i hi => hall.out i hi (by have := EN.out; omega))
      go_wp2_with fail
      go_ret
      rw [AV.out]
      exact ⟨rfl, hbel.out⟩
    have hks : k < Ba.length := by have := EN.out; omega
    obtain ⟨b, off, o1, o2, n1, k1, n2, k2, rfl, hbS, c0, c1, c2, c3, c4, c5, z0, hr, hsl⟩ := rb_at (H.out wr hbel.out) k hks
    obtain ⟨f, ef⟩ : ∃ f, Ba[k] = f := ⟨_, rfl⟩
    have T2 := HT.out k hks
    have T3 := HF.out k hks
    rw [ef] at c0 c3 c4 c5 z0 hr hsl T2 T3
    obtain ⟨nm, r, sl, at_, si, st⟩ := f
    simp only at c0 c3 c4 c5 z0 hr hsl T2 T3
    have EF : Hid (Ba[k] = (nm, r, sl, at_, si, st)) := ef
    have FX : Hid (AtL S wr r (.slice o1 n1 k1) ∧ AtL S wr sl (.slice o2 n2 k2) ∧ nm.size ≤ maxLen ∧ totL r ≤ 1048576 ∧ totL sl ≤ 1048576 ∧ at_.size ≤ 1048576 ∧ ¬ atZI Bs nm < 0) := ⟨hr, hsl, z0, T2.1, T2.2.1, T2.2.2, by omega⟩
    have HSR : Hid _ := HS.out wr hbel.out
    have CW : Hid (Calls Tryz.prog 89 #[.agg #[.string nm, .slice o1 n1 k1, .slice o2 n2 k2, .string at_, .int .i64 si, .int .i64 st], .pointer (some ⟨hb, 0, none⟩)] wr fun e w' => e = .returned (.bool (!(nedB Bs (nm, r, sl, at_, si, st)))) ∧ Below wr.heap.size wr w') :=
      needs1_any S nm r sl at_ si st o1 o2 n1 k1 n2 k2 Bs p2 p3 m2 l2 m3 l3 hb wr FX.out.2.2.1 FX.out.1 FX.out.2.1 (HB.out wr hbel.out) HSR.out FX.out.2.2.2.1 FX.out.2.2.2.2.1 FX.out.2.2.2.2.2.1 FX.out.2.2.2.2.2.2 (HX.out wr hbel.out).1 (HX.out wr hbel.out).2 (by omega)
    clear z0 hr hsl T2 T3 ef
    cases c : nedB Bs (nm, r, sl, at_, si, st)
    · have AV : Hid (V = (k : Int)) := HIT.out k hks (by rw [EF.out]; exact c) hall.out
      rw [c] at CW
      go_wp2_with fail
      refine Calls.mono CW.out ?_; rintro e w1 ⟨rfl, hb1⟩
      have B1 : Hid (Below w.heap.size w w1) := hbel.out.trans (hb1.mono hs)
      clear hb1
      go_wp2_with fail
      go_ret
      rw [AV.out]
      exact ⟨rfl, B1.out⟩
    · have HP : Hid (nedB Bs Ba[k] = true) := by show _ = _; rw [EF.out]; exact c
      rw [c] at CW
      go_wp2_with fail
      refine Calls.mono CW.out ?_; rintro e w1 ⟨rfl, hb1⟩
      have B1 : Hid (Below w.heap.size w w1) := hbel.out.trans (hb1.mono hs)
      clear hb1
      go_wp2_with fail
      go_roundw
      case rel => exact ⟨k + 1, by omega, by go_num, fun j hj hjk => by
        by_cases e : j = k
        · subst e; exact HP.out
        · exact hall.out j hj (by omega), B1.out⟩
      case measure => simp [intOf]; omega
noncomputable def nedA (Bs : List DShareBatch) (Ba : List DRunBatch) : Bool := !(decide (0 ≤ idxI Ba (fun d => !(nedB Bs d))))
set_option maxRecDepth 100000 in
set_option maxHeartbeats 8000000 in
theorem needHas_any (S : Nat → Prop) (Ba : List DRunBatch) (oa : Option Addr) (n cap : Nat) (Bs : List DShareBatch) (p2 p3 : Option Addr) (m2 l2 m3 l3 hb : Nat) (w : World) (h : AtL S w Ba (.slice oa n cap)) (hB : AtL S w Bs (.slice p3 m3 l3)) (hS : ∀ b, S b → b < w.heap.size) (hT : ∀ i (hi : i < Ba.length), totL Ba[i].2.1 ≤ 1048576 ∧ totL Ba[i].2.2.1 ≤ 1048576 ∧ Ba[i].2.2.2.1.size ≤ 1048576) (hf : ∀ i (hi : i < Ba.length), ¬ atZI Bs Ba[i].1 < 0) (h2 : w.cell? ⟨hb, 2, none⟩ = some (.slice p2 m2 l2)) (h3 : w.cell? ⟨hb, 3, none⟩ = some (.slice p3 m3 l3)) (hlt' : hb < w.heap.size) :
    Calls Tryz.prog 88 #[.slice oa n cap, .func (.func 89) #[] #[.pointer (some ⟨hb, 0, none⟩)]] w fun e w' => e = .returned (.bool (decide (0 ≤ idxI Ba (fun d => !(nedB Bs d))))) ∧ Below w.heap.size w w' := by
  have C0 := needIdx_any S Ba oa n cap Bs p2 p3 m2 l2 m3 l3 hb w h hB hS hT hf h2 h3 hlt'
  clear h hB hS hT hf h2 h3
  obtain ⟨V, hV⟩ : ∃ V, V = idxI Ba (fun d => !(nedB Bs d)) := ⟨_, rfl⟩
  rw [← hV] at C0 ⊢
  clear hV
  have C : Hid _ := C0
  clear C0
  go_enter Tryz.func88, Tryz.ntmps88
  go_wp2_with fail
  refine Calls.mono C.out ?_; rintro e w1 ⟨rfl, hb1⟩
  have HB : Hid _ := hb1
  clear hb1 C
  go_wp2_with fail
  go_ret
  exact ⟨rfl, HB.out⟩
set_option maxRecDepth 100000 in
set_option maxHeartbeats 8000000 in
theorem needsP_any (S : Nat → Prop) (now last : Int) (o2 o3 o4 o5 : Option Addr) (n2 k2 n3 k3 n4 k4 n5 k5 : Nat) (Bs : List DShareBatch) (Ba : List DRunBatch) (w : World) (hB : AtL S w Bs (.slice o3 n3 k3)) (h : AtL S w Ba (.slice o4 n4 k4)) (hS : ∀ b, S b → b < w.heap.size) (hT : ∀ i (hi : i < Ba.length), totL Ba[i].2.1 ≤ 1048576 ∧ totL Ba[i].2.2.1 ≤ 1048576 ∧ Ba[i].2.2.2.1.size ≤ 1048576) (hf : ∀ i (hi : i < Ba.length), ¬ atZI Bs Ba[i].1 < 0) :
    Calls Tryz.prog 49 #[.agg #[.int .i64 now, .int .i64 last, .slice o2 n2 k2, .slice o3 n3 k3, .slice o4 n4 k4, .slice o5 n5 k5]] w fun e w' => e = .returned (.bool (nedA Bs Ba)) ∧ Below w.heap.size w w' := by
  have hmf : ∀ (fn : Fn) (first cap : Array Value) (w : World), (Instr.makeFunc fn first cap).run Tryz.prog w = .ok (.func fn first cap) w := fun _ _ _ _ => rfl
  obtain ⟨W, EW, BW, RW, sW⟩ := box_new w #[.int .i64 now, .int .i64 last, .slice o2 n2 k2, .slice o3 n3 k3, .slice o4 n4 k4, .slice o5 n5 k5] 38
  have BOX : Hid (∀ u, Below W.heap.size W u → u.heap[w.heap.size]? = some (.cells #[.int .i64 now, .int .i64 last, .slice o2 n2 k2, .slice o3 n3 k3, .slice o4 n4 k4, .slice o5 n5 k5] 38 (0, 0)) ∧ Below w.heap.size w u) := fun u hu => ⟨(hu.block _ (by omega)).trans RW.out, BW.out.trans (hu.mono (by omega))⟩
  have C0 := needHas_any S Ba o4 n4 k4 Bs o2 o3 n2 k2 n3 k3 w.heap.size W (h.same (Same.of_below BW.out hS)) (hB.same (Same.of_below BW.out hS)) (fun b hb => Nat.lt_of_lt_of_le (hS b hb) BW.out.size) hT hf (cell_row RW.out 2 _ rfl).1 (cell_row RW.out 3 _ rfl).1 (by omega)
  have y4 := (cell_row RW.out 4 _ rfl).1
  clear h hS hT hf hB
  obtain ⟨V, hV⟩ : ∃ V, V = decide (0 ≤ idxI Ba (fun d => !(nedB Bs d))) := ⟨_, rfl⟩
  have EV : Hid (nedA Bs Ba = !V) := by show _ = _; rw [hV]; rfl
  rw [← hV] at C0
  rw [EV.out]
  clear hV
  have C : Hid _ := C0
  clear C0
  go_enter Tryz.func49, Tryz.ntmps49
  go_upto_region 1 with fail
  rw [← EW.out]
  go_wp2_with fail
  refine Calls.mono C.out ?_; rintro e w1 ⟨rfl, hb1⟩
  have HB : Hid (Below w.heap.size w w1) := BW.out.trans (hb1.mono BW.out.size)
  clear hb1 C y4
  go_wp2_with fail
  go_ret
  exact ⟨rfl, HB.out⟩
end Go.Proofs.YtigkkelaadbhcabGreat

namespace Go.Proofs.YtigkkelaadbhcabGreat
open Go.RowKit
structure ButR (T : Nat → Prop) (B : Nat) (A C : World) : Prop where
  os : C.os = A.os
  tape : C.tape = A.tape
  output : C.output = A.output
  size : A.heap.size ≤ C.heap.size
  block : ∀ b, b < A.heap.size → ¬ T b → ¬ (B ≤ b ∧ ∃ o : Obj, A.heap[b]? = some o ∧ o.isCells = false) → C.heap[b]? = A.heap[b]?
theorem ButR.of_but {T : Nat → Prop} {B : Nat} {A C : World} (h : But T A C) : ButR T B A C := ⟨h.os, h.tape, h.output, h.size, fun b hb hn _ => h.block b hb hn⟩
theorem ButR.of_below {T : Nat → Prop} {B : Nat} {A C : World} (h : Below A.heap.size A C) : ButR T B A C := ⟨h.os, h.tape, h.output, h.size, fun b hb _ _ => h.block b hb⟩
theorem ButR.put {T : Nat → Prop} {B : Nat} {A : World} {l : Nat} {o : Obj} (hl : A.heap[l]? = some o) (ho : o.isCells = false) (hB : B ≤ l) (o' : Obj) : ButR T B A (A.putObj l o') :=
  have g := grownBy_putObj' A l o'
  ⟨g.os, g.tape, g.output, g.size, fun b hb _ hr => g.block b hb (fun e => hr (by cases e; exact ⟨hB, o, hl, ho⟩))⟩
def postL (own : World → Nat → Prop) (n₀ : Nat) (I : Nat → World → Prop) (Ix : Code → Nat → World → Prop) (k : Nat) (W : World) : Exit → Act → World → Prop
  | .normal, _, W' => KeepsOthers W W' ∧ KpO own n₀ W W' ∧ I (k + 1) W'
  | .exit id, _, W' => KeepsOthers W W' ∧ Ix (.exit id) k W'
  | _, _, _ => False
variable {F : Fence} {n : Nat} {P : Program}
end Go.Proofs.YtigkkelaadbhcabGreat

namespace Go.Proofs.YtigkkelaadbhcabGreat
open Go.RowKit
def SeqZ (F : Fence) (n : Nat) (P : Program) (g : Nat) (lb : Array Value) (encs : Nat → Array Value) (own : World → Nat → Prop) (n₀ : Nat) (T low : Nat → Prop) (Z Ze : Nat → World → Prop) (N : Nat) (w : World) : Prop :=
  ∀ (l : Nat) (J Jx : Nat → World → Prop) (W : World), Below w.heap.size w W →
    (∀ k A C, J k A → But T A C → J k C) →
    (∀ k A, J k A → (∀ q, own A q → q < A.heap.size) ∧ ∀ C, But T A C → ∀ q, own C q → own A q) → (∀ q, low q → ¬ own W q) → (∀ k A, J k A → k < N) →
    (∀ k W1, J k W1 → Z k W1 → YieldAt F (n - 1) P l (encs k) W1 fun e W' => (e = .returned (.bool true) ∧ J (k + 1) W' ∧ KpO own n₀ W1 W') ∨ (e = .returned (.bool false) ∧ Jx k W')) →
    J 0 W →
    CallsIn F n P g (#[.func (.yield l) #[] #[]] ++ lb) W fun e W' => (∃ v, e = .returned v) ∧ ((∃ k, J k W' ∧ Ze k W') ∨ ∃ k, Jx k W')
variable {F : Fence} {n : Nat} {P : Program}
theorem wpIn_range_z {g : Operand} {ps : Array Tmp} {assign body : Code} {Q : Exit → Act → World → Prop} {a : Act} {w : World}
    (hro : F.round = none) (h1 : 1 ≤ n) {gf : Nat} {lb : Array Value} (hg : a.eval g = .func (.func gf) #[] lb) (hFg : F.fn gf) (eg : ∀ args w, (callFunc gf args).run P w = .ok (.enter gf args) w)
    {encs : Nat → Array Value} {own : World → Nat → Prop} {n₀ : Nat} {T low : Nat → Prop} {Z Ze : Nat → World → Prop} {N : Nat} {w0 : World} (hseq : SeqZ F (n - 1) P gf lb encs own n₀ T low Z Ze N w0)
    (hb0 : Below w0.heap.size w0 w) (hps : ∀ k, (encs k).size = ps.size) (hno : ∀ q, low q → ¬ own w q) (hlo : n₀ ≤ w.heap.size) (hT : ∀ q, T q → q < w.heap.size)
    (I : Nat → World → Prop) (Ix : Code → Nat → World → Prop) (hI : ∀ k A C, I k A → ButR T w.heap.size A C → I k C) (hIx : ∀ c k A C, Ix c k A → ButR (fun _ => False) w.heap.size A C → Ix c k C) (hZ : ∀ k A C, Z k A → ButR (fun _ => False) w.heap.size A C → Z k C) (hZe : ∀ k A C, Ze k A → ButR (fun _ => False) w.heap.size A C → Ze k C)
    (hst : ∀ k A, I k A → (∀ q, own A q → q < A.heap.size) ∧ ∀ C, ButR T w.heap.size A C → ∀ q, own C q → own A q) (h0 : I 0 w) (hN : ∀ k A, I k A → k < N)
    (hround : ∀ (l k : Nat) (W : World), I k W → Z k W → ∃ (a₁ : Act) (Wa : World), Below W.heap.size W Wa ∧
      (∀ K : Act → World → Prop, K a₁ Wa → assign.wpIn (F.inRound l) (n - 1 - 1) P (Exit.then K (fun _ _ _ => False)) { tmps := (ps.zip (encs k)).foldl (fun t (p, v) => t.setIfInBounds p v) a.tmps, defers := [] } W) ∧
      ∀ V : World, I k V → Z k V → (∃ (q : Nat) (o o' : Obj), Wa.heap[q]? = some o ∧ o.isCells = false ∧ V = Wa.putObj q o') → body.wpIn (F.inRound l) (n - 1 - 1) P (postL own n₀ I Ix k V) a₁ V)
    (hdone : ∀ (D k : Nat) (W : World), w.heap.size ≤ D → D < W.heap.size → Ze k W → I k W → W.heap[D]? = some (.deferred (some [])) → Q .normal { a with defers := { target := .collected D, args := #[] } :: a.defers } W)
    (hstop : ∀ (D : Nat) (c : Code) (k : Nat) (W : World), w.heap.size ≤ D → D < W.heap.size → Ix c k W → W.heap[D]? = some (.deferred (some [])) → c.wpIn F n P Q { a with defers := { target := .collected D, args := #[] } :: a.defers } W) :
    (Code.rangeFunc g ps assign body).wpIn F n P Q a w := by
  refine wpIn_rangeFunc fun fn hfn => ?_
  rw [hro]
  let rec' : LoopState → Option Code → Loop := fun st pe => { state := st, pending := pe, fn, tmps := a.tmps, params := ps, assign, body, defers := w.heap.size }
  obtain ⟨W1, hW1⟩ : ∃ W1, (w.alloc (.deferred (some []))).alloc (.loop (rec' .ready none)) = W1 := ⟨_, rfl⟩
  have hL1 : W1.heap[w.heap.size + 1]? = some (.loop (rec' .ready none)) := by
    rw [← hW1]; have := World.alloc_heap_new (w.alloc (.deferred (some []))) (.loop (rec' .ready none)); rwa [World.size_alloc] at this
  have hD1 : W1.heap[w.heap.size]? = some (.deferred (some [])) := by
    rw [← hW1]; exact (Below.heap_alloc _ _ _ (by simp)).trans (World.alloc_heap_new w _)
  have hw1 : Below w.heap.size w W1 := by
    rw [← hW1]; exact ((Below.refl _ w).alloc (Nat.le_refl _) _).alloc (by simp) _
  have hI1 : I 0 W1 := hI 0 w W1 h0 (.of_below hw1)
  have hb1 : Below w0.heap.size w0 W1 := hb0.trans (hw1.mono hb0.size)
  have hno1 : ∀ q, low q → ¬ own W1 q := fun q hq ho => hno q hq ((hst 0 w h0).2 W1 (.of_below hw1) q ho)
  refine ⟨w.heap.size + 1, [{ target := .collected w.heap.size, args := #[] }], W1, { target := .fn (.func gf) lb, args := #[.func (.yield (w.heap.size + 1)) #[] #[]] }, W1, gf,
    #[.func (.yield (w.heap.size + 1)) #[] #[]] ++ lb, W1, ?_, ?_, ?_, ?_, fun _ => h1, ?_⟩
  · rw [← hW1]; exact run_enterLoop_outer _ _ _ _ _
  · simp only [resolve, hg]
    simp [go_sem]
  · intro f' hf'; simp [Target.leads] at hf'; subst hf'; exact hFg
  · simp [invoke, go_sem, eg]
  · let Bk : LoopState → Option Code → World → Prop := fun st pe W => W.heap[w.heap.size + 1]? = some (.loop (rec' st pe)) ∧ W.heap[w.heap.size]? = some (.deferred (some []))
    have bkT : ∀ (st : LoopState) (pe : Option Code) (A C : World), Bk st pe A → But T A C → Bk st pe C := fun st pe A C h hb =>
      ⟨(hb.block _ (Array.getElem?_eq_some_iff.1 h.1).1 (fun ht => by have := hT _ ht; omega)).trans h.1, (hb.block _ (Array.getElem?_eq_some_iff.1 h.2).1 (fun ht => by have := hT _ ht; omega)).trans h.2⟩
    refine (hseq (w.heap.size + 1) (fun k W => I k W ∧ Bk .ready none W) (fun k W => ∃ c, Ix c k W ∧ Bk .done (some c) W) W1 hb1
      (fun k A C h hb => ⟨hI k A C h.1 (.of_but hb), bkT _ _ A C h.2 hb⟩)
      (fun k A h => ⟨(hst k A h.1).1, fun C hb q hq => (hst k A h.1).2 C (.of_but hb) q hq⟩) hno1 (fun k A h => hN k A h.1) ?_ ⟨hI1, hL1, hD1⟩).mono ?_
    · rintro k W ⟨hi, hl, hd⟩ hz
      have hlt : w.heap.size + 1 < W.heap.size := (Array.getElem?_eq_some_iff.1 hl).1
      obtain ⟨a₁, Wa, ba, hassign, hbody⟩ := hround (w.heap.size + 1) k W hi hz
      refine ⟨fn, _, assign, body, run_yield (P := P) (args := encs k) hl (hps k), roundIn_of_wpIn hfn (hassign _ ?_)⟩
      have hs := hst k W hi
      have kpa : KpO own n₀ W Wa := ⟨ba.size, fun q hq => .inl (hs.2 Wa (.of_below ba) q hq), fun q hq => ba.block q (by omega), fun q c t z hc _ => (ba.block q (Array.getElem?_eq_some_iff.1 hc).1).trans hc⟩
      have hia : I k Wa := hI k W Wa hi (.of_below ba)
      have hla := (ba.block _ hlt).trans hl
      have hda := (ba.block _ (by omega)).trans hd
      have sa := ba.size
      have kpp : ∀ (i : Nat) (A : World) (st : LoopState) (pe : Option Code) (o' : Obj), I i A → A.heap[w.heap.size + 1]? = some (.loop (rec' st pe)) → KpO own n₀ A (A.putObj (w.heap.size + 1) o') := fun i A st pe o' hA hlA =>
        ⟨by simp, fun q hq => .inl ((hst i A hA).2 _ (.put hlA rfl (by omega) o') q hq), fun q hq => World.putObj_heap_other (by omega), fun q c t z hc _ => (World.putObj_heap_other (fun e => by first | (subst e; rw [hlA] at hc; cases hc) | (rw [e] at hlA; rw [hlA] at hc; cases hc) | (rw [← e] at hc; rw [hlA] at hc; cases hc))).trans hc⟩
      refine ⟨_, run_beginRound hla rfl, ?_⟩
      have hl2 : (Wa.putObj (w.heap.size + 1) (.loop (rec' .busy none))).heap[w.heap.size + 1]? = some (.loop (rec' .busy none)) := World.putObj_heap_same (by omega)
      have hd2 : (Wa.putObj (w.heap.size + 1) (.loop (rec' .busy none))).heap[w.heap.size]? = some (.deferred (some [])) := (World.putObj_heap_other (by omega)).trans hda
      have hi2 : I k (Wa.putObj (w.heap.size + 1) (.loop (rec' .busy none))) := hI k Wa _ hia (.put hla rfl (by omega) _)
      have hz2 : Z k (Wa.putObj (w.heap.size + 1) (.loop (rec' .busy none))) := hZ k Wa _ (hZ k W Wa hz (.of_below ba)) (.put hla rfl (by omega) _)
      refine wpIn_mono (hbody _ hi2 hz2 ⟨_, _, _, hla, rfl, rfl⟩) ?_
      rintro e a3 W3 hp
      cases e with
      | normal =>
        obtain ⟨hk3, hkp3, hi3⟩ := hp
        have hl3 := hk3.same _ _ hl2 rfl
        have hd3 := hk3.same _ _ hd2 rfl
        have hlt3 := (Array.getElem?_eq_some_iff.1 hl3).1
        refine ⟨_, _, run_endRound (P := P) none hl3, .inl ⟨rfl, ⟨hI (k + 1) W3 _ hi3 (.put hl3 rfl (by omega) _), World.putObj_heap_same hlt3, (World.putObj_heap_other (by omega)).trans hd3⟩, ?_⟩⟩
        exact kpa.trans ((kpp k Wa _ _ _ hia hla).trans (hkp3.trans (kpp (k + 1) W3 _ _ _ hi3 hl3)))
      | exit id =>
        obtain ⟨hk3, hi3⟩ := hp
        have hl3 := hk3.same _ _ hl2 rfl
        have hd3 := hk3.same _ _ hd2 rfl
        have hlt3 := (Array.getElem?_eq_some_iff.1 hl3).1
        exact ⟨_, _, run_endRound (P := P) (some (.exit id)) hl3, .inr ⟨rfl, .exit id, hIx _ k W3 _ hi3 (.put hl3 rfl (by omega) _), World.putObj_heap_same hlt3, (World.putObj_heap_other (by omega)).trans hd3⟩⟩
      | ret => exact hp.elim
      | goto t => exact hp.elim
      | panic ch => exact hp.elim
      | outgrown => exact hp.elim
    · rintro e W2 ⟨⟨v, rfl⟩, ⟨k, ⟨hi, hl, hd⟩, hze⟩ | ⟨k, c, hi, hl, hd⟩⟩
      · have hlt2 := (Array.getElem?_eq_some_iff.1 hl).1
        exact ⟨none, _, run_endLoop (P := P) hl (by simp [rec']), hdone _ k _ (Nat.le_refl _) (by simp; omega) (hZe k W2 _ hze (.put hl rfl (by omega) _)) (hI k W2 _ hi (.put hl rfl (by omega) _)) ((World.putObj_heap_other (by omega)).trans hd)⟩
      · have hlt2 := (Array.getElem?_eq_some_iff.1 hl).1
        exact ⟨some c, _, run_endLoop (P := P) hl (by simp [rec']), hstop _ c k _ (Nat.le_refl _) (by simp; omega) (hIx c k W2 _ hi (.put hl rfl (by omega) _)) ((World.putObj_heap_other (by omega)).trans hd)⟩
end Go.Proofs.YtigkkelaadbhcabGreat

namespace Go.Proofs.YtigkkelaadbhcabGreat
open Go.RowKit Go.MapKept
open Go.ChangeMaps (setBlock heap_setBlock_same heap_setBlock_other)
open Go.WideMaps (KeyLaw)
theorem lawStr : KeyLaw Tryz.prog 9 := Go.WideMaps.string_law Tryz.underlying9
theorem zeroNs (w : World) : (zeroValue 3).run Tryz.prog w = .ok (.int .i64 0) w := by kernel_rfl
theorem keyOf_s {x : ByteArray} (hx : x.size ≤ maxLen) : ∃ l, keyOf Tryz.prog 9 (.string x) = some l := by
  refine ⟨.string x.data.toList, ?_⟩
  simp [keyOf, mapKey, Tryz.underlying9, hx]
def Ms (w : World) (b : Nat) (M : ByteArray → Option Nat) : Prop :=
  ∃ es clock, w.heap[b]? = some (.map es clock) ∧ Stamped es clock ∧
    (∀ e ∈ es.toList, ∃ x k, e.key = .string x ∧ x.size ≤ maxLen ∧ M x = some k ∧ e.val = .int .i64 k) ∧
    (∀ x, (∀ e ∈ es.toList, e.key ≠ .string x) → M x = none)
theorem Ms.made (w : World) : Ms (w.alloc (.map #[] 0)) w.heap.size (fun _ => none) :=
  ⟨#[], 0, (MapKept.heap_alloc w _).1, stamped_empty 0, by simp, fun _ _ => rfl⟩
theorem Ms.lt {w : World} {b : Nat} {M : ByteArray → Option Nat} (h : Ms w b M) : b < w.heap.size := by
  obtain ⟨es, clock, hb, _⟩ := h
  exact (Array.getElem?_eq_some_iff.1 hb).1
theorem Ms.of_block {w w' : World} {b : Nat} {M : ByteArray → Option Nat} (h : Ms w b M) (hb : w'.heap[b]? = w.heap[b]?) : Ms w' b M := by
  obtain ⟨es, clock, h1, h2⟩ := h
  exact ⟨es, clock, hb.trans h1, h2⟩
theorem Ms.grown {w w' : World} {b : Nat} {M : ByteArray → Option Nat} {row : Option Nat} (h : Ms w b M) (hg : w.grownBy w' row) (hne : some b ≠ row) : Ms w' b M :=
  h.of_block (hg.block b h.lt hne)
theorem Ms.below {w w' : World} {b B : Nat} {M : ByteArray → Option Nat} (h : Ms w b M) (hb : Below B w w') (hB : b < B) : Ms w' b M :=
  h.of_block (hb.block b hB)
theorem Ms.same {w : World} {b : Nat} {M M' : ByteArray → Option Nat} (h : Ms w b M) (e : ∀ x, M' x = M x) : Ms w b M' := by
  have : M' = M := funext e
  rw [this]; exact h
theorem str_inj {x y : ByteArray} (h : (Value.string x) = .string y) : x = y := by simpa using h
theorem Ms.look_yes {w : World} {b : Nat} {M : ByteArray → Option Nat} (h : Ms w b M) {x : ByteArray} (hx : x.size ≤ maxLen) {k : Nat} (hk : M x = some k) :
    (Instr.lookup 203 (.map (some b)) (.string x) true).run Tryz.prog w = .ok (.tuple #[.int .i64 k, .bool true]) w := by
  obtain ⟨es, clock, hb, hs, hr, hz⟩ := h
  obtain ⟨l, hkey⟩ := keyOf_s hx
  rcases lawStr.find w hkey es.toList (fun e he => by obtain ⟨p, q, h1, h2, h3, _⟩ := hr e he; rw [h1]; exact keyOf_s h2) with ⟨h1, h2⟩ | ⟨j, e0, h1, h2, h3⟩
  · rw [hz x h2] at hk; cases hk
  · obtain ⟨p, q, k1, _, k3, k4⟩ := hr e0 (List.mem_of_getElem? h2)
    obtain rfl := str_inj (k1.symm.trans h3)
    rw [hk] at k3
    cases k3
    simp [Instr.lookup, run_underlying Tryz.underlying203, MapKept.run_getObj_map hb, lawStr.check w _ hkey, h1, k4, Result.andThen]
theorem Ms.look_no {w : World} {b : Nat} {M : ByteArray → Option Nat} (h : Ms w b M) {x : ByteArray} (hx : x.size ≤ maxLen) (hk : M x = none) :
    (Instr.lookup 203 (.map (some b)) (.string x) true).run Tryz.prog w = .ok (.tuple #[.int .i64 0, .bool false]) w := by
  obtain ⟨es, clock, hb, hs, hr, hz⟩ := h
  obtain ⟨l, hkey⟩ := keyOf_s hx
  rcases lawStr.find w hkey es.toList (fun e he => by obtain ⟨p, q, h1, h2, h3, _⟩ := hr e he; rw [h1]; exact keyOf_s h2) with ⟨h1, h2⟩ | ⟨j, e0, h1, h2, h3⟩
  · simp [Instr.lookup, run_underlying Tryz.underlying203, MapKept.run_getObj_map hb, lawStr.check w _ hkey, h1, zeroNs w, Result.andThen]
  · obtain ⟨p, q, k1, _, k3, k4⟩ := hr e0 (List.mem_of_getElem? h2)
    obtain rfl := str_inj (k1.symm.trans h3)
    rw [hk] at k3
    cases k3
def putM (M : ByteArray → Option Nat) (x : ByteArray) (n : Nat) (p : ByteArray) : Option Nat := if p = x then some n else M p
theorem Ms.put {w : World} {b : Nat} {M : ByteArray → Option Nat} (h : Ms w b M) {x : ByteArray} (hx : x.size ≤ maxLen) (hk : M x = none) (n : Nat) :
    ∃ w', (Instr.mapUpdate 203 (.map (some b)) (.string x) (.int .i64 n)).run Tryz.prog w = .ok () w' ∧ Ms w' b (putM M x n) ∧ w.grownBy w' (some b) := by
  obtain ⟨es, clock, hb, hs, hr, hz⟩ := h
  obtain ⟨l, hkey⟩ := keyOf_s hx
  rcases lawStr.find w hkey es.toList (fun e he => by obtain ⟨p, q, h1, h2, h3, _⟩ := hr e he; rw [h1]; exact keyOf_s h2) with ⟨h1, h2⟩ | ⟨j, e0, h1, h2, h3⟩
  · have hpush : (es.push ⟨.string x, .int .i64 n, clock⟩).toList = es.toList ++ [⟨.string x, .int .i64 n, clock⟩] := Array.toList_push
    refine ⟨setBlock w b (.map (es.push ⟨.string x, .int .i64 n, clock⟩) (clock + 1)), ?_, ⟨_, _, heap_setBlock_same hb _, stamped_push hs h2, ?_, ?_⟩, ⟨rfl, rfl, rfl, by simp [setBlock], fun i _ hi => heap_setBlock_other hb _ (fun e => hi (by rw [e]))⟩⟩
    · simp [Instr.mapUpdate, run_underlying Tryz.underlying203, MapKept.run_getObj_map hb, lawStr.check w false hkey, h1, MapKept.run_setObj_map _ hb, Result.andThen, setBlock]
    · intro e he
      rw [hpush] at he
      rcases List.mem_append.1 he with he | he
      · obtain ⟨p, q, k1, k2, k3, k4⟩ := hr e he
        have hne : p ≠ x := fun e1 => h2 e he (by rw [k1, e1])
        exact ⟨p, q, k1, k2, by rw [putM, if_neg hne]; exact k3, k4⟩
      · simp only [List.mem_singleton] at he
        subst he
        exact ⟨x, n, rfl, hx, by rw [putM, if_pos rfl], rfl⟩
    · intro p hne
      have hn : p ≠ x := fun e1 => hne ⟨.string x, .int .i64 n, clock⟩ (by rw [hpush]; simp) (by rw [e1])
      rw [putM, if_neg hn]
      exact hz p (fun e he => hne e (by rw [hpush]; exact List.mem_append.2 (Or.inl he)))
  · obtain ⟨p, q, k1, _, k3, k4⟩ := hr e0 (List.mem_of_getElem? h2)
    obtain rfl := str_inj (k1.symm.trans h3)
    rw [hk] at k3
    cases k3
end Go.Proofs.YtigkkelaadbhcabGreat
