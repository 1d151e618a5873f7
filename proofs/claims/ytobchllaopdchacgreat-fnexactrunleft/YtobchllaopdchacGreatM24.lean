/-
  Several texts in one.
-/
import Derived.Test.YtobchllaopdchacGreatM22
import Derived.Test.YtobchllaopdchacGreatM23
import Derived.Test.YtobchllaopdchacGreatM11
import Derived.Test.YtobchllaopdchacGreatM4
namespace Go.Proofs.YtobchllaopdchacGreat
open Go.RowKit Go.Sort
theorem alk_len {a b : List ByteArray} (h : ¬ a.length = b.length) : alkB a b = false := alk_no fun e => h (by rw [e])
theorem alk_at {a b : List ByteArray} {i : Nat} (hi : i < a.length) (h : eqB a[i] (nthB b i) = false) : alkB a b = false := alk_no fun e => by
  subst e
  rw [show nthB a i = a[i] by simp [nthB, hi], (eqB_iff _ _).2 rfl] at h; cases h
theorem alk_all {a b : List ByteArray} (h : a.length = b.length) (h2 : ∀ i (hi : i < a.length), eqB a[i] (nthB b i) = true) : alkB a b = true := alk_yes (by
  apply List.ext_getElem h
  intro i h1 h3
  rw [(eqB_iff _ _).1 (h2 i h1)]
  simp [nthB, h3])
set_option maxRecDepth 100000 in
set_option maxHeartbeats 8000000 in
theorem equT_any (S S' : Nat → Prop) (a b : List ByteArray) (oa ob : Option Addr) (n ka m kb : Nat) (w : World) (h : AtL S w a (.slice oa n ka)) (hL : AtL S' w b (.slice ob m kb)) (hS : ∀ b, S b → b < w.heap.size) (hS' : ∀ b, S' b → b < w.heap.size) :
    Calls Tryz.prog 115 #[.slice oa n ka, .slice ob m kb] w fun e w' => e = .returned (.bool (alkB a b)) ∧ Below w.heap.size w w' := by
  have en : a.length = n := by obtain ⟨_, _, e, _⟩ := h; cases e; rfl
  have em : b.length = m := by obtain ⟨_, _, e, _⟩ := hL; cases e; rfl
  have hmx : n ≤ 9223372036854775807 := by obtain ⟨_, _, e, hf, _⟩ := id h; cases e; have := hf.1; unfold maxLen at this; omega
  have hmb : m ≤ 9223372036854775807 := by obtain ⟨_, _, e, hf, _⟩ := id hL; cases e; have := hf.1; unfold maxLen at this; omega
  have EN : Hid (a.length ≤ n ∧ n ≤ a.length) := ⟨by omega, by omega⟩
  have EM : Hid (b.length ≤ m ∧ m ≤ b.length) := ⟨by omega, by omega⟩
  have ROW : Hid (∀ i (hi : i < a.length), ∃ b off, oa = some ⟨b, off, none⟩ ∧ b < w.heap.size ∧ w.cell? ⟨b, off + i, none⟩ = some (.string a[i])) := fun i hi => by
    obtain ⟨b, off, eo, hb, e0⟩ := tx_at h i hi
    exact ⟨b, off, eo, hS b hb, e0⟩
  have LAT : Hid (∀ i (hi : i < b.length), ∃ q off, ob = some ⟨q, off, none⟩ ∧ q < w.heap.size ∧ w.cell? ⟨q, off + i, none⟩ = some (.string (nthB b i))) := fun i hi => by
    obtain ⟨q, off, eo, hb, e0⟩ := tx_at hL i hi
    exact ⟨q, off, eo, hS' q hb, by rw [e0]; simp [nthB, hi]⟩
  clear h hL hS hS' en em
  go_enter Tryz.func115, Tryz.ntmps115
  by_cases hlen : n = m
  case neg =>
    go_wp2_with fail
    go_ret
    rw [alk_len (fun h => hlen (by have := EN.out; have := EM.out; omega))]
    exact ⟨rfl, Below.refl _ _⟩
  subst hlen
  go_wp2_with fail
  go_loopw [13] (fun i wr => ∃ k : Nat, k ≤ n ∧ i = .int .i64 k ∧ Hid (∀ j (hj : j < a.length), j < k → eqB a[j] (nthB b j) = true) ∧ Hid (Below w.heap.size w wr)) (fun i _ => n - (intOf i).toNat)
  case atStart => exact ⟨0, Nat.zero_le _, rfl, fun _ _ h => by omega, Below.refl _ _⟩
  case round =>
    obtain ⟨k, hk, rfl, hall, hbel⟩ := hrel
    have hs := hbel.out.size
    by_cases hlt : k < n
    case neg =>
      go_wp2_with fail
      go_ret
      rw [alk_all (by have := EN.out; have := EM.out; omega) fun i hi => hall.out i hi (by have := EN.out; omega)]
      exact ⟨rfl, hbel.out⟩
    have hks : k < a.length := by have := EN.out; omega
    obtain ⟨q, off, rfl, hb, c0⟩ := ROW.out k hks
    obtain ⟨g, of2, rfl, hg, cg⟩ := LAT.out k (by have := EM.out; omega)
    obtain ⟨x, ex⟩ : ∃ x, a[k] = x := ⟨_, rfl⟩
    rw [ex] at c0
    obtain ⟨y, ey⟩ : ∃ y, nthB b k = y := ⟨_, rfl⟩
    rw [ey] at cg
    have e0 := (hbel.out.cell (p := ⟨q, off + k, none⟩) hb).trans c0
    have eg := (hbel.out.cell (p := ⟨g, of2 + k, none⟩) hg).trans cg
    have EQ : Hid (∀ R, eqB x y = R → eqB a[k] (nthB b k) = R) := fun R h => by rw [ex, ey]; exact h
    have q0 := fun d os => cell_regrown e0 d os
    have qg := fun d os => cell_regrown eg d os
    clear c0 cg ex ey e0 eg
    cases c : eqB x y
    · have HP : Hid (alkB a b = false) := alk_at hks (EQ.out _ c)
      have c' : (x.toList == y.toList) = false := c
      go_wp2_with fail
      refine wp_region_quiet_below (by kernel_rfl) (by kernel_rfl) ?_
      repeat (first | go_big_quiet_step (fail) | quiet_step (fail))
      refine wpQuiet_nil ?_
      intro _ hw'
      obtain ⟨⟨dq, osq⟩, hw''⟩ := hw'
      subst hw''
      go_wp2_with fail
      go_ret
      rw [HP.out]
      exact ⟨rfl, hbel.out.trans ((below_regrown wr dq osq).mono hs)⟩
    · have HP : Hid (eqB a[k] (nthB b k) = true) := EQ.out _ c
      have c' : (x.toList == y.toList) = true := c
      go_wp2_with fail
      refine wp_region_quiet_below (by kernel_rfl) (by kernel_rfl) ?_
      repeat (first | go_big_quiet_step (fail) | quiet_step (fail))
      refine wpQuiet_nil ?_
      intro _ hw'
      obtain ⟨⟨dq, osq⟩, hw''⟩ := hw'
      subst hw''
      go_wp2_with fail
      go_roundw
      case rel => exact ⟨k + 1, by omega, by go_num, fun j hj hjk => by
        by_cases e : j = k
        · subst e; exact HP.out
        · exact hall.out j hj (by omega), hbel.out.trans ((below_regrown wr dq osq).mono hs)⟩
      case measure => simp [intOf]; omega
noncomputable def shrB (b : DRunBatch) (ha ne : List ByteArray) : Bool := alkB ne (tgL b b.2.2.2.1) && (decide (b.2.2.2.2.1 = -1) || subB ha (owL b))
set_option maxRecDepth 100000 in
set_option maxHeartbeats 8000000 in
theorem sharesAs_any (S : Nat → Prop) (nm : ByteArray) (r : List DRecPhase) (sl : List DRunSlot) (at_ : ByteArray) (si st : Int) (o1 o2 : Option Addr) (n1 k1 n2 k2 : Nat) (x : ByteArray) (ha ne : List ByteArray) (oh on : Option Addr) (nh kh nn kn : Nat) (w : World) (hn : nm.size ≤ maxLen) (hr : AtL S w r (.slice o1 n1 k1)) (h : AtL S w sl (.slice o2 n2 k2)) (hh : AtL S w ha (.slice oh nh kh)) (hne : AtL S w ne (.slice on nn kn)) (hS : ∀ b, S b → b < w.heap.size) (tr : totL r ≤ 1048576) (ts : totL sl ≤ 1048576) (hx : at_.size ≤ 1048576) :
    Calls Tryz.prog 83 #[.agg #[.string nm, .slice o1 n1 k1, .slice o2 n2 k2, .string at_, .int .i64 si, .int .i64 st], .agg #[.string x, .slice oh nh kh, .slice on nn kn]] w fun e w' => e = .returned (.bool (shrB (nm, r, sl, at_, si, st) ha ne)) ∧ Below w.heap.size w w' := by
  have ta_y : ∀ W, (Instr.typeAssert (.iface 83 (.agg #[.int .i64 si])) 86 83 true).run Tryz.prog W = .ok (.tuple #[.agg #[.int .i64 si], .bool true]) W := fun W => by kernel_rfl
  have ta_n : ∀ W, (Instr.typeAssert (.iface 130 (.agg #[])) 86 83 true).run Tryz.prog W = .ok (.tuple #[.agg #[.int .i64 0], .bool false]) W := fun W => by kernel_rfl
  have HN : Hid (nm.size ≤ maxLen) := hn
  have TR : Hid (totL r ≤ 1048576) := tr
  have TS : Hid (totL sl ≤ 1048576) := ts
  have TX : Hid (at_.size ≤ 1048576) := hx
  obtain ⟨W, hW⟩ : ∃ W, W = (w.alloc (.cells #[.string nm, .slice o1 n1 k1, .slice o2 n2 k2, .string at_, .int .i64 si, .int .i64 st] 49)).alloc (.cells #[.string x, .slice oh nh kh, .slice on nn kn] 103) := ⟨_, rfl⟩
  have EW : Hid (W = (w.alloc (.cells #[.string nm, .slice o1 n1 k1, .slice o2 n2 k2, .string at_, .int .i64 si, .int .i64 st] 49)).alloc (.cells #[.string x, .slice oh nh kh, .slice on nn kn] 103)) := hW
  have BW : Hid (Below w.heap.size w W) := by rw [hW]; exact ((Below.refl _ _).alloc (Nat.le_refl _) _).alloc (by simp) _
  have RW : Hid (W.heap[w.heap.size]? = some (.cells #[.string nm, .slice o1 n1 k1, .slice o2 n2 k2, .string at_, .int .i64 si, .int .i64 st] 49 (0, 0))) := by rw [hW]; exact ((Below.refl (w.heap.size + 1) _).alloc (by simp) _).block _ (by omega) |>.trans (heap_alloc_new w _)
  have RX : Hid (W.heap[w.heap.size + 1]? = some (.cells #[.string x, .slice oh nh kh, .slice on nn kn] 103 (0, 0))) := by rw [hW]; exact by show _ = _; have h := heap_alloc_new (w.alloc (.cells #[.string nm, .slice o1 n1 k1, .slice o2 n2 k2, .string at_, .int .i64 si, .int .i64 st] 49)) (.cells #[.string x, .slice oh nh kh, .slice on nn kn] 103); rw [show (w.alloc (.cells #[.string nm, .slice o1 n1 k1, .slice o2 n2 k2, .string at_, .int .i64 si, .int .i64 st] 49)).heap.size = w.heap.size + 1 by simp] at h; exact h
  have sW : w.heap.size + 2 ≤ W.heap.size := by rw [hW]; simp
  clear hW
  have BOX : Hid (∀ u, Below W.heap.size W u → u.heap[w.heap.size]? = some (.cells #[.string nm, .slice o1 n1 k1, .slice o2 n2 k2, .string at_, .int .i64 si, .int .i64 st] 49 (0, 0)) ∧ u.heap[w.heap.size + 1]? = some (.cells #[.string x, .slice oh nh kh, .slice on nn kn] 103 (0, 0)) ∧ Below w.heap.size w u) := fun u hu => ⟨(hu.block _ (by omega)).trans RW.out, (hu.block _ (by omega)).trans RX.out, BW.out.trans (hu.mono (by omega))⟩
  have HR : Hid _ := hr.ups hS
  have HA : Hid _ := h.ups hS
  have HH : Hid _ := hh.ups hS
  have HE : Hid _ := hne.ups hS
  have HS : Hid _ := lt_up hS
  have SLM : Hid (∀ s ∈ sl, s.2.size ≤ maxLen) := sl_max h
  clear h hr hh hne hS hn tr ts hx
  have Y : Hid (∀ u, Below W.heap.size W u → Below w.heap.size w u ∧ u.cell? ⟨w.heap.size, 0, none⟩ = some (.string nm) ∧ u.cell? ⟨w.heap.size, 1, none⟩ = some (.slice o1 n1 k1) ∧ u.cell? ⟨w.heap.size, 2, none⟩ = some (.slice o2 n2 k2) ∧ u.cell? ⟨w.heap.size, 3, none⟩ = some (.string at_) ∧ u.cell? ⟨w.heap.size, 4, none⟩ = some (.int .i64 si) ∧ u.cell? ⟨w.heap.size, 5, none⟩ = some (.int .i64 st) ∧ u.cell? ⟨w.heap.size + 1, 0, none⟩ = some (.string x) ∧ u.cell? ⟨w.heap.size + 1, 1, none⟩ = some (.slice oh nh kh) ∧ u.cell? ⟨w.heap.size + 1, 2, none⟩ = some (.slice on nn kn)) := fun u hu => by
    obtain ⟨b1, b2, b3⟩ := BOX.out u hu
    have p := fun i v h => (cell_row b1 i v h).1
    have q := fun i v h => (cell_row b2 i v h).1
    exact ⟨b3, p 0 _ rfl, p 1 _ rfl, p 2 _ rfl, p 3 _ rfl, p 4 _ rfl, p 5 _ rfl, q 0 _ rfl, q 1 _ rfl, q 2 _ rfl⟩
  obtain ⟨V, hV⟩ : ∃ V, V = shrB (nm, r, sl, at_, si, st) ha ne := ⟨_, rfl⟩
  have V1 : Hid (alkB ne (tgL (nm, r, sl, at_, si, st) at_) = false → V = false) := fun h => by rw [hV]; unfold shrB; rw [h]; rfl
  have V2 : Hid (alkB ne (tgL (nm, r, sl, at_, si, st) at_) = true → si = -1 → V = true) := fun h e => by rw [hV]; unfold shrB; rw [h, decide_eq_true e]; rfl
  have V3 : Hid (alkB ne (tgL (nm, r, sl, at_, si, st) at_) = true → ¬ si = -1 → V = subB ha (owL (nm, r, sl, at_, si, st))) := fun h e => by rw [hV]; unfold shrB; rw [h, decide_eq_false e]; rfl
  rw [← hV]
  clear hV
  obtain ⟨_, y0, y1, y2, y3, y4, y5, z0, z1, z2⟩ := Y.out W (Below.refl _ _)
  go_enter Tryz.func83, Tryz.ntmps83
  go_upto_region 1 with fail
  rw [← EW.out]
  have HDR : Hid (Below W.heap.size W W.drew) := (Below.refl _ _).drew
  have q0 := fun d os => cell_regrown y0 d os
  have q1 := fun d os => cell_regrown y1 d os
  have q2 := fun d os => cell_regrown y2 d os
  have q3 := fun d os => cell_regrown y3 d os
  have q4 := fun d os => cell_regrown y4 d os
  have q5 := fun d os => cell_regrown y5 d os
  have p0 := fun d os => cell_regrown z0 d os
  have p1 := fun d os => cell_regrown z1 d os
  have p2 := fun d os => cell_regrown z2 d os
  clear y0 y1 y2 y3 y4 y5 z0 z1 z2
  go_wp2_with fail
  refine wp_region_mix 7 [0, 1, 2, 3, 4] (by kernel_rfl) (by kernel_rfl) ?_
  simp only [List.filterMap_cons, List.filterMap_nil, List.getElem?_cons_succ, List.getElem?_cons_zero]
  repeat (first | go_big_quiet_step (fail) | quiet_step (fail))
  refine wpQuiet_nil ?_
  clear q0 q1 q2 q3 q4 q5 p0 p1 p2
  have bdr : Hid (Below w.heap.size w W.drew) := BW.out.trans (HDR.out.mono BW.out.size)
  refine call1 (md := .any) (f := 1) (i := 5) (dc := 12) (fn := 116) ⟨rfl, rfl, rfl, by decide⟩ (by kernel_rfl) ?run ((thgI_any S nm r sl at_ si st o1 o2 n1 k1 n2 k2 at_ W.drew HN.out (HR.out _ bdr.out) (HA.out _ bdr.out) (HS.out _ bdr.out) TR.out TS.out TX.out).mono ?_)
  case run => go_simp
  rintro e w1 ⟨q, rfl, hrow, hb1⟩
  have B1 : Hid (Below W.heap.size W w1) := HDR.out.trans (hb1.mono HDR.out.size)
  have AL : Hid (AtL (fun b => W.drew.heap.size ≤ b ∧ b < w1.heap.size) w1 (tgL (nm, r, sl, at_, si, st) at_) q) := flatS.row_at hrow (fun g hg => World.ownsRow.lt hrow g hg) (fun y hy => tg_max SLM.out hy)
  obtain ⟨oq, kq, hq⟩ := Row.form hrow
  have bw1 : Hid (Below w.heap.size w w1) := BW.out.trans (B1.out.mono BW.out.size)
  subst hq
  refine ⟨_, rfl, regrown_of_below B1.out, ?_⟩
  clear hb1 hrow
  simp only [Act.put, List.setIfInBounds_toArray, List.set_cons_zero, List.set_cons_succ]
  refine call1 (md := .any) (f := 0) (i := 6) (dc := 13) (fn := 115) ⟨rfl, rfl, rfl, by decide⟩ (by kernel_rfl) ?run2 ((equT_any S _ ne _ on oq nn kn _ kq w1 (HE.out w1 bw1.out) AL.out (HS.out w1 bw1.out) (fun b hb => hb.2)).mono ?_)
  case run2 => go_simp
  rintro e w2 ⟨rfl, hb2⟩
  have B2 : Hid (Below W.heap.size W w2) := B1.out.trans (hb2.mono B1.out.size)
  refine ⟨_, rfl, regrown_of_below B2.out, ?_⟩
  clear hb2 AL bw1
  refine ⟨by kernel_rfl, ?_⟩
  simp only [List.drop_succ_cons, List.drop_zero, Act.put, List.setIfInBounds_toArray, List.set_cons_zero, List.set_cons_succ]
  obtain ⟨bw2', y0, y1, y2, y3, y4, y5, z0, z1, z2⟩ := Y.out w2 B2.out
  have bw2 : Hid _ := bw2'
  clear bw2'
  cases c : alkB ne (tgL (nm, r, sl, at_, si, st) at_)
  · have er : Hid (V = false) := V1.out c
    go_wp2_with fail
    go_ret
    rw [er.out]
    exact ⟨rfl, bw2.out⟩
  have C4 : Hid _ := pace_any nm at_ si st o1 o2 n1 k1 n2 k2 w2
  by_cases hsi : si = -1
  · have er : Hid (V = true) := V2.out c hsi
    subst hsi
    rw [pa_w] at C4
    go_wp2_with fail
    refine Calls.mono C4.out ?_; rintro e w3 ⟨rfl, hb3⟩
    have B3 : Hid (Below w.heap.size w w3) := bw2.out.trans (hb3.mono bw2.out.size)
    clear hb3 C4 y0 y1 y2 y3 y4 y5 z0 z1 z2
    go_wp2_with fail
    refine wp_region_quiet_below (by kernel_rfl) (by kernel_rfl) ?_
    repeat (first | go_big_quiet_step (fail) | quiet_step (fail))
    refine wpQuiet_nil ?_
    intro _ hw'
    obtain ⟨⟨dq, osq⟩, hw''⟩ := hw'
    subst hw''
    go_wp2_with fail
    go_ret
    rw [er.out]
    exact ⟨rfl, (B3.out.alloc B3.out.size _).trans ((below_regrown _ dq osq).mono (by have := B3.out.size; simp; omega))⟩
  have er : Hid (V = subB ha (owL (nm, r, sl, at_, si, st))) := V3.out c hsi
  rw [pa_g hsi] at C4
  go_wp2_with fail
  refine Calls.mono C4.out ?_; rintro e w3 ⟨rfl, hb3⟩
  have B3 : Hid (Below W.heap.size W w3) := B2.out.trans (hb3.mono B2.out.size)
  clear hb3 C4 y0 y1 y2 y3 y4 y5 z0 z1 z2
  obtain ⟨x3, hx3⟩ : ∃ x3, x3 = w3.alloc (.cells #[.int .i64 si] 83) := ⟨_, rfl⟩
  have EX3 : Hid (x3 = w3.alloc (.cells #[.int .i64 si] 83)) := hx3
  have BX3 : Hid (Below W.heap.size W x3) := by rw [hx3]; exact B3.out.alloc B3.out.size _
  clear hx3
  obtain ⟨bw3', y0, y1, y2, y3, y4, y5, z0, z1, z2⟩ := Y.out x3 BX3.out
  have bw3 : Hid _ := bw3'
  clear bw3'
  go_upto_region 4 with fail
  rw [← EX3.out]
  have HDR3 : Hid (Below x3.heap.size x3 x3.drew) := (Below.refl _ _).drew
  have q0 := fun d os => cell_regrown y0 d os
  have q1 := fun d os => cell_regrown y1 d os
  have q2 := fun d os => cell_regrown y2 d os
  have q3 := fun d os => cell_regrown y3 d os
  have q4 := fun d os => cell_regrown y4 d os
  have q5 := fun d os => cell_regrown y5 d os
  have p0 := fun d os => cell_regrown z0 d os
  have p1 := fun d os => cell_regrown z1 d os
  have p2 := fun d os => cell_regrown z2 d os
  clear y0 y1 y2 y3 y4 y5 z0 z1 z2
  refine wp_region_guarded 9 [0] (by kernel_rfl) (by kernel_rfl) ?_
  simp only [List.filterMap_cons, List.filterMap_nil, List.getElem?_cons_zero]
  show wpQuiet _ _ _ _ [_] _
  repeat (first | go_big_quiet_step (fail) | quiet_step (fail))
  refine wpQuiet_nil ?_
  refine oneGX (i := 1) (dc := 22) (.bool false) ⟨rfl, rfl, by decide⟩ (by kernel_rfl) rfl ?run (regrown_of_below HDR3.out) ?_
  case run => go_simp
  simp only [Act.put, List.setIfInBounds_toArray, List.set_cons_zero, List.set_cons_succ]
  refine lexG (g := 3) [2, 3, 5, 6] (by kernel_rfl) (regrown_of_below HDR3.out) ?_
  simp only [List.filterMap_cons, List.filterMap_nil, List.getElem?_cons_succ, List.getElem?_cons_zero]
  show wpQuiet _ _ _ _ [_, _, _, _] _
  repeat (first | go_big_quiet_step (fail) | quiet_step (fail))
  refine wpQuiet_nil ?_
  clear q0 q1 q2 q3 q4 q5 p0 p1 p2
  have bd3 : Hid (Below w.heap.size w x3.drew) := bw3.out.trans (HDR3.out.mono bw3.out.size)
  refine callG (md := .any) (f := 2) (i := 4) (dc := 25) (fn := 117) ⟨rfl, rfl, by decide⟩ (by kernel_rfl) ?want ?run ((ownI_any S nm r sl at_ si st o1 o2 n1 k1 n2 k2 x3.drew HN.out (HR.out _ bd3.out) (HA.out _ bd3.out) (HS.out _ bd3.out) TR.out TS.out).mono ?_)
  case want => rfl
  case run => go_simp
  rintro e w4 ⟨q, rfl, hrow, hb4⟩
  have C4 : Hid (Below x3.heap.size x3 w4) := HDR3.out.trans (hb4.mono HDR3.out.size)
  have bw4 : Hid (Below w.heap.size w w4) := bw3.out.trans (C4.out.mono bw3.out.size)
  have AO : Hid (AtL (fun b => x3.drew.heap.size ≤ b ∧ b < w4.heap.size) w4 (owL (nm, r, sl, at_, si, st)) q) := flatS.row_at hrow (fun g hg => World.ownsRow.lt hrow g hg) (fun y hy => ow_max SLM.out hy)
  obtain ⟨oq, kq, hq⟩ := Row.form hrow
  subst hq
  refine ⟨_, rfl, regrown_of_below C4.out, ?_⟩
  clear hb4 hrow
  simp only [Act.put, List.setIfInBounds_toArray, List.set_cons_zero, List.set_cons_succ]
  refine callG (md := .any) (f := 1) (i := 7) (dc := 28) (fn := 118) ⟨rfl, rfl, by decide⟩ (by kernel_rfl) ?want ?run ((isOf_any _ S _ _ _ ha w4 AO.out (HH.out w4 bw4.out) (fun b hb => hb.2) (HS.out w4 bw4.out)).mono ?_)
  case want => rfl
  case run => go_simp
  rintro e w5 ⟨rfl, hb5⟩
  have C5 : Hid (Below x3.heap.size x3 w5) := C4.out.trans (hb5.mono C4.out.size)
  have B5 : Hid (Below w.heap.size w w5) := bw4.out.trans (hb5.mono bw4.out.size)
  refine ⟨_, rfl, regrown_of_below C5.out, ?_⟩
  rw [← er.out]
  clear hb5
  simp only [Act.put, List.setIfInBounds_toArray, List.set_cons_zero, List.set_cons_succ]
  refine lexG (g := 0) [8] (by kernel_rfl) (regrown_of_below C5.out) ?_
  simp only [List.filterMap_cons, List.filterMap_nil, List.getElem?_cons_succ, List.getElem?_cons_zero]
  show wpQuiet _ _ _ _ [_] _
  repeat (first | go_big_quiet_step (fail) | quiet_step (fail))
  refine wpQuiet_nil ?_
  refine ⟨by kernel_rfl, ?_⟩
  simp only [List.drop_succ_cons, List.drop_zero]
  go_wp2_with fail
  go_ret
  exact ⟨rfl, B5.out⟩
end Go.Proofs.YtobchllaopdchacGreat

namespace Go.Proofs.YtobchllaopdchacGreat
open Go.RowKit Go.Sort
noncomputable def nedB (Bs : List DShareBatch) (b : DRunBatch) : Bool := match Bs[(atZI Bs b.1).toNat]? with | some f => shrB b f.2.1 f.2.2 | none => false
theorem ned_at {Bs : List DShareBatch} {b : DRunBatch} {q : Nat} (hq : q < Bs.length) (h : atZI Bs b.1 = (q : Int)) : nedB Bs b = shrB b Bs[q].2.1 Bs[q].2.2 := by
  unfold nedB
  rw [h, Int.toNat_natCast, List.getElem?_eq_getElem hq]
set_option maxRecDepth 100000 in
set_option maxHeartbeats 8000000 in
theorem needs1_any (S : Nat → Prop) (nm : ByteArray) (r : List DRecPhase) (sl : List DRunSlot) (at_ : ByteArray) (si st : Int) (o1 o2 : Option Addr) (n1 k1 n2 k2 : Nat) (Bs : List DShareBatch) (p2 p3 : Option Addr) (m2 l2 m3 l3 hb : Nat) (w : World) (hn : nm.size ≤ maxLen) (hr : AtL S w r (.slice o1 n1 k1)) (h : AtL S w sl (.slice o2 n2 k2)) (hB : AtL S w Bs (.slice p3 m3 l3)) (hS : ∀ b, S b → b < w.heap.size) (tr : totL r ≤ 1048576) (ts : totL sl ≤ 1048576) (hx : at_.size ≤ 1048576) (hf : ¬ atZI Bs nm < 0) (h2 : w.cell? ⟨hb, 2, none⟩ = some (.slice p2 m2 l2)) (h3 : w.cell? ⟨hb, 3, none⟩ = some (.slice p3 m3 l3)) (hlt : hb < w.heap.size) :
    Calls Tryz.prog 82 #[.agg #[.string nm, .slice o1 n1 k1, .slice o2 n2 k2, .string at_, .int .i64 si, .int .i64 st], .pointer (some ⟨hb, 0, none⟩)] w fun e w' => e = .returned (.bool (!(nedB Bs (nm, r, sl, at_, si, st)))) ∧ Below w.heap.size w w' := by
  have HN : Hid (nm.size ≤ maxLen) := hn
  have TR : Hid (totL r ≤ 1048576) := tr
  have TS : Hid (totL sl ≤ 1048576) := ts
  have TX : Hid (at_.size ≤ 1048576) := hx
  obtain ⟨q, eq, hqb⟩ := at_lt hf
  have EQ : Hid (atZI Bs nm = (q : Int)) := eq
  obtain ⟨V, hV⟩ : ∃ V, V = nedB Bs (nm, r, sl, at_, si, st) := ⟨_, rfl⟩
  have EV : Hid (V = shrB (nm, r, sl, at_, si, st) Bs[q].2.1 Bs[q].2.2) := by show _ = _; rw [hV]; exact ned_at hqb eq
  rw [← hV]
  clear hV hf eq
  obtain ⟨W, EW, BW, RW, sW⟩ := box_new w #[.string nm, .slice o1 n1 k1, .slice o2 n2 k2, .string at_, .int .i64 si, .int .i64 st] 49
  have HR : Hid _ := hr.ups hS
  have HA : Hid _ := h.ups hS
  have HB : Hid _ := hB.ups hS
  have HS : Hid _ := lt_up hS
  have hqm : Hid (q < m3) := by have en : Bs.length = m3 := by { obtain ⟨_, _, e, _⟩ := hB; cases e; rfl }
                                show _ < _; omega
  obtain ⟨bb, off, oh, nh, kh, on, nn, kn, rfl, hbS, e0, e1, e2, AH, AN, z0⟩ := bat_at hB q hqb
  have hbw := hS bb hbS
  have HH : Hid (∀ u, Below w.heap.size w u → AtL S u Bs[q].2.1 (.slice oh nh kh) ∧ AtL S u Bs[q].2.2 (.slice on nn kn)) := fun u hu => ⟨AH.same (Same.of_below hu hS), AN.same (Same.of_below hu hS)⟩
  obtain ⟨x, ex⟩ : ∃ x, Bs[q].1 = x := ⟨_, rfl⟩
  rw [ex] at e0
  have Y : Hid (∀ u, Below W.heap.size W u → Below w.heap.size w u ∧ u.cell? ⟨w.heap.size, 0, none⟩ = some (.string nm) ∧ u.cell? ⟨w.heap.size, 1, none⟩ = some (.slice o1 n1 k1) ∧ u.cell? ⟨w.heap.size, 2, none⟩ = some (.slice o2 n2 k2) ∧ u.cell? ⟨w.heap.size, 3, none⟩ = some (.string at_) ∧ u.cell? ⟨w.heap.size, 4, none⟩ = some (.int .i64 si) ∧ u.cell? ⟨w.heap.size, 5, none⟩ = some (.int .i64 st) ∧ u.cell? ⟨hb, 2, none⟩ = some (.slice p2 m2 l2) ∧ u.cell? ⟨hb, 3, none⟩ = some (.slice (some ⟨bb, off, none⟩) m3 l3) ∧ u.cell? ⟨bb, off + q * 3, none⟩ = some (.string x) ∧ u.cell? ⟨bb, off + q * 3 + 1, none⟩ = some (.slice oh nh kh) ∧ u.cell? ⟨bb, off + q * 3 + 2, none⟩ = some (.slice on nn kn)) := fun u hu => by
    have B : Below w.heap.size w u := BW.out.trans (hu.mono (by omega))
    have p := fun i v h => (cell_row ((hu.block _ (by omega)).trans RW.out) i v h).1
    exact ⟨B, p 0 _ rfl, p 1 _ rfl, p 2 _ rfl, p 3 _ rfl, p 4 _ rfl, p 5 _ rfl, (B.cell (p := ⟨hb, 2, none⟩) hlt).trans h2, (B.cell (p := ⟨hb, 3, none⟩) hlt).trans h3, (B.cell (p := ⟨bb, off + q * 3, none⟩) hbw).trans e0, (B.cell (p := ⟨bb, off + q * 3 + 1, none⟩) hbw).trans e1, (B.cell (p := ⟨bb, off + q * 3 + 2, none⟩) hbw).trans e2⟩
  clear hr h hB hS hn tr ts hx h2 h3 e0 e1 e2 AH AN z0 ex
  obtain ⟨_, y0, y1, y2, y3, y4, y5, z2, z3, x0, x1, x2⟩ := Y.out W (Below.refl _ _)
  go_enter Tryz.func82, Tryz.ntmps82
  go_upto_region 1 with fail
  rw [← EW.out]
  have HDR : Hid (Below W.heap.size W W.drew) := (Below.refl _ _).drew
  have q0 := fun d os => cell_regrown y0 d os
  have q1 := fun d os => cell_regrown y1 d os
  have q2 := fun d os => cell_regrown y2 d os
  have q3 := fun d os => cell_regrown y3 d os
  have q4 := fun d os => cell_regrown y4 d os
  have q5 := fun d os => cell_regrown y5 d os
  have g2 := fun d os => cell_regrown z2 d os
  have g3 := fun d os => cell_regrown z3 d os
  have w0 := fun d os => cell_regrown x0 d os
  have w1 := fun d os => cell_regrown x1 d os
  have w2 := fun d os => cell_regrown x2 d os
  clear y0 y1 y2 y3 y4 y5 z2 z3 x0 x1 x2
  have bdr : Hid (Below w.heap.size w W.drew) := BW.out.trans (HDR.out.mono BW.out.size)
  have CA : Hid (Calls Tryz.prog 84 #[.agg #[.slice p2 m2 l2, .slice (some ⟨bb, off, none⟩) m3 l3], .string nm] W.drew fun e w' => e = .returned (.int .i64 (q : Int)) ∧ Below W.drew.heap.size W.drew w') := by
    have := batchAtI_any S (.slice p2 m2 l2) _ Bs nm W.drew (HB.out _ bdr.out) (HS.out _ bdr.out)
    rw [show idxI Bs (fun p : DShareBatch => eqB p.1 nm) = (q : Int) from EQ.out] at this
    exact this
  have hqn : q < m3 := hqm.out
  have hng0 : ¬ ((q : Int) < 0) := by omega
  refine wp_region_guarded 13 [0, 1, 2, 3, 4, 5, 6, 7] (by kernel_rfl) (by kernel_rfl) ?_
  simp only [List.filterMap_cons, List.filterMap_nil, List.getElem?_cons_succ, List.getElem?_cons_zero]
  repeat (first | go_big_quiet_step (fail) | quiet_step (fail))
  refine wpQuiet_nil ?_
  refine callG (md := .any) (f := 4) (i := 8) (dc := 12) (fn := 84) ⟨rfl, rfl, by decide⟩ (by kernel_rfl) ?want ?run (Calls.mono CA.out ?_)
  case want => rfl
  case run => go_simp
  rintro e w3 ⟨rfl, hb3⟩
  have C3 : Hid (Below W.heap.size W w3) := HDR.out.trans (hb3.mono HDR.out.size)
  have bw3 : Hid (Below w.heap.size w w3) := BW.out.trans (C3.out.mono BW.out.size)
  refine ⟨_, rfl, regrown_of_below C3.out, ?_⟩
  clear hb3 CA
  simp only [Act.put, List.setIfInBounds_toArray, List.set_cons_zero, List.set_cons_succ]
  refine lexG (g := 2) [9, 10] (by kernel_rfl) (regrown_of_below C3.out) ?_
  simp only [List.filterMap_cons, List.filterMap_nil, List.getElem?_cons_succ, List.getElem?_cons_zero]
  show wpQuiet _ _ _ _ [_, _] _
  repeat (first | go_big_quiet_step (fail) | quiet_step (fail))
  refine wpQuiet_nil ?_
  refine callG (md := .any) (f := 1) (i := 11) (dc := 15) (fn := 83) ⟨rfl, rfl, by decide⟩ (by kernel_rfl) ?want ?run ((sharesAs_any S nm r sl at_ si st o1 o2 n1 k1 n2 k2 x Bs[q].2.1 Bs[q].2.2 oh on nh kh nn kn w3 HN.out (HR.out _ bw3.out) (HA.out _ bw3.out) (HH.out _ bw3.out).1 (HH.out _ bw3.out).2 (HS.out _ bw3.out) TR.out TS.out TX.out).mono ?_)
  case want => rfl
  case run => go_simp
  rintro e w4 ⟨rfl, hb4⟩
  rw [← EV.out]
  have C4 : Hid (Below W.heap.size W w4) := C3.out.trans (hb4.mono C3.out.size)
  have bw4 : Hid (Below w.heap.size w w4) := BW.out.trans (C4.out.mono BW.out.size)
  refine ⟨_, rfl, regrown_of_below C4.out, ?_⟩
  clear hb4
  simp only [Act.put, List.setIfInBounds_toArray, List.set_cons_zero, List.set_cons_succ]
  refine oneGX (i := 12) (dc := 16) (.bool (!V)) ⟨rfl, rfl, by decide⟩ (by kernel_rfl) rfl ?run (regrown_of_below C4.out) ?_
  case run => go_simp
  simp only [Act.put, List.setIfInBounds_toArray, List.set_cons_zero, List.set_cons_succ]
  refine ⟨by kernel_rfl, ?_⟩
  simp only [List.drop_succ_cons, List.drop_zero]
  go_wp2_with fail
  go_ret
  exact ⟨rfl, bw4.out⟩
set_option maxRecDepth 100000 in
set_option maxHeartbeats 8000000 in
theorem needIdx_any (S : Nat → Prop) (Ba : List DRunBatch) (oa : Option Addr) (n cap : Nat) (Bs : List DShareBatch) (p2 p3 : Option Addr) (m2 l2 m3 l3 hb : Nat) (w : World) (h : AtL S w Ba (.slice oa n cap)) (hB : AtL S w Bs (.slice p3 m3 l3)) (hS : ∀ b, S b → b < w.heap.size) (hT : ∀ i (hi : i < Ba.length), totL Ba[i].2.1 ≤ 1048576 ∧ totL Ba[i].2.2.1 ≤ 1048576 ∧ Ba[i].2.2.2.1.size ≤ 1048576) (hf : ∀ i (hi : i < Ba.length), ¬ atZI Bs Ba[i].1 < 0) (h2 : w.cell? ⟨hb, 2, none⟩ = some (.slice p2 m2 l2)) (h3 : w.cell? ⟨hb, 3, none⟩ = some (.slice p3 m3 l3)) (hlt' : hb < w.heap.size) :
    Calls Tryz.prog 114 #[.slice oa n cap, .func (.func 82) #[] #[.pointer (some ⟨hb, 0, none⟩)]] w fun e w' => e = .returned (.int .i64 (idxI Ba (fun d => !(nedB Bs d)))) ∧ Below w.heap.size w w' := by
  have en : Ba.length = n := by obtain ⟨_, _, e, _⟩ := h; cases e; rfl
  have hmx : n ≤ 9223372036854775807 := by obtain ⟨_, _, e, hf, _⟩ := id h; cases e; have := hf.1; unfold maxLen at this; omega
  have EN : Hid (Ba.length ≤ n ∧ n ≤ Ba.length) := ⟨by omega, by omega⟩
  have H : Hid _ := h.ups hS
  have HB : Hid _ := hB.ups hS
  have HS : Hid _ := lt_up hS
  have HT : Hid _ := hT
  have HF : Hid _ := hf
  have HX : Hid (∀ u, Below w.heap.size w u → u.cell? ⟨hb, 2, none⟩ = some (.slice p2 m2 l2) ∧ u.cell? ⟨hb, 3, none⟩ = some (.slice p3 m3 l3)) := fun u hu => ⟨(hu.cell (p := ⟨hb, 2, none⟩) hlt').trans h2, (hu.cell (p := ⟨hb, 3, none⟩) hlt').trans h3⟩
  obtain ⟨V, hV⟩ : ∃ V, V = idxI Ba (fun d => !(nedB Bs d)) := ⟨_, rfl⟩
  have NO : Hid ((∀ i (hi : i < Ba.length), nedB Bs Ba[i] = true) → V = -1) := fun h => by rw [hV]; exact idx_no (fun i hi => by show (!(nedB Bs Ba[i])) = false; rw [h i hi]; rfl)
  have HIT : Hid (∀ k (hk : k < Ba.length), nedB Bs Ba[k] = false → (∀ j (hj : j < Ba.length), j < k → nedB Bs Ba[j] = true) → V = (k : Int)) := fun k hk h1 h2 => by
    rw [hV]
    exact idx_yes hk (by show (!(nedB Bs Ba[k])) = true; rw [h1]; rfl) (fun j hj hjk => by show (!(nedB Bs Ba[j])) = false; rw [h2 j hj hjk]; rfl)
  rw [← hV]
  clear h hB hS hT hf h2 h3 en hV
  go_enter Tryz.func114, Tryz.ntmps114
  go_wp2_with fail
  go_loopw [8] (fun i wr => ∃ k : Nat, k ≤ n ∧ i = .int .i64 k ∧ Hid (∀ j (hj : j < Ba.length), j < k → nedB Bs Ba[j] = true) ∧ Hid (Below w.heap.size w wr)) (fun i _ => n - (intOf i).toNat)
  case atStart => exact ⟨0, Nat.zero_le _, rfl, fun _ _ h => by omega, Below.refl _ _⟩
  case round =>
    obtain ⟨k, hk, rfl, hall, hbel⟩ := hrel
    have hs := hbel.out.size
    by_cases hlt : k < n
    case neg =>
      have AV : Hid (V = -1) := NO.out (fun i hi => hall.out i hi (by have := EN.out; omega))
      go_wp2_with fail
      go_ret
      rw [AV.out]
      exact ⟨rfl, hbel.out⟩
    have hks : k < Ba.length := by have := EN.out; omega
    obtain ⟨b, off, o1, o2, n1, k1, n2, k2, rfl, hbS, c0, c1, c2, c3, c4, c5, z0, hr, hsl⟩ := rb_at (H.out wr hbel.out) k hks
    obtain ⟨f, ef⟩ : ∃ f, Ba[k] = f := ⟨_, rfl⟩
    have T2 := HT.out k hks
    have T3 := HF.out k hks
    rw [ef] at c0 c3 c4 c5 z0 hr hsl T2 T3
    obtain ⟨nm, r, sl, at_, si, st⟩ := f
    simp only at c0 c3 c4 c5 z0 hr hsl T2 T3
    have EF : Hid (Ba[k] = (nm, r, sl, at_, si, st)) := ef
    have FX : Hid (AtL S wr r (.slice o1 n1 k1) ∧ AtL S wr sl (.slice o2 n2 k2) ∧ nm.size ≤ maxLen ∧ totL r ≤ 1048576 ∧ totL sl ≤ 1048576 ∧ at_.size ≤ 1048576 ∧ ¬ atZI Bs nm < 0) := ⟨hr, hsl, z0, T2.1, T2.2.1, T2.2.2, by omega⟩
    have HSR : Hid _ := HS.out wr hbel.out
    have CW : Hid (Calls Tryz.prog 82 #[.agg #[.string nm, .slice o1 n1 k1, .slice o2 n2 k2, .string at_, .int .i64 si, .int .i64 st], .pointer (some ⟨hb, 0, none⟩)] wr fun e w' => e = .returned (.bool (!(nedB Bs (nm, r, sl, at_, si, st)))) ∧ Below wr.heap.size wr w') :=
      needs1_any S nm r sl at_ si st o1 o2 n1 k1 n2 k2 Bs p2 p3 m2 l2 m3 l3 hb wr FX.out.2.2.1 FX.out.1 FX.out.2.1 (HB.out wr hbel.out) HSR.out FX.out.2.2.2.1 FX.out.2.2.2.2.1 FX.out.2.2.2.2.2.1 FX.out.2.2.2.2.2.2 (HX.out wr hbel.out).1 (HX.out wr hbel.out).2 (by omega)
    clear z0 hr hsl T2 T3 ef
    cases c : nedB Bs (nm, r, sl, at_, si, st)
    · have AV : Hid (V = (k : Int)) := HIT.out k hks (by rw [EF.out]; exact c) hall.out
      rw [c] at CW
      go_wp2_with fail
      refine Calls.mono CW.out ?_; rintro e w1 ⟨rfl, hb1⟩
      have B1 : Hid (Below w.heap.size w w1) := hbel.out.trans (hb1.mono hs)
      clear hb1
      go_wp2_with fail
      go_ret
      rw [AV.out]
      exact ⟨rfl, B1.out⟩
    · have HP : Hid (nedB Bs Ba[k] = true) := by show _ = _; rw [EF.out]; exact c
      rw [c] at CW
      go_wp2_with fail
      refine Calls.mono CW.out ?_; rintro e w1 ⟨rfl, hb1⟩
      have B1 : Hid (Below w.heap.size w w1) := hbel.out.trans (hb1.mono hs)
      clear hb1
      go_wp2_with fail
      go_roundw
      case rel => exact ⟨k + 1, by omega, by go_num, fun j hj hjk => by
        by_cases e : j = k
        · subst e; exact HP.out
        · exact hall.out j hj (by omega), B1.out⟩
      case measure => simp [intOf]; omega
noncomputable def nedA (Bs : List DShareBatch) (Ba : List DRunBatch) : Bool := !(decide (0 ≤ idxI Ba (fun d => !(nedB Bs d))))
set_option maxRecDepth 100000 in
set_option maxHeartbeats 8000000 in
theorem needHas_any (S : Nat → Prop) (Ba : List DRunBatch) (oa : Option Addr) (n cap : Nat) (Bs : List DShareBatch) (p2 p3 : Option Addr) (m2 l2 m3 l3 hb : Nat) (w : World) (h : AtL S w Ba (.slice oa n cap)) (hB : AtL S w Bs (.slice p3 m3 l3)) (hS : ∀ b, S b → b < w.heap.size) (hT : ∀ i (hi : i < Ba.length), totL Ba[i].2.1 ≤ 1048576 ∧ totL Ba[i].2.2.1 ≤ 1048576 ∧ Ba[i].2.2.2.1.size ≤ 1048576) (hf : ∀ i (hi : i < Ba.length), ¬ atZI Bs Ba[i].1 < 0) (h2 : w.cell? ⟨hb, 2, none⟩ = some (.slice p2 m2 l2)) (h3 : w.cell? ⟨hb, 3, none⟩ = some (.slice p3 m3 l3)) (hlt' : hb < w.heap.size) :
    Calls Tryz.prog 81 #[.slice oa n cap, .func (.func 82) #[] #[.pointer (some ⟨hb, 0, none⟩)]] w fun e w' => e = .returned (.bool (decide (0 ≤ idxI Ba (fun d => !(nedB Bs d))))) ∧ Below w.heap.size w w' := by
  have C0 := needIdx_any S Ba oa n cap Bs p2 p3 m2 l2 m3 l3 hb w h hB hS hT hf h2 h3 hlt'
  clear h hB hS hT hf h2 h3
  obtain ⟨V, hV⟩ : ∃ V, V = idxI Ba (fun d => !(nedB Bs d)) := ⟨_, rfl⟩
  rw [← hV] at C0 ⊢
  clear hV
  have C : Hid _ := C0
  clear C0
  go_enter Tryz.func81, Tryz.ntmps81
  go_wp2_with fail
  refine Calls.mono C.out ?_; rintro e w1 ⟨rfl, hb1⟩
  have HB : Hid _ := hb1
  clear hb1 C
  go_wp2_with fail
  go_ret
  exact ⟨rfl, HB.out⟩
set_option maxRecDepth 100000 in
set_option maxHeartbeats 8000000 in
theorem needsP_any (S : Nat → Prop) (now last : Int) (o2 o3 o4 o5 : Option Addr) (n2 k2 n3 k3 n4 k4 n5 k5 : Nat) (Bs : List DShareBatch) (Ba : List DRunBatch) (w : World) (hB : AtL S w Bs (.slice o3 n3 k3)) (h : AtL S w Ba (.slice o4 n4 k4)) (hS : ∀ b, S b → b < w.heap.size) (hT : ∀ i (hi : i < Ba.length), totL Ba[i].2.1 ≤ 1048576 ∧ totL Ba[i].2.2.1 ≤ 1048576 ∧ Ba[i].2.2.2.1.size ≤ 1048576) (hf : ∀ i (hi : i < Ba.length), ¬ atZI Bs Ba[i].1 < 0) :
    Calls Tryz.prog 44 #[.agg #[.int .i64 now, .int .i64 last, .slice o2 n2 k2, .slice o3 n3 k3, .slice o4 n4 k4, .slice o5 n5 k5]] w fun e w' => e = .returned (.bool (nedA Bs Ba)) ∧ Below w.heap.size w w' := by
  have hmf : ∀ (fn : Fn) (first cap : Array Value) (w : World), (Instr.makeFunc fn first cap).run Tryz.prog w = .ok (.func fn first cap) w := fun _ _ _ _ => rfl
  obtain ⟨W, EW, BW, RW, sW⟩ := box_new w #[.int .i64 now, .int .i64 last, .slice o2 n2 k2, .slice o3 n3 k3, .slice o4 n4 k4, .slice o5 n5 k5] 38
  have BOX : Hid (∀ u, Below W.heap.size W u → u.heap[w.heap.size]? = some (.cells #[.int .i64 now, .int .i64 last, .slice o2 n2 k2, .slice o3 n3 k3, .slice o4 n4 k4, .slice o5 n5 k5] 38 (0, 0)) ∧ Below w.heap.size w u) := fun u hu => ⟨(hu.block _ (by omega)).trans RW.out, BW.out.trans (hu.mono (by omega))⟩
  have C0 := needHas_any S Ba o4 n4 k4 Bs o2 o3 n2 k2 n3 k3 w.heap.size W (h.same (Same.of_below BW.out hS)) (hB.same (Same.of_below BW.out hS)) (fun b hb => Nat.lt_of_lt_of_le (hS b hb) BW.out.size) hT hf (cell_row RW.out 2 _ rfl).1 (cell_row RW.out 3 _ rfl).1 (by omega)
  have y4 := (cell_row RW.out 4 _ rfl).1
  clear h hS hT hf hB
  obtain ⟨V, hV⟩ : ∃ V, V = decide (0 ≤ idxI Ba (fun d => !(nedB Bs d))) := ⟨_, rfl⟩
  have EV : Hid (nedA Bs Ba = !V) := by show _ = _; rw [hV]; rfl
  rw [← hV] at C0
  rw [EV.out]
  clear hV
  have C : Hid _ := C0
  clear C0
  go_enter Tryz.func44, Tryz.ntmps44
  go_upto_region 1 with fail
  rw [← EW.out]
  go_wp2_with fail
  refine Calls.mono C.out ?_; rintro e w1 ⟨rfl, hb1⟩
  have HB : Hid (Below w.heap.size w w1) := BW.out.trans (hb1.mono BW.out.size)
  clear hb1 C y4
  go_wp2_with fail
  go_ret
  exact ⟨rfl, HB.out⟩
end Go.Proofs.YtobchllaopdchacGreat

namespace Go.Proofs.YtobchllaopdchacGreat
open Go.RowKit
structure ButR (T : Nat → Prop) (B : Nat) (A C : World) : Prop where
  os : C.os = A.os
  tape : C.tape = A.tape
  output : C.output = A.output
  size : A.heap.size ≤ C.heap.size
  block : ∀ b, b < A.heap.size → ¬ T b → ¬ (B ≤ b ∧ ∃ o : Obj, A.heap[b]? = some o ∧ o.isCells = false) → C.heap[b]? = A.heap[b]?
theorem ButR.of_but {T : Nat → Prop} {B : Nat} {A C : World} (h : But T A C) : ButR T B A C := ⟨h.os, h.tape, h.output, h.size, fun b hb hn _ => h.block b hb hn⟩
theorem ButR.of_below {T : Nat → Prop} {B : Nat} {A C : World} (h : Below A.heap.size A C) : ButR T B A C := ⟨h.os, h.tape, h.output, h.size, fun b hb _ _ => h.block b hb⟩
theorem ButR.put {T : Nat → Prop} {B : Nat} {A : World} {l : Nat} {o : Obj} (hl : A.heap[l]? = some o) (ho : o.isCells = false) (hB : B ≤ l) (o' : Obj) : ButR T B A (A.putObj l o') :=
  have g := grownBy_putObj' A l o'
  ⟨g.os, g.tape, g.output, g.size, fun b hb _ hr => g.block b hb (fun e => hr (by cases e; exact ⟨hB, o, hl, ho⟩))⟩
def postL (own : World → Nat → Prop) (n₀ : Nat) (I : Nat → World → Prop) (Ix : Code → Nat → World → Prop) (k : Nat) (W : World) : Exit → Act → World → Prop
  | .normal, _, W' => KeepsOthers W W' ∧ KpO own n₀ W W' ∧ I (k + 1) W'
  | .exit id, _, W' => KeepsOthers W W' ∧ Ix (.exit id) k W'
  | _, _, _ => False
variable {F : Fence} {n : Nat} {P : Program}
end Go.Proofs.YtobchllaopdchacGreat
