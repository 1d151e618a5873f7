/-
  Several texts in one.
-/
import Derived.Test.YtobchllaopdchacGreatM3
import Derived.Test.YtobchllaopdchacGreatM6
import Derived.Test.YtobchllaopdchacGreatM5
namespace Go.Proofs.YtobchllaopdchacGreat
open Go.RowKit
set_option maxRecDepth 100000 in
set_option maxHeartbeats 4000000 in
theorem bothX_any (base g cap : Nat) (a b : List ByteArray) (vb : Value) (w : World) (ha : w.ownsRow base 9 1 (.slice (some ⟨g, 0, none⟩) a.length cap) a.length (a.map .string)) (hb : RdB w vb b) (hl : a.length + b.length ≤ 1000000) (hbase : base ≤ w.heap.size) :
    Calls Tryz.prog 134 #[.slice (some ⟨g, 0, none⟩) a.length cap, vb] w fun e w' => ∃ g' cap', e = .returned (.slice (some ⟨g', 0, none⟩) (bothL a b).length cap') ∧ w'.ownsRow base 9 1 (.slice (some ⟨g', 0, none⟩) (bothL a b).length cap') (bothL a b).length ((bothL a b).map .string) ∧ Below w.heap.size w w' := by
  obtain ⟨ob, cb, rfl, hc⟩ := hb
  have HC : Hid _ := hc
  have HA : Hid (w.ownsRow base 9 1 (.slice (some ⟨g, 0, none⟩) a.length cap) a.length (a.map .string)) := ha
  have hcap : a.length ≤ cap := (own_cells ha).1
  obtain ⟨n, en⟩ : ∃ n, b.length = n := ⟨_, rfl⟩
  have EN : Hid (b.length = n) := en
  rw [en]
  rw [en] at hl
  clear hc ha en
  obtain ⟨la, ela⟩ : ∃ n, a.length = n := ⟨_, rfl⟩
  rw [ela] at hl
  have ELA : Hid (a.length = la) := ela
  rw [ela]
  clear ela hcap
  go_enter Tryz.func134, Tryz.ntmps134
  go_wp2
  go_loopw [0, 5] (fun av i wr => ∃ (k l g cap : Nat), k ≤ n ∧ i = .int .i64 k ∧ av = .slice (some ⟨g, 0, none⟩) l cap ∧ l ≤ la + k ∧ Hid ((bothL a (b.take k)).length = l) ∧ Hid (wr.ownsRow base 9 1 (.slice (some ⟨g, 0, none⟩) (bothL a (b.take k)).length cap) (bothL a (b.take k)).length ((bothL a (b.take k)).map .string)) ∧ Hid (Below w.heap.size w wr)) (fun _ i _ => n - (intOf i).toNat)
  case atStart => exact ⟨0, la, g, cap, Nat.zero_le _, rfl, rfl, by omega, ELA.out, HA.out, Below.refl _ _⟩
  case round =>
    obtain ⟨k, l, g, cap, hk, rfl, rfl, hlk, hlen, hown, hbel⟩ := hrel
    by_cases hlt : k < n
    · obtain ⟨gb, rfl, hgb, hcell⟩ := HC.out k (by rw [EN.out]; exact hlt)
      have e0 : wr.cell? ⟨gb, k, none⟩ = some (.string (nthB b k)) := (hbel.out.cell hgb).trans hcell
      have hs := hbel.out.size
      have NEXT : Hid (bothL a (b.take (k + 1)) = insR (bothL a (b.take k)) (nthB b k)) := both_take a b (by rw [EN.out]; exact hlt)
      have CI : Hid (Calls Tryz.prog 135 #[.slice (some ⟨g, 0, none⟩) l cap, .string (nthB b k)] wr fun e w' => ∃ g' cap', e = .returned (.slice (some ⟨g', 0, none⟩) (bothL a (b.take (k + 1))).length cap') ∧ w'.ownsRow base 9 1 (.slice (some ⟨g', 0, none⟩) (bothL a (b.take (k + 1))).length cap') (bothL a (b.take (k + 1))).length ((bothL a (b.take (k + 1))).map .string) ∧ Below wr.heap.size wr w') := by
        rw [NEXT.out]
        have := insX_any base g cap (bothL a (b.take k)) (nthB b k) wr hown.out (by rw [hlen.out]; omega) (by omega)
        rw [hlen.out] at this
        exact this
      have HL : Hid ((bothL a (b.take (k + 1))).length ≤ l + 1) := by rw [NEXT.out, ← hlen.out]; exact insR_len _ _
      clear hcell hgb
      go_wp2_with fail
      refine CI.out.mono ?_; rintro e u ⟨g', cap', rfl, hown', hbu⟩
      obtain ⟨l', hl'⟩ : ∃ l', (bothL a (b.take (k + 1))).length = l' := ⟨_, rfl⟩
      have HL' : Hid ((bothL a (b.take (k + 1))).length = l') := hl'
      have hll : l' ≤ l + 1 := by have := HL.out; omega
      have HOW : Hid (u.ownsRow base 9 1 (.slice (some ⟨g', 0, none⟩) (bothL a (b.take (k + 1))).length cap') (bothL a (b.take (k + 1))).length ((bothL a (b.take (k + 1))).map .string)) := hown'
      have HB : Hid (Below w.heap.size w u) := hbel.out.trans (hbu.mono hs)
      rw [hl']
      clear hl' hown' hbu
      go_wp2_with fail
      go_roundw
      case rel => exact ⟨k + 1, l', g', cap', by omega, by go_num, rfl, by omega, HL'.out, HOW.out, HB.out⟩
      case measure => simp [intOf]; omega
    · have hkn : k = n := by omega
      subst hkn
      have et : b.take k = b := by rw [← EN.out]; exact List.take_length
      rw [et] at hlen hown
      go_wp2_with fail
      go_ret
      exact ⟨g, cap, by rw [hlen.out]; rfl, hown.out, hbel.out⟩
set_option maxRecDepth 100000 in
set_option maxHeartbeats 4000000 in
theorem ofX_any (nm a b th el : ByteArray) (kd n wi : Int) (w : World) : Calls Tryz.prog 102 #[.agg #[.string nm, .int .i64 kd, .string a, .string b, .int .i64 n, .int .i64 wi, .string th, .string el]] w fun e w' => ∃ g cap, e = .returned (.slice (some ⟨g, 0, none⟩) (ofL (nm, kd, a, b, n, wi, th, el)).length cap) ∧ w'.ownsRow w.heap.size 9 1 (.slice (some ⟨g, 0, none⟩) (ofL (nm, kd, a, b, n, wi, th, el)).length cap) (ofL (nm, kd, a, b, n, wi, th, el)).length ((ofL (nm, kd, a, b, n, wi, th, el)).map .string) ∧ Below w.heap.size w w' := by
  obtain ⟨W, hW⟩ : ∃ W, W = (w.alloc (.cells #[.string nm, .int .i64 kd, .string a, .string b, .int .i64 n, .int .i64 wi, .string th, .string el] 75)).alloc (.cells #[.string a] 9) := ⟨_, rfl⟩
  have bW : Hid (Below w.heap.size w W) := by rw [hW]; exact ((Below.refl _ _).alloc (Nat.le_refl _) _).alloc (by simp) _
  have sW : w.heap.size + 1 + 1 ≤ W.heap.size := by rw [hW]; simp
  have oW : Hid (W.ownsRow w.heap.size 9 1 (.slice (some ⟨w.heap.size + 1, 0, none⟩) [a].length 1) [a].length ([a].map .string)) := by
    have := own_one (base := w.heap.size) (w := (w.alloc (.cells #[.string nm, .int .i64 kd, .string a, .string b, .int .i64 n, .int .i64 wi, .string th, .string el] 75))) (x := a) (by simp)
    have t : ((w.alloc (.cells #[.string nm, .int .i64 kd, .string a, .string b, .int .i64 n, .int .i64 wi, .string th, .string el] 75)).alloc (.cells #[.string a] 9)).ownsRow w.heap.size 9 1 (.slice (some ⟨w.heap.size + 1, 0, none⟩) [a].length 1) [a].length ([a].map .string) := by simpa using this
    rw [hW]; exact t
  have eW : Hid (W = (w.alloc (.cells #[.string nm, .int .i64 kd, .string a, .string b, .int .i64 n, .int .i64 wi, .string th, .string el] 75)).alloc (.cells #[.string a] 9)) := hW
  clear hW
  by_cases c : kd = 2
  · subst c
    have hr : Hid (ofL (nm, 2, a, b, n, wi, th, el) = insR [a] b) := by show _ = _; simp [ofL]
    rw [hr.out]
    go_enter Tryz.func102, Tryz.ntmps102
    go_wp2_with fail
    rw [← eW.out]
    refine (insX_any w.heap.size (w.heap.size + 1) 1 [a] b W oW.out (by simp) (by omega)).mono ?_; rintro e u ⟨g', cap', rfl, hown, hbu⟩
    have HOW : Hid (u.ownsRow w.heap.size 9 1 (.slice (some ⟨g', 0, none⟩) (insR [a] b).length cap') (insR [a] b).length ((insR [a] b).map .string)) := hown
    clear hown
    go_wp2_with fail
    go_ret
    exact ⟨g', cap', rfl, HOW.out, bW.out.trans (hbu.mono (by omega))⟩
  · have hr : ofL (nm, kd, a, b, n, wi, th, el) = [a] := by simp [ofL, c]
    rw [hr]
    go_enter Tryz.func102, Tryz.ntmps102
    go_wp2_with fail
    rw [← eW.out]
    go_ret
    exact ⟨_, _, rfl, oW.out, bW.out⟩
set_option maxRecDepth 100000 in
set_option maxHeartbeats 4000000 in
theorem sltX_any (S : Nat → Prop) (r : List DRecPhase) (hR : RecP r) : ∀ (n : Nat) (v : Value) (x : ByteArray) (w : World), n ≤ 12 → AtL S w r v → (∀ b, S b → b < w.heap.size) → (∀ k : Nat, atI r x = (k : Int) → r.length ≤ k + n) → Calls Tryz.prog 99 #[v, .string x] w fun e w' => ∃ q, e = .returned q ∧ w'.ownsRow w.heap.size 9 1 q (sltF n r x).length ((sltF n r x).map .string) ∧ Below w.heap.size w w' := by
  intro n
  induction n with
  | zero =>
    intro v x w _ h _ hd
    have e : atI r x = -1 := by
      rcases at_cases r x with e | ⟨k, hk, e, _⟩
      · exact e
      · have := hd k e; omega
    go_enter Tryz.func99, Tryz.ntmps99
    go_wp2_with fail
    refine (atX_any S r v x w h).mono ?_; rintro e' w1 ⟨rfl, rfl⟩; rw [e]
    go_wp2_with fail
    go_ret
    exact ⟨_, rfl, own_nil (Nat.le_refl _), (Below.refl _ _).alloc (Nat.le_refl _) _⟩
  | succ n IH =>
    intro v x w hn12 h hS hd
    rcases at_cases r x with e | ⟨k, hk, e, _⟩
    · have hr : sltF (n + 1) r x = [] := by simp [sltF, e]
      rw [hr]
      go_enter Tryz.func99, Tryz.ntmps99
      go_wp2_with fail
      refine (atX_any S r v x w h).mono ?_; rintro e' w1 ⟨rfl, rfl⟩; rw [e]
      go_wp2_with fail
      go_ret
      exact ⟨_, rfl, own_nil (Nat.le_refl _), (Below.refl _ _).alloc (Nat.le_refl _) _⟩
    obtain ⟨oa, cap, ev, hx⟩ := id h
    subst ev
    obtain ⟨b, off, rfl, hbS, cc, hcell, hat⟩ := hx.2 k hk
    clear hx
    have hb := hS b hbS
    have hph := ph_at hk e
    rw [width_DRecPhase] at hcell
    rw [at_DRecPhase] at hat
    obtain ⟨nl, en⟩ : ∃ n, r.length = n := ⟨_, rfl⟩
    obtain ⟨f, ef⟩ : ∃ f, r[k] = f := ⟨_, rfl⟩
    have hst := step_of hR hk
    rw [ef] at hph hst hat
    obtain ⟨nm, kd, a, b', n', wi, th, el⟩ := f
    obtain ⟨⟨q0, _⟩, ⟨q1, _, _⟩, ⟨q2, _⟩, ⟨q3, _⟩, ⟨q4, _, _⟩, ⟨q5, _, _⟩, ⟨q6, _⟩, ⟨q7, _⟩⟩ := hat
    have E : Hid (∀ u, Below w.heap.size w u → u.cell? ⟨b, off + k * 8, none⟩ = some (.string nm) ∧ u.cell? ⟨b, off + k * 8 + 1, none⟩ = some (.int .i64 kd) ∧ u.cell? ⟨b, off + k * 8 + 2, none⟩ = some (.string a) ∧ u.cell? ⟨b, off + k * 8 + 3, none⟩ = some (.string b') ∧ u.cell? ⟨b, off + k * 8 + 4, none⟩ = some (.int .i64 n') ∧ u.cell? ⟨b, off + k * 8 + 5, none⟩ = some (.int .i64 wi) ∧ u.cell? ⟨b, off + k * 8 + 6, none⟩ = some (.string th) ∧ u.cell? ⟨b, off + k * 8 + 7, none⟩ = some (.string el)) := fun u hu =>
      ⟨((hu.cell hb).trans (hcell 0 (by omega))).trans (by rw [q0]), ((hu.cell hb).trans (hcell 1 (by omega))).trans (by rw [q1]), ((hu.cell hb).trans (hcell 2 (by omega))).trans (by rw [q2]), ((hu.cell hb).trans (hcell 3 (by omega))).trans (by rw [q3]), ((hu.cell hb).trans (hcell 4 (by omega))).trans (by rw [q4]), ((hu.cell hb).trans (hcell 5 (by omega))).trans (by rw [q5]), ((hu.cell hb).trans (hcell 6 (by omega))).trans (by rw [q6]), ((hu.cell hb).trans (hcell 7 (by omega))).trans (by rw [q7])⟩
    clear hcell q0 q1 q2 q3 q4 q5 q6 q7
    have HT : Hid (∀ j : Nat, atI r th = (j : Int) → r.length ≤ j + n) := fun j hj => by have := go_next hR hst.2.1 j hj; have := hd k e; omega
    have HE : Hid (∀ j : Nat, atI r el = (j : Int) → r.length ≤ j + n) := fun j hj => by have := go_next hR hst.2.2 j hj; have := hd k e; omega
    rw [en] at h
    rw [en]
    have H : Hid (∀ w', Below w.heap.size w w' → AtL S w' r (.slice (some ⟨b, off, none⟩) nl cap)) := fun w' hb' => h.same (Same.of_below hb' hS)
    have hkn : k < nl := by omega
    have hnl : nl ≤ 12 := by have := hR.1; omega
    have hnx : ¬ (atI r x < 0) := by omega
    obtain ⟨LT, hLT⟩ : ∃ L, L = sltF n r th := ⟨_, rfl⟩
    obtain ⟨LE, hLE⟩ : ∃ L, L = sltF n r el := ⟨_, rfl⟩
    have lT : LT.length ≤ 8192 := by rw [hLT]; exact slt_small r (by omega) th
    have lE : LE.length ≤ 8192 := by rw [hLE]; exact slt_small r (by omega) el
    have hr : Hid (sltF (n + 1) r x = bothL (bothL (ofL (nm, kd, a, b', n', wi, th, el)) LT) LE) := by show _ = _; rw [hLT, hLE]; simp only [sltF, if_neg hnx, hph]
    have CT : Hid (∀ u, Below w.heap.size w u → Calls Tryz.prog 99 #[.slice (some ⟨b, off, none⟩) nl cap, .string th] u fun e w' => ∃ q, e = .returned q ∧ w'.ownsRow u.heap.size 9 1 q LT.length (LT.map .string) ∧ Below u.heap.size u w') := fun u hu => by rw [hLT]; exact IH _ th u (by omega) (H.out u hu) (fun q hq => Nat.lt_of_lt_of_le (hS q hq) hu.size) HT.out
    have CE : Hid (∀ u, Below w.heap.size w u → Calls Tryz.prog 99 #[.slice (some ⟨b, off, none⟩) nl cap, .string el] u fun e w' => ∃ q, e = .returned q ∧ w'.ownsRow u.heap.size 9 1 q LE.length (LE.map .string) ∧ Below u.heap.size u w') := fun u hu => by rw [hLE]; exact IH _ el u (by omega) (H.out u hu) (fun q hq => Nat.lt_of_lt_of_le (hS q hq) hu.size) HE.out
    have lO := of_len (nm, kd, a, b', n', wi, th, el)
    have l1 := both_len LT (ofL (nm, kd, a, b', n', wi, th, el))
    have HS : Hid (∀ b, S b → b < w.heap.size) := hS
    clear hLT hLE IH hd hst hph HT HE h hR en ef hS
    rw [hr.out]
    clear hr
    obtain ⟨OL, hOL⟩ : ∃ L, L = ofL (nm, kd, a, b', n', wi, th, el) := ⟨_, rfl⟩
    have OF : Hid (∀ u, Calls Tryz.prog 102 #[.agg #[.string nm, .int .i64 kd, .string a, .string b', .int .i64 n', .int .i64 wi, .string th, .string el]] u fun e w' => ∃ g cap, e = .returned (.slice (some ⟨g, 0, none⟩) OL.length cap) ∧ w'.ownsRow u.heap.size 9 1 (.slice (some ⟨g, 0, none⟩) OL.length cap) OL.length (OL.map .string) ∧ Below u.heap.size u w') := fun u => by rw [hOL]; exact ofX_any nm a b' th el kd n' wi u
    rw [← hOL] at lO l1 ⊢
    clear hOL
    obtain ⟨x0, x1, x2, x3, x4, x5, x6, x7⟩ := E.out w (Below.refl _ _)
    go_enter Tryz.func99, Tryz.ntmps99
    go_wp2_with fail
    refine (atX_any S r _ x w (H.out w (Below.refl _ _))).mono ?_; rintro e' w1 ⟨rfl, rfl⟩; rw [e]
    clear e
    go_wp2_with fail
    have hdr : Hid (Below w1.heap.size w1 w1.drew) := (Below.refl _ _).drew
    have qx0 := fun d os => cell_regrown x0 d os
    have qx1 := fun d os => cell_regrown x1 d os
    have qx2 := fun d os => cell_regrown x2 d os
    have qx3 := fun d os => cell_regrown x3 d os
    have qx4 := fun d os => cell_regrown x4 d os
    have qx5 := fun d os => cell_regrown x5 d os
    have qx6 := fun d os => cell_regrown x6 d os
    have qx7 := fun d os => cell_regrown x7 d os
    refine wp_region_mix 20 [0, 1, 2, 3, 5, 6, 7, 8, 9, 10, 13, 14, 15, 16, 17, 18] (by kernel_rfl) (by kernel_rfl) ?_
    simp only [List.filterMap_cons, List.filterMap_nil, List.getElem?_cons_succ, List.getElem?_cons_zero]
    repeat (first | go_big_quiet_step (fail) | quiet_step (fail))
    refine wpQuiet_nil ?_
    clear x0 x1 x2 x3 x4 x5 x6 x7 qx0 qx1 qx2 qx3 qx4 qx5 qx6 qx7
    refine call1 (md := .any) (f := 3) (i := 4) (dc := 16) (fn := 102) ⟨rfl, rfl, rfl, by decide⟩ (by kernel_rfl) ?run ((OF.out w1.drew).mono ?_)
    case run => go_simp
    rintro e' u1 ⟨g1, c1, rfl, o1, b1⟩
    have B1 : Hid (Below w1.heap.size w1 u1) := hdr.out.trans (b1.mono hdr.out.size)
    have O1 : Hid (u1.ownsRow w1.heap.size 9 1 (.slice (some ⟨g1, 0, none⟩) OL.length c1) OL.length (OL.map .string)) := own_leR o1 hdr.out.size
    have s1 := B1.out.size
    refine ⟨_, rfl, regrown_of_below B1.out, ?_⟩
    clear o1 b1
    simp only [Act.put, List.setIfInBounds_toArray, List.set_cons_zero, List.set_cons_succ]
    refine call1 (md := .any) (f := 2) (i := 11) (dc := 23) (fn := 99) ⟨rfl, rfl, rfl, by decide⟩ (by kernel_rfl) ?run ((CT.out u1 B1.out).mono ?_)
    case run => go_simp
    rintro e' u2 ⟨vT, rfl, o2, b2⟩
    have O2 : Hid (RdB u2 vT LT) := RdB.of o2
    have O1b : Hid (u2.ownsRow w1.heap.size 9 1 (.slice (some ⟨g1, 0, none⟩) OL.length c1) OL.length (OL.map .string)) := own_belowR O1.out b2
    have B2 : Hid (Below w1.heap.size w1 u2) := B1.out.trans (b2.mono s1)
    have s2 := B2.out.size
    refine ⟨_, rfl, regrown_of_below B2.out, ?_⟩
    clear o2 b2
    simp only [Act.put, List.setIfInBounds_toArray, List.set_cons_zero, List.set_cons_succ]
    refine call1 (md := .any) (f := 1) (i := 12) (dc := 24) (fn := 134) ⟨rfl, rfl, rfl, by decide⟩ (by kernel_rfl) ?run ((bothX_any w1.heap.size g1 c1 OL LT vT u2 O1b.out O2.out (by omega) (by omega)).mono ?_)
    case run => go_simp
    rintro e' u3 ⟨g3, c3, rfl, o3, b3⟩
    obtain ⟨M, hM⟩ : ∃ M, M = bothL OL LT := ⟨_, rfl⟩
    rw [← hM] at o3 l1 ⊢
    have HM : Hid (M = bothL OL LT) := hM
    have O3 : Hid (u3.ownsRow w1.heap.size 9 1 (.slice (some ⟨g3, 0, none⟩) M.length c3) M.length (M.map .string)) := o3
    have B3 : Hid (Below w1.heap.size w1 u3) := B2.out.trans (b3.mono s2)
    have s3 := B3.out.size
    refine ⟨_, rfl, regrown_of_below B3.out, ?_⟩
    clear o3 b3 hM
    simp only [Act.put, List.setIfInBounds_toArray, List.set_cons_zero, List.set_cons_succ]
    refine call1 (md := .any) (f := 0) (i := 19) (dc := 31) (fn := 99) ⟨rfl, rfl, rfl, by decide⟩ (by kernel_rfl) ?run ((CE.out u3 B3.out).mono ?_)
    case run => go_simp
    rintro e' u4 ⟨vE, rfl, o4, b4⟩
    have O4 : Hid (RdB u4 vE LE) := RdB.of o4
    have O3b : Hid (u4.ownsRow w1.heap.size 9 1 (.slice (some ⟨g3, 0, none⟩) M.length c3) M.length (M.map .string)) := own_belowR O3.out b4
    have B4 : Hid (Below w1.heap.size w1 u4) := B3.out.trans (b4.mono s3)
    have s4 := B4.out.size
    refine ⟨_, rfl, regrown_of_below B4.out, ?_⟩
    clear o4 b4
    refine ⟨by kernel_rfl, ?_⟩
    simp only [List.drop_succ_cons, List.drop_zero, Act.put, List.setIfInBounds_toArray, List.set_cons_zero, List.set_cons_succ]
    go_wp2_with fail
    refine (bothX_any w1.heap.size g3 c3 M LE vE u4 O3b.out O4.out (by omega) (by omega)).mono ?_; rintro e' u5 ⟨g5, c5, rfl, o5, b5⟩
    have O5 : Hid (u5.ownsRow w1.heap.size 9 1 (.slice (some ⟨g5, 0, none⟩) (bothL M LE).length c5) (bothL M LE).length ((bothL M LE).map .string)) := o5
    have B5 : Hid (Below w1.heap.size w1 u5) := B4.out.trans (b5.mono s4)
    clear o5 b5
    go_wp2_with fail
    go_ret
    exact ⟨_, rfl, by rw [← HM.out]; exact O5.out, B5.out⟩
end Go.Proofs.YtobchllaopdchacGreat

namespace Go.Proofs.YtobchllaopdchacGreat
open Go.RowKit
theorem thO_hit : ∀ {l : List DRunSlot} {x : ByteArray} {q : Nat} (hq : q < l.length), (∀ j (hj : j < l.length), j < q → l[j].1 ≠ x) → l[q].1 = x → thO l x = some l[q].2
  | [], _, _, hq, _, _ => absurd hq (Nat.not_lt_zero _)
  | s :: l, x, 0, _, _, h => by
    have h' : s.1 = x := h
    unfold thO
    rw [if_pos h']; rfl
  | s :: l, x, q + 1, hq, hno, h => by
    have h0 : s.1 ≠ x := hno 0 (by simp) (by omega)
    unfold thO
    rw [if_neg h0]
    have hq' : q < l.length := by simpa using hq
    exact thO_hit (l := l) hq' (fun j hj hjq => hno (j + 1) (by simpa using hj) (by omega)) h
theorem thT_hit {l : List DRunSlot} {x : ByteArray} {q : Nat} (hq : q < l.length) (hno : ∀ j (hj : j < l.length), j < q → eqB l[j].1 x = false) (h : eqB l[q].1 x = true) : thT l x = l[q].2 := by
  unfold thT kyT
  rw [thO_hit hq (fun j hj hjq e => by have := hno j hj hjq; rw [(eqB_iff _ _).2 e] at this; cases this) ((eqB_iff _ _).1 h)]
theorem thT_none {l : List DRunSlot} {x : ByteArray} (hno : ∀ j (hj : j < l.length), eqB l[j].1 x = false) : thT l x = ByteArray.empty := by
  unfold thT kyT
  rw [thO_none (fun s hs e => by
    obtain ⟨j, hj, ej⟩ := List.getElem_of_mem hs
    have := hno j hj
    rw [ej, (eqB_iff _ _).2 e] at this; cases this)]
def thL (sl : List DRunSlot) (l : List ByteArray) : List ByteArray := bothL [] (l.map (thT sl))
theorem thL_take (sl : List DRunSlot) (l : List ByteArray) {k : Nat} (h : k < l.length) : thL sl (l.take (k + 1)) = insR (thL sl (l.take k)) (thT sl (nthB l k)) := by
  unfold thL
  have h' : k < (l.map (thT sl)).length := by simpa using h
  have := both_take [] (l.map (thT sl)) h'
  rw [← List.map_take, ← List.map_take] at this
  rw [this]
  simp [nthB, h]
theorem thL_len (sl : List DRunSlot) (l : List ByteArray) : (thL sl l).length ≤ l.length := by
  have := both_len (l.map (thT sl)) []
  simpa [thL] using this
end Go.Proofs.YtobchllaopdchacGreat

namespace Go.Proofs.YtobchllaopdchacGreat
open Go.RowKit Go.Sort
theorem nameX_q (s : ByteArray) (wr : World) (hs : s.size ≤ maxLen) (r : Bool) (hr : nameB s = r) (d : Nat) (os : Array Obj) : Calls Tryz.prog 55 #[.string s] (grow (redrawn wr d) os) fun e w'' => e = .returned (.bool r) ∧ ∃ p : Regrown, w'' = grow (redrawn wr p.d) p.os :=
  Calls.regrown_of ((nameX_any s _ hs).mono fun _ _ ⟨he, hw⟩ => ⟨by subst hr; exact he, by subst hw; exact Below.refl _ _⟩)
def fstN (r : List DRecPhase) : ByteArray := (r.headD default).1
theorem fst_at {r : List DRecPhase} (h : 0 < r.length) : r[0].1 = fstN r := by
  cases r with
  | nil => exact absurd h (Nat.lt_irrefl _)
  | cons p l => rfl
structure SlotP (L : List ByteArray) (sl : List DRunSlot) (i : Nat) (h : i < sl.length) : Prop where
  slot : eqB sl[i].1 (nthB L i) = true
  name : nameB sl[i].2 = true
  other : ∀ k (hk : k < sl.length), k < i → eqB sl[k].2 sl[i].2 = false
structure SlP (L : List ByteArray) (sl : List DRunSlot) : Prop where
  len : L.length = sl.length
  row : ∀ i (h : i < sl.length), SlotP L sl i h
noncomputable def slB (r : List DRecPhase) (sl : List DRunSlot) : Bool := @decide (SlP (sltF 12 r (fstN r)) sl) (Classical.propDecidable _)
theorem sl_yes {r : List DRecPhase} {sl : List DRunSlot} (h : SlP (sltF 12 r (fstN r)) sl) : slB r sl = true := by unfold slB; exact @decide_eq_true _ (Classical.propDecidable _) h
theorem sl_no {r : List DRecPhase} {sl : List DRunSlot} (h : ¬ SlP (sltF 12 r (fstN r)) sl) : slB r sl = false := by unfold slB; exact @decide_eq_false _ (Classical.propDecidable _) h
theorem sl_iff {r : List DRecPhase} {sl : List DRunSlot} : slB r sl = true ↔ SlP (sltF 12 r (fstN r)) sl := by unfold slB; exact @decide_eq_true_iff _ (Classical.propDecidable _)
set_option maxRecDepth 100000 in
set_option maxHeartbeats 8000000 in
theorem slotsOkX_any (S : Nat → Prop) (r : List DRecPhase) (sl : List DRunSlot) (o1 o2 : Option Addr) (n1 k1 n2 k2 : Nat) (w : World) (hr : AtL S w r (.slice o1 n1 k1)) (h : AtL S w sl (.slice o2 n2 k2)) (hS : ∀ b, S b → b < w.heap.size) (hR : RecP r) :
    Calls Tryz.prog 57 #[.slice o1 n1 k1, .slice o2 n2 k2] w fun e w' => e = .returned (.bool (slB r sl)) ∧ Below w.heap.size w w' := by
  have en1 : r.length = n1 := by obtain ⟨_, _, e, _⟩ := hr; cases e; rfl
  have en : sl.length = n2 := by obtain ⟨_, _, e, _⟩ := h; cases e; rfl
  have hmx : n2 ≤ 9223372036854775807 := by obtain ⟨_, _, e, hf, _⟩ := id h; cases e; have := hf.1; unfold maxLen at this; omega
  have EN : Hid (sl.length ≤ n2 ∧ n2 ≤ sl.length) := ⟨by omega, by omega⟩
  have hr0 : 0 < r.length := by have := hR.1; omega
  have hn1 : 0 < n1 := by omega
  have HF := fst_at hr0
  obtain ⟨bb, off, rfl, e0⟩ : ∃ b off, o1 = some ⟨b, off, none⟩ ∧ w.cell? ⟨b, off, none⟩ = some (.string (fstN r)) := by
    obtain ⟨oa, cap, ev, _, hc⟩ := id hr
    obtain ⟨b, off, eo, hbS, cc, hcell, hat⟩ := hc 0 hr0
    rw [width_DRecPhase] at hcell
    rw [at_DRecPhase, HF] at hat
    cases ev
    exact ⟨b, off, eo, (by have hq := hcell 0 (by omega); first | exact hq | simpa using hq : w.cell? ⟨b, off, none⟩ = some (cc 0)).trans (by rw [hat.1.1])⟩
  have NAM : Hid (∀ i (hi : i < sl.length), ∃ b off, o2 = some ⟨b, off, none⟩ ∧ b < w.heap.size ∧ w.cell? ⟨b, off + i * 2, none⟩ = some (.string sl[i].1) ∧ w.cell? ⟨b, off + i * 2 + 1, none⟩ = some (.string sl[i].2) ∧ sl[i].2.size ≤ maxLen) := fun i hi => by
    obtain ⟨oa, cap, ev, _, hc⟩ := id h
    obtain ⟨b, off, eo, hbS, cc, hcell, hat⟩ := hc i hi
    rw [width_DRunSlot] at hcell
    rw [at_DRunSlot] at hat
    cases ev
    exact ⟨b, off, eo, hS b hbS, (by have hq := hcell 0 (by omega); first | exact hq | simpa using hq : w.cell? ⟨b, off + i * 2, none⟩ = some (cc 0)).trans (by rw [hat.1.1]), (hcell 1 (by omega)).trans (by rw [hat.2.1]), hat.2.2⟩
  obtain ⟨L, hL⟩ : ∃ L, L = sltF 12 r (fstN r) := ⟨_, rfl⟩
  have YES : Hid (SlP L sl → slB r sl = true) := fun h => sl_yes (by rw [← hL]; exact h)
  have NO : Hid (¬ SlP L sl → slB r sl = false) := fun h => sl_no (by rw [← hL]; exact h)
  have hll : L.length ≤ 8192 := by rw [hL]; exact slt_small r (by omega) _
  have CS : Hid (Calls Tryz.prog 99 #[.slice (some ⟨bb, off, none⟩) n1 k1, .string (fstN r)] w fun e w' => ∃ q, e = .returned q ∧ w'.ownsRow w.heap.size 9 1 q L.length (L.map .string) ∧ Below w.heap.size w w') := by
    rw [hL]; exact sltX_any S r hR 12 _ _ w (Nat.le_refl _) hr hS (fun k hk => by have := hR.1; omega)
  clear hL h hr HF en hr0 en1 hR
  go_enter Tryz.func57, Tryz.ntmps57
  go_wp2_with fail
  refine CS.out.mono ?_; rintro e w1 ⟨q, rfl, hq, hb1⟩
  clear e0
  have B1 : Hid (Below w.heap.size w w1) := hb1
  obtain ⟨ol, cl, rfl, hcl⟩ := RdB.of hq
  have LAT : Hid (∀ i, i < L.length → ∃ g, ol = some ⟨g, 0, none⟩ ∧ g < w1.heap.size ∧ w1.cell? ⟨g, i, none⟩ = some (.string (nthB L i))) := hcl
  obtain ⟨nl, enl⟩ : ∃ n, L.length = n := ⟨_, rfl⟩
  rw [enl] at hll
  rw [enl]
  have ENL : Hid (L.length ≤ nl ∧ nl ≤ L.length) := ⟨by omega, by omega⟩
  clear hq hcl enl hb1
  have hsz := B1.out.size
  by_cases hlen : nl = n2
  case neg =>
    go_wp2_with fail
    go_ret
    rw [NO.out (fun h => hlen (by have := h.len; have := EN.out; have := ENL.out; omega))]
    exact ⟨rfl, B1.out⟩
  subst hlen
  go_wp2_with fail
  go_loopw [6] (fun i wr => ∃ k : Nat, k ≤ nl ∧ i = .int .i64 k ∧ Hid (∀ j (hj : j < sl.length), j < k → SlotP L sl j hj) ∧ Hid (Below w1.heap.size w1 wr)) (fun i _ => nl - (intOf i).toNat)
  case atStart => exact ⟨0, Nat.zero_le _, rfl, fun _ _ h => by omega, Below.refl _ _⟩
  case round =>
    obtain ⟨k, hk, rfl, hall, hbel⟩ := hrel
    have hs := hbel.out.size
    have BW : Hid (Below w.heap.size w wr) := B1.out.trans (hbel.out.mono B1.out.size)
    by_cases hlt : k < nl
    case neg =>
      go_wp2_with fail
      go_ret
      rw [YES.out ⟨by have := EN.out; have := ENL.out; omega, fun i hi => hall.out i hi (by have := EN.out; omega)⟩]
      exact ⟨rfl, BW.out⟩
    have hks : k < sl.length := by have := EN.out; omega
    obtain ⟨b, of2, rfl, hbw, c0, c1, z1⟩ := NAM.out k hks
    obtain ⟨g, rfl, hg, cg⟩ := LAT.out k (by have := ENL.out; omega)
    obtain ⟨x, ex⟩ : ∃ x, sl[k].1 = x := ⟨_, rfl⟩
    obtain ⟨t, et⟩ : ∃ t, sl[k].2 = t := ⟨_, rfl⟩
    have ET : Hid (sl[k].2 = t) := et
    rw [ex] at c0
    rw [et] at c1 z1
    obtain ⟨y, ey⟩ : ∃ y, nthB L k = y := ⟨_, rfl⟩
    rw [ey] at cg
    have x0 := (BW.out.cell (p := ⟨b, of2 + k * 2, none⟩) hbw).trans c0
    have x1 := (BW.out.cell (p := ⟨b, of2 + k * 2 + 1, none⟩) hbw).trans c1
    have xg := (hbel.out.cell (p := ⟨g, k, none⟩) hg).trans cg
    have q0 := fun d os => cell_regrown x0 d os
    have q1 := fun d os => cell_regrown x1 d os
    have qg := fun d os => cell_regrown xg d os
    have X1 : Hid (w.cell? ⟨b, of2 + k * 2 + 1, none⟩ = some (.string t)) := c1
    clear c0 c1 cg x0 x1 xg
    have HZ : Hid (t.size ≤ maxLen) := z1
    clear z1
    cases c1 : (x.toList == y.toList)
    · have hp : ¬ SlP L sl := fun h => by
        have := (h.row k hks).slot
        rw [ex, ey] at this
        simp [eqB, c1] at this
      have HP : Hid _ := hp
      clear ex et ey hp
      go_wp2_with fail
      refine wp_region_quiet_below (by kernel_rfl) (by kernel_rfl) ?_
      repeat (first | go_big_quiet_step (fail) | quiet_step (fail))
      refine wpQuiet_nil ?_
      intro _ hw'
      obtain ⟨⟨dq, osq⟩, hw''⟩ := hw'
      subst hw''
      go_wp2_with fail
      go_ret
      rw [NO.out HP.out]
      exact ⟨rfl, BW.out.trans ((below_regrown wr dq osq).mono BW.out.size)⟩
    cases c2 : nameB t
    · have hp : ¬ SlP L sl := fun h => by
        have := (h.row k hks).name
        rw [et, c2] at this
        cases this
      have HP : Hid _ := hp
      clear ex et ey hp
      go_wp2_with fail
      refine wp_region_quiet_below (by kernel_rfl) (by kernel_rfl) ?_
      repeat (first | go_big_quiet_step (with_reducible exact nameX_q _ _ HZ.out _ c2 _ _) | quiet_step (with_reducible exact nameX_q _ _ HZ.out _ c2 _ _))
      refine wpQuiet_nil ?_
      intro _ hw'
      obtain ⟨⟨dq, osq⟩, hw''⟩ := hw'
      subst hw''
      go_wp2_with fail
      go_ret
      rw [NO.out HP.out]
      exact ⟨rfl, BW.out.trans ((below_regrown wr dq osq).mono BW.out.size)⟩
    have FINE : Hid (eqB sl[k].1 (nthB L k) = true ∧ nameB sl[k].2 = true) := ⟨by rw [ex, ey]; simp [eqB, c1], by rw [et]; exact c2⟩
    clear ex et ey
    go_wp2_with fail
    refine wp_region_quiet_below (by kernel_rfl) (by kernel_rfl) ?_
    repeat (first | go_big_quiet_step (with_reducible exact nameX_q _ _ HZ.out _ c2 _ _) | quiet_step (with_reducible exact nameX_q _ _ HZ.out _ c2 _ _))
    refine wpQuiet_nil ?_
    intro _ hw'
    obtain ⟨⟨dq, osq⟩, hw''⟩ := hw'
    subst hw''
    have BY : Hid (Below w1.heap.size w1 (grow (redrawn wr dq) osq)) := hbel.out.trans ((below_regrown wr dq osq).mono hs)
    obtain ⟨Y, hY⟩ : ∃ Y, Y = grow (redrawn wr dq) osq := ⟨_, rfl⟩
    rw [← hY] at BY ⊢
    clear hY q0 q1 qg
    go_wp2_with fail
    go_loopw [7] (fun i wr => ∃ j : Nat, j ≤ k ∧ i = .int .i64 j ∧ Hid (∀ m (hm : m < sl.length), m < j → eqB sl[m].2 sl[k].2 = false) ∧ Hid (Below w1.heap.size w1 wr)) (fun i _ => k - (intOf i).toNat)
    case atStart => exact ⟨0, Nat.zero_le _, rfl, fun _ _ h => by omega, BY.out⟩
    case round =>
      obtain ⟨j, hj, rfl, hno, hbk⟩ := hrel
      have sk := hbk.out.size
      have BV : Hid (Below w.heap.size w wr) := B1.out.trans (hbk.out.mono hsz)
      by_cases hjq : j < k
      case neg =>
        obtain rfl : j = k := by omega
        go_wp2_with fail
        go_roundw
        case rel =>
          refine ⟨j + 1, by omega, by go_num, fun i hi hiq => ?_, hbk.out⟩
          by_cases e : i = j
          · subst e
            exact ⟨FINE.out.1, FINE.out.2, fun m hm hmk => hno.out m hm hmk⟩
          · exact hall.out i hi (by omega)
        case measure => simp [intOf]; omega
      have hjs : j < sl.length := by have := EN.out; omega
      obtain ⟨b', of', eo, _, _, d1, _⟩ := NAM.out j hjs
      cases eo
      obtain ⟨u, eu⟩ : ∃ u, sl[j].2 = u := ⟨_, rfl⟩
      rw [eu] at d1
      have x1 := (BV.out.cell (p := ⟨b, of2 + k * 2 + 1, none⟩) hbw).trans X1.out
      have y1 := (BV.out.cell (p := ⟨b, of2 + j * 2 + 1, none⟩) hbw).trans d1
      have q1 := fun d os => cell_regrown x1 d os
      have q2 := fun d os => cell_regrown y1 d os
      clear x1 y1 d1
      cases c3 : (u.toList == t.toList)
      · have hp : eqB sl[j].2 sl[k].2 = false := by rw [eu, ET.out]; simpa [eqB] using c3
        have HP : Hid _ := hp
        clear eu hp
        go_wp2_with fail
        refine wp_region_quiet_below (by kernel_rfl) (by kernel_rfl) ?_
        repeat (first | go_big_quiet_step (fail) | quiet_step (fail))
        refine wpQuiet_nil ?_
        intro _ hw'
        obtain ⟨⟨dq, osq⟩, hw''⟩ := hw'
        subst hw''
        go_wp2_with fail
        go_roundw
        case rel => exact ⟨j + 1, by omega, by go_num, fun m hm hmj => by
          by_cases e : m = j
          · subst e; exact HP.out
          · exact hno.out m hm (by omega), hbk.out.trans ((below_regrown wr dq osq).mono sk)⟩
        case measure => simp [intOf]; omega
      · have hp : ¬ SlP L sl := fun h => by
          have := (h.row k hks).other j hjs hjq
          rw [eu, ET.out] at this
          simp [eqB] at this
          simp [this] at c3
        have HP : Hid _ := hp
        clear eu hp
        go_wp2_with fail
        refine wp_region_quiet_below (by kernel_rfl) (by kernel_rfl) ?_
        repeat (first | go_big_quiet_step (fail) | quiet_step (fail))
        refine wpQuiet_nil ?_
        intro _ hw'
        obtain ⟨⟨dq, osq⟩, hw''⟩ := hw'
        subst hw''
        go_wp2_with fail
        go_ret
        rw [NO.out HP.out]
        exact ⟨rfl, BV.out.trans ((below_regrown wr dq osq).mono BV.out.size)⟩
end Go.Proofs.YtobchllaopdchacGreat

namespace Go.Proofs.YtobchllaopdchacGreat
open Go.RowKit Go.Sort
theorem inX_q (n lo hi : Int) (wr : World) (r : Bool) (hr : inB n lo hi = r) (d : Nat) (os : Array Obj) : Calls Tryz.prog 28 #[.int .i64 n, .int .i64 lo, .int .i64 hi] (grow (redrawn wr d) os) fun e w'' => e = .returned (.bool r) ∧ ∃ p : Regrown, w'' = grow (redrawn wr p.d) p.os :=
  Calls.regrown_of ((inX_any n lo hi _).mono fun _ _ ⟨he, hw⟩ => ⟨by subst hr; exact he, by subst hw; exact Below.refl _ _⟩)
def wiX (r : List DRecPhase) (x : ByteArray) : Int := (phX r x).2.2.2.2.2.1
noncomputable def runB (b : DRunBatch) : Bool :=
  nameB b.1 && recB b.2.1 && slB b.2.1 b.2.2.1 && decide (1 ≤ b.2.2.2.2.2) && decide (0 ≤ atI b.2.1 b.2.2.2.1) && inB b.2.2.2.2.1 (-1) (wiX b.2.1 b.2.2.2.1 - 1)
set_option maxRecDepth 100000 in
set_option maxHeartbeats 8000000 in
theorem runX_any (S : Nat → Prop) (nm : ByteArray) (r : List DRecPhase) (sl : List DRunSlot) (at_ : ByteArray) (si st : Int) (o1 o2 : Option Addr) (n1 k1 n2 k2 : Nat) (w : World) (hn : nm.size ≤ maxLen) (hr : AtL S w r (.slice o1 n1 k1)) (h : AtL S w sl (.slice o2 n2 k2)) (hS : ∀ b, S b → b < w.heap.size) :
    Calls Tryz.prog 31 #[.agg #[.string nm, .slice o1 n1 k1, .slice o2 n2 k2, .string at_, .int .i64 si, .int .i64 st]] w fun e w' => e = .returned (.bool (runB (nm, r, sl, at_, si, st))) ∧ Below w.heap.size w w' := by
  have HN : Hid (nm.size ≤ maxLen) := hn
  obtain ⟨W, EW, BW, RW, sW⟩ := box_new w #[.string nm, .slice o1 n1 k1, .slice o2 n2 k2, .string at_, .int .i64 si, .int .i64 st] 49
  have BOX : Hid (∀ u, Below W.heap.size W u → u.heap[w.heap.size]? = some (.cells #[.string nm, .slice o1 n1 k1, .slice o2 n2 k2, .string at_, .int .i64 si, .int .i64 st] 49 (0, 0)) ∧ Below w.heap.size w u) := fun u hu => ⟨(hu.block _ (by omega)).trans RW.out, BW.out.trans (hu.mono (by omega))⟩
  have HR : Hid _ := hr.ups hS
  have HA : Hid _ := h.ups hS
  have HS : Hid _ := lt_up hS
  have PH : Hid (∀ k : Nat, atI r at_ = (k : Int) → k < n1 ∧ ∃ b off, o1 = some ⟨b, off, none⟩ ∧ b < w.heap.size ∧ w.cell? ⟨b, off + k * 8 + 5, none⟩ = some (.int .i64 (wiX r at_)) ∧ -9223372036854775808 ≤ wiX r at_ ∧ wiX r at_ ≤ 9223372036854775807) := fun k hk => by
    rcases at_cases r at_ with e | ⟨k', hk', e, _⟩
    · omega
    obtain rfl : k' = k := by omega
    obtain ⟨oa, cap, ev, _, hc⟩ := id hr
    obtain ⟨b, off, eo, hbS, cc, hcell, hat⟩ := hc k' hk'
    rw [width_DRecPhase] at hcell
    rw [at_DRecPhase] at hat
    have ew : wiX r at_ = r[k'].2.2.2.2.2.1 := by unfold wiX; rw [ph_at hk' e]
    cases ev
    refine ⟨hk', b, off, eo, hS b hbS, (hcell 5 (by omega)).trans (by rw [hat.2.2.2.2.2.1.1, ew]), ?_⟩
    rw [ew]
    exact hat.2.2.2.2.2.1.2
  have POS : Hid (recB r = true → 0 ≤ atI r at_ → 1 ≤ wiX r at_) := fun hrb h0 => by
    rcases at_cases r at_ with e | ⟨k', hk', e, _⟩
    · omega
    · have := (ph_name (step_of (rec_iff.1 hrb) hk').1).2.2.1
      have ew : wiX r at_ = r[k'].2.2.2.2.2.1 := by unfold wiX; rw [ph_at hk' e]
      rw [ew]
      omega
  clear h hr hS hn
  obtain ⟨R, hR⟩ : ∃ R, R = runB (nm, r, sl, at_, si, st) := ⟨_, rfl⟩
  have ER : Hid (R = (nameB nm && recB r && slB r sl && decide (1 ≤ st) && decide (0 ≤ atI r at_) && inB si (-1) (wiX r at_ - 1))) := hR
  rw [← hR]
  clear hR
  have h0 := fun u (hu : Below W.heap.size W u) => cell_row (BOX.out u hu).1
  have Y : Hid (∀ u, Below W.heap.size W u → u.cell? ⟨w.heap.size, 0, none⟩ = some (.string nm) ∧ u.cell? ⟨w.heap.size, 1, none⟩ = some (.slice o1 n1 k1) ∧ u.cell? ⟨w.heap.size, 2, none⟩ = some (.slice o2 n2 k2) ∧ u.cell? ⟨w.heap.size, 3, none⟩ = some (.string at_) ∧ u.cell? ⟨w.heap.size, 4, none⟩ = some (.int .i64 si) ∧ u.cell? ⟨w.heap.size, 5, none⟩ = some (.int .i64 st)) := fun u hu =>
    ⟨(h0 u hu 0 _ rfl).1, (h0 u hu 1 _ rfl).1, (h0 u hu 2 _ rfl).1, (h0 u hu 3 _ rfl).1, (h0 u hu 4 _ rfl).1, (h0 u hu 5 _ rfl).1⟩
  clear h0
  obtain ⟨y0, y1, y2, y3, y4, y5⟩ := Y.out W (Below.refl _ _)
  go_enter Tryz.func31, Tryz.ntmps31
  go_upto_region 1 with fail
  rw [← EW.out]
  go_wp2_with fail
  refine (nameX_any nm _ HN.out).mono ?_; rintro e w1 ⟨rfl, rfl⟩
  cases c0 : nameB nm
  · have er : R = false := by rw [ER.out, c0]; simp
    clear y1 y2 y3 y4 y5
    go_wp2_with fail
    go_ret
    rw [er]
    exact ⟨rfl, BW.out⟩
  have BWW := BW.out
  go_wp2_with fail
  refine (okX_any S r _ w1 (HR.out _ BW.out) (HS.out _ BW.out)).mono ?_; rintro e w2 ⟨rfl, hb2⟩
  have B2 : Hid (Below w1.heap.size w1 w2) := hb2
  clear y0 y1 y2 y3 y4 y5 hb2
  obtain ⟨y0, y1, y2, y3, y4, y5⟩ := Y.out w2 B2.out
  cases c1 : recB r
  · have er : R = false := by rw [ER.out, c1]; simp
    clear y0 y1 y2 y3 y4 y5
    go_wp2_with fail
    go_ret
    rw [er]
    exact ⟨rfl, (BOX.out w2 B2.out).2⟩
  have bw2 := (BOX.out w2 B2.out).2
  have BW2 : Hid (Below w.heap.size w w2) := bw2
  clear bw2 BWW
  go_wp2_with fail
  refine (slotsOkX_any S r sl o1 o2 n1 k1 n2 k2 w2 (HR.out _ BW2.out) (HA.out _ BW2.out) (HS.out _ BW2.out) (rec_iff.1 c1)).mono ?_; rintro e w3 ⟨rfl, hb3⟩
  have B3 : Hid (Below w1.heap.size w1 w3) := B2.out.trans (hb3.mono B2.out.size)
  clear y0 y1 y2 y3 y4 y5 hb3
  obtain ⟨y0, y1, y2, y3, y4, y5⟩ := Y.out w3 B3.out
  have BW3 : Hid (Below w.heap.size w w3) := (BOX.out w3 B3.out).2
  cases c2 : slB r sl
  · have er : R = false := by rw [ER.out, c2]; simp
    clear y0 y1 y2 y3 y4 y5
    go_wp2_with fail
    go_ret
    rw [er]
    exact ⟨rfl, BW3.out⟩
  by_cases c3 : st < 1
  · have er : R = false := by rw [ER.out, decide_eq_false (by omega : ¬ 1 ≤ st)]; simp
    go_wp2_with fail
    go_ret
    rw [er]
    exact ⟨rfl, BW3.out⟩
  have c3' : decide (1 ≤ st) = true := decide_eq_true (by omega)
  go_wp2_with fail
  refine (atX_any S r _ at_ w3 (HR.out _ BW3.out)).mono ?_; rintro e w4 ⟨rfl, rfl⟩
  have P := POS.out c1
  obtain ⟨ex, hex⟩ : ∃ k : Int, k = atI r at_ := ⟨_, rfl⟩
  by_cases c4 : atI r at_ < 0
  · have er : R = false := by rw [ER.out, decide_eq_false (by omega : ¬ 0 ≤ atI r at_)]; simp
    have d4 : decide (0 ≤ ex) = false := decide_eq_false (by omega)
    rw [← hex]
    clear P hex y0 y1 y2 y3 y5
    go_wp2_with fail
    refine wp_region_quiet_below (by kernel_rfl) (by kernel_rfl) ?_
    repeat (first | go_big_quiet_step (fail) | quiet_step (fail))
    refine wpQuiet_nil ?_
    intro _ hw'
    obtain ⟨⟨dq, osq⟩, hw''⟩ := hw'
    subst hw''
    go_wp2_with fail
    go_ret
    rw [er]
    exact ⟨rfl, BW3.out.trans ((below_regrown w4 dq osq).mono BW3.out.size)⟩
  obtain ⟨k, hk⟩ : ∃ k : Nat, atI r at_ = (k : Int) := ⟨(atI r at_).toNat, by omega⟩
  obtain ⟨hkn, b, off, rfl, hb, ce, hl, hh⟩ := PH.out k hk
  have hpos := P (by omega)
  obtain ⟨v, hv⟩ : ∃ v, v = wiX r at_ := ⟨_, rfl⟩
  rw [← hv] at ce hl hh hpos
  have x5 := (BW3.out.cell (p := ⟨b, off + k * 8 + 5, none⟩) hb).trans ce
  have c5 : inB si (-1) (v - 1) = inB si (-1) (v - 1) := rfl
  obtain ⟨I, hI⟩ : ∃ I, inB si (-1) (v - 1) = I := ⟨_, rfl⟩
  have er : R = I := by rw [ER.out, c0, c1, c2, c3', decide_eq_true (by omega : 0 ≤ atI r at_), ← hv, hI]; simp
  have q1 := fun d os => cell_regrown y1 d os
  have q4 := fun d os => cell_regrown y4 d os
  have q5 := fun d os => cell_regrown x5 d os
  rw [hk]
  clear P hex c5 hv x5 ce y0 y1 y2 y3 y4 y5 hk c4
  go_wp2_with fail
  refine wp_region_quiet_below (by kernel_rfl) (by kernel_rfl) ?_
  repeat (first | go_big_quiet_step (with_reducible exact inX_q _ _ _ _ _ hI _ _) | quiet_step (with_reducible exact inX_q _ _ _ _ _ hI _ _))
  refine wpQuiet_nil ?_
  intro _ hw'
  obtain ⟨⟨dq, osq⟩, hw''⟩ := hw'
  subst hw''
  go_wp2_with fail
  go_ret
  rw [er]
  exact ⟨rfl, BW3.out.trans ((below_regrown w4 dq osq).mono BW3.out.size)⟩
theorem run_rec {b : DRunBatch} (h : runB b = true) : RecP b.2.1 ∧ SlP (sltF 12 b.2.1 (fstN b.2.1)) b.2.2.1 := by
  unfold runB at h
  simp only [Bool.and_eq_true] at h
  exact ⟨rec_iff.1 h.1.1.1.1.2, sl_iff.1 h.1.1.1.2⟩
end Go.Proofs.YtobchllaopdchacGreat
