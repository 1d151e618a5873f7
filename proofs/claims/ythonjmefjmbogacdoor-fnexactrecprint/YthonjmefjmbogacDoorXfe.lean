/-
  The model's RecPrint.
-/
import Derived.Test.YthonjmefjmbogacDoorXfd
namespace Go.Proofs.YthonjmefjmbogacDoor
open Go.RowKit

theorem put00 (l : List UInt8) (nm : ByteArray) (kd : Int) (a b : ByteArray) (n wi : Int) (th el : ByteArray) (hb : b.toList.isEmpty = true) (hn : n = 0) :
    tx l ++ nm ++ ⟨#[32]⟩ ++ kwT kd ++ ⟨#[32]⟩ ++ a ++ ⟨#[32, 119, 105, 116, 104, 105, 110, 32]⟩ ++ tx (Lib.decDigits wi.toNat) ++ ⟨#[32, 116, 104, 101, 110, 32]⟩ ++ th ++ ⟨#[32, 101, 108, 115, 101, 32]⟩ ++ el ++ ⟨#[10]⟩ = tx (l ++ lineOf (wdL nm kd a b n wi th el)) := by
  unfold wdL
  rw [hb, if_pos hn]
  apply ByteArray.ext
  simp [tx, lineOf, Lib.join, List.intercalate, ByteArray.data_append]
theorem put01 (l : List UInt8) (nm : ByteArray) (kd : Int) (a b : ByteArray) (n wi : Int) (th el : ByteArray) (hb : b.toList.isEmpty = true) (hn : ¬ n = 0) :
    tx l ++ nm ++ ⟨#[32]⟩ ++ kwT kd ++ ⟨#[32]⟩ ++ a ++ ⟨#[32]⟩ ++ tx (Lib.decDigits n.toNat) ++ ⟨#[32, 119, 105, 116, 104, 105, 110, 32]⟩ ++ tx (Lib.decDigits wi.toNat) ++ ⟨#[32, 116, 104, 101, 110, 32]⟩ ++ th ++ ⟨#[32, 101, 108, 115, 101, 32]⟩ ++ el ++ ⟨#[10]⟩ = tx (l ++ lineOf (wdL nm kd a b n wi th el)) := by
  unfold wdL
  rw [hb, if_neg hn]
  apply ByteArray.ext
  simp [tx, lineOf, Lib.join, List.intercalate, ByteArray.data_append]
theorem put10 (l : List UInt8) (nm : ByteArray) (kd : Int) (a b : ByteArray) (n wi : Int) (th el : ByteArray) (hb : b.toList.isEmpty = false) (hn : n = 0) :
    tx l ++ nm ++ ⟨#[32]⟩ ++ kwT kd ++ ⟨#[32]⟩ ++ a ++ ⟨#[32]⟩ ++ b ++ ⟨#[32, 119, 105, 116, 104, 105, 110, 32]⟩ ++ tx (Lib.decDigits wi.toNat) ++ ⟨#[32, 116, 104, 101, 110, 32]⟩ ++ th ++ ⟨#[32, 101, 108, 115, 101, 32]⟩ ++ el ++ ⟨#[10]⟩ = tx (l ++ lineOf (wdL nm kd a b n wi th el)) := by
  unfold wdL
  rw [hb, if_pos hn]
  apply ByteArray.ext
  simp [tx, lineOf, Lib.join, List.intercalate, ByteArray.data_append]
theorem put11 (l : List UInt8) (nm : ByteArray) (kd : Int) (a b : ByteArray) (n wi : Int) (th el : ByteArray) (hb : b.toList.isEmpty = false) (hn : ¬ n = 0) :
    tx l ++ nm ++ ⟨#[32]⟩ ++ kwT kd ++ ⟨#[32]⟩ ++ a ++ ⟨#[32]⟩ ++ b ++ ⟨#[32]⟩ ++ tx (Lib.decDigits n.toNat) ++ ⟨#[32, 119, 105, 116, 104, 105, 110, 32]⟩ ++ tx (Lib.decDigits wi.toNat) ++ ⟨#[32, 116, 104, 101, 110, 32]⟩ ++ th ++ ⟨#[32, 101, 108, 115, 101, 32]⟩ ++ el ++ ⟨#[10]⟩ = tx (l ++ lineOf (wdL nm kd a b n wi th el)) := by
  unfold wdL
  rw [hb, if_neg hn]
  apply ByteArray.ext
  simp [tx, lineOf, Lib.join, List.intercalate, ByteArray.data_append]
set_option maxRecDepth 100000 in
set_option maxHeartbeats 20000000 in
open Go.Sort in
theorem printX_any (S : Nat → Prop) (r : List DRecPhase) (v : Value) (w : World) (h : AtL S w r v) (hS : ∀ b, S b → b < w.heap.size) :
    Calls Tryd.prog 5 #[v] w fun e w' => e = .returned (.string (tx (recT r))) ∧ Below w.heap.size w w' := by
  have C : Hid _ := okX_any S r v w h hS
  have H : Hid (∀ u, Below w.heap.size w u → AtL S u r v) := fun u hu => h.same (Same.of_below hu hS)
  clear h hS
  cases hr : recB r
  · have e : recT r = [] := by unfold recT; rw [hr]; rfl
    rw [e]
    rw [hr] at C
    go_enter Tryd.func5, Tryd.ntmps5
    go_wp2_with fail
    refine Calls.mono C.out ?_; rintro e w1 ⟨rfl, hb1⟩
    go_wp2_with fail
    go_ret
    exact ⟨rfl, hb1⟩
  · have e : recT r = txt (r.map wdP) := by unfold recT; rw [hr]; rfl
    rw [e]
    rw [hr] at C
    have HR : Hid (RecP r) := rec_iff.1 hr
    have hlr := HR.out.1
    obtain ⟨n, en⟩ : ∃ n, r.length = n := ⟨_, rfl⟩
    have EN : Hid (r.length = n) := en
    obtain ⟨b, off, cap, rfl⟩ : ∃ b off cap, v = .slice (some ⟨b, off, none⟩) n cap := by
      obtain ⟨oa, cap, ev, hx⟩ := H.out w (Below.refl _ _)
      obtain ⟨b, off, hoo, _⟩ := hx.2 0 (by omega)
      exact ⟨b, off, cap, by rw [ev, hoo, en]⟩
    rw [en] at hlr
    clear e en
    have PC : Hid (∀ u, Below w.heap.size w u → ∀ k (hk : k < r.length), _) := fun u hu => row_pc8 (H.out u hu)
    have LE : Hid (∀ k, (tx (txt ((r.map wdP).take k))).size ≤ 1200) := fun k => by
      have h1 := txt_le (r.map wdP) k
      have h2 := txt_len r (ph_mem HR.out)
      have := HR.out.1
      rw [tx_size]
      omega
    clear H
    go_enter Tryd.func5, Tryd.ntmps5
    go_wp2_with fail
    refine Calls.mono C.out ?_; rintro e w1 ⟨rfl, hb1⟩
    have B1 : Hid (Below w.heap.size w w1) := hb1
    clear hb1 C
    go_wp2_with fail
    go_loopw [3, 4] (fun out i wr => ∃ k : Nat, k ≤ n ∧ i = .int .i64 k ∧ out = .string (tx (txt ((r.map wdP).take k))) ∧ Hid (Below w.heap.size w wr)) (fun _ i _ => n - (intOf i).toNat)
    case atStart => exact ⟨0, Nat.zero_le _, rfl, rfl, B1⟩
    case round =>
      clear B1
      obtain ⟨k, hk, rfl, rfl, hbel⟩ := hrel
      have hsz := hbel.out.size
      by_cases hlt : k < n
      · have hkr : k < r.length := by have := EN.out; omega
        have PA : Hid _ := ph_all (step_of HR.out hkr).1
        have TK : Hid (txt ((r.map wdP).take (k + 1)) = txt ((r.map wdP).take k) ++ lineOf (wdP r[k])) := txt_take (r.map wdP) k (wdP r[k]) (by rw [List.getElem?_map, List.getElem?_eq_getElem hkr]; rfl)
        have WDP : Hid (wdP r[k] = wdL r[k].1 r[k].2.1 r[k].2.2.1 r[k].2.2.2.1 r[k].2.2.2.2.1 r[k].2.2.2.2.2.1 r[k].2.2.2.2.2.2.1 r[k].2.2.2.2.2.2.2) := rfl
        rw [WDP.out] at TK
        obtain ⟨x0, x1, x2, x3, x4, x5, x6, x7⟩ := PC.out wr hbel.out k hkr
        obtain ⟨f, ef⟩ : ∃ f, r[k] = f := ⟨_, rfl⟩
        rw [ef] at x0 x1 x2 x3 x4 x5 x6 x7 TK PA
        clear ef WDP
        obtain ⟨nm, kd, a, b', n', wi, th, el⟩ := f
        simp only at x0 x1 x2 x3 x4 x5 x6 x7
        obtain ⟨hz, hkd, hn', hwi⟩ := PA.out
        simp only at hz hkd hn' hwi
        have z0 : nm.size ≤ 8 := hz nm (by simp)
        have z2 : a.size ≤ 8 := hz a (by simp)
        have z3 : b'.size ≤ 8 := hz b' (by simp)
        have z6 : th.size ≤ 8 := hz th (by simp)
        have z7 : el.size ≤ 8 := hz el (by simp)
        clear hz PA
        have hL := LE.out k
        have PUT : Hid (∀ z, z = tx (txt ((r.map wdP).take k) ++ lineOf (wdL nm kd a b' n' wi th el)) → Value.string z = Value.string (tx (txt ((r.map wdP).take (k + 1))))) := fun z hz => by rw [hz, TK.out]
        obtain ⟨l, el0⟩ : ∃ l, txt ((r.map wdP).take k) = l := ⟨_, rfl⟩
        rw [el0] at PUT hL
        rw [el0]
        clear el0 TK
        have zk : (kwT kd).size ≤ 5 := kw_size kd
        have zw : (tx (Lib.decDigits wi.toNat)).size ≤ 4 := by rw [tx_size]; exact dec_len _ (by omega)
        have zn : (tx (Lib.decDigits n'.toNat)).size ≤ 4 := by rw [tx_size]; exact dec_len _ (by omega)
        have DC : Hid (∀ m u, 0 ≤ m → m ≤ 1000 → Calls Tryd.prog 12 #[.int .i64 m] u fun e w' => e = .returned (.string (tx (Lib.decDigits m.toNat))) ∧ Below u.heap.size u w') := fun m u h0 h1 => dec_any (m.toNat + 1) m u (by omega) h0 (by omega)
        obtain ⟨Y, hY⟩ : ∃ Y, Y = wr.alloc (.cells #[.string nm, .int .i64 kd, .string a, .string b', .int .i64 n', .int .i64 wi, .string th, .string el] 33) := ⟨_, rfl⟩
        have EY : Hid (Y = wr.alloc (.cells #[.string nm, .int .i64 kd, .string a, .string b', .int .i64 n', .int .i64 wi, .string th, .string el] 33)) := hY
        have bY : Hid (Below w.heap.size w Y) := by rw [hY]; exact hbel.out.alloc hsz _
        have KB : Hid (∀ u, Below Y.heap.size Y u → u.heap[wr.heap.size]? = some (.cells #[.string nm, .int .i64 kd, .string a, .string b', .int .i64 n', .int .i64 wi, .string th, .string el] 33 (0, 0))) := fun u hu => (hu.block wr.heap.size (by rw [hY]; simp)).trans (by rw [hY]; exact heap_alloc_new wr _)
        clear hY
        have BY : Hid (∀ u, Below Y.heap.size Y u → Below w.heap.size w u) := fun u hu => bY.out.trans (hu.mono bY.out.size)
        have HK : Hid (∀ d os, Calls Tryd.prog 11 #[.int .i64 kd] (grow (redrawn Y d) os) fun e w'' => e = .returned (.string (kwT kd)) ∧ ∃ p : Regrown, w'' = grow (redrawn Y p.d) p.os) := fun d os => Calls.regrown_of (kindX_any kd _ hkd.1 hkd.2)
        have p0 := (cell_row (KB.out Y (Below.refl _ _)) 0 (.string nm) rfl).1
        have p1 := (cell_row (KB.out Y (Below.refl _ _)) 1 (.int .i64 kd) rfl).1
        have p2 := (cell_row (KB.out Y (Below.refl _ _)) 2 (.string a) rfl).1
        have q0 := fun d os => cell_regrown p0 d os
        have q1 := fun d os => cell_regrown p1 d os
        have q2 := fun d os => cell_regrown p2 d os
        go_upto_region 8 with fail
        rw [← EY.out]
        clear EY x0 x1 x2 x3 x4 x5 x6 x7
        refine wp_region_quiet_below (by kernel_rfl) (by kernel_rfl) ?_
        repeat (first | go_big_quiet_step (with_reducible exact HK.out _ _) | quiet_step (with_reducible exact HK.out _ _))
        refine wpQuiet_nil ?_
        intro _ hw'
        obtain ⟨⟨dq, osq⟩, hw''⟩ := hw'
        subst hw''
        have hb2 : Hid (Below Y.heap.size Y (grow (redrawn Y dq) osq)) := below_regrown _ dq osq
        generalize grow (redrawn Y dq) osq = u at hb2 ⊢
        clear q0 q1 q2 p0 p1 p2 HK
        obtain ⟨O, hO⟩ : ∃ O, O = tx l ++ nm ++ ⟨#[32]⟩ ++ kwT kd ++ ⟨#[32]⟩ ++ a := ⟨_, rfl⟩
        have EO : Hid (O = tx l ++ nm ++ ⟨#[32]⟩ ++ kwT kd ++ ⟨#[32]⟩ ++ a) := hO
        have zO : O.size ≤ 1400 := by
          rw [hO]
          simp only [ByteArray.size_append]
          have e1 : (⟨#[32]⟩ : ByteArray).size = 1 := rfl
          omega
        rw [← hO]
        clear hO
        have p3 := (cell_row (KB.out u hb2.out) 3 (.string b') rfl).1
        cases hb0 : b'.toList.isEmpty
        · obtain ⟨O2, hO2⟩ : ∃ O2, O2 = O ++ ⟨#[32]⟩ ++ b' := ⟨_, rfl⟩
          have EO2 : Hid (O2 = O ++ ⟨#[32]⟩ ++ b') := hO2
          have zO2 : O2.size ≤ 1450 := by
            rw [hO2]
            simp only [ByteArray.size_append]
            have e1 : (⟨#[32]⟩ : ByteArray).size = 1 := rfl
            omega
          go_upto_region 11 with fail
          rw [← hO2]
          clear hO2 p3
          have p4 := (cell_row (KB.out u hb2.out) 4 (.int .i64 n') rfl).1
          by_cases hn : n' = 0
          · have hnd : decide ((0 : Int) < n') = false := by simp; omega
            have hnd2 : ¬ (0 < n') := by omega
            have HD : Hid (∀ d os, Calls Tryd.prog 12 #[.int .i64 wi] (grow (redrawn u d) os) fun e w'' => e = .returned (.string (tx (Lib.decDigits wi.toNat))) ∧ ∃ p : Regrown, w'' = grow (redrawn u p.d) p.os) := fun d os => Calls.regrown_of (DC.out wi _ (by omega) hwi.2)
            have p5 := (cell_row (KB.out u hb2.out) 5 (.int .i64 wi) rfl).1
            have p6 := (cell_row (KB.out u hb2.out) 6 (.string th) rfl).1
            have p7 := (cell_row (KB.out u hb2.out) 7 (.string el) rfl).1
            have q5 := fun d os => cell_regrown p5 d os
            have q6 := fun d os => cell_regrown p6 d os
            have q7 := fun d os => cell_regrown p7 d os
            go_upto_region 13 with fail
            refine wp_region_quiet_below (by kernel_rfl) (by kernel_rfl) ?_
            repeat (first | go_big_quiet_step (with_reducible exact HD.out _ _) | quiet_step (with_reducible exact HD.out _ _))
            refine wpQuiet_nil ?_
            intro _ hw'
            obtain ⟨⟨dq, osq⟩, hw''⟩ := hw'
            subst hw''
            have hb6 : Hid (Below u.heap.size u (grow (redrawn u dq) osq)) := below_regrown _ dq osq
            generalize grow (redrawn u dq) osq = u6 at hb6 ⊢
            have BF : Hid (Below w.heap.size w u6) := BY.out _ (hb2.out.trans (hb6.out.mono hb2.out.size))
            have EF : Hid (O2 ++ ⟨#[32, 119, 105, 116, 104, 105, 110, 32]⟩ ++ tx (Lib.decDigits wi.toNat) ++ ⟨#[32, 116, 104, 101, 110, 32]⟩ ++ th ++ ⟨#[32, 101, 108, 115, 101, 32]⟩ ++ el ++ ⟨#[10]⟩ = tx (l ++ lineOf (wdL nm kd a b' n' wi th el))) := by
              show _ = _
              rw [EO2.out, EO.out]
              exact put10 l nm kd a b' n' wi th el hb0 hn
            go_wp2_with fail
            go_roundw
            case rel => exact ⟨k + 1, by omega, by go_num, PUT.out _ EF.out, BF⟩
            case measure => simp [intOf]; omega
          · have hnd : decide ((0 : Int) < n') = true := by simp; omega
            have hnd2 : 0 < n' := by omega
            have CN : Hid _ := DC.out n' u hn'.1 hn'.2
            go_wp2_with fail
            refine Calls.mono CN.out ?_; rintro e u3 ⟨rfl, hb3⟩
            have hbu3 : Hid (Below Y.heap.size Y u3) := hb2.out.trans (hb3.mono hb2.out.size)
            clear CN hb3 p4
            obtain ⟨O3, hO3⟩ : ∃ O3, O3 = O2 ++ ⟨#[32]⟩ ++ tx (Lib.decDigits n'.toNat) := ⟨_, rfl⟩
            have EO3 : Hid (O3 = O2 ++ ⟨#[32]⟩ ++ tx (Lib.decDigits n'.toNat)) := hO3
            have zO3 : O3.size ≤ 1500 := by
              rw [hO3]
              simp only [ByteArray.size_append]
              have e1 : (⟨#[32]⟩ : ByteArray).size = 1 := rfl
              omega
            go_upto_region 13 with fail
            rw [← hO3]
            clear hO3
            have HD : Hid (∀ d os, Calls Tryd.prog 12 #[.int .i64 wi] (grow (redrawn u3 d) os) fun e w'' => e = .returned (.string (tx (Lib.decDigits wi.toNat))) ∧ ∃ p : Regrown, w'' = grow (redrawn u3 p.d) p.os) := fun d os => Calls.regrown_of (DC.out wi _ (by omega) hwi.2)
            have p5 := (cell_row (KB.out u3 hbu3.out) 5 (.int .i64 wi) rfl).1
            have p6 := (cell_row (KB.out u3 hbu3.out) 6 (.string th) rfl).1
            have p7 := (cell_row (KB.out u3 hbu3.out) 7 (.string el) rfl).1
            have q5 := fun d os => cell_regrown p5 d os
            have q6 := fun d os => cell_regrown p6 d os
            have q7 := fun d os => cell_regrown p7 d os
            refine wp_region_quiet_below (by kernel_rfl) (by kernel_rfl) ?_
            repeat (first | go_big_quiet_step (with_reducible exact HD.out _ _) | quiet_step (with_reducible exact HD.out _ _))
            refine wpQuiet_nil ?_
            intro _ hw'
            obtain ⟨⟨dq, osq⟩, hw''⟩ := hw'
            subst hw''
            have hb6 : Hid (Below u3.heap.size u3 (grow (redrawn u3 dq) osq)) := below_regrown _ dq osq
            generalize grow (redrawn u3 dq) osq = u6 at hb6 ⊢
            have BF : Hid (Below w.heap.size w u6) := BY.out _ (hbu3.out.trans (hb6.out.mono hbu3.out.size))
            have EF : Hid (O3 ++ ⟨#[32, 119, 105, 116, 104, 105, 110, 32]⟩ ++ tx (Lib.decDigits wi.toNat) ++ ⟨#[32, 116, 104, 101, 110, 32]⟩ ++ th ++ ⟨#[32, 101, 108, 115, 101, 32]⟩ ++ el ++ ⟨#[10]⟩ = tx (l ++ lineOf (wdL nm kd a b' n' wi th el))) := by
              show _ = _
              rw [EO3.out, EO2.out, EO.out]
              exact put11 l nm kd a b' n' wi th el hb0 hn
            go_wp2_with fail
            go_roundw
            case rel => exact ⟨k + 1, by omega, by go_num, PUT.out _ EF.out, BF⟩
            case measure => simp [intOf]; omega
        · go_upto_region 11 with fail
          clear p3
          have p4 := (cell_row (KB.out u hb2.out) 4 (.int .i64 n') rfl).1
          by_cases hn : n' = 0
          · have hnd : decide ((0 : Int) < n') = false := by simp; omega
            have hnd2 : ¬ (0 < n') := by omega
            have HD : Hid (∀ d os, Calls Tryd.prog 12 #[.int .i64 wi] (grow (redrawn u d) os) fun e w'' => e = .returned (.string (tx (Lib.decDigits wi.toNat))) ∧ ∃ p : Regrown, w'' = grow (redrawn u p.d) p.os) := fun d os => Calls.regrown_of (DC.out wi _ (by omega) hwi.2)
            have p5 := (cell_row (KB.out u hb2.out) 5 (.int .i64 wi) rfl).1
            have p6 := (cell_row (KB.out u hb2.out) 6 (.string th) rfl).1
            have p7 := (cell_row (KB.out u hb2.out) 7 (.string el) rfl).1
            have q5 := fun d os => cell_regrown p5 d os
            have q6 := fun d os => cell_regrown p6 d os
            have q7 := fun d os => cell_regrown p7 d os
            go_upto_region 13 with fail
            refine wp_region_quiet_below (by kernel_rfl) (by kernel_rfl) ?_
            repeat (first | go_big_quiet_step (with_reducible exact HD.out _ _) | quiet_step (with_reducible exact HD.out _ _))
            refine wpQuiet_nil ?_
            intro _ hw'
            obtain ⟨⟨dq, osq⟩, hw''⟩ := hw'
            subst hw''
            have hb6 : Hid (Below u.heap.size u (grow (redrawn u dq) osq)) := below_regrown _ dq osq
            generalize grow (redrawn u dq) osq = u6 at hb6 ⊢
            have BF : Hid (Below w.heap.size w u6) := BY.out _ (hb2.out.trans (hb6.out.mono hb2.out.size))
            have EF : Hid (O ++ ⟨#[32, 119, 105, 116, 104, 105, 110, 32]⟩ ++ tx (Lib.decDigits wi.toNat) ++ ⟨#[32, 116, 104, 101, 110, 32]⟩ ++ th ++ ⟨#[32, 101, 108, 115, 101, 32]⟩ ++ el ++ ⟨#[10]⟩ = tx (l ++ lineOf (wdL nm kd a b' n' wi th el))) := by
              show _ = _
              rw [EO.out]
              exact put00 l nm kd a b' n' wi th el hb0 hn
            go_wp2_with fail
            go_roundw
            case rel => exact ⟨k + 1, by omega, by go_num, PUT.out _ EF.out, BF⟩
            case measure => simp [intOf]; omega
          · have hnd : decide ((0 : Int) < n') = true := by simp; omega
            have hnd2 : 0 < n' := by omega
            have CN : Hid _ := DC.out n' u hn'.1 hn'.2
            go_wp2_with fail
            refine Calls.mono CN.out ?_; rintro e u3 ⟨rfl, hb3⟩
            have hbu3 : Hid (Below Y.heap.size Y u3) := hb2.out.trans (hb3.mono hb2.out.size)
            clear CN hb3 p4
            obtain ⟨O3, hO3⟩ : ∃ O3, O3 = O ++ ⟨#[32]⟩ ++ tx (Lib.decDigits n'.toNat) := ⟨_, rfl⟩
            have EO3 : Hid (O3 = O ++ ⟨#[32]⟩ ++ tx (Lib.decDigits n'.toNat)) := hO3
            have zO3 : O3.size ≤ 1500 := by
              rw [hO3]
              simp only [ByteArray.size_append]
              have e1 : (⟨#[32]⟩ : ByteArray).size = 1 := rfl
              omega
            go_upto_region 13 with fail
            rw [← hO3]
            clear hO3
            have HD : Hid (∀ d os, Calls Tryd.prog 12 #[.int .i64 wi] (grow (redrawn u3 d) os) fun e w'' => e = .returned (.string (tx (Lib.decDigits wi.toNat))) ∧ ∃ p : Regrown, w'' = grow (redrawn u3 p.d) p.os) := fun d os => Calls.regrown_of (DC.out wi _ (by omega) hwi.2)
            have p5 := (cell_row (KB.out u3 hbu3.out) 5 (.int .i64 wi) rfl).1
            have p6 := (cell_row (KB.out u3 hbu3.out) 6 (.string th) rfl).1
            have p7 := (cell_row (KB.out u3 hbu3.out) 7 (.string el) rfl).1
            have q5 := fun d os => cell_regrown p5 d os
            have q6 := fun d os => cell_regrown p6 d os
            have q7 := fun d os => cell_regrown p7 d os
            refine wp_region_quiet_below (by kernel_rfl) (by kernel_rfl) ?_
            repeat (first | go_big_quiet_step (with_reducible exact HD.out _ _) | quiet_step (with_reducible exact HD.out _ _))
            refine wpQuiet_nil ?_
            intro _ hw'
            obtain ⟨⟨dq, osq⟩, hw''⟩ := hw'
            subst hw''
            have hb6 : Hid (Below u3.heap.size u3 (grow (redrawn u3 dq) osq)) := below_regrown _ dq osq
            generalize grow (redrawn u3 dq) osq = u6 at hb6 ⊢
            have BF : Hid (Below w.heap.size w u6) := BY.out _ (hbu3.out.trans (hb6.out.mono hbu3.out.size))
            have EF : Hid (O3 ++ ⟨#[32, 119, 105, 116, 104, 105, 110, 32]⟩ ++ tx (Lib.decDigits wi.toNat) ++ ⟨#[32, 116, 104, 101, 110, 32]⟩ ++ th ++ ⟨#[32, 101, 108, 115, 101, 32]⟩ ++ el ++ ⟨#[10]⟩ = tx (l ++ lineOf (wdL nm kd a b' n' wi th el))) := by
              show _ = _
              rw [EO3.out, EO.out]
              exact put01 l nm kd a b' n' wi th el hb0 hn
            go_wp2_with fail
            go_roundw
            case rel => exact ⟨k + 1, by omega, by go_num, PUT.out _ EF.out, BF⟩
            case measure => simp [intOf]; omega
      · obtain rfl : n = k := by omega
        have hall : (r.map wdP).take n = r.map wdP := List.take_of_length_le (by rw [List.length_map, EN.out]; exact Nat.le_refl _)
        rw [hall]
        go_wp2_with fail
        go_ret
        exact ⟨rfl, hbel.out⟩

end Go.Proofs.YthonjmefjmbogacDoor
