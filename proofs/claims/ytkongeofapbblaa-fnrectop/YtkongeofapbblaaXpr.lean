/-
  The program's runs of a recipe: how a phase goes, and where it goes on to.
-/
import Derived.Test.YtkongeofapbblaaXpq
import Derived.Test.YtkongeofapbblaaXg
namespace Go.Proofs.Ytkongeofapbblaa
open Go.RowKit

theorem taH_3 (a b : ByteArray) (n wi : Int) (W : World) : (Instr.typeAssert (phV 3 a b n wi) 81 104 true).run Try.prog W = .ok (.tuple #[.agg #[.string a, .int .i64 n, .int .i64 wi], .bool true]) W := by
  rw [ph_3]
  kernel_rfl
theorem taH_no {kd : Int} (a b : ByteArray) (n wi : Int) (h3 : ¬ kd = 3) (W : World) : (Instr.typeAssert (phV kd a b n wi) 81 104 true).run Try.prog W = .ok (.tuple #[.agg #[.string ⟨#[]⟩, .int .i64 0, .int .i64 0], .bool false]) W := by
  by_cases h1 : kd = 1
  · subst h1; rw [ph_1]; kernel_rfl
  by_cases h2 : kd = 2
  · subst h2; rw [ph_2]; kernel_rfl
  by_cases h4 : kd = 4
  · subst h4; rw [ph_4]; kernel_rfl
  by_cases h5 : kd = 5
  · subst h5; rw [ph_5]; kernel_rfl
  rw [ph_no a b n wi h1 h2 h3 h4 h5]; kernel_rfl

set_option maxRecDepth 100000 in
set_option maxHeartbeats 4000000 in
theorem went_any (nm a b th el : ByteArray) (kd n wi t : Int) (well : Bool) (w : World) (hw : 1 ≤ wi) :
    Calls Try.prog 41 #[.agg #[.string nm, .int .i64 kd, .string a, .string b, .int .i64 n, .int .i64 wi, .string th, .string el], .agg #[.int .i64 t, .bool well]] w fun e w' => e = .returned (.agg #[.int .i64 (goT (nm, kd, a, b, n, wi, th, el) t well).1, .bool (goT (nm, kd, a, b, n, wi, th, el) t well).2]) ∧ Below w.heap.size w w' := by
  by_cases h3 : kd = 3
  · subst h3
    have ta := taH_3 a b n wi
    obtain ⟨W, hW⟩ : ∃ W, W = (((w.alloc (.cells #[.string nm, .int .i64 3, .string a, .string b, .int .i64 n, .int .i64 wi, .string th, .string el] 37)).alloc (.cells #[.int .i64 t, .bool well] 41)).alloc (.cells #[.int .i64 0, .bool false] 41)) := ⟨_, rfl⟩
    have bW : Hid (Below w.heap.size w W) := by rw [hW]; exact (((Below.refl _ _).alloc (Nat.le_refl _) _).alloc (by simp) _).alloc (by simp; omega) _
    have rZ : Hid (W.heap[w.heap.size + 1 + 1]? = some (.cells #[.int .i64 0, .bool false] 41 (0, 0))) := by
      have := heap_alloc_new ((w.alloc (.cells #[.string nm, .int .i64 3, .string a, .string b, .int .i64 n, .int .i64 wi, .string th, .string el] 37)).alloc (.cells #[.int .i64 t, .bool well] 41)) (.cells #[.int .i64 0, .bool false] 41)
      rw [hW]; show _ = _; simpa using this
    have rP : Hid (W.heap[w.heap.size]? = some (.cells #[.string nm, .int .i64 3, .string a, .string b, .int .i64 n, .int .i64 wi, .string th, .string el] 37 (0, 0))) := by
      rw [hW]
      exact (Below.heap_alloc _ _ _ (by simp; omega)).trans ((Below.heap_alloc _ _ _ (by simp)).trans (heap_alloc_new w _))
    have rY : Hid (W.heap[w.heap.size + 1]? = some (.cells #[.int .i64 t, .bool well] 41 (0, 0))) := by
      rw [hW]
      refine (Below.heap_alloc _ _ _ (by simp)).trans ?_
      have := heap_alloc_new (w.alloc (.cells #[.string nm, .int .i64 3, .string a, .string b, .int .i64 n, .int .i64 wi, .string th, .string el] 37)) (.cells #[.int .i64 t, .bool well] 41)
      show _ = _
      simpa using this
    have sW : w.heap.size + 1 + 1 + 1 ≤ W.heap.size := by rw [hW]; simp
    have eW : Hid (W = (((w.alloc (.cells #[.string nm, .int .i64 3, .string a, .string b, .int .i64 n, .int .i64 wi, .string th, .string el] 37)).alloc (.cells #[.int .i64 t, .bool well] 41)).alloc (.cells #[.int .i64 0, .bool false] 41))) := hW
    clear hW
    cases well
    · by_cases c0 : t < 0
      · rw [show goT (nm, 3, a, b, n, wi, th, el) t false = (0, false) by simp only [goT]; (repeat' split) <;> simp_all <;> omega]
        have mx0 : max t 0 = 0 := by omega
        go_enter Try.func41, Try.ntmps41
        go_wp2_with fail
        rw [← eW.out]
        refine (phasing_any nm a b th el 3 n wi W).mono ?_; rintro e u ⟨rfl, hb⟩
        have bU : Hid (Below w.heap.size w (u.alloc (.cells #[.string a, .int .i64 n, .int .i64 wi] 104))) := (bW.out.trans (hb.mono bW.out.size)).alloc (by have := hb.size; omega) _
        have sU : w.heap.size + 1 + 1 + 1 ≤ u.heap.size := by have := hb.size; omega
        have row : (u.alloc (.cells #[.string a, .int .i64 n, .int .i64 wi] 104)).heap[w.heap.size + 1 + 1]? = some (.cells #[.int .i64 0, .bool false] 41 (0, 0)) := (Below.heap_alloc _ _ _ (by omega)).trans ((hb.block _ (by omega)).trans rZ.out)
        have rowP : (u.alloc (.cells #[.string a, .int .i64 n, .int .i64 wi] 104)).heap[w.heap.size]? = some (.cells #[.string nm, .int .i64 3, .string a, .string b, .int .i64 n, .int .i64 wi, .string th, .string el] 37 (0, 0)) := (Below.heap_alloc _ _ _ (by omega)).trans ((hb.block _ (by omega)).trans rP.out)
        have rowY : (u.alloc (.cells #[.string a, .int .i64 n, .int .i64 wi] 104)).heap[w.heap.size + 1]? = some (.cells #[.int .i64 t, .bool false] 41 (0, 0)) := (Below.heap_alloc _ _ _ (by omega)).trans ((hb.block _ (by omega)).trans rY.out)
        have y1 := (cell_row rowY 1 (.bool false) rfl).1
        have x5 := (cell_row rowP 5 (.int .i64 wi) rfl).1
        obtain ⟨p0, g0⟩ := cell_row row 0 _ rfl
        obtain ⟨p1, g1⟩ := cell_row row 1 _ rfl
        have fin := set_row (set_row row 0 (.int .i64 0)) 1 (.bool false)
        have f0 := (cell_row fin 0 (.int .i64 0) rfl).1
        have f1 := (cell_row fin 1 (.bool false) rfl).1
        have bF := ((bU.out.setCell (p := ⟨w.heap.size + 1 + 1, 0, none⟩) (by show w.heap.size ≤ w.heap.size + 1 + 1; omega) (.int .i64 0)).setCell (p := ⟨w.heap.size + 1 + 1, 1, none⟩) (by show w.heap.size ≤ w.heap.size + 1 + 1; omega) (.bool false))
        clear hb row rowP rowY fin
        go_wp2_with fail
        exact bodyPost_ret (v := .agg #[.int .i64 0, .bool false]) (by simp [results, Try.results41, go_sem, f0, f1]) rfl ⟨rfl, bF⟩
      by_cases c1 : wi < t
      · rw [show goT (nm, 3, a, b, n, wi, th, el) t false = (wi, false) by simp only [goT]; (repeat' split) <;> simp_all <;> omega]
        have mx0 : max t 0 = t := by omega
        go_enter Try.func41, Try.ntmps41
        go_wp2_with fail
        rw [← eW.out]
        refine (phasing_any nm a b th el 3 n wi W).mono ?_; rintro e u ⟨rfl, hb⟩
        have bU : Hid (Below w.heap.size w (u.alloc (.cells #[.string a, .int .i64 n, .int .i64 wi] 104))) := (bW.out.trans (hb.mono bW.out.size)).alloc (by have := hb.size; omega) _
        have sU : w.heap.size + 1 + 1 + 1 ≤ u.heap.size := by have := hb.size; omega
        have row : (u.alloc (.cells #[.string a, .int .i64 n, .int .i64 wi] 104)).heap[w.heap.size + 1 + 1]? = some (.cells #[.int .i64 0, .bool false] 41 (0, 0)) := (Below.heap_alloc _ _ _ (by omega)).trans ((hb.block _ (by omega)).trans rZ.out)
        have rowP : (u.alloc (.cells #[.string a, .int .i64 n, .int .i64 wi] 104)).heap[w.heap.size]? = some (.cells #[.string nm, .int .i64 3, .string a, .string b, .int .i64 n, .int .i64 wi, .string th, .string el] 37 (0, 0)) := (Below.heap_alloc _ _ _ (by omega)).trans ((hb.block _ (by omega)).trans rP.out)
        have rowY : (u.alloc (.cells #[.string a, .int .i64 n, .int .i64 wi] 104)).heap[w.heap.size + 1]? = some (.cells #[.int .i64 t, .bool false] 41 (0, 0)) := (Below.heap_alloc _ _ _ (by omega)).trans ((hb.block _ (by omega)).trans rY.out)
        have y1 := (cell_row rowY 1 (.bool false) rfl).1
        have x5 := (cell_row rowP 5 (.int .i64 wi) rfl).1
        obtain ⟨p0, g0⟩ := cell_row row 0 _ rfl
        obtain ⟨p1, g1⟩ := cell_row row 1 _ rfl
        have fin := set_row (set_row row 0 (.int .i64 wi)) 1 (.bool false)
        have f0 := (cell_row fin 0 (.int .i64 wi) rfl).1
        have f1 := (cell_row fin 1 (.bool false) rfl).1
        have bF := ((bU.out.setCell (p := ⟨w.heap.size + 1 + 1, 0, none⟩) (by show w.heap.size ≤ w.heap.size + 1 + 1; omega) (.int .i64 wi)).setCell (p := ⟨w.heap.size + 1 + 1, 1, none⟩) (by show w.heap.size ≤ w.heap.size + 1 + 1; omega) (.bool false))
        clear hb row rowP rowY fin
        go_wp2_with fail
        exact bodyPost_ret (v := .agg #[.int .i64 wi, .bool false]) (by simp [results, Try.results41, go_sem, f0, f1]) rfl ⟨rfl, bF⟩
      · rw [show goT (nm, 3, a, b, n, wi, th, el) t false = (t, false) by simp only [goT]; (repeat' split) <;> simp_all <;> omega]
        have mx0 : max t 0 = t := by omega
        go_enter Try.func41, Try.ntmps41
        go_wp2_with fail
        rw [← eW.out]
        refine (phasing_any nm a b th el 3 n wi W).mono ?_; rintro e u ⟨rfl, hb⟩
        have bU : Hid (Below w.heap.size w (u.alloc (.cells #[.string a, .int .i64 n, .int .i64 wi] 104))) := (bW.out.trans (hb.mono bW.out.size)).alloc (by have := hb.size; omega) _
        have sU : w.heap.size + 1 + 1 + 1 ≤ u.heap.size := by have := hb.size; omega
        have row : (u.alloc (.cells #[.string a, .int .i64 n, .int .i64 wi] 104)).heap[w.heap.size + 1 + 1]? = some (.cells #[.int .i64 0, .bool false] 41 (0, 0)) := (Below.heap_alloc _ _ _ (by omega)).trans ((hb.block _ (by omega)).trans rZ.out)
        have rowP : (u.alloc (.cells #[.string a, .int .i64 n, .int .i64 wi] 104)).heap[w.heap.size]? = some (.cells #[.string nm, .int .i64 3, .string a, .string b, .int .i64 n, .int .i64 wi, .string th, .string el] 37 (0, 0)) := (Below.heap_alloc _ _ _ (by omega)).trans ((hb.block _ (by omega)).trans rP.out)
        have rowY : (u.alloc (.cells #[.string a, .int .i64 n, .int .i64 wi] 104)).heap[w.heap.size + 1]? = some (.cells #[.int .i64 t, .bool false] 41 (0, 0)) := (Below.heap_alloc _ _ _ (by omega)).trans ((hb.block _ (by omega)).trans rY.out)
        have y1 := (cell_row rowY 1 (.bool false) rfl).1
        have x5 := (cell_row rowP 5 (.int .i64 wi) rfl).1
        obtain ⟨p0, g0⟩ := cell_row row 0 _ rfl
        obtain ⟨p1, g1⟩ := cell_row row 1 _ rfl
        have fin := set_row (set_row row 0 (.int .i64 t)) 1 (.bool false)
        have f0 := (cell_row fin 0 (.int .i64 t) rfl).1
        have f1 := (cell_row fin 1 (.bool false) rfl).1
        have bF := ((bU.out.setCell (p := ⟨w.heap.size + 1 + 1, 0, none⟩) (by show w.heap.size ≤ w.heap.size + 1 + 1; omega) (.int .i64 t)).setCell (p := ⟨w.heap.size + 1 + 1, 1, none⟩) (by show w.heap.size ≤ w.heap.size + 1 + 1; omega) (.bool false))
        clear hb row rowP rowY fin
        go_wp2_with fail
        exact bodyPost_ret (v := .agg #[.int .i64 t, .bool false]) (by simp [results, Try.results41, go_sem, f0, f1]) rfl ⟨rfl, bF⟩
    · by_cases c0 : t < 0
      · by_cases c2 : 0 < n
        · by_cases c1 : wi < n
          · rw [show goT (nm, 3, a, b, n, wi, th, el) t true = (wi, false) by simp only [goT]; (repeat' split) <;> simp_all <;> omega]
            have mx0 : max t 0 = 0 := by omega
            have mx1 : max 0 n = n := by omega
            go_enter Try.func41, Try.ntmps41
            go_wp2_with fail
            rw [← eW.out]
            refine (phasing_any nm a b th el 3 n wi W).mono ?_; rintro e u ⟨rfl, hb⟩
            have bU : Hid (Below w.heap.size w (u.alloc (.cells #[.string a, .int .i64 n, .int .i64 wi] 104))) := (bW.out.trans (hb.mono bW.out.size)).alloc (by have := hb.size; omega) _
            have sU : w.heap.size + 1 + 1 + 1 ≤ u.heap.size := by have := hb.size; omega
            have row : (u.alloc (.cells #[.string a, .int .i64 n, .int .i64 wi] 104)).heap[w.heap.size + 1 + 1]? = some (.cells #[.int .i64 0, .bool false] 41 (0, 0)) := (Below.heap_alloc _ _ _ (by omega)).trans ((hb.block _ (by omega)).trans rZ.out)
            have rowP : (u.alloc (.cells #[.string a, .int .i64 n, .int .i64 wi] 104)).heap[w.heap.size]? = some (.cells #[.string nm, .int .i64 3, .string a, .string b, .int .i64 n, .int .i64 wi, .string th, .string el] 37 (0, 0)) := (Below.heap_alloc _ _ _ (by omega)).trans ((hb.block _ (by omega)).trans rP.out)
            have rowY : (u.alloc (.cells #[.string a, .int .i64 n, .int .i64 wi] 104)).heap[w.heap.size + 1]? = some (.cells #[.int .i64 t, .bool true] 41 (0, 0)) := (Below.heap_alloc _ _ _ (by omega)).trans ((hb.block _ (by omega)).trans rY.out)
            have y1 := (cell_row rowY 1 (.bool true) rfl).1
            have x5 := (cell_row rowP 5 (.int .i64 wi) rfl).1
            obtain ⟨p0, g0⟩ := cell_row row 0 _ rfl
            obtain ⟨p1, g1⟩ := cell_row row 1 _ rfl
            have fin := set_row (set_row row 0 (.int .i64 wi)) 1 (.bool false)
            have f0 := (cell_row fin 0 (.int .i64 wi) rfl).1
            have f1 := (cell_row fin 1 (.bool false) rfl).1
            have bF := ((bU.out.setCell (p := ⟨w.heap.size + 1 + 1, 0, none⟩) (by show w.heap.size ≤ w.heap.size + 1 + 1; omega) (.int .i64 wi)).setCell (p := ⟨w.heap.size + 1 + 1, 1, none⟩) (by show w.heap.size ≤ w.heap.size + 1 + 1; omega) (.bool false))
            clear hb row rowP rowY fin
            go_wp2_with fail
            exact bodyPost_ret (v := .agg #[.int .i64 wi, .bool false]) (by simp [results, Try.results41, go_sem, f0, f1]) rfl ⟨rfl, bF⟩
          · rw [show goT (nm, 3, a, b, n, wi, th, el) t true = (n, true) by simp only [goT]; (repeat' split) <;> simp_all <;> omega]
            have mx0 : max t 0 = 0 := by omega
            have mx1 : max 0 n = n := by omega
            go_enter Try.func41, Try.ntmps41
            go_wp2_with fail
            rw [← eW.out]
            refine (phasing_any nm a b th el 3 n wi W).mono ?_; rintro e u ⟨rfl, hb⟩
            have bU : Hid (Below w.heap.size w (u.alloc (.cells #[.string a, .int .i64 n, .int .i64 wi] 104))) := (bW.out.trans (hb.mono bW.out.size)).alloc (by have := hb.size; omega) _
            have sU : w.heap.size + 1 + 1 + 1 ≤ u.heap.size := by have := hb.size; omega
            have row : (u.alloc (.cells #[.string a, .int .i64 n, .int .i64 wi] 104)).heap[w.heap.size + 1 + 1]? = some (.cells #[.int .i64 0, .bool false] 41 (0, 0)) := (Below.heap_alloc _ _ _ (by omega)).trans ((hb.block _ (by omega)).trans rZ.out)
            have rowP : (u.alloc (.cells #[.string a, .int .i64 n, .int .i64 wi] 104)).heap[w.heap.size]? = some (.cells #[.string nm, .int .i64 3, .string a, .string b, .int .i64 n, .int .i64 wi, .string th, .string el] 37 (0, 0)) := (Below.heap_alloc _ _ _ (by omega)).trans ((hb.block _ (by omega)).trans rP.out)
            have rowY : (u.alloc (.cells #[.string a, .int .i64 n, .int .i64 wi] 104)).heap[w.heap.size + 1]? = some (.cells #[.int .i64 t, .bool true] 41 (0, 0)) := (Below.heap_alloc _ _ _ (by omega)).trans ((hb.block _ (by omega)).trans rY.out)
            have y1 := (cell_row rowY 1 (.bool true) rfl).1
            have x5 := (cell_row rowP 5 (.int .i64 wi) rfl).1
            obtain ⟨p0, g0⟩ := cell_row row 0 _ rfl
            obtain ⟨p1, g1⟩ := cell_row row 1 _ rfl
            have fin := set_row (set_row row 0 (.int .i64 n)) 1 (.bool true)
            have f0 := (cell_row fin 0 (.int .i64 n) rfl).1
            have f1 := (cell_row fin 1 (.bool true) rfl).1
            have bF := ((bU.out.setCell (p := ⟨w.heap.size + 1 + 1, 0, none⟩) (by show w.heap.size ≤ w.heap.size + 1 + 1; omega) (.int .i64 n)).setCell (p := ⟨w.heap.size + 1 + 1, 1, none⟩) (by show w.heap.size ≤ w.heap.size + 1 + 1; omega) (.bool true))
            clear hb row rowP rowY fin
            go_wp2_with fail
            exact bodyPost_ret (v := .agg #[.int .i64 n, .bool true]) (by simp [results, Try.results41, go_sem, f0, f1]) rfl ⟨rfl, bF⟩
        · rw [show goT (nm, 3, a, b, n, wi, th, el) t true = (0, true) by simp only [goT]; (repeat' split) <;> simp_all <;> omega]
          have mx0 : max t 0 = 0 := by omega
          have mx1 : max 0 n = 0 := by omega
          go_enter Try.func41, Try.ntmps41
          go_wp2_with fail
          rw [← eW.out]
          refine (phasing_any nm a b th el 3 n wi W).mono ?_; rintro e u ⟨rfl, hb⟩
          have bU : Hid (Below w.heap.size w (u.alloc (.cells #[.string a, .int .i64 n, .int .i64 wi] 104))) := (bW.out.trans (hb.mono bW.out.size)).alloc (by have := hb.size; omega) _
          have sU : w.heap.size + 1 + 1 + 1 ≤ u.heap.size := by have := hb.size; omega
          have row : (u.alloc (.cells #[.string a, .int .i64 n, .int .i64 wi] 104)).heap[w.heap.size + 1 + 1]? = some (.cells #[.int .i64 0, .bool false] 41 (0, 0)) := (Below.heap_alloc _ _ _ (by omega)).trans ((hb.block _ (by omega)).trans rZ.out)
          have rowP : (u.alloc (.cells #[.string a, .int .i64 n, .int .i64 wi] 104)).heap[w.heap.size]? = some (.cells #[.string nm, .int .i64 3, .string a, .string b, .int .i64 n, .int .i64 wi, .string th, .string el] 37 (0, 0)) := (Below.heap_alloc _ _ _ (by omega)).trans ((hb.block _ (by omega)).trans rP.out)
          have rowY : (u.alloc (.cells #[.string a, .int .i64 n, .int .i64 wi] 104)).heap[w.heap.size + 1]? = some (.cells #[.int .i64 t, .bool true] 41 (0, 0)) := (Below.heap_alloc _ _ _ (by omega)).trans ((hb.block _ (by omega)).trans rY.out)
          have y1 := (cell_row rowY 1 (.bool true) rfl).1
          have x5 := (cell_row rowP 5 (.int .i64 wi) rfl).1
          obtain ⟨p0, g0⟩ := cell_row row 0 _ rfl
          obtain ⟨p1, g1⟩ := cell_row row 1 _ rfl
          have fin := set_row (set_row row 0 (.int .i64 0)) 1 (.bool true)
          have f0 := (cell_row fin 0 (.int .i64 0) rfl).1
          have f1 := (cell_row fin 1 (.bool true) rfl).1
          have bF := ((bU.out.setCell (p := ⟨w.heap.size + 1 + 1, 0, none⟩) (by show w.heap.size ≤ w.heap.size + 1 + 1; omega) (.int .i64 0)).setCell (p := ⟨w.heap.size + 1 + 1, 1, none⟩) (by show w.heap.size ≤ w.heap.size + 1 + 1; omega) (.bool true))
          clear hb row rowP rowY fin
          go_wp2_with fail
          exact bodyPost_ret (v := .agg #[.int .i64 0, .bool true]) (by simp [results, Try.results41, go_sem, f0, f1]) rfl ⟨rfl, bF⟩
      by_cases c2 : t < n
      · by_cases c1 : wi < n
        · rw [show goT (nm, 3, a, b, n, wi, th, el) t true = (wi, false) by simp only [goT]; (repeat' split) <;> simp_all <;> omega]
          have mx0 : max t 0 = t := by omega
          have mx1 : max t n = n := by omega
          go_enter Try.func41, Try.ntmps41
          go_wp2_with fail
          rw [← eW.out]
          refine (phasing_any nm a b th el 3 n wi W).mono ?_; rintro e u ⟨rfl, hb⟩
          have bU : Hid (Below w.heap.size w (u.alloc (.cells #[.string a, .int .i64 n, .int .i64 wi] 104))) := (bW.out.trans (hb.mono bW.out.size)).alloc (by have := hb.size; omega) _
          have sU : w.heap.size + 1 + 1 + 1 ≤ u.heap.size := by have := hb.size; omega
          have row : (u.alloc (.cells #[.string a, .int .i64 n, .int .i64 wi] 104)).heap[w.heap.size + 1 + 1]? = some (.cells #[.int .i64 0, .bool false] 41 (0, 0)) := (Below.heap_alloc _ _ _ (by omega)).trans ((hb.block _ (by omega)).trans rZ.out)
          have rowP : (u.alloc (.cells #[.string a, .int .i64 n, .int .i64 wi] 104)).heap[w.heap.size]? = some (.cells #[.string nm, .int .i64 3, .string a, .string b, .int .i64 n, .int .i64 wi, .string th, .string el] 37 (0, 0)) := (Below.heap_alloc _ _ _ (by omega)).trans ((hb.block _ (by omega)).trans rP.out)
          have rowY : (u.alloc (.cells #[.string a, .int .i64 n, .int .i64 wi] 104)).heap[w.heap.size + 1]? = some (.cells #[.int .i64 t, .bool true] 41 (0, 0)) := (Below.heap_alloc _ _ _ (by omega)).trans ((hb.block _ (by omega)).trans rY.out)
          have y1 := (cell_row rowY 1 (.bool true) rfl).1
          have x5 := (cell_row rowP 5 (.int .i64 wi) rfl).1
          obtain ⟨p0, g0⟩ := cell_row row 0 _ rfl
          obtain ⟨p1, g1⟩ := cell_row row 1 _ rfl
          have fin := set_row (set_row row 0 (.int .i64 wi)) 1 (.bool false)
          have f0 := (cell_row fin 0 (.int .i64 wi) rfl).1
          have f1 := (cell_row fin 1 (.bool false) rfl).1
          have bF := ((bU.out.setCell (p := ⟨w.heap.size + 1 + 1, 0, none⟩) (by show w.heap.size ≤ w.heap.size + 1 + 1; omega) (.int .i64 wi)).setCell (p := ⟨w.heap.size + 1 + 1, 1, none⟩) (by show w.heap.size ≤ w.heap.size + 1 + 1; omega) (.bool false))
          clear hb row rowP rowY fin
          go_wp2_with fail
          exact bodyPost_ret (v := .agg #[.int .i64 wi, .bool false]) (by simp [results, Try.results41, go_sem, f0, f1]) rfl ⟨rfl, bF⟩
        · rw [show goT (nm, 3, a, b, n, wi, th, el) t true = (n, true) by simp only [goT]; (repeat' split) <;> simp_all <;> omega]
          have mx0 : max t 0 = t := by omega
          have mx1 : max t n = n := by omega
          go_enter Try.func41, Try.ntmps41
          go_wp2_with fail
          rw [← eW.out]
          refine (phasing_any nm a b th el 3 n wi W).mono ?_; rintro e u ⟨rfl, hb⟩
          have bU : Hid (Below w.heap.size w (u.alloc (.cells #[.string a, .int .i64 n, .int .i64 wi] 104))) := (bW.out.trans (hb.mono bW.out.size)).alloc (by have := hb.size; omega) _
          have sU : w.heap.size + 1 + 1 + 1 ≤ u.heap.size := by have := hb.size; omega
          have row : (u.alloc (.cells #[.string a, .int .i64 n, .int .i64 wi] 104)).heap[w.heap.size + 1 + 1]? = some (.cells #[.int .i64 0, .bool false] 41 (0, 0)) := (Below.heap_alloc _ _ _ (by omega)).trans ((hb.block _ (by omega)).trans rZ.out)
          have rowP : (u.alloc (.cells #[.string a, .int .i64 n, .int .i64 wi] 104)).heap[w.heap.size]? = some (.cells #[.string nm, .int .i64 3, .string a, .string b, .int .i64 n, .int .i64 wi, .string th, .string el] 37 (0, 0)) := (Below.heap_alloc _ _ _ (by omega)).trans ((hb.block _ (by omega)).trans rP.out)
          have rowY : (u.alloc (.cells #[.string a, .int .i64 n, .int .i64 wi] 104)).heap[w.heap.size + 1]? = some (.cells #[.int .i64 t, .bool true] 41 (0, 0)) := (Below.heap_alloc _ _ _ (by omega)).trans ((hb.block _ (by omega)).trans rY.out)
          have y1 := (cell_row rowY 1 (.bool true) rfl).1
          have x5 := (cell_row rowP 5 (.int .i64 wi) rfl).1
          obtain ⟨p0, g0⟩ := cell_row row 0 _ rfl
          obtain ⟨p1, g1⟩ := cell_row row 1 _ rfl
          have fin := set_row (set_row row 0 (.int .i64 n)) 1 (.bool true)
          have f0 := (cell_row fin 0 (.int .i64 n) rfl).1
          have f1 := (cell_row fin 1 (.bool true) rfl).1
          have bF := ((bU.out.setCell (p := ⟨w.heap.size + 1 + 1, 0, none⟩) (by show w.heap.size ≤ w.heap.size + 1 + 1; omega) (.int .i64 n)).setCell (p := ⟨w.heap.size + 1 + 1, 1, none⟩) (by show w.heap.size ≤ w.heap.size + 1 + 1; omega) (.bool true))
          clear hb row rowP rowY fin
          go_wp2_with fail
          exact bodyPost_ret (v := .agg #[.int .i64 n, .bool true]) (by simp [results, Try.results41, go_sem, f0, f1]) rfl ⟨rfl, bF⟩
      by_cases c1 : wi < t
      · rw [show goT (nm, 3, a, b, n, wi, th, el) t true = (wi, false) by simp only [goT]; (repeat' split) <;> simp_all <;> omega]
        have mx0 : max t 0 = t := by omega
        have mx1 : max t n = t := by omega
        go_enter Try.func41, Try.ntmps41
        go_wp2_with fail
        rw [← eW.out]
        refine (phasing_any nm a b th el 3 n wi W).mono ?_; rintro e u ⟨rfl, hb⟩
        have bU : Hid (Below w.heap.size w (u.alloc (.cells #[.string a, .int .i64 n, .int .i64 wi] 104))) := (bW.out.trans (hb.mono bW.out.size)).alloc (by have := hb.size; omega) _
        have sU : w.heap.size + 1 + 1 + 1 ≤ u.heap.size := by have := hb.size; omega
        have row : (u.alloc (.cells #[.string a, .int .i64 n, .int .i64 wi] 104)).heap[w.heap.size + 1 + 1]? = some (.cells #[.int .i64 0, .bool false] 41 (0, 0)) := (Below.heap_alloc _ _ _ (by omega)).trans ((hb.block _ (by omega)).trans rZ.out)
        have rowP : (u.alloc (.cells #[.string a, .int .i64 n, .int .i64 wi] 104)).heap[w.heap.size]? = some (.cells #[.string nm, .int .i64 3, .string a, .string b, .int .i64 n, .int .i64 wi, .string th, .string el] 37 (0, 0)) := (Below.heap_alloc _ _ _ (by omega)).trans ((hb.block _ (by omega)).trans rP.out)
        have rowY : (u.alloc (.cells #[.string a, .int .i64 n, .int .i64 wi] 104)).heap[w.heap.size + 1]? = some (.cells #[.int .i64 t, .bool true] 41 (0, 0)) := (Below.heap_alloc _ _ _ (by omega)).trans ((hb.block _ (by omega)).trans rY.out)
        have y1 := (cell_row rowY 1 (.bool true) rfl).1
        have x5 := (cell_row rowP 5 (.int .i64 wi) rfl).1
        obtain ⟨p0, g0⟩ := cell_row row 0 _ rfl
        obtain ⟨p1, g1⟩ := cell_row row 1 _ rfl
        have fin := set_row (set_row row 0 (.int .i64 wi)) 1 (.bool false)
        have f0 := (cell_row fin 0 (.int .i64 wi) rfl).1
        have f1 := (cell_row fin 1 (.bool false) rfl).1
        have bF := ((bU.out.setCell (p := ⟨w.heap.size + 1 + 1, 0, none⟩) (by show w.heap.size ≤ w.heap.size + 1 + 1; omega) (.int .i64 wi)).setCell (p := ⟨w.heap.size + 1 + 1, 1, none⟩) (by show w.heap.size ≤ w.heap.size + 1 + 1; omega) (.bool false))
        clear hb row rowP rowY fin
        go_wp2_with fail
        exact bodyPost_ret (v := .agg #[.int .i64 wi, .bool false]) (by simp [results, Try.results41, go_sem, f0, f1]) rfl ⟨rfl, bF⟩
      · rw [show goT (nm, 3, a, b, n, wi, th, el) t true = (t, true) by simp only [goT]; (repeat' split) <;> simp_all <;> omega]
        have mx0 : max t 0 = t := by omega
        have mx1 : max t n = t := by omega
        go_enter Try.func41, Try.ntmps41
        go_wp2_with fail
        rw [← eW.out]
        refine (phasing_any nm a b th el 3 n wi W).mono ?_; rintro e u ⟨rfl, hb⟩
        have bU : Hid (Below w.heap.size w (u.alloc (.cells #[.string a, .int .i64 n, .int .i64 wi] 104))) := (bW.out.trans (hb.mono bW.out.size)).alloc (by have := hb.size; omega) _
        have sU : w.heap.size + 1 + 1 + 1 ≤ u.heap.size := by have := hb.size; omega
        have row : (u.alloc (.cells #[.string a, .int .i64 n, .int .i64 wi] 104)).heap[w.heap.size + 1 + 1]? = some (.cells #[.int .i64 0, .bool false] 41 (0, 0)) := (Below.heap_alloc _ _ _ (by omega)).trans ((hb.block _ (by omega)).trans rZ.out)
        have rowP : (u.alloc (.cells #[.string a, .int .i64 n, .int .i64 wi] 104)).heap[w.heap.size]? = some (.cells #[.string nm, .int .i64 3, .string a, .string b, .int .i64 n, .int .i64 wi, .string th, .string el] 37 (0, 0)) := (Below.heap_alloc _ _ _ (by omega)).trans ((hb.block _ (by omega)).trans rP.out)
        have rowY : (u.alloc (.cells #[.string a, .int .i64 n, .int .i64 wi] 104)).heap[w.heap.size + 1]? = some (.cells #[.int .i64 t, .bool true] 41 (0, 0)) := (Below.heap_alloc _ _ _ (by omega)).trans ((hb.block _ (by omega)).trans rY.out)
        have y1 := (cell_row rowY 1 (.bool true) rfl).1
        have x5 := (cell_row rowP 5 (.int .i64 wi) rfl).1
        obtain ⟨p0, g0⟩ := cell_row row 0 _ rfl
        obtain ⟨p1, g1⟩ := cell_row row 1 _ rfl
        have fin := set_row (set_row row 0 (.int .i64 t)) 1 (.bool true)
        have f0 := (cell_row fin 0 (.int .i64 t) rfl).1
        have f1 := (cell_row fin 1 (.bool true) rfl).1
        have bF := ((bU.out.setCell (p := ⟨w.heap.size + 1 + 1, 0, none⟩) (by show w.heap.size ≤ w.heap.size + 1 + 1; omega) (.int .i64 t)).setCell (p := ⟨w.heap.size + 1 + 1, 1, none⟩) (by show w.heap.size ≤ w.heap.size + 1 + 1; omega) (.bool true))
        clear hb row rowP rowY fin
        go_wp2_with fail
        exact bodyPost_ret (v := .agg #[.int .i64 t, .bool true]) (by simp [results, Try.results41, go_sem, f0, f1]) rfl ⟨rfl, bF⟩
  · have ta := taH_no a b n wi h3
    obtain ⟨W, hW⟩ : ∃ W, W = (((w.alloc (.cells #[.string nm, .int .i64 kd, .string a, .string b, .int .i64 n, .int .i64 wi, .string th, .string el] 37)).alloc (.cells #[.int .i64 t, .bool well] 41)).alloc (.cells #[.int .i64 0, .bool false] 41)) := ⟨_, rfl⟩
    have bW : Hid (Below w.heap.size w W) := by rw [hW]; exact (((Below.refl _ _).alloc (Nat.le_refl _) _).alloc (by simp) _).alloc (by simp; omega) _
    have rZ : Hid (W.heap[w.heap.size + 1 + 1]? = some (.cells #[.int .i64 0, .bool false] 41 (0, 0))) := by
      have := heap_alloc_new ((w.alloc (.cells #[.string nm, .int .i64 kd, .string a, .string b, .int .i64 n, .int .i64 wi, .string th, .string el] 37)).alloc (.cells #[.int .i64 t, .bool well] 41)) (.cells #[.int .i64 0, .bool false] 41)
      rw [hW]; show _ = _; simpa using this
    have rP : Hid (W.heap[w.heap.size]? = some (.cells #[.string nm, .int .i64 kd, .string a, .string b, .int .i64 n, .int .i64 wi, .string th, .string el] 37 (0, 0))) := by
      rw [hW]
      exact (Below.heap_alloc _ _ _ (by simp; omega)).trans ((Below.heap_alloc _ _ _ (by simp)).trans (heap_alloc_new w _))
    have rY : Hid (W.heap[w.heap.size + 1]? = some (.cells #[.int .i64 t, .bool well] 41 (0, 0))) := by
      rw [hW]
      refine (Below.heap_alloc _ _ _ (by simp)).trans ?_
      have := heap_alloc_new (w.alloc (.cells #[.string nm, .int .i64 kd, .string a, .string b, .int .i64 n, .int .i64 wi, .string th, .string el] 37)) (.cells #[.int .i64 t, .bool well] 41)
      show _ = _
      simpa using this
    have sW : w.heap.size + 1 + 1 + 1 ≤ W.heap.size := by rw [hW]; simp
    have eW : Hid (W = (((w.alloc (.cells #[.string nm, .int .i64 kd, .string a, .string b, .int .i64 n, .int .i64 wi, .string th, .string el] 37)).alloc (.cells #[.int .i64 t, .bool well] 41)).alloc (.cells #[.int .i64 0, .bool false] 41))) := hW
    clear hW
    by_cases c0 : t < 0
    · rw [show goT (nm, kd, a, b, n, wi, th, el) t well = (0, well) by simp only [goT]; (repeat' split) <;> simp_all <;> omega]
      have mx0 : max t 0 = 0 := by omega
      go_enter Try.func41, Try.ntmps41
      go_wp2_with fail
      rw [← eW.out]
      refine (phasing_any nm a b th el kd n wi W).mono ?_; rintro e u ⟨rfl, hb⟩
      have bU : Hid (Below w.heap.size w (u.alloc (.cells #[.string ⟨#[]⟩, .int .i64 0, .int .i64 0] 104))) := (bW.out.trans (hb.mono bW.out.size)).alloc (by have := hb.size; omega) _
      have sU : w.heap.size + 1 + 1 + 1 ≤ u.heap.size := by have := hb.size; omega
      have row : (u.alloc (.cells #[.string ⟨#[]⟩, .int .i64 0, .int .i64 0] 104)).heap[w.heap.size + 1 + 1]? = some (.cells #[.int .i64 0, .bool false] 41 (0, 0)) := (Below.heap_alloc _ _ _ (by omega)).trans ((hb.block _ (by omega)).trans rZ.out)
      have rowP : (u.alloc (.cells #[.string ⟨#[]⟩, .int .i64 0, .int .i64 0] 104)).heap[w.heap.size]? = some (.cells #[.string nm, .int .i64 kd, .string a, .string b, .int .i64 n, .int .i64 wi, .string th, .string el] 37 (0, 0)) := (Below.heap_alloc _ _ _ (by omega)).trans ((hb.block _ (by omega)).trans rP.out)
      have rowY : (u.alloc (.cells #[.string ⟨#[]⟩, .int .i64 0, .int .i64 0] 104)).heap[w.heap.size + 1]? = some (.cells #[.int .i64 t, .bool well] 41 (0, 0)) := (Below.heap_alloc _ _ _ (by omega)).trans ((hb.block _ (by omega)).trans rY.out)
      have y1 := (cell_row rowY 1 (.bool well) rfl).1
      have x5 := (cell_row rowP 5 (.int .i64 wi) rfl).1
      obtain ⟨p0, g0⟩ := cell_row row 0 _ rfl
      obtain ⟨p1, g1⟩ := cell_row row 1 _ rfl
      have fin := set_row (set_row row 0 (.int .i64 0)) 1 (.bool well)
      have f0 := (cell_row fin 0 (.int .i64 0) rfl).1
      have f1 := (cell_row fin 1 (.bool well) rfl).1
      have bF := ((bU.out.setCell (p := ⟨w.heap.size + 1 + 1, 0, none⟩) (by show w.heap.size ≤ w.heap.size + 1 + 1; omega) (.int .i64 0)).setCell (p := ⟨w.heap.size + 1 + 1, 1, none⟩) (by show w.heap.size ≤ w.heap.size + 1 + 1; omega) (.bool well))
      clear hb row rowP rowY fin
      go_wp2_with fail
      exact bodyPost_ret (v := .agg #[.int .i64 0, .bool well]) (by simp [results, Try.results41, go_sem, f0, f1]) rfl ⟨rfl, bF⟩
    by_cases c1 : wi < t
    · rw [show goT (nm, kd, a, b, n, wi, th, el) t well = (wi, false) by simp only [goT]; (repeat' split) <;> simp_all <;> omega]
      have mx0 : max t 0 = t := by omega
      go_enter Try.func41, Try.ntmps41
      go_wp2_with fail
      rw [← eW.out]
      refine (phasing_any nm a b th el kd n wi W).mono ?_; rintro e u ⟨rfl, hb⟩
      have bU : Hid (Below w.heap.size w (u.alloc (.cells #[.string ⟨#[]⟩, .int .i64 0, .int .i64 0] 104))) := (bW.out.trans (hb.mono bW.out.size)).alloc (by have := hb.size; omega) _
      have sU : w.heap.size + 1 + 1 + 1 ≤ u.heap.size := by have := hb.size; omega
      have row : (u.alloc (.cells #[.string ⟨#[]⟩, .int .i64 0, .int .i64 0] 104)).heap[w.heap.size + 1 + 1]? = some (.cells #[.int .i64 0, .bool false] 41 (0, 0)) := (Below.heap_alloc _ _ _ (by omega)).trans ((hb.block _ (by omega)).trans rZ.out)
      have rowP : (u.alloc (.cells #[.string ⟨#[]⟩, .int .i64 0, .int .i64 0] 104)).heap[w.heap.size]? = some (.cells #[.string nm, .int .i64 kd, .string a, .string b, .int .i64 n, .int .i64 wi, .string th, .string el] 37 (0, 0)) := (Below.heap_alloc _ _ _ (by omega)).trans ((hb.block _ (by omega)).trans rP.out)
      have rowY : (u.alloc (.cells #[.string ⟨#[]⟩, .int .i64 0, .int .i64 0] 104)).heap[w.heap.size + 1]? = some (.cells #[.int .i64 t, .bool well] 41 (0, 0)) := (Below.heap_alloc _ _ _ (by omega)).trans ((hb.block _ (by omega)).trans rY.out)
      have y1 := (cell_row rowY 1 (.bool well) rfl).1
      have x5 := (cell_row rowP 5 (.int .i64 wi) rfl).1
      obtain ⟨p0, g0⟩ := cell_row row 0 _ rfl
      obtain ⟨p1, g1⟩ := cell_row row 1 _ rfl
      have fin := set_row (set_row row 0 (.int .i64 wi)) 1 (.bool false)
      have f0 := (cell_row fin 0 (.int .i64 wi) rfl).1
      have f1 := (cell_row fin 1 (.bool false) rfl).1
      have bF := ((bU.out.setCell (p := ⟨w.heap.size + 1 + 1, 0, none⟩) (by show w.heap.size ≤ w.heap.size + 1 + 1; omega) (.int .i64 wi)).setCell (p := ⟨w.heap.size + 1 + 1, 1, none⟩) (by show w.heap.size ≤ w.heap.size + 1 + 1; omega) (.bool false))
      clear hb row rowP rowY fin
      go_wp2_with fail
      exact bodyPost_ret (v := .agg #[.int .i64 wi, .bool false]) (by simp [results, Try.results41, go_sem, f0, f1]) rfl ⟨rfl, bF⟩
    · rw [show goT (nm, kd, a, b, n, wi, th, el) t well = (t, well) by simp only [goT]; (repeat' split) <;> simp_all <;> omega]
      have mx0 : max t 0 = t := by omega
      go_enter Try.func41, Try.ntmps41
      go_wp2_with fail
      rw [← eW.out]
      refine (phasing_any nm a b th el kd n wi W).mono ?_; rintro e u ⟨rfl, hb⟩
      have bU : Hid (Below w.heap.size w (u.alloc (.cells #[.string ⟨#[]⟩, .int .i64 0, .int .i64 0] 104))) := (bW.out.trans (hb.mono bW.out.size)).alloc (by have := hb.size; omega) _
      have sU : w.heap.size + 1 + 1 + 1 ≤ u.heap.size := by have := hb.size; omega
      have row : (u.alloc (.cells #[.string ⟨#[]⟩, .int .i64 0, .int .i64 0] 104)).heap[w.heap.size + 1 + 1]? = some (.cells #[.int .i64 0, .bool false] 41 (0, 0)) := (Below.heap_alloc _ _ _ (by omega)).trans ((hb.block _ (by omega)).trans rZ.out)
      have rowP : (u.alloc (.cells #[.string ⟨#[]⟩, .int .i64 0, .int .i64 0] 104)).heap[w.heap.size]? = some (.cells #[.string nm, .int .i64 kd, .string a, .string b, .int .i64 n, .int .i64 wi, .string th, .string el] 37 (0, 0)) := (Below.heap_alloc _ _ _ (by omega)).trans ((hb.block _ (by omega)).trans rP.out)
      have rowY : (u.alloc (.cells #[.string ⟨#[]⟩, .int .i64 0, .int .i64 0] 104)).heap[w.heap.size + 1]? = some (.cells #[.int .i64 t, .bool well] 41 (0, 0)) := (Below.heap_alloc _ _ _ (by omega)).trans ((hb.block _ (by omega)).trans rY.out)
      have y1 := (cell_row rowY 1 (.bool well) rfl).1
      have x5 := (cell_row rowP 5 (.int .i64 wi) rfl).1
      obtain ⟨p0, g0⟩ := cell_row row 0 _ rfl
      obtain ⟨p1, g1⟩ := cell_row row 1 _ rfl
      have fin := set_row (set_row row 0 (.int .i64 t)) 1 (.bool well)
      have f0 := (cell_row fin 0 (.int .i64 t) rfl).1
      have f1 := (cell_row fin 1 (.bool well) rfl).1
      have bF := ((bU.out.setCell (p := ⟨w.heap.size + 1 + 1, 0, none⟩) (by show w.heap.size ≤ w.heap.size + 1 + 1; omega) (.int .i64 t)).setCell (p := ⟨w.heap.size + 1 + 1, 1, none⟩) (by show w.heap.size ≤ w.heap.size + 1 + 1; omega) (.bool well))
      clear hb row rowP rowY fin
      go_wp2_with fail
      exact bodyPost_ret (v := .agg #[.int .i64 t, .bool well]) (by simp [results, Try.results41, go_sem, f0, f1]) rfl ⟨rfl, bF⟩

set_option maxRecDepth 100000 in
set_option maxHeartbeats 4000000 in
theorem goesOn_any (nm a b th el : ByteArray) (kd n wi : Int) (well : Bool) (w : World) :
    Calls Try.prog 42 #[.agg #[.string nm, .int .i64 kd, .string a, .string b, .int .i64 n, .int .i64 wi, .string th, .string el], .bool well] w fun e w' => e = .returned (.string (nxT (nm, kd, a, b, n, wi, th, el) well)) ∧ Below w.heap.size w w' := by
  cases well
  all_goals
    simp only [nxT]
    go_enter Try.func42, Try.ntmps42
    go_wp2
    go_ret
    exact ⟨rfl, (Below.refl _ _).alloc (Nat.le_refl _) _⟩

end Go.Proofs.Ytkongeofapbblaa
