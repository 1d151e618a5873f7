/-
  The words of a phase's line, in the program.
-/
import Derived.Test.YthonjmefjmbogacDoorXfa
import Derived.Test.YthonjmefjmbogacDoorXfb
import Derived.Test.YthonjmefjmbogacDoorShelf
import Derived.Test.YthonjmefjmbogacDoorXdbl
import Derived.Test.YthonjmefjmbogacDoorHl
import Derived.Test.YthonjmefjmbogacDoorHk
import Derived.Lib.AppendIntMem
import Derived.Deep.Cut
namespace Go.Proofs.YthonjmefjmbogacDoor
open Go.RowKit

/-- The library's table of the powers of ten reads as its text lays it, whatever is done behind the memory's end. -/
def Tb (w : World) : Prop := Lib.TabBelow Tryd.prog w.heap.size w "internal/strconv.uint64pow10" .u64 Lib.pow10Tab
theorem Tb.kept {w w' : World} (h : Tb w) (hb : Below w.heap.size w w') : Tb w' := fun w'' h' => h w'' (hb.trans (h'.mono hb.size))

theorem itoa_any (n : Int) (w : World) (h0 : 0 ≤ n) (h1 : n ≤ 1000) (hT : Tb w) :
    Calls Tryd.prog 30 #[.int .i64 n] w fun e w' => e = .returned (.string (tx (Lib.decDigits n.toNat))) ∧ Below w.heap.size w w' := by
  have hi : Lib.itoa n = Lib.decDigits n.toNat := by rw [Lib.itoa, if_neg (by omega)]
  refine (Tryd.strconv_Itoa n (by omega) (by omega) w hT.here).mono ?_
  rintro e w' ⟨rfl, k, os, rfl⟩
  refine ⟨by rw [hi]; rfl, ?_⟩
  exact Lib.below_grow _ w (Nat.le_refl _) k os

/-- The words of a phase's line. -/
def wdL (nm : ByteArray) (kd : Int) (a b : ByteArray) (n wi : Int) (th el : ByteArray) : List ByteArray :=
  (([nm, kwT kd, a] ++ (if b.toList.isEmpty = true then [] else [b])) ++ (if n = 0 then [] else [tx (Lib.decDigits n.toNat)])) ++ [⟨#[119, 105, 116, 104, 105, 110]⟩, tx (Lib.decDigits wi.toNat), ⟨#[116, 104, 101, 110]⟩, th, ⟨#[101, 108, 115, 101]⟩, el]
theorem wd_len (nm : ByteArray) (kd : Int) (a b : ByteArray) (n wi : Int) (th el : ByteArray) : (wdL nm kd a b n wi th el).length ≤ 11 := by
  unfold wdL
  split <;> split <;> simp

open Go.Sort in
set_option maxRecDepth 100000 in
set_option maxHeartbeats 20000000 in
theorem line_any (nm : ByteArray) (kd : Int) (a b : ByteArray) (n wi : Int) (th el : ByteArray) (w : World) (hn0 : 0 ≤ n) (hn1 : n ≤ 1000) (hw0 : 0 ≤ wi) (hw1 : wi ≤ 1000) (hs : ∀ s ∈ [nm, a, b, th, el], s.size ≤ 1000) (hT : Tb w) :
    Calls Tryd.prog 17 #[.agg #[.string nm, .int .i64 kd, .string a, .string b, .int .i64 n, .int .i64 wi, .string th, .string el]] w fun e w' => ∃ v, e = .returned v ∧ Row w' w.heap.size 9 1 eS v (wdL nm kd a b n wi th el) ∧ Below w.heap.size w w' := by
  have hm : ∀ s : ByteArray, s.size ≤ 1000 → s.size ≤ maxLen := fun s h => by unfold maxLen; omega
  have zb : Hid (b.size ≤ maxLen) := hm _ (hs b (by simp))
  have ZS : Hid (∀ s ∈ [nm, a, b, th, el], s.size ≤ maxLen) := fun s h => hm _ (hs s h)
  clear hs hm
  have zk : Hid ((kwT kd).size ≤ maxLen) := by have := kw_size kd; show _ ≤ _; unfold maxLen; omega
  have zd : Hid (∀ m : Int, 0 ≤ m → m ≤ 1000 → (tx (Lib.decDigits m.toNat)).size ≤ maxLen) := fun m h0 h1 => by rw [tx_size]; have := dec_len m.toNat (by omega); unfold maxLen; omega
  obtain ⟨W, hW⟩ : ∃ W, W = w.alloc (.cells #[.string nm, .int .i64 kd, .string a, .string b, .int .i64 n, .int .i64 wi, .string th, .string el] 33) := ⟨_, rfl⟩
  have bW : Hid (Below w.heap.size w W) := by rw [hW]; exact (Below.refl _ _).alloc (Nat.le_refl _) _
  have sW : W.heap.size = w.heap.size + 1 := by rw [hW]; simp
  have KB : Hid (∀ u, Below W.heap.size W u → u.heap[w.heap.size]? = some (.cells #[.string nm, .int .i64 kd, .string a, .string b, .int .i64 n, .int .i64 wi, .string th, .string el] 33 (0, 0))) := fun u hu => (hu.block w.heap.size (by omega)).trans (by rw [hW]; exact heap_alloc_new w _)
  have BW : Hid (∀ u, Below W.heap.size W u → Below w.heap.size w u) := fun u hu => bW.out.trans (hu.mono (by omega))
  have TW : Hid (∀ u, Below W.heap.size W u → Tb u) := fun u hu => hT.kept (BW.out u hu)
  have ITO : Hid (∀ m u, 0 ≤ m → m ≤ 1000 → Below W.heap.size W u → Calls Tryd.prog 30 #[.int .i64 m] u fun e w' => e = .returned (.string (tx (Lib.decDigits m.toNat))) ∧ Below u.heap.size u w') := fun m u h0 h1 hu => itoa_any m u h0 h1 (TW.out u hu)
  have HK : Hid (∀ d os, Calls Tryd.prog 29 #[.int .i64 kd] (grow (redrawn W d) os) fun e w'' => e = .returned (.string (kwT kd)) ∧ ∃ p : Regrown, w'' = grow (redrawn W p.d) p.os) := fun d os =>
    Calls.regrown_of ((wordI_any kd _).mono (fun e w' h => ⟨h.1, by rw [h.2]; exact Below.refl _ _⟩))
  have EW : Hid (W = w.alloc (.cells #[.string nm, .int .i64 kd, .string a, .string b, .int .i64 n, .int .i64 wi, .string th, .string el] 33)) := hW
  clear hT hW
  have k0 := (cell_row (KB.out W (Below.refl _ _)) 0 (.string nm) rfl).1
  have k1 := (cell_row (KB.out W (Below.refl _ _)) 1 (.int .i64 kd) rfl).1
  have k2 := (cell_row (KB.out W (Below.refl _ _)) 2 (.string a) rfl).1
  have q0 := fun d os => cell_regrown k0 d os
  have q1 := fun d os => cell_regrown k1 d os
  have q2 := fun d os => cell_regrown k2 d os
  obtain ⟨kw, ekw⟩ : ∃ z, kwT kd = z := ⟨_, rfl⟩
  obtain ⟨RES, eRES⟩ : ∃ z, wdL nm kd a b n wi th el = z := ⟨_, rfl⟩
  have HRES : Hid (wdL nm kd a b n wi th el = RES) := eRES
  have EKW : Hid (kwT kd = kw) := ekw
  rw [ekw] at HK zk
  rw [eRES]
  clear eRES ekw
  go_enter Tryd.func17, Tryd.ntmps17
  go_upto_region 1 with fail
  rw [← EW.out]
  clear EW
  refine wp_region_head_tail 7 (by kernel_rfl) (by kernel_rfl) ?_
  simp only [List.take_succ_cons, List.take_zero, List.drop_succ_cons, List.drop_zero]
  repeat (first | go_big_quiet_step (with_reducible exact HK.out _ _) | quiet_step (with_reducible exact HK.out _ _))
  refine wpQuiet_nil ?_
  intro _ hw'
  obtain ⟨⟨dq, osq⟩, hw''⟩ := hw'
  subst hw''
  have hb2 : Hid (Below W.heap.size W (grow (redrawn W dq) osq)) := below_regrown _ dq osq
  generalize grow (redrawn W dq) osq = u at hb2 ⊢
  clear q0 q1 q2 k0 k1 k2 HK
  obtain ⟨X, hX⟩ : ∃ X, X = u.alloc (.cells #[.string nm, .string kw, .string a] 9) := ⟨_, rfl⟩
  have EX : Hid (X = u.alloc (.cells #[.string nm, .string kw, .string a] 9)) := hX
  have hu := hb2.out.size
  have RX : Hid (Row X W.heap.size 9 1 eS (.slice (some ⟨u.heap.size, 0, none⟩) 3 3) [nm, kw, a]) := by
    rw [hX]
    exact own_built (base := W.heap.size) (e := 9) (size := 1) (k := 3) (w := u) (c := #[.string nm, .string kw, .string a]) (by omega) (by decide) rfl
  have BX : Hid (Below W.heap.size W X) := by rw [hX]; exact hb2.out.alloc hu _
  clear hX hb2
  obtain ⟨vx, hvx⟩ : ∃ v : Value, v = .slice (some ⟨u.heap.size, 0, none⟩) 3 3 := ⟨_, rfl⟩
  have EV : Hid (vx = .slice (some ⟨u.heap.size, 0, none⟩) 3 3) := hvx
  rw [← hvx] at RX
  clear hvx
  go_upto_region 2 with fail
  rw [← EX.out, ← EV.out]
  clear EX EV hu
  have zdw : Hid ((tx (Lib.decDigits wi.toNat)).size ≤ maxLen) := zd.out wi hw0 hw1
  have zdn : Hid ((tx (Lib.decDigits n.toNat)).size ≤ maxLen) := zd.out n hn0 hn1
  obtain ⟨dw, edw⟩ : ∃ z, tx (Lib.decDigits wi.toNat) = z := ⟨_, rfl⟩
  obtain ⟨dn, edn⟩ : ∃ z, tx (Lib.decDigits n.toNat) = z := ⟨_, rfl⟩
  have EDW : Hid (tx (Lib.decDigits wi.toNat) = dw) := edw
  have EDN : Hid (tx (Lib.decDigits n.toNat) = dn) := edn
  rw [edw] at zdw
  rw [edn] at zdn
  clear edw edn zd
  cases hb0 : b.toList.isEmpty
  · have k3 := (cell_row (KB.out X BX.out) 3 (.string b) rfl).1
    have AW : Hid (Below X.heap.size X (X.alloc (.cells #[.string b] 9))) := (Below.refl _ _).alloc (Nat.le_refl _) _
    have HOWN : Hid ((X.alloc (.cells #[.string b] 9)).ownsRow W.heap.size 9 1 vx 3 (enc 1 eS [nm, kw, a])) := own_belowR RX.out AW.out
    have SR : Hid (Src (X.alloc (.cells #[.string b] 9)) (.slice (some ⟨X.heap.size, 0, none⟩) 1 1) 1 1 (enc 1 eS [b])) := flatS.src (lit_at 9 X [b] (by show 1 ≤ maxLen; decide) (fun z hz => by simp only [List.mem_singleton] at hz; rw [hz]; exact zb.out))
    have hww : W.heap.size ≤ X.heap.size := BX.out.size
    go_upto_region 4 with (at_builtin; refine wpList_app elS rfl _ _ rfl rfl rfl HOWN.out SR.out (flatS.enc_one _) (by unfold maxLen; omega) (by omega) (by simp; omega) ?_; intro v2 X2 hown hgE hbk; have RX2 : Hid (Row X2 W.heap.size 9 1 eS v2 ([nm, kw, a] ++ [b])) := (by show World.ownsRow _ _ _ _ _ _ _; rw [List.length_append, enc_append]; exact hown); have BX2 : Hid (Below W.heap.size W X2) := (BX.out.trans (AW.out.mono BX.out.size)).grown hgE (by simp; omega) (fun q hq => (World.ownsRow.lt HOWN.out q hq).1); clear hown hgE hbk SR HOWN AW)
    clear k3
    by_cases hn : n = 0
    · have hnb : (n == 0) = true := by simpa using hn
      have k4 := (cell_row (KB.out X2 BX2.out) 4 (.int .i64 n) rfl).1
      obtain ⟨oz, kz, hvz⟩ := Row.form RX2.out
      rw [show ([nm, kw, a] ++ [b]).length = 4 from by simp] at hvz
      subst hvz
      have K5 : Hid (∀ v, Below X2.heap.size X2 v → v.cell? ⟨w.heap.size, 5, none⟩ = some (.int .i64 wi)) := fun v hv => (cell_row (KB.out v (BX2.out.trans (hv.mono BX2.out.size))) 5 (.int .i64 wi) rfl).1
      have K6 : Hid (∀ v, Below X2.heap.size X2 v → v.cell? ⟨w.heap.size, 6, none⟩ = some (.string th)) := fun v hv => (cell_row (KB.out v (BX2.out.trans (hv.mono BX2.out.size))) 6 (.string th) rfl).1
      have K7 : Hid (∀ v, Below X2.heap.size X2 v → v.cell? ⟨w.heap.size, 7, none⟩ = some (.string el)) := fun v hv => (cell_row (KB.out v (BX2.out.trans (hv.mono BX2.out.size))) 7 (.string el) rfl).1
      have HT6 : Hid (∀ v, Below X2.heap.size X2 v → Calls Tryd.prog 30 #[.int .i64 wi] v fun e w' => e = .returned (.string dw) ∧ Below v.heap.size v w') := fun v hv => by
        have h := ITO.out wi v hw0 hw1 (BX2.out.trans (hv.mono BX2.out.size))
        rw [EDW.out] at h
        exact h
      have E : Hid (wdL nm kd a b n wi th el = [nm, kw, a] ++ [b] ++ [⟨#[119, 105, 116, 104, 105, 110]⟩, dw, ⟨#[116, 104, 101, 110]⟩, th, ⟨#[101, 108, 115, 101]⟩, el]) := by
        show wdL nm kd a b n wi th el = _
        unfold wdL
        rw [hb0, EKW.out, EDW.out]
        rw [if_pos hn]
        simp
      have ZL : Hid (∀ s ∈ [nm, kw, a] ++ [b], s.size ≤ maxLen) := by
        intro s hs
        simp only [List.mem_append, List.mem_cons, List.not_mem_nil, or_false] at hs
        rcases hs with (rfl | rfl | rfl) | rfl
        · exact ZS.out _ (by simp)
        · exact zk.out
        · exact ZS.out _ (by simp)
        · exact zb.out
      have Z6 : Hid (∀ s ∈ [⟨#[119, 105, 116, 104, 105, 110]⟩, dw, ⟨#[116, 104, 101, 110]⟩, th, ⟨#[101, 108, 115, 101]⟩, el], s.size ≤ maxLen) := by
        intro s hs
        simp only [List.mem_cons, List.not_mem_nil, or_false] at hs
        rcases hs with rfl | rfl | rfl | rfl | rfl | rfl
        · decide
        · exact zdw.out
        · decide
        · exact ZS.out _ (by simp)
        · decide
        · exact ZS.out _ (by simp)
      go_upto_region 6 with fail
      have hdr : Hid (Below X2.heap.size X2 X2.drew) := (Below.refl _ _).drew
      have hwx := BX2.out.size
      refine wp_region_movesC (fun v => Below X2.heap.size X2 v) 11 [] (by kernel_rfl) (by kernel_rfl) hdr.out ?_
      simp only [List.filterMap_nil, movD]
      refine takeHQ (f := 10) (i := 0) ((.slice oz 4 kz)) ⟨rfl, rfl⟩ (by kernel_rfl) rfl hdr.out ?r0 ?_
      case r0 => intro v hv; go_simp
      simp only [Act.put, List.setIfInBounds_toArray, List.set_cons_zero, List.set_cons_succ]
      refine takeHQ (f := 9) (i := 1) (.pointer (some ⟨w.heap.size, 5, none⟩)) ⟨rfl, rfl⟩ (by kernel_rfl) rfl hdr.out ?r1 ?_
      case r1 => intro v hv; go_simp
      simp only [Act.put, List.setIfInBounds_toArray, List.set_cons_zero, List.set_cons_succ]
      refine takeHQ (f := 8) (i := 2) (.int .i64 wi) ⟨rfl, rfl⟩ (by kernel_rfl) rfl hdr.out ?r2 ?_
      case r2 => intro v hv; have k5 := K5.out v hv; go_simp
      simp only [Act.put, List.setIfInBounds_toArray, List.set_cons_zero, List.set_cons_succ]
      refine takeHQ (f := 7) (i := 4) (.pointer (some ⟨w.heap.size, 6, none⟩)) ⟨rfl, rfl⟩ (by kernel_rfl) rfl hdr.out ?r4 ?_
      case r4 => intro v hv; go_simp
      simp only [Act.put, List.setIfInBounds_toArray, List.set_cons_zero, List.set_cons_succ]
      refine takeHQ (f := 6) (i := 5) (.string th) ⟨rfl, rfl⟩ (by kernel_rfl) rfl hdr.out ?r5 ?_
      case r5 => intro v hv; have k6 := K6.out v hv; go_simp
      simp only [Act.put, List.setIfInBounds_toArray, List.set_cons_zero, List.set_cons_succ]
      refine takeHQ (f := 5) (i := 6) (.pointer (some ⟨w.heap.size, 7, none⟩)) ⟨rfl, rfl⟩ (by kernel_rfl) rfl hdr.out ?r6 ?_
      case r6 => intro v hv; go_simp
      simp only [Act.put, List.setIfInBounds_toArray, List.set_cons_zero, List.set_cons_succ]
      refine takeHQ (f := 4) (i := 7) (.string el) ⟨rfl, rfl⟩ (by kernel_rfl) rfl hdr.out ?r7 ?_
      case r7 => intro v hv; have k7 := K7.out v hv; go_simp
      simp only [Act.put, List.setIfInBounds_toArray, List.set_cons_zero, List.set_cons_succ]
      refine callHd (f := 3) (i := 3) (d := 32) (fn := 30) (args := #[.int .i64 wi]) ⟨rfl, rfl⟩ (by decide) (by kernel_rfl) rfl ?rc ((HT6.out X2.drew hdr.out).mono ?_)
      case rc => go_simp
      rintro e u6 ⟨rfl, hb⟩
      have hb6 : Hid (Below X2.heap.size X2 u6) := hdr.out.trans hb
      clear hb HT6
      have hx6 := hb6.out.size
      have R6 : Hid (Row u6 W.heap.size 9 1 eS (.slice oz 4 kz) ([nm, kw, a] ++ [b])) := own_belowR RX2.out hb6.out
      have B6 : Hid (Below W.heap.size W u6) := BX2.out.trans (hb6.out.mono BX2.out.size)
      have CC : Hid (Calls Tryd.prog 31 #[.slice (some ⟨u6.heap.size + 1, 0, none⟩) 2 2] ((u6.alloc (.cells #[.string ⟨#[119, 105, 116, 104, 105, 110]⟩, .string dw, .string ⟨#[116, 104, 101, 110]⟩, .string th, .string ⟨#[101, 108, 115, 101]⟩, .string el] 9)).alloc (.cells #[(.slice oz 4 kz), .slice (some ⟨u6.heap.size, 0, none⟩) 6 6] 45)) fun e w' => ∃ v, e = .returned v ∧ Row w' u6.heap.size 9 1 eS v ([nm, kw, a] ++ [b] ++ [⟨#[119, 105, 116, 104, 105, 110]⟩, dw, ⟨#[116, 104, 101, 110]⟩, th, ⟨#[101, 108, 115, 101]⟩, el]) ∧ Below u6.heap.size u6 w') := by
        have e1 : (u6.alloc (.cells #[.string ⟨#[119, 105, 116, 104, 105, 110]⟩, .string dw, .string ⟨#[116, 104, 101, 110]⟩, .string th, .string ⟨#[101, 108, 115, 101]⟩, .string el] 9)).heap.size = u6.heap.size + 1 := by simp
        have b1 : Below u6.heap.size u6 (u6.alloc (.cells #[.string ⟨#[119, 105, 116, 104, 105, 110]⟩, .string dw, .string ⟨#[116, 104, 101, 110]⟩, .string th, .string ⟨#[101, 108, 115, 101]⟩, .string el] 9)) := (Below.refl _ _).alloc (Nat.le_refl _) _
        have b2 : Below u6.heap.size u6 ((u6.alloc (.cells #[.string ⟨#[119, 105, 116, 104, 105, 110]⟩, .string dw, .string ⟨#[116, 104, 101, 110]⟩, .string th, .string ⟨#[101, 108, 115, 101]⟩, .string el] 9)).alloc (.cells #[(.slice oz 4 kz), .slice (some ⟨u6.heap.size, 0, none⟩) 6 6] 45)) := b1.alloc (by omega) _
        have b12 : Below (u6.alloc (.cells #[.string ⟨#[119, 105, 116, 104, 105, 110]⟩, .string dw, .string ⟨#[116, 104, 101, 110]⟩, .string th, .string ⟨#[101, 108, 115, 101]⟩, .string el] 9)).heap.size (u6.alloc (.cells #[.string ⟨#[119, 105, 116, 104, 105, 110]⟩, .string dw, .string ⟨#[116, 104, 101, 110]⟩, .string th, .string ⟨#[101, 108, 115, 101]⟩, .string el] 9)) ((u6.alloc (.cells #[.string ⟨#[119, 105, 116, 104, 105, 110]⟩, .string dw, .string ⟨#[116, 104, 101, 110]⟩, .string th, .string ⟨#[101, 108, 115, 101]⟩, .string el] 9)).alloc (.cells #[(.slice oz 4 kz), .slice (some ⟨u6.heap.size, 0, none⟩) 6 6] 45)) := (Below.refl _ _).alloc (Nat.le_refl _) _
        have r7 := own_belowR R6.out b2
        have a1 := flatS.row_at r7 (S := fun g => g < ((u6.alloc (.cells #[.string ⟨#[119, 105, 116, 104, 105, 110]⟩, .string dw, .string ⟨#[116, 104, 101, 110]⟩, .string th, .string ⟨#[101, 108, 115, 101]⟩, .string el] 9)).alloc (.cells #[(.slice oz 4 kz), .slice (some ⟨u6.heap.size, 0, none⟩) 6 6] 45)).heap.size) (fun g hg => (World.ownsRow.lt r7 g hg).2) ZL.out
        have a2 := ((lit_at 9 u6 [⟨#[119, 105, 116, 104, 105, 110]⟩, dw, ⟨#[116, 104, 101, 110]⟩, th, ⟨#[101, 108, 115, 101]⟩, el] (by show 6 ≤ maxLen; decide) Z6.out).same (Same.of_below b12 (fun b hb => by rw [hb]; omega))).up (S' := fun g => g < ((u6.alloc (.cells #[.string ⟨#[119, 105, 116, 104, 105, 110]⟩, .string dw, .string ⟨#[116, 104, 101, 110]⟩, .string th, .string ⟨#[101, 108, 115, 101]⟩, .string el] 9)).alloc (.cells #[(.slice oz 4 kz), .slice (some ⟨u6.heap.size, 0, none⟩) 6 6] 45)).heap.size) (fun b hb => by rw [hb]; simp; omega)
        rw [← e1]
        refine (concat_any _ _ ([nm, kw, a] ++ [b]) [⟨#[119, 105, 116, 104, 105, 110]⟩, dw, ⟨#[116, 104, 101, 110]⟩, th, ⟨#[101, 108, 115, 101]⟩, el] _ _ _ _ a1 a2 (fun b hb => hb) (fun b hb => hb) (heap_alloc_new _ _) (by simp) (by simp)).mono ?_
        rintro e w' ⟨v, h1, h2, h3⟩
        exact ⟨v, h1, Row.low h2 (by simp; omega), b2.trans (h3.mono (by simp; omega))⟩
      refine ⟨_, rfl, hb6.out, ?_⟩
      simp only [Act.put, List.setIfInBounds_toArray, List.set_cons_zero, List.set_cons_succ]
      refine oneHd (f := 2) (i := 8) (.slice (some ⟨u6.heap.size, 0, none⟩) 6 6) (u6.alloc (.cells #[.string ⟨#[119, 105, 116, 104, 105, 110]⟩, .string dw, .string ⟨#[116, 104, 101, 110]⟩, .string th, .string ⟨#[101, 108, 115, 101]⟩, .string el] 9)) ⟨rfl, rfl⟩ (by decide) (by kernel_rfl) rfl ?rb (hb6.out.alloc hx6 _) ?_
      case rb => go_simp
      simp only [Act.put, List.setIfInBounds_toArray, List.set_cons_zero, List.set_cons_succ]
      refine oneHd (f := 1) (i := 9) (.slice (some ⟨u6.heap.size + 1, 0, none⟩) 2 2) ((u6.alloc (.cells #[.string ⟨#[119, 105, 116, 104, 105, 110]⟩, .string dw, .string ⟨#[116, 104, 101, 110]⟩, .string th, .string ⟨#[101, 108, 115, 101]⟩, .string el] 9)).alloc (.cells #[(.slice oz 4 kz), .slice (some ⟨u6.heap.size, 0, none⟩) 6 6] 45)) ⟨rfl, rfl⟩ (by decide) (by kernel_rfl) rfl ?rb ((hb6.out.alloc hx6 _).alloc (by simp; omega) _) ?_
      case rb => go_simp
      simp only [Act.put, List.setIfInBounds_toArray, List.set_cons_zero, List.set_cons_succ]
      refine callHd (f := 0) (i := 10) (d := 39) (fn := 31) (args := #[.slice (some ⟨u6.heap.size + 1, 0, none⟩) 2 2]) ⟨rfl, rfl⟩ (by decide) (by kernel_rfl) rfl ?rc (Calls.mono CC.out ?_)
      case rc => go_simp
      rintro e w9 ⟨vr, rfl, hrow, hb9⟩
      refine ⟨_, rfl, hb6.out.trans (hb9.mono hx6), ?_⟩
      simp only [Act.put, List.setIfInBounds_toArray, List.set_cons_zero, List.set_cons_succ]
      refine ⟨by kernel_rfl, ?_⟩
      simp only [List.drop_succ_cons, List.drop_zero]
      go_wp2_with fail
      go_ret
      exact ⟨_, rfl, (by rw [← HRES.out, E.out]; exact Row.low hrow (by omega)), BW.out _ (B6.out.trans (hb9.mono (by omega)))⟩
    · have hnb : (n == 0) = false := by simpa using hn
      have C : Hid _ := ITO.out n X2 hn0 hn1 BX2.out
      rw [EDN.out] at C
      have k4 := (cell_row (KB.out X2 BX2.out) 4 (.int .i64 n) rfl).1
      go_wp2_with fail
      refine Calls.mono C.out ?_
      rintro e Y ⟨rfl, hb⟩
      have BY : Hid (Below W.heap.size W Y) := BX2.out.trans (hb.mono BX2.out.size)
      have RY : Hid (Row Y W.heap.size 9 1 eS v2 ([nm, kw, a] ++ [b])) := own_belowR RX2.out hb
      clear hb C k4
      have AW : Hid (Below Y.heap.size Y (Y.alloc (.cells #[.string dn] 9))) := (Below.refl _ _).alloc (Nat.le_refl _) _
      have HOWN : Hid ((Y.alloc (.cells #[.string dn] 9)).ownsRow W.heap.size 9 1 v2 4 (enc 1 eS ([nm, kw, a] ++ [b]))) := own_belowR RY.out AW.out
      have SR : Hid (Src (Y.alloc (.cells #[.string dn] 9)) (.slice (some ⟨Y.heap.size, 0, none⟩) 1 1) 1 1 (enc 1 eS [dn])) := flatS.src (lit_at 9 Y [dn] (by show 1 ≤ maxLen; decide) (fun z hz => by simp only [List.mem_singleton] at hz; rw [hz]; exact zdn.out))
      have hww : W.heap.size ≤ Y.heap.size := BY.out.size
      go_upto_region 6 with (at_builtin; refine wpList_app elS rfl _ _ rfl rfl rfl HOWN.out SR.out (flatS.enc_one _) (by unfold maxLen; omega) (by omega) (by simp; omega) ?_; intro vz Z hown hgE hbk; have RZ : Hid (Row Z W.heap.size 9 1 eS vz (([nm, kw, a] ++ [b]) ++ [dn])) := (by show World.ownsRow _ _ _ _ _ _ _; rw [List.length_append, enc_append]; exact hown); have BZ : Hid (Below W.heap.size W Z) := (BY.out.trans (AW.out.mono BY.out.size)).grown hgE (by simp; omega) (fun q hq => (World.ownsRow.lt HOWN.out q hq).1); clear hown hgE hbk SR HOWN AW)
      obtain ⟨oz, kz, hvz⟩ := Row.form RZ.out
      rw [show (([nm, kw, a] ++ [b]) ++ [dn]).length = 5 from by simp] at hvz
      subst hvz
      have K5 : Hid (∀ v, Below Z.heap.size Z v → v.cell? ⟨w.heap.size, 5, none⟩ = some (.int .i64 wi)) := fun v hv => (cell_row (KB.out v (BZ.out.trans (hv.mono BZ.out.size))) 5 (.int .i64 wi) rfl).1
      have K6 : Hid (∀ v, Below Z.heap.size Z v → v.cell? ⟨w.heap.size, 6, none⟩ = some (.string th)) := fun v hv => (cell_row (KB.out v (BZ.out.trans (hv.mono BZ.out.size))) 6 (.string th) rfl).1
      have K7 : Hid (∀ v, Below Z.heap.size Z v → v.cell? ⟨w.heap.size, 7, none⟩ = some (.string el)) := fun v hv => (cell_row (KB.out v (BZ.out.trans (hv.mono BZ.out.size))) 7 (.string el) rfl).1
      have HT6 : Hid (∀ v, Below Z.heap.size Z v → Calls Tryd.prog 30 #[.int .i64 wi] v fun e w' => e = .returned (.string dw) ∧ Below v.heap.size v w') := fun v hv => by
        have h := ITO.out wi v hw0 hw1 (BZ.out.trans (hv.mono BZ.out.size))
        rw [EDW.out] at h
        exact h
      have E : Hid (wdL nm kd a b n wi th el = ([nm, kw, a] ++ [b]) ++ [dn] ++ [⟨#[119, 105, 116, 104, 105, 110]⟩, dw, ⟨#[116, 104, 101, 110]⟩, th, ⟨#[101, 108, 115, 101]⟩, el]) := by
        show wdL nm kd a b n wi th el = _
        unfold wdL
        rw [hb0, EKW.out, EDW.out, EDN.out]
        rw [if_neg hn]
        simp
      have ZL : Hid (∀ s ∈ ([nm, kw, a] ++ [b]) ++ [dn], s.size ≤ maxLen) := by
        intro s hs
        simp only [List.mem_append, List.mem_cons, List.not_mem_nil, or_false] at hs
        rcases hs with ((rfl | rfl | rfl) | rfl) | rfl
        · exact ZS.out _ (by simp)
        · exact zk.out
        · exact ZS.out _ (by simp)
        · exact zb.out
        · exact zdn.out
      have Z6 : Hid (∀ s ∈ [⟨#[119, 105, 116, 104, 105, 110]⟩, dw, ⟨#[116, 104, 101, 110]⟩, th, ⟨#[101, 108, 115, 101]⟩, el], s.size ≤ maxLen) := by
        intro s hs
        simp only [List.mem_cons, List.not_mem_nil, or_false] at hs
        rcases hs with rfl | rfl | rfl | rfl | rfl | rfl
        · decide
        · exact zdw.out
        · decide
        · exact ZS.out _ (by simp)
        · decide
        · exact ZS.out _ (by simp)
      go_upto_region 6 with fail
      have hdr : Hid (Below Z.heap.size Z Z.drew) := (Below.refl _ _).drew
      have hwx := BZ.out.size
      refine wp_region_movesC (fun v => Below Z.heap.size Z v) 11 [] (by kernel_rfl) (by kernel_rfl) hdr.out ?_
      simp only [List.filterMap_nil, movD]
      refine takeHQ (f := 10) (i := 0) ((.slice oz 5 kz)) ⟨rfl, rfl⟩ (by kernel_rfl) rfl hdr.out ?r0 ?_
      case r0 => intro v hv; go_simp
      simp only [Act.put, List.setIfInBounds_toArray, List.set_cons_zero, List.set_cons_succ]
      refine takeHQ (f := 9) (i := 1) (.pointer (some ⟨w.heap.size, 5, none⟩)) ⟨rfl, rfl⟩ (by kernel_rfl) rfl hdr.out ?r1 ?_
      case r1 => intro v hv; go_simp
      simp only [Act.put, List.setIfInBounds_toArray, List.set_cons_zero, List.set_cons_succ]
      refine takeHQ (f := 8) (i := 2) (.int .i64 wi) ⟨rfl, rfl⟩ (by kernel_rfl) rfl hdr.out ?r2 ?_
      case r2 => intro v hv; have k5 := K5.out v hv; go_simp
      simp only [Act.put, List.setIfInBounds_toArray, List.set_cons_zero, List.set_cons_succ]
      refine takeHQ (f := 7) (i := 4) (.pointer (some ⟨w.heap.size, 6, none⟩)) ⟨rfl, rfl⟩ (by kernel_rfl) rfl hdr.out ?r4 ?_
      case r4 => intro v hv; go_simp
      simp only [Act.put, List.setIfInBounds_toArray, List.set_cons_zero, List.set_cons_succ]
      refine takeHQ (f := 6) (i := 5) (.string th) ⟨rfl, rfl⟩ (by kernel_rfl) rfl hdr.out ?r5 ?_
      case r5 => intro v hv; have k6 := K6.out v hv; go_simp
      simp only [Act.put, List.setIfInBounds_toArray, List.set_cons_zero, List.set_cons_succ]
      refine takeHQ (f := 5) (i := 6) (.pointer (some ⟨w.heap.size, 7, none⟩)) ⟨rfl, rfl⟩ (by kernel_rfl) rfl hdr.out ?r6 ?_
      case r6 => intro v hv; go_simp
      simp only [Act.put, List.setIfInBounds_toArray, List.set_cons_zero, List.set_cons_succ]
      refine takeHQ (f := 4) (i := 7) (.string el) ⟨rfl, rfl⟩ (by kernel_rfl) rfl hdr.out ?r7 ?_
      case r7 => intro v hv; have k7 := K7.out v hv; go_simp
      simp only [Act.put, List.setIfInBounds_toArray, List.set_cons_zero, List.set_cons_succ]
      refine callHd (f := 3) (i := 3) (d := 32) (fn := 30) (args := #[.int .i64 wi]) ⟨rfl, rfl⟩ (by decide) (by kernel_rfl) rfl ?rc ((HT6.out Z.drew hdr.out).mono ?_)
      case rc => go_simp
      rintro e u6 ⟨rfl, hb⟩
      have hb6 : Hid (Below Z.heap.size Z u6) := hdr.out.trans hb
      clear hb HT6
      have hx6 := hb6.out.size
      have R6 : Hid (Row u6 W.heap.size 9 1 eS (.slice oz 5 kz) (([nm, kw, a] ++ [b]) ++ [dn])) := own_belowR RZ.out hb6.out
      have B6 : Hid (Below W.heap.size W u6) := BZ.out.trans (hb6.out.mono BZ.out.size)
      have CC : Hid (Calls Tryd.prog 31 #[.slice (some ⟨u6.heap.size + 1, 0, none⟩) 2 2] ((u6.alloc (.cells #[.string ⟨#[119, 105, 116, 104, 105, 110]⟩, .string dw, .string ⟨#[116, 104, 101, 110]⟩, .string th, .string ⟨#[101, 108, 115, 101]⟩, .string el] 9)).alloc (.cells #[(.slice oz 5 kz), .slice (some ⟨u6.heap.size, 0, none⟩) 6 6] 45)) fun e w' => ∃ v, e = .returned v ∧ Row w' u6.heap.size 9 1 eS v (([nm, kw, a] ++ [b]) ++ [dn] ++ [⟨#[119, 105, 116, 104, 105, 110]⟩, dw, ⟨#[116, 104, 101, 110]⟩, th, ⟨#[101, 108, 115, 101]⟩, el]) ∧ Below u6.heap.size u6 w') := by
        have e1 : (u6.alloc (.cells #[.string ⟨#[119, 105, 116, 104, 105, 110]⟩, .string dw, .string ⟨#[116, 104, 101, 110]⟩, .string th, .string ⟨#[101, 108, 115, 101]⟩, .string el] 9)).heap.size = u6.heap.size + 1 := by simp
        have b1 : Below u6.heap.size u6 (u6.alloc (.cells #[.string ⟨#[119, 105, 116, 104, 105, 110]⟩, .string dw, .string ⟨#[116, 104, 101, 110]⟩, .string th, .string ⟨#[101, 108, 115, 101]⟩, .string el] 9)) := (Below.refl _ _).alloc (Nat.le_refl _) _
        have b2 : Below u6.heap.size u6 ((u6.alloc (.cells #[.string ⟨#[119, 105, 116, 104, 105, 110]⟩, .string dw, .string ⟨#[116, 104, 101, 110]⟩, .string th, .string ⟨#[101, 108, 115, 101]⟩, .string el] 9)).alloc (.cells #[(.slice oz 5 kz), .slice (some ⟨u6.heap.size, 0, none⟩) 6 6] 45)) := b1.alloc (by omega) _
        have b12 : Below (u6.alloc (.cells #[.string ⟨#[119, 105, 116, 104, 105, 110]⟩, .string dw, .string ⟨#[116, 104, 101, 110]⟩, .string th, .string ⟨#[101, 108, 115, 101]⟩, .string el] 9)).heap.size (u6.alloc (.cells #[.string ⟨#[119, 105, 116, 104, 105, 110]⟩, .string dw, .string ⟨#[116, 104, 101, 110]⟩, .string th, .string ⟨#[101, 108, 115, 101]⟩, .string el] 9)) ((u6.alloc (.cells #[.string ⟨#[119, 105, 116, 104, 105, 110]⟩, .string dw, .string ⟨#[116, 104, 101, 110]⟩, .string th, .string ⟨#[101, 108, 115, 101]⟩, .string el] 9)).alloc (.cells #[(.slice oz 5 kz), .slice (some ⟨u6.heap.size, 0, none⟩) 6 6] 45)) := (Below.refl _ _).alloc (Nat.le_refl _) _
        have r7 := own_belowR R6.out b2
        have a1 := flatS.row_at r7 (S := fun g => g < ((u6.alloc (.cells #[.string ⟨#[119, 105, 116, 104, 105, 110]⟩, .string dw, .string ⟨#[116, 104, 101, 110]⟩, .string th, .string ⟨#[101, 108, 115, 101]⟩, .string el] 9)).alloc (.cells #[(.slice oz 5 kz), .slice (some ⟨u6.heap.size, 0, none⟩) 6 6] 45)).heap.size) (fun g hg => (World.ownsRow.lt r7 g hg).2) ZL.out
        have a2 := ((lit_at 9 u6 [⟨#[119, 105, 116, 104, 105, 110]⟩, dw, ⟨#[116, 104, 101, 110]⟩, th, ⟨#[101, 108, 115, 101]⟩, el] (by show 6 ≤ maxLen; decide) Z6.out).same (Same.of_below b12 (fun b hb => by rw [hb]; omega))).up (S' := fun g => g < ((u6.alloc (.cells #[.string ⟨#[119, 105, 116, 104, 105, 110]⟩, .string dw, .string ⟨#[116, 104, 101, 110]⟩, .string th, .string ⟨#[101, 108, 115, 101]⟩, .string el] 9)).alloc (.cells #[(.slice oz 5 kz), .slice (some ⟨u6.heap.size, 0, none⟩) 6 6] 45)).heap.size) (fun b hb => by rw [hb]; simp; omega)
        rw [← e1]
        refine (concat_any _ _ (([nm, kw, a] ++ [b]) ++ [dn]) [⟨#[119, 105, 116, 104, 105, 110]⟩, dw, ⟨#[116, 104, 101, 110]⟩, th, ⟨#[101, 108, 115, 101]⟩, el] _ _ _ _ a1 a2 (fun b hb => hb) (fun b hb => hb) (heap_alloc_new _ _) (by simp) (by simp)).mono ?_
        rintro e w' ⟨v, h1, h2, h3⟩
        exact ⟨v, h1, Row.low h2 (by simp; omega), b2.trans (h3.mono (by simp; omega))⟩
      refine ⟨_, rfl, hb6.out, ?_⟩
      simp only [Act.put, List.setIfInBounds_toArray, List.set_cons_zero, List.set_cons_succ]
      refine oneHd (f := 2) (i := 8) (.slice (some ⟨u6.heap.size, 0, none⟩) 6 6) (u6.alloc (.cells #[.string ⟨#[119, 105, 116, 104, 105, 110]⟩, .string dw, .string ⟨#[116, 104, 101, 110]⟩, .string th, .string ⟨#[101, 108, 115, 101]⟩, .string el] 9)) ⟨rfl, rfl⟩ (by decide) (by kernel_rfl) rfl ?rb (hb6.out.alloc hx6 _) ?_
      case rb => go_simp
      simp only [Act.put, List.setIfInBounds_toArray, List.set_cons_zero, List.set_cons_succ]
      refine oneHd (f := 1) (i := 9) (.slice (some ⟨u6.heap.size + 1, 0, none⟩) 2 2) ((u6.alloc (.cells #[.string ⟨#[119, 105, 116, 104, 105, 110]⟩, .string dw, .string ⟨#[116, 104, 101, 110]⟩, .string th, .string ⟨#[101, 108, 115, 101]⟩, .string el] 9)).alloc (.cells #[(.slice oz 5 kz), .slice (some ⟨u6.heap.size, 0, none⟩) 6 6] 45)) ⟨rfl, rfl⟩ (by decide) (by kernel_rfl) rfl ?rb ((hb6.out.alloc hx6 _).alloc (by simp; omega) _) ?_
      case rb => go_simp
      simp only [Act.put, List.setIfInBounds_toArray, List.set_cons_zero, List.set_cons_succ]
      refine callHd (f := 0) (i := 10) (d := 39) (fn := 31) (args := #[.slice (some ⟨u6.heap.size + 1, 0, none⟩) 2 2]) ⟨rfl, rfl⟩ (by decide) (by kernel_rfl) rfl ?rc (Calls.mono CC.out ?_)
      case rc => go_simp
      rintro e w9 ⟨vr, rfl, hrow, hb9⟩
      refine ⟨_, rfl, hb6.out.trans (hb9.mono hx6), ?_⟩
      simp only [Act.put, List.setIfInBounds_toArray, List.set_cons_zero, List.set_cons_succ]
      refine ⟨by kernel_rfl, ?_⟩
      simp only [List.drop_succ_cons, List.drop_zero]
      go_wp2_with fail
      go_ret
      exact ⟨_, rfl, (by rw [← HRES.out, E.out]; exact Row.low hrow (by omega)), BW.out _ (B6.out.trans (hb9.mono (by omega)))⟩
  · have k3 := (cell_row (KB.out X BX.out) 3 (.string b) rfl).1
    go_upto_region 4 with fail
    clear k3
    by_cases hn : n = 0
    · have hnb : (n == 0) = true := by simpa using hn
      have k4 := (cell_row (KB.out X BX.out) 4 (.int .i64 n) rfl).1
      obtain ⟨oz, kz, hvz⟩ := Row.form RX.out
      rw [show ([nm, kw, a]).length = 3 from by simp] at hvz
      subst hvz
      have K5 : Hid (∀ v, Below X.heap.size X v → v.cell? ⟨w.heap.size, 5, none⟩ = some (.int .i64 wi)) := fun v hv => (cell_row (KB.out v (BX.out.trans (hv.mono BX.out.size))) 5 (.int .i64 wi) rfl).1
      have K6 : Hid (∀ v, Below X.heap.size X v → v.cell? ⟨w.heap.size, 6, none⟩ = some (.string th)) := fun v hv => (cell_row (KB.out v (BX.out.trans (hv.mono BX.out.size))) 6 (.string th) rfl).1
      have K7 : Hid (∀ v, Below X.heap.size X v → v.cell? ⟨w.heap.size, 7, none⟩ = some (.string el)) := fun v hv => (cell_row (KB.out v (BX.out.trans (hv.mono BX.out.size))) 7 (.string el) rfl).1
      have HT6 : Hid (∀ v, Below X.heap.size X v → Calls Tryd.prog 30 #[.int .i64 wi] v fun e w' => e = .returned (.string dw) ∧ Below v.heap.size v w') := fun v hv => by
        have h := ITO.out wi v hw0 hw1 (BX.out.trans (hv.mono BX.out.size))
        rw [EDW.out] at h
        exact h
      have E : Hid (wdL nm kd a b n wi th el = [nm, kw, a] ++ [⟨#[119, 105, 116, 104, 105, 110]⟩, dw, ⟨#[116, 104, 101, 110]⟩, th, ⟨#[101, 108, 115, 101]⟩, el]) := by
        show wdL nm kd a b n wi th el = _
        unfold wdL
        rw [hb0, EKW.out, EDW.out]
        rw [if_pos hn]
        simp
      have ZL : Hid (∀ s ∈ [nm, kw, a], s.size ≤ maxLen) := by
        intro s hs
        simp only [List.mem_cons, List.not_mem_nil, or_false] at hs
        rcases hs with rfl | rfl | rfl
        · exact ZS.out _ (by simp)
        · exact zk.out
        · exact ZS.out _ (by simp)
      have Z6 : Hid (∀ s ∈ [⟨#[119, 105, 116, 104, 105, 110]⟩, dw, ⟨#[116, 104, 101, 110]⟩, th, ⟨#[101, 108, 115, 101]⟩, el], s.size ≤ maxLen) := by
        intro s hs
        simp only [List.mem_cons, List.not_mem_nil, or_false] at hs
        rcases hs with rfl | rfl | rfl | rfl | rfl | rfl
        · decide
        · exact zdw.out
        · decide
        · exact ZS.out _ (by simp)
        · decide
        · exact ZS.out _ (by simp)
      go_upto_region 6 with fail
      have hdr : Hid (Below X.heap.size X X.drew) := (Below.refl _ _).drew
      have hwx := BX.out.size
      refine wp_region_movesC (fun v => Below X.heap.size X v) 11 [] (by kernel_rfl) (by kernel_rfl) hdr.out ?_
      simp only [List.filterMap_nil, movD]
      refine takeHQ (f := 10) (i := 0) ((.slice oz 3 kz)) ⟨rfl, rfl⟩ (by kernel_rfl) rfl hdr.out ?r0 ?_
      case r0 => intro v hv; go_simp
      simp only [Act.put, List.setIfInBounds_toArray, List.set_cons_zero, List.set_cons_succ]
      refine takeHQ (f := 9) (i := 1) (.pointer (some ⟨w.heap.size, 5, none⟩)) ⟨rfl, rfl⟩ (by kernel_rfl) rfl hdr.out ?r1 ?_
      case r1 => intro v hv; go_simp
      simp only [Act.put, List.setIfInBounds_toArray, List.set_cons_zero, List.set_cons_succ]
      refine takeHQ (f := 8) (i := 2) (.int .i64 wi) ⟨rfl, rfl⟩ (by kernel_rfl) rfl hdr.out ?r2 ?_
      case r2 => intro v hv; have k5 := K5.out v hv; go_simp
      simp only [Act.put, List.setIfInBounds_toArray, List.set_cons_zero, List.set_cons_succ]
      refine takeHQ (f := 7) (i := 4) (.pointer (some ⟨w.heap.size, 6, none⟩)) ⟨rfl, rfl⟩ (by kernel_rfl) rfl hdr.out ?r4 ?_
      case r4 => intro v hv; go_simp
      simp only [Act.put, List.setIfInBounds_toArray, List.set_cons_zero, List.set_cons_succ]
      refine takeHQ (f := 6) (i := 5) (.string th) ⟨rfl, rfl⟩ (by kernel_rfl) rfl hdr.out ?r5 ?_
      case r5 => intro v hv; have k6 := K6.out v hv; go_simp
      simp only [Act.put, List.setIfInBounds_toArray, List.set_cons_zero, List.set_cons_succ]
      refine takeHQ (f := 5) (i := 6) (.pointer (some ⟨w.heap.size, 7, none⟩)) ⟨rfl, rfl⟩ (by kernel_rfl) rfl hdr.out ?r6 ?_
      case r6 => intro v hv; go_simp
      simp only [Act.put, List.setIfInBounds_toArray, List.set_cons_zero, List.set_cons_succ]
      refine takeHQ (f := 4) (i := 7) (.string el) ⟨rfl, rfl⟩ (by kernel_rfl) rfl hdr.out ?r7 ?_
      case r7 => intro v hv; have k7 := K7.out v hv; go_simp
      simp only [Act.put, List.setIfInBounds_toArray, List.set_cons_zero, List.set_cons_succ]
      refine callHd (f := 3) (i := 3) (d := 32) (fn := 30) (args := #[.int .i64 wi]) ⟨rfl, rfl⟩ (by decide) (by kernel_rfl) rfl ?rc ((HT6.out X.drew hdr.out).mono ?_)
      case rc => go_simp
      rintro e u6 ⟨rfl, hb⟩
      have hb6 : Hid (Below X.heap.size X u6) := hdr.out.trans hb
      clear hb HT6
      have hx6 := hb6.out.size
      have R6 : Hid (Row u6 W.heap.size 9 1 eS (.slice oz 3 kz) ([nm, kw, a])) := own_belowR RX.out hb6.out
      have B6 : Hid (Below W.heap.size W u6) := BX.out.trans (hb6.out.mono BX.out.size)
      have CC : Hid (Calls Tryd.prog 31 #[.slice (some ⟨u6.heap.size + 1, 0, none⟩) 2 2] ((u6.alloc (.cells #[.string ⟨#[119, 105, 116, 104, 105, 110]⟩, .string dw, .string ⟨#[116, 104, 101, 110]⟩, .string th, .string ⟨#[101, 108, 115, 101]⟩, .string el] 9)).alloc (.cells #[(.slice oz 3 kz), .slice (some ⟨u6.heap.size, 0, none⟩) 6 6] 45)) fun e w' => ∃ v, e = .returned v ∧ Row w' u6.heap.size 9 1 eS v ([nm, kw, a] ++ [⟨#[119, 105, 116, 104, 105, 110]⟩, dw, ⟨#[116, 104, 101, 110]⟩, th, ⟨#[101, 108, 115, 101]⟩, el]) ∧ Below u6.heap.size u6 w') := by
        have e1 : (u6.alloc (.cells #[.string ⟨#[119, 105, 116, 104, 105, 110]⟩, .string dw, .string ⟨#[116, 104, 101, 110]⟩, .string th, .string ⟨#[101, 108, 115, 101]⟩, .string el] 9)).heap.size = u6.heap.size + 1 := by simp
        have b1 : Below u6.heap.size u6 (u6.alloc (.cells #[.string ⟨#[119, 105, 116, 104, 105, 110]⟩, .string dw, .string ⟨#[116, 104, 101, 110]⟩, .string th, .string ⟨#[101, 108, 115, 101]⟩, .string el] 9)) := (Below.refl _ _).alloc (Nat.le_refl _) _
        have b2 : Below u6.heap.size u6 ((u6.alloc (.cells #[.string ⟨#[119, 105, 116, 104, 105, 110]⟩, .string dw, .string ⟨#[116, 104, 101, 110]⟩, .string th, .string ⟨#[101, 108, 115, 101]⟩, .string el] 9)).alloc (.cells #[(.slice oz 3 kz), .slice (some ⟨u6.heap.size, 0, none⟩) 6 6] 45)) := b1.alloc (by omega) _
        have b12 : Below (u6.alloc (.cells #[.string ⟨#[119, 105, 116, 104, 105, 110]⟩, .string dw, .string ⟨#[116, 104, 101, 110]⟩, .string th, .string ⟨#[101, 108, 115, 101]⟩, .string el] 9)).heap.size (u6.alloc (.cells #[.string ⟨#[119, 105, 116, 104, 105, 110]⟩, .string dw, .string ⟨#[116, 104, 101, 110]⟩, .string th, .string ⟨#[101, 108, 115, 101]⟩, .string el] 9)) ((u6.alloc (.cells #[.string ⟨#[119, 105, 116, 104, 105, 110]⟩, .string dw, .string ⟨#[116, 104, 101, 110]⟩, .string th, .string ⟨#[101, 108, 115, 101]⟩, .string el] 9)).alloc (.cells #[(.slice oz 3 kz), .slice (some ⟨u6.heap.size, 0, none⟩) 6 6] 45)) := (Below.refl _ _).alloc (Nat.le_refl _) _
        have r7 := own_belowR R6.out b2
        have a1 := flatS.row_at r7 (S := fun g => g < ((u6.alloc (.cells #[.string ⟨#[119, 105, 116, 104, 105, 110]⟩, .string dw, .string ⟨#[116, 104, 101, 110]⟩, .string th, .string ⟨#[101, 108, 115, 101]⟩, .string el] 9)).alloc (.cells #[(.slice oz 3 kz), .slice (some ⟨u6.heap.size, 0, none⟩) 6 6] 45)).heap.size) (fun g hg => (World.ownsRow.lt r7 g hg).2) ZL.out
        have a2 := ((lit_at 9 u6 [⟨#[119, 105, 116, 104, 105, 110]⟩, dw, ⟨#[116, 104, 101, 110]⟩, th, ⟨#[101, 108, 115, 101]⟩, el] (by show 6 ≤ maxLen; decide) Z6.out).same (Same.of_below b12 (fun b hb => by rw [hb]; omega))).up (S' := fun g => g < ((u6.alloc (.cells #[.string ⟨#[119, 105, 116, 104, 105, 110]⟩, .string dw, .string ⟨#[116, 104, 101, 110]⟩, .string th, .string ⟨#[101, 108, 115, 101]⟩, .string el] 9)).alloc (.cells #[(.slice oz 3 kz), .slice (some ⟨u6.heap.size, 0, none⟩) 6 6] 45)).heap.size) (fun b hb => by rw [hb]; simp; omega)
        rw [← e1]
        refine (concat_any _ _ ([nm, kw, a]) [⟨#[119, 105, 116, 104, 105, 110]⟩, dw, ⟨#[116, 104, 101, 110]⟩, th, ⟨#[101, 108, 115, 101]⟩, el] _ _ _ _ a1 a2 (fun b hb => hb) (fun b hb => hb) (heap_alloc_new _ _) (by simp) (by simp)).mono ?_
        rintro e w' ⟨v, h1, h2, h3⟩
        exact ⟨v, h1, Row.low h2 (by simp; omega), b2.trans (h3.mono (by simp; omega))⟩
      refine ⟨_, rfl, hb6.out, ?_⟩
      simp only [Act.put, List.setIfInBounds_toArray, List.set_cons_zero, List.set_cons_succ]
      refine oneHd (f := 2) (i := 8) (.slice (some ⟨u6.heap.size, 0, none⟩) 6 6) (u6.alloc (.cells #[.string ⟨#[119, 105, 116, 104, 105, 110]⟩, .string dw, .string ⟨#[116, 104, 101, 110]⟩, .string th, .string ⟨#[101, 108, 115, 101]⟩, .string el] 9)) ⟨rfl, rfl⟩ (by decide) (by kernel_rfl) rfl ?rb (hb6.out.alloc hx6 _) ?_
      case rb => go_simp
      simp only [Act.put, List.setIfInBounds_toArray, List.set_cons_zero, List.set_cons_succ]
      refine oneHd (f := 1) (i := 9) (.slice (some ⟨u6.heap.size + 1, 0, none⟩) 2 2) ((u6.alloc (.cells #[.string ⟨#[119, 105, 116, 104, 105, 110]⟩, .string dw, .string ⟨#[116, 104, 101, 110]⟩, .string th, .string ⟨#[101, 108, 115, 101]⟩, .string el] 9)).alloc (.cells #[(.slice oz 3 kz), .slice (some ⟨u6.heap.size, 0, none⟩) 6 6] 45)) ⟨rfl, rfl⟩ (by decide) (by kernel_rfl) rfl ?rb ((hb6.out.alloc hx6 _).alloc (by simp; omega) _) ?_
      case rb => go_simp
      simp only [Act.put, List.setIfInBounds_toArray, List.set_cons_zero, List.set_cons_succ]
      refine callHd (f := 0) (i := 10) (d := 39) (fn := 31) (args := #[.slice (some ⟨u6.heap.size + 1, 0, none⟩) 2 2]) ⟨rfl, rfl⟩ (by decide) (by kernel_rfl) rfl ?rc (Calls.mono CC.out ?_)
      case rc => go_simp
      rintro e w9 ⟨vr, rfl, hrow, hb9⟩
      refine ⟨_, rfl, hb6.out.trans (hb9.mono hx6), ?_⟩
      simp only [Act.put, List.setIfInBounds_toArray, List.set_cons_zero, List.set_cons_succ]
      refine ⟨by kernel_rfl, ?_⟩
      simp only [List.drop_succ_cons, List.drop_zero]
      go_wp2_with fail
      go_ret
      exact ⟨_, rfl, (by rw [← HRES.out, E.out]; exact Row.low hrow (by omega)), BW.out _ (B6.out.trans (hb9.mono (by omega)))⟩
    · have hnb : (n == 0) = false := by simpa using hn
      have C : Hid _ := ITO.out n X hn0 hn1 BX.out
      rw [EDN.out] at C
      have k4 := (cell_row (KB.out X BX.out) 4 (.int .i64 n) rfl).1
      go_wp2_with fail
      refine Calls.mono C.out ?_
      rintro e Y ⟨rfl, hb⟩
      have BY : Hid (Below W.heap.size W Y) := BX.out.trans (hb.mono BX.out.size)
      have RY : Hid (Row Y W.heap.size 9 1 eS vx ([nm, kw, a])) := own_belowR RX.out hb
      clear hb C k4
      have AW : Hid (Below Y.heap.size Y (Y.alloc (.cells #[.string dn] 9))) := (Below.refl _ _).alloc (Nat.le_refl _) _
      have HOWN : Hid ((Y.alloc (.cells #[.string dn] 9)).ownsRow W.heap.size 9 1 vx 3 (enc 1 eS ([nm, kw, a]))) := own_belowR RY.out AW.out
      have SR : Hid (Src (Y.alloc (.cells #[.string dn] 9)) (.slice (some ⟨Y.heap.size, 0, none⟩) 1 1) 1 1 (enc 1 eS [dn])) := flatS.src (lit_at 9 Y [dn] (by show 1 ≤ maxLen; decide) (fun z hz => by simp only [List.mem_singleton] at hz; rw [hz]; exact zdn.out))
      have hww : W.heap.size ≤ Y.heap.size := BY.out.size
      go_upto_region 6 with (at_builtin; refine wpList_app elS rfl _ _ rfl rfl rfl HOWN.out SR.out (flatS.enc_one _) (by unfold maxLen; omega) (by omega) (by simp; omega) ?_; intro vz Z hown hgE hbk; have RZ : Hid (Row Z W.heap.size 9 1 eS vz (([nm, kw, a]) ++ [dn])) := (by show World.ownsRow _ _ _ _ _ _ _; rw [List.length_append, enc_append]; exact hown); have BZ : Hid (Below W.heap.size W Z) := (BY.out.trans (AW.out.mono BY.out.size)).grown hgE (by simp; omega) (fun q hq => (World.ownsRow.lt HOWN.out q hq).1); clear hown hgE hbk SR HOWN AW)
      obtain ⟨oz, kz, hvz⟩ := Row.form RZ.out
      rw [show (([nm, kw, a]) ++ [dn]).length = 4 from by simp] at hvz
      subst hvz
      have K5 : Hid (∀ v, Below Z.heap.size Z v → v.cell? ⟨w.heap.size, 5, none⟩ = some (.int .i64 wi)) := fun v hv => (cell_row (KB.out v (BZ.out.trans (hv.mono BZ.out.size))) 5 (.int .i64 wi) rfl).1
      have K6 : Hid (∀ v, Below Z.heap.size Z v → v.cell? ⟨w.heap.size, 6, none⟩ = some (.string th)) := fun v hv => (cell_row (KB.out v (BZ.out.trans (hv.mono BZ.out.size))) 6 (.string th) rfl).1
      have K7 : Hid (∀ v, Below Z.heap.size Z v → v.cell? ⟨w.heap.size, 7, none⟩ = some (.string el)) := fun v hv => (cell_row (KB.out v (BZ.out.trans (hv.mono BZ.out.size))) 7 (.string el) rfl).1
      have HT6 : Hid (∀ v, Below Z.heap.size Z v → Calls Tryd.prog 30 #[.int .i64 wi] v fun e w' => e = .returned (.string dw) ∧ Below v.heap.size v w') := fun v hv => by
        have h := ITO.out wi v hw0 hw1 (BZ.out.trans (hv.mono BZ.out.size))
        rw [EDW.out] at h
        exact h
      have E : Hid (wdL nm kd a b n wi th el = ([nm, kw, a]) ++ [dn] ++ [⟨#[119, 105, 116, 104, 105, 110]⟩, dw, ⟨#[116, 104, 101, 110]⟩, th, ⟨#[101, 108, 115, 101]⟩, el]) := by
        show wdL nm kd a b n wi th el = _
        unfold wdL
        rw [hb0, EKW.out, EDW.out, EDN.out]
        rw [if_neg hn]
        simp
      have ZL : Hid (∀ s ∈ ([nm, kw, a]) ++ [dn], s.size ≤ maxLen) := by
        intro s hs
        simp only [List.mem_append, List.mem_cons, List.not_mem_nil, or_false] at hs
        rcases hs with (rfl | rfl | rfl) | rfl
        · exact ZS.out _ (by simp)
        · exact zk.out
        · exact ZS.out _ (by simp)
        · exact zdn.out
      have Z6 : Hid (∀ s ∈ [⟨#[119, 105, 116, 104, 105, 110]⟩, dw, ⟨#[116, 104, 101, 110]⟩, th, ⟨#[101, 108, 115, 101]⟩, el], s.size ≤ maxLen) := by
        intro s hs
        simp only [List.mem_cons, List.not_mem_nil, or_false] at hs
        rcases hs with rfl | rfl | rfl | rfl | rfl | rfl
        · decide
        · exact zdw.out
        · decide
        · exact ZS.out _ (by simp)
        · decide
        · exact ZS.out _ (by simp)
      go_upto_region 6 with fail
      have hdr : Hid (Below Z.heap.size Z Z.drew) := (Below.refl _ _).drew
      have hwx := BZ.out.size
      refine wp_region_movesC (fun v => Below Z.heap.size Z v) 11 [] (by kernel_rfl) (by kernel_rfl) hdr.out ?_
      simp only [List.filterMap_nil, movD]
      refine takeHQ (f := 10) (i := 0) ((.slice oz 4 kz)) ⟨rfl, rfl⟩ (by kernel_rfl) rfl hdr.out ?r0 ?_
      case r0 => intro v hv; go_simp
      simp only [Act.put, List.setIfInBounds_toArray, List.set_cons_zero, List.set_cons_succ]
      refine takeHQ (f := 9) (i := 1) (.pointer (some ⟨w.heap.size, 5, none⟩)) ⟨rfl, rfl⟩ (by kernel_rfl) rfl hdr.out ?r1 ?_
      case r1 => intro v hv; go_simp
      simp only [Act.put, List.setIfInBounds_toArray, List.set_cons_zero, List.set_cons_succ]
      refine takeHQ (f := 8) (i := 2) (.int .i64 wi) ⟨rfl, rfl⟩ (by kernel_rfl) rfl hdr.out ?r2 ?_
      case r2 => intro v hv; have k5 := K5.out v hv; go_simp
      simp only [Act.put, List.setIfInBounds_toArray, List.set_cons_zero, List.set_cons_succ]
      refine takeHQ (f := 7) (i := 4) (.pointer (some ⟨w.heap.size, 6, none⟩)) ⟨rfl, rfl⟩ (by kernel_rfl) rfl hdr.out ?r4 ?_
      case r4 => intro v hv; go_simp
      simp only [Act.put, List.setIfInBounds_toArray, List.set_cons_zero, List.set_cons_succ]
      refine takeHQ (f := 6) (i := 5) (.string th) ⟨rfl, rfl⟩ (by kernel_rfl) rfl hdr.out ?r5 ?_
      case r5 => intro v hv; have k6 := K6.out v hv; go_simp
      simp only [Act.put, List.setIfInBounds_toArray, List.set_cons_zero, List.set_cons_succ]
      refine takeHQ (f := 5) (i := 6) (.pointer (some ⟨w.heap.size, 7, none⟩)) ⟨rfl, rfl⟩ (by kernel_rfl) rfl hdr.out ?r6 ?_
      case r6 => intro v hv; go_simp
      simp only [Act.put, List.setIfInBounds_toArray, List.set_cons_zero, List.set_cons_succ]
      refine takeHQ (f := 4) (i := 7) (.string el) ⟨rfl, rfl⟩ (by kernel_rfl) rfl hdr.out ?r7 ?_
      case r7 => intro v hv; have k7 := K7.out v hv; go_simp
      simp only [Act.put, List.setIfInBounds_toArray, List.set_cons_zero, List.set_cons_succ]
      refine callHd (f := 3) (i := 3) (d := 32) (fn := 30) (args := #[.int .i64 wi]) ⟨rfl, rfl⟩ (by decide) (by kernel_rfl) rfl ?rc ((HT6.out Z.drew hdr.out).mono ?_)
      case rc => go_simp
      rintro e u6 ⟨rfl, hb⟩
      have hb6 : Hid (Below Z.heap.size Z u6) := hdr.out.trans hb
      clear hb HT6
      have hx6 := hb6.out.size
      have R6 : Hid (Row u6 W.heap.size 9 1 eS (.slice oz 4 kz) (([nm, kw, a]) ++ [dn])) := own_belowR RZ.out hb6.out
      have B6 : Hid (Below W.heap.size W u6) := BZ.out.trans (hb6.out.mono BZ.out.size)
      have CC : Hid (Calls Tryd.prog 31 #[.slice (some ⟨u6.heap.size + 1, 0, none⟩) 2 2] ((u6.alloc (.cells #[.string ⟨#[119, 105, 116, 104, 105, 110]⟩, .string dw, .string ⟨#[116, 104, 101, 110]⟩, .string th, .string ⟨#[101, 108, 115, 101]⟩, .string el] 9)).alloc (.cells #[(.slice oz 4 kz), .slice (some ⟨u6.heap.size, 0, none⟩) 6 6] 45)) fun e w' => ∃ v, e = .returned v ∧ Row w' u6.heap.size 9 1 eS v (([nm, kw, a]) ++ [dn] ++ [⟨#[119, 105, 116, 104, 105, 110]⟩, dw, ⟨#[116, 104, 101, 110]⟩, th, ⟨#[101, 108, 115, 101]⟩, el]) ∧ Below u6.heap.size u6 w') := by
        have e1 : (u6.alloc (.cells #[.string ⟨#[119, 105, 116, 104, 105, 110]⟩, .string dw, .string ⟨#[116, 104, 101, 110]⟩, .string th, .string ⟨#[101, 108, 115, 101]⟩, .string el] 9)).heap.size = u6.heap.size + 1 := by simp
        have b1 : Below u6.heap.size u6 (u6.alloc (.cells #[.string ⟨#[119, 105, 116, 104, 105, 110]⟩, .string dw, .string ⟨#[116, 104, 101, 110]⟩, .string th, .string ⟨#[101, 108, 115, 101]⟩, .string el] 9)) := (Below.refl _ _).alloc (Nat.le_refl _) _
        have b2 : Below u6.heap.size u6 ((u6.alloc (.cells #[.string ⟨#[119, 105, 116, 104, 105, 110]⟩, .string dw, .string ⟨#[116, 104, 101, 110]⟩, .string th, .string ⟨#[101, 108, 115, 101]⟩, .string el] 9)).alloc (.cells #[(.slice oz 4 kz), .slice (some ⟨u6.heap.size, 0, none⟩) 6 6] 45)) := b1.alloc (by omega) _
        have b12 : Below (u6.alloc (.cells #[.string ⟨#[119, 105, 116, 104, 105, 110]⟩, .string dw, .string ⟨#[116, 104, 101, 110]⟩, .string th, .string ⟨#[101, 108, 115, 101]⟩, .string el] 9)).heap.size (u6.alloc (.cells #[.string ⟨#[119, 105, 116, 104, 105, 110]⟩, .string dw, .string ⟨#[116, 104, 101, 110]⟩, .string th, .string ⟨#[101, 108, 115, 101]⟩, .string el] 9)) ((u6.alloc (.cells #[.string ⟨#[119, 105, 116, 104, 105, 110]⟩, .string dw, .string ⟨#[116, 104, 101, 110]⟩, .string th, .string ⟨#[101, 108, 115, 101]⟩, .string el] 9)).alloc (.cells #[(.slice oz 4 kz), .slice (some ⟨u6.heap.size, 0, none⟩) 6 6] 45)) := (Below.refl _ _).alloc (Nat.le_refl _) _
        have r7 := own_belowR R6.out b2
        have a1 := flatS.row_at r7 (S := fun g => g < ((u6.alloc (.cells #[.string ⟨#[119, 105, 116, 104, 105, 110]⟩, .string dw, .string ⟨#[116, 104, 101, 110]⟩, .string th, .string ⟨#[101, 108, 115, 101]⟩, .string el] 9)).alloc (.cells #[(.slice oz 4 kz), .slice (some ⟨u6.heap.size, 0, none⟩) 6 6] 45)).heap.size) (fun g hg => (World.ownsRow.lt r7 g hg).2) ZL.out
        have a2 := ((lit_at 9 u6 [⟨#[119, 105, 116, 104, 105, 110]⟩, dw, ⟨#[116, 104, 101, 110]⟩, th, ⟨#[101, 108, 115, 101]⟩, el] (by show 6 ≤ maxLen; decide) Z6.out).same (Same.of_below b12 (fun b hb => by rw [hb]; omega))).up (S' := fun g => g < ((u6.alloc (.cells #[.string ⟨#[119, 105, 116, 104, 105, 110]⟩, .string dw, .string ⟨#[116, 104, 101, 110]⟩, .string th, .string ⟨#[101, 108, 115, 101]⟩, .string el] 9)).alloc (.cells #[(.slice oz 4 kz), .slice (some ⟨u6.heap.size, 0, none⟩) 6 6] 45)).heap.size) (fun b hb => by rw [hb]; simp; omega)
        rw [← e1]
        refine (concat_any _ _ (([nm, kw, a]) ++ [dn]) [⟨#[119, 105, 116, 104, 105, 110]⟩, dw, ⟨#[116, 104, 101, 110]⟩, th, ⟨#[101, 108, 115, 101]⟩, el] _ _ _ _ a1 a2 (fun b hb => hb) (fun b hb => hb) (heap_alloc_new _ _) (by simp) (by simp)).mono ?_
        rintro e w' ⟨v, h1, h2, h3⟩
        exact ⟨v, h1, Row.low h2 (by simp; omega), b2.trans (h3.mono (by simp; omega))⟩
      refine ⟨_, rfl, hb6.out, ?_⟩
      simp only [Act.put, List.setIfInBounds_toArray, List.set_cons_zero, List.set_cons_succ]
      refine oneHd (f := 2) (i := 8) (.slice (some ⟨u6.heap.size, 0, none⟩) 6 6) (u6.alloc (.cells #[.string ⟨#[119, 105, 116, 104, 105, 110]⟩, .string dw, .string ⟨#[116, 104, 101, 110]⟩, .string th, .string ⟨#[101, 108, 115, 101]⟩, .string el] 9)) ⟨rfl, rfl⟩ (by decide) (by kernel_rfl) rfl ?rb (hb6.out.alloc hx6 _) ?_
      case rb => go_simp
      simp only [Act.put, List.setIfInBounds_toArray, List.set_cons_zero, List.set_cons_succ]
      refine oneHd (f := 1) (i := 9) (.slice (some ⟨u6.heap.size + 1, 0, none⟩) 2 2) ((u6.alloc (.cells #[.string ⟨#[119, 105, 116, 104, 105, 110]⟩, .string dw, .string ⟨#[116, 104, 101, 110]⟩, .string th, .string ⟨#[101, 108, 115, 101]⟩, .string el] 9)).alloc (.cells #[(.slice oz 4 kz), .slice (some ⟨u6.heap.size, 0, none⟩) 6 6] 45)) ⟨rfl, rfl⟩ (by decide) (by kernel_rfl) rfl ?rb ((hb6.out.alloc hx6 _).alloc (by simp; omega) _) ?_
      case rb => go_simp
      simp only [Act.put, List.setIfInBounds_toArray, List.set_cons_zero, List.set_cons_succ]
      refine callHd (f := 0) (i := 10) (d := 39) (fn := 31) (args := #[.slice (some ⟨u6.heap.size + 1, 0, none⟩) 2 2]) ⟨rfl, rfl⟩ (by decide) (by kernel_rfl) rfl ?rc (Calls.mono CC.out ?_)
      case rc => go_simp
      rintro e w9 ⟨vr, rfl, hrow, hb9⟩
      refine ⟨_, rfl, hb6.out.trans (hb9.mono hx6), ?_⟩
      simp only [Act.put, List.setIfInBounds_toArray, List.set_cons_zero, List.set_cons_succ]
      refine ⟨by kernel_rfl, ?_⟩
      simp only [List.drop_succ_cons, List.drop_zero]
      go_wp2_with fail
      go_ret
      exact ⟨_, rfl, (by rw [← HRES.out, E.out]; exact Row.low hrow (by omega)), BW.out _ (B6.out.trans (hb9.mono (by omega)))⟩

end Go.Proofs.YthonjmefjmbogacDoor
