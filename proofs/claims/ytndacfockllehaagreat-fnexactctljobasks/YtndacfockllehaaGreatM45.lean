/-
  Several texts in one.
-/
import Derived.Test.YtndacfockllehaaGreatM30
import Derived.Test.YtndacfockllehaaGreatM37
import Derived.Test.YtndacfockllehaaGreatM44
import Derived.Deep.Cut
import Derived.Test.YtndacfockllehaaGreatBs
import Derived.Test.YtndacfockllehaaGreatBxs
import Derived.Test.YtndacfockllehaaGreatM6
import Derived.Test.YtndacfockllehaaGreatM12
/-
  A contract of the program's whole want of a move along a route.
-/
namespace Go.Proofs.YtndacfockllehaaGreat
open Go.RowKit

attribute [local go_sem] Oper.semAt_some
set_option maxRecDepth 100000 in
set_option maxHeartbeats 16000000 in
theorem wantAlong_any (B : Nat) (S : Nat → Prop) (v0 v1 v2 v3 : Value) (D : PD) (num am : Int) (op ov : Option Addr) (m k cm ck : Nat) (P Q : Nat → ByteArray) (ts : List ByteArray) (vt : Value) (w : World) (h : PAt B w v0 v1 v2 v3 D) (hP : Lst B w (.slice op m cm) m 1 (cS P)) (hQ : Lst B w (.slice ov k ck) k 1 (cS Q)) (hB : B ≤ w.heap.size) (hV : D.V) (hm2 : 2 ≤ m) (hm : m ≤ 1000) (hk : k ≤ 1000) (hcm : m ≤ cm)
    (ht : AtL S w ts vt) (hS : ∀ b, S b → b < w.heap.size) (hl : ts.length ≤ 1048576) (hs : ∀ x ∈ ts, x.size ≤ 1048576) (hzp : ∀ i, i < m → (P i).size ≤ 1048576) (hzq : ∀ i, i < k → (Q i).size ≤ 1048576) :
    Calls Tryz.prog 63 #[.agg #[v0, v1, v2, v3], .agg #[.slice op m cm, .slice ov k ck], .int .i64 num, vt, .int .i64 am] w fun e w' => ∃ r2 k2 r3 k3 r4 k4 r5 k5, e = .returned (.agg #[.int .i64 num, .int .i64 1, .slice r2 ts.length k2, .slice r3 m k3, .slice r4 k k4, .slice r5 (gdN D m P k Q D.nv).length k5]) ∧ w'.ownsRow w.heap.size 9 1 (.slice r2 ts.length k2) ts.length (enc 1 eS ts) ∧ w'.ownsRow w.heap.size 95 3 (.slice r3 m k3) m (enc 3 eU (usR m P am m)) ∧ w'.ownsRow w.heap.size 9 1 (.slice r4 k k4) k (enc 1 eS ((List.range k).map Q)) ∧ w'.ownsRow w.heap.size 9 1 (.slice r5 (gdN D m P k Q D.nv).length k5) (gdN D m P k Q D.nv).length (enc 1 eS (gdN D m P k Q D.nv)) ∧ Below w.heap.size w w' := by
  have H : Hid (∀ w', Below w.heap.size w w' → PAt B w' v0 v1 v2 v3 D ∧ Lst B w' (.slice op m cm) m 1 (cS P) ∧ Lst B w' (.slice ov k ck) k 1 (cS Q)) := fun w' hb => ⟨h.kept hb hB, hP.kept hb hB, hQ.kept hb hB⟩
  have HT : Hid (∀ w', Below w.heap.size w w' → AtL S w' ts vt) := fun w' hb => ht.same (Same.of_below hb hS)
  obtain ⟨ot, ct, et, hx⟩ := id ht
  subst et
  have HV : Hid D.V := hV
  have HZP : Hid (∀ i, i < m → (P i).size ≤ 1048576) := hzp
  have HZQ : Hid (∀ i, i < k → (Q i).size ≤ 1048576) := hzq
  have hnv : D.nv ≤ 18 := hV.2.2.1
  obtain ⟨pb, poff, ep⟩ : ∃ pb poff, op = some ⟨pb, poff, none⟩ := by
    obtain ⟨oa, cap, ev, _, hc⟩ := hP
    obtain ⟨b, off, e, _⟩ := hc 0 (by omega)
    cases ev
    exact ⟨b, off, e⟩
  subst ep
  have CP : Hid (∀ w', Below w.heap.size w w' → ∀ i, i < m → w'.cell? ⟨pb, poff + i, none⟩ = some (.string (P i))) := fun w' hb i hi => by
    obtain ⟨oa, cap, ev, _, hc⟩ := (H.out w' hb).2.1
    obtain ⟨b, off, e, _, hcell⟩ := hc i hi
    cases ev
    cases e
    have := hcell 0 (by omega)
    simpa [cS] using this
  clear h hP hQ ht hV hx hzp hzq
  obtain ⟨W, hW⟩ : ∃ W, W = ((w.alloc (.cells #[v0, v1, v2, v3] 40)).alloc (.cells #[.slice (some ⟨pb, poff, none⟩) m cm, .slice ov k ck] 42)).alloc (.cells #[.int .i64 0, .int .i64 0, .slice none 0 0, .slice none 0 0, .slice none 0 0, .slice none 0 0] 68) := ⟨_, rfl⟩
  have EW : Hid (W = ((w.alloc (.cells #[v0, v1, v2, v3] 40)).alloc (.cells #[.slice (some ⟨pb, poff, none⟩) m cm, .slice ov k ck] 42)).alloc (.cells #[.int .i64 0, .int .i64 0, .slice none 0 0, .slice none 0 0, .slice none 0 0, .slice none 0 0] 68)) := hW
  have BW : Hid (Below w.heap.size w W) := by rw [hW]; exact (((Below.refl _ _).alloc (Nat.le_refl _) _).alloc (by simp) _).alloc (by simp; omega) _
  have sW : W.heap.size ≤ w.heap.size + 1 + 1 + 1 ∧ w.heap.size + 1 + 1 + 1 ≤ W.heap.size := by rw [hW]; simp
  have X0 : Hid (W.heap[w.heap.size]? = some (.cells #[v0, v1, v2, v3] 40 (0, 0))) := by rw [hW]; exact ((Below.heap_alloc _ _ _ (by simp; omega)).trans (Below.heap_alloc _ _ _ (by simp))).trans (heap_alloc_new w _)
  have R0 : Hid (W.heap[w.heap.size + 1]? = some (.cells #[.slice (some ⟨pb, poff, none⟩) m cm, .slice ov k ck] 42 (0, 0))) := by rw [hW]; refine (Below.heap_alloc _ _ _ (by simp)).trans ?_; have := heap_alloc_new (w.alloc (.cells #[v0, v1, v2, v3] 40)) (.cells #[.slice (some ⟨pb, poff, none⟩) m cm, .slice ov k ck] 42); rw [World.size_alloc] at this; exact this
  have Y0 : Hid (W.heap[w.heap.size + 1 + 1]? = some (.cells #[.int .i64 0, .int .i64 0, .slice none 0 0, .slice none 0 0, .slice none 0 0, .slice none 0 0] 68 (0, 0))) := by rw [hW]; have := heap_alloc_new ((w.alloc (.cells #[v0, v1, v2, v3] 40)).alloc (.cells #[.slice (some ⟨pb, poff, none⟩) m cm, .slice ov k ck] 42)) (.cells #[.int .i64 0, .int .i64 0, .slice none 0 0, .slice none 0 0, .slice none 0 0, .slice none 0 0] 68); rw [World.size_alloc, World.size_alloc] at this; exact this
  clear hW
  have HN : Hid (Calls Tryz.prog 94 #[.int .i64 num, .int .i64 1, .slice ot ts.length ct] W fun e w' => ∃ r k, e = .returned (.agg #[.int .i64 num, .int .i64 1, .slice r ts.length k, .slice none 0 0, .slice none 0 0, .slice none 0 0]) ∧ Row w' W.heap.size 9 1 eS (.slice r ts.length k) ts ∧ Below W.heap.size W w') := newWant_any S num 1 _ ts W (HT.out W BW.out) (fun b hb => Nat.lt_of_lt_of_le (hS b hb) BW.out.size) hl hs
  go_enter Tryz.func63, Tryz.ntmps63
  go_upto_region 1 with fail
  rw [← EW.out]
  go_upto_region 2 with (first
    | (go_at_call 94; refine (HN.out).mono ?_; rintro e wa ⟨r2, k2, rfl, hra, hba⟩))
  clear HN EW
  obtain ⟨gx, hgx⟩ : ∃ g, g = wa.heap.size := ⟨_, rfl⟩
  obtain ⟨U1, hU1⟩ : ∃ V, V = wa.alloc (.cells #[.int .i64 num, .int .i64 1, .slice r2 ts.length k2, .slice none 0 0, .slice none 0 0, .slice none 0 0] 128) := ⟨_, rfl⟩
  have G1 : U1.heap[gx]? = some (.cells #[.int .i64 num, .int .i64 1, .slice r2 ts.length k2, .slice none 0 0, .slice none 0 0, .slice none 0 0] 128 (0, 0)) := by rw [hgx, hU1]; exact heap_alloc_new wa _
  have ba1 : Hid (Below wa.heap.size wa U1) := by rw [hU1]; exact (Below.refl _ _).alloc (Nat.le_refl _) _
  have BU1 : Hid (Below W.heap.size W U1) := hba.trans (ba1.out.mono hba.size)
  have sU1 : U1.heap.size ≤ gx + 1 ∧ gx + 1 ≤ U1.heap.size := by rw [hU1, hgx]; simp
  have hgW : W.heap.size ≤ gx := by rw [hgx]; exact hba.size
  rw [← hU1, ← hgx]
  have RT1 : Hid (U1.ownsRow W.heap.size 9 1 (.slice r2 ts.length k2) ts.length (enc 1 eS ts)) := row_stable ba1.out hra
  have RTL : Hid (∀ g, (Value.slice r2 ts.length k2).ownBlock = some g → g < gx) := fun g hg => by rw [hgx]; exact (World.ownsRow.lt hra g hg).2
  have hbf : Hid (BF (bfW (.int .i64 num) (.int .i64 1) (.slice r2 ts.length k2))) := bfW_ok _ _ _
  have BX1 : Hid (Bx (bfW (.int .i64 num) (.int .i64 1) (.slice r2 ts.length k2)) 128 gx (gx + 1) [] [] [] (.slice none 0 0) (.slice none 0 0) (.slice none 0 0) U1) := ⟨G1, World.ownsRow_nil _ _ _ _, World.ownsRow_nil _ _ _ _, World.ownsRow_nil _ _ _ _, (fun _ hk => nomatch hk), Nat.lt_succ_self _⟩
  clear hU1 hra hba hgx ba1 G1
  have bU1 : Hid (Below w.heap.size w U1) := BW.out.trans (BU1.out.mono BW.out.size)
  have hwg : w.heap.size ≤ gx := by omega
  have BOX : Hid (∀ w', Stp gx 128 U1 w' → Below w.heap.size w w' ∧ w'.heap[w.heap.size]? = some (.cells #[v0, v1, v2, v3] 40 (0, 0)) ∧ w'.heap[w.heap.size + 1]? = some (.cells #[.slice (some ⟨pb, poff, none⟩) m cm, .slice ov k ck] 42 (0, 0)) ∧ w'.heap[w.heap.size + 1 + 1]? = some (.cells #[.int .i64 0, .int .i64 0, .slice none 0 0, .slice none 0 0, .slice none 0 0, .slice none 0 0] 68 (0, 0)) ∧ U1.heap.size ≤ w'.heap.size) := fun w' hT => ⟨bU1.out.trans (hT.low hbf.out BX1.out hwg), (hT.but.block w.heap.size (by omega) (fun ho => by have := BX1.out.low hbf.out _ ho; omega)).trans ((BU1.out.block w.heap.size (by omega)).trans X0.out), (hT.but.block (w.heap.size + 1) (by omega) (fun ho => by have := BX1.out.low hbf.out _ ho; omega)).trans ((BU1.out.block (w.heap.size + 1) (by omega)).trans R0.out), (hT.but.block (w.heap.size + 1 + 1) (by omega) (fun ho => by have := BX1.out.low hbf.out _ ho; omega)).trans ((BU1.out.block (w.heap.size + 1 + 1) (by omega)).trans Y0.out), hT.but.size⟩
  have B0 := BOX.out U1 (Stp.refl _ _ _)
  have z0 := (cell_row (B0).2.2.1 0 (.slice (some ⟨pb, poff, none⟩) m cm) rfl).1
  have z1 := (cell_row (B0).2.2.1 1 (.slice ov k ck) rfl).1
  have e0 : U1.cell? ⟨pb, poff, none⟩ = some (.string (P 0)) := by have := CP.out U1 B0.1 0 (by omega); simpa using this
  clear B0
  have HU0 : Hid (Calls Tryz.prog 95 #[.pointer (some ⟨gx, 0, none⟩), .string (P 0), .int .i64 1, .int .i64 am] U1 fun e w' => e = .returned (.tuple #[]) ∧ ∃ v', Bx (bfW (.int .i64 num) (.int .i64 1) (.slice r2 ts.length k2)) 128 gx (gx + 1) ([] ++ [(P 0, 1, am)]) [] [] v' (.slice none 0 0) (.slice none 0 0) w' ∧ Stp gx 128 U1 w') := use_any hbf.out (P 0) 1 am U1 BX1.out (by omega) (by simp) (HZP.out 0 (by omega))
  have hm1 : (m : Int) - 1 = ((m - 1 : Nat) : Int) := by omega
  go_upto_region 4 with (first
    | (go_at_call 95; refine (HU0.out).mono ?_; rintro e w2 ⟨rfl, vk0, hX2, hT2⟩))
  clear HU0 z0 z1 e0
  have BX2 : Hid (Bx (bfW (.int .i64 num) (.int .i64 1) (.slice r2 ts.length k2)) 128 gx (gx + 1) (usR m P am 1) [] [] vk0 (.slice none 0 0) (.slice none 0 0) w2) := by
    have e : usR m P am 1 = [] ++ [(P 0, 1, am)] := by rw [usR_succ, usI_first]; rfl
    show Bx _ _ _ _ _ _ _ _ _ _ _
    rw [e]; exact hX2
  have T2 : Hid (Stp gx 128 U1 w2) := hT2
  clear hX2 hT2
  have B2 := BOX.out w2 T2.out
  have z0 := (cell_row (B2).2.2.1 0 (.slice (some ⟨pb, poff, none⟩) m cm) rfl).1
  have z1 := (cell_row (B2).2.2.1 1 (.slice ov k ck) rfl).1
  clear B2
  have hc1 : ¬ cm = 1 := by omega
  go_wp2_with fail
  clear z0 z1
  go_loopw [37] (fun i wr => ∃ (j : Nat) (vk : Value), j + 2 ≤ m ∧ i = .int .i64 j ∧ Hid (Bx (bfW (.int .i64 num) (.int .i64 1) (.slice r2 ts.length k2)) 128 gx (gx + 1) (usR m P am (j + 1)) [] [] vk (.slice none 0 0) (.slice none 0 0) wr) ∧ Hid (Stp gx 128 U1 wr)) (fun i _ => m - (intOf i).toNat)
  case atStart => exact ⟨0, vk0, by omega, rfl, BX2.out, T2.out⟩
  case round =>
    obtain ⟨j, vk, hj, rfl, hX, hT⟩ := hrel
    have B3 := BOX.out wr hT.out
    have hsz : gx + 1 ≤ wr.heap.size := by have := B3.2.2.2.2; omega
    by_cases hlt : j + 2 < m
    · have e0 : wr.cell? ⟨pb, poff + 1 + j, none⟩ = some (.string (P (j + 1))) := by have := CP.out wr B3.1 (j + 1) (by omega); rw [show poff + 1 + j = poff + (j + 1) by omega]; exact this
      clear B3
      have HU : Hid (Calls Tryz.prog 95 #[.pointer (some ⟨gx, 0, none⟩), .string (P (j + 1)), .int .i64 3, .int .i64 0] wr fun e w' => e = .returned (.tuple #[]) ∧ ∃ v', Bx (bfW (.int .i64 num) (.int .i64 1) (.slice r2 ts.length k2)) 128 gx (gx + 1) (usR m P am (j + 1) ++ [(P (j + 1), 3, 0)]) [] [] v' (.slice none 0 0) (.slice none 0 0) w' ∧ Stp gx 128 wr w') := use_any hbf.out (P (j + 1)) 3 0 wr hX.out (by omega) (by rw [usR_len]; omega) (HZP.out (j + 1) (by omega))
      have hjl : ((j : Int) < ((m - 1 - 1 : Nat) : Int)) := by omega
      go_wp2_with (first
        | (go_at_call 95; refine (HU.out).mono ?_; rintro e w9 ⟨rfl, v9, hX9, hT9⟩))
      go_roundw
      case rel => exact ⟨j + 1, v9, by omega, by go_num, by show Bx _ _ _ _ _ _ _ _ _ _ _; rw [usR_succ, usI_mid P am (by omega) (by omega)]; exact hX9, hT.out.trans hT9⟩
      case measure => simp [intOf]; omega
    · have hjm : m = j + 2 := by omega
      have hnl : ¬ ((j : Int) < ((m - 1 - 1 : Nat) : Int)) := by omega
      have z0 := (cell_row (B3).2.2.1 0 (.slice (some ⟨pb, poff, none⟩) m cm) rfl).1
      have z1 := (cell_row (B3).2.2.1 1 (.slice ov k ck) rfl).1
      have e0 : wr.cell? ⟨pb, poff + (m - 1), none⟩ = some (.string (P (m - 1))) := CP.out wr B3.1 (m - 1) (by omega)
      clear B3
      have HJM : Hid (m = j + 2) := hjm
      clear hjm
      have HU : Hid (Calls Tryz.prog 95 #[.pointer (some ⟨gx, 0, none⟩), .string (P (m - 1)), .int .i64 2, .int .i64 am] wr fun e w' => e = .returned (.tuple #[]) ∧ ∃ v', Bx (bfW (.int .i64 num) (.int .i64 1) (.slice r2 ts.length k2)) 128 gx (gx + 1) (usR m P am (j + 1) ++ [(P (m - 1), 2, am)]) [] [] v' (.slice none 0 0) (.slice none 0 0) w' ∧ Stp gx 128 wr w') := use_any hbf.out (P (m - 1)) 2 am wr hX.out (by omega) (by rw [usR_len]; omega) (HZP.out (m - 1) (by omega))
      go_upto_region 10 with (first
        | (go_at_call 95; refine (HU.out).mono ?_; rintro e w5 ⟨rfl, vk5, hX5, hT5⟩))
      clear HU z0 z1 e0
      have BX5 : Hid (Bx (bfW (.int .i64 num) (.int .i64 1) (.slice r2 ts.length k2)) 128 gx (gx + 1) (usR m P am m) [] [] vk5 (.slice none 0 0) (.slice none 0 0) w5) := by
        have e : usR m P am m = usR m P am (j + 1) ++ [(P (m - 1), 2, am)] := by
          have h1 := usR_succ m P am (j + 1)
          rw [usI_last P am (by omega) (by have := HJM.out; omega)] at h1
          have h2 : j + 1 + 1 = m := by have := HJM.out; omega
          have h3 : j + 1 = m - 1 := by have := HJM.out; omega
          rw [h2, h3] at h1
          rw [h1, h3]
        show Bx _ _ _ _ _ _ _ _ _ _ _
        rw [e]; exact hX5
      have T5 : Hid (Stp gx 128 U1 w5) := hT.out.trans hT5
      clear hX5 hT5 hX hT hlt hj hnl HJM
      have B5 := BOX.out w5 T5.out
      have z0 := (cell_row (B5).2.2.1 0 (.slice (some ⟨pb, poff, none⟩) m cm) rfl).1
      have z1 := (cell_row (B5).2.2.1 1 (.slice ov k ck) rfl).1
      clear B5
      go_wp2_with fail
      clear z0 z1
      go_loopw [54] (fun i wz => ∃ (q : Nat) (vo : Value), q ≤ k ∧ i = .int .i64 q ∧ Hid (Bx (bfW (.int .i64 num) (.int .i64 1) (.slice r2 ts.length k2)) 128 gx (gx + 1) (usR m P am m) ((List.range q).map Q) [] vk5 vo (.slice none 0 0) wz) ∧ Hid (Stp gx 128 U1 wz)) (fun i _ => k - (intOf i).toNat)
      case atStart => exact ⟨0, _, Nat.zero_le _, rfl, BX5.out, T5.out⟩
      case round =>
        obtain ⟨q, vo, hq, rfl, hX, hT⟩ := hrel
        have B6 := BOX.out wr hT.out
        have hsz : gx + 1 ≤ wr.heap.size := by have := B6.2.2.2.2; omega
        by_cases hlt : q < k
        · obtain ⟨oa9, cp, ev, _, hc⟩ := (H.out wr B6.1).2.2
          obtain ⟨b, off, eo, hbB, hcell⟩ := hc q hlt
          have eo1 : ov = some ⟨b, off, none⟩ := by injection ev with h1 _ _; exact h1.trans eo
          subst eo1
          clear ev eo hc
          have e0 : wr.cell? ⟨b, off + q, none⟩ = some (.string (Q q)) := by have := hcell 0 (by omega); simpa [cS] using this
          clear hcell B6
          have hlo : ((List.range q).map Q).length ≤ 1048576 := by simp; omega
          go_wp2_with (first
            | (go_at_call 96; refine (open_any hbf.out (Q q) wr hX.out (by omega) hlo (HZQ.out q hlt)).mono ?_; rintro e w9 ⟨rfl, v9, hX9, hT9⟩))
          go_roundw
          case rel => exact ⟨q + 1, v9, by omega, by go_num, by show Bx _ _ _ _ _ _ _ _ _ _ _; rw [List.range_succ, List.map_append]; exact hX9, hT.out.trans hT9⟩
          case measure => simp [intOf]; omega
        · have hqk : q = k := by omega
          rw [hqk] at hX
          clear hqk
          have y0 := (cell_row B6.2.1 0 (v0) rfl).1
          have y1 := (cell_row B6.2.1 1 (v1) rfl).1
          have y2 := (cell_row B6.2.1 2 (v2) rfl).1
          have y3 := (cell_row B6.2.1 3 (v3) rfl).1
          have z0 := (cell_row (B6).2.2.1 0 (.slice (some ⟨pb, poff, none⟩) m cm) rfl).1
          have z1 := (cell_row (B6).2.2.1 1 (.slice ov k ck) rfl).1
          have HG : Hid (Calls Tryz.prog 97 #[.agg #[v0, v1, v2, v3], .agg #[.slice (some ⟨pb, poff, none⟩) m cm, .slice ov k ck]] wr fun e w' => ∃ v, e = .returned v ∧ w'.ownsRow wr.heap.size 9 1 v (gdN D m P k Q D.nv).length ((gdN D m P k Q D.nv).map .string) ∧ Below wr.heap.size wr w') := guardsOf_any B v0 v1 v2 v3 D _ ov m k cm ck P Q wr (H.out wr B6.1).1 (H.out wr B6.1).2.1 (H.out wr B6.1).2.2 (Nat.le_trans hB B6.1.size) (by omega)
          clear B6
          go_wp2_with (first
            | (go_at_call 97; refine (HG.out).mono ?_; rintro e w7 ⟨gv, rfl, hgv, hb7⟩; obtain ⟨go, gk, rfl⟩ := ownsRow_shape hgv))
          clear HG y0 y1 y2 y3 z0 z1
          obtain ⟨gl, hgl⟩ : ∃ l, l = gdN D m P k Q D.nv := ⟨_, rfl⟩
          have HGL : Hid (gl = gdN D m P k Q D.nv) := hgl
          rw [← hgl] at hgv ⊢
          have hgn : gl.length ≤ 18 := by rw [hgl]; have := gdN_len D m P k Q D.nv; omega
          have HGZ : Hid (∀ x ∈ gl, x.size ≤ 1048576) := fun x hx => by
            rw [hgl] at hx
            obtain ⟨i, hi, rfl⟩ := List.mem_map.1 hx
            have := name_size (HV.out.2.2.2 i (List.mem_range.1 (List.mem_filter.1 hi).1)).1
            omega
          clear hgl
          obtain ⟨gn, egn⟩ : ∃ n, gl.length = n := ⟨_, rfl⟩
          have EGN : Hid (gl.length = gn) := egn
          rw [egn] at hgn hgv ⊢
          clear egn
          have HGR : Hid (Row w7 wr.heap.size 9 1 eS (.slice go gn gk) gl) := by show World.ownsRow _ _ _ _ _ _ _; rw [enc_S, EGN.out]; exact hgv
          have BX7 : Hid (Bx (bfW (.int .i64 num) (.int .i64 1) (.slice r2 ts.length k2)) 128 gx (gx + 1) (usR m P am m) ((List.range k).map Q) [] vk5 vo (.slice none 0 0) w7) := hX.out.below hbf.out hb7
          have hgxl := hX.out.gxlt
          have T7 : Hid (Stp gx 128 U1 w7) := hT.out.trans (Stp.of_below hb7 hgxl)
          have hs7 : wr.heap.size ≤ w7.heap.size := hb7.size
          have OWN : Hid (∀ g, (vk5.ownBlock = some g ∨ vo.ownBlock = some g) → ¬ wr.heap.size ≤ g) := fun g hg => by
            rcases hg with e | e
            · have := (World.ownsRow.lt hX.out.ru g e).2; omega
            · have := (World.ownsRow.lt hX.out.ro g e).2; omega
          clear hgv hb7 hX hT
          obtain ⟨w70, hw70⟩ : ∃ V, V = wr := ⟨_, rfl⟩
          rw [← hw70] at HGR hs7 hsz hgxl OWN
          clear hw70 wr
          go_loopw [65] (fun i wz => ∃ (q : Nat) (vs : Value), q ≤ gn ∧ i = .int .i64 q ∧ Hid (Bx (bfW (.int .i64 num) (.int .i64 1) (.slice r2 ts.length k2)) 128 gx (gx + 1) (usR m P am m) ((List.range k).map Q) (gl.take q) vk5 vo vs wz) ∧ Hid (Stp gx 128 w7 wz)) (fun i _ => gn - (intOf i).toNat)
          case atStart => exact ⟨0, _, Nat.zero_le _, rfl, BX7.out, Stp.refl _ _ _⟩
          case round =>
            obtain ⟨q, vs, hq, rfl, hX, hT⟩ := hrel
            have TU : Hid (Stp gx 128 U1 wr) := T7.out.trans hT.out
            have B8 := BOX.out wr TU.out
            have hsz8 : gx + 1 ≤ wr.heap.size := by have := B8.2.2.2.2; omega
            by_cases hlt : q < gn
            · have HGr : Row wr _ 9 1 eS (.slice go gn gk) gl := ownsRow_kept HGR.out (fun g hg => hT.out.but.block g (World.ownsRow.lt HGR.out g hg).2 (fun ho => by
                have h1 := (World.ownsRow.lt HGR.out g hg).1
                rcases (BX7.out.own hbf.out).1 ho with e | e | e | e
                · omega
                · exact (OWN.out g (.inl e)) h1
                · exact (OWN.out g (.inr e)) h1
                · cases e))
              obtain ⟨sg, sc, ev, hsg, hsl2, hcell⟩ := Row.cell HGr (i := q) (by rw [EGN.out]; exact hlt)
              have eo : go = some ⟨sg, 0, none⟩ := by injection ev
              subst eo
              clear ev
              have es := (hcell 0 (by omega)).1
              have hzy := HGZ.out _ (List.getElem_mem (show q < gl.length by rw [EGN.out]; exact hlt))
              have htk : Hid (gl.take (q + 1) = gl.take q ++ [gl[q]'(by rw [EGN.out]; exact hlt)]) := by
                show _ = _
                rw [List.take_add_one, List.getElem?_eq_getElem (by rw [EGN.out]; exact hlt)]; rfl
              obtain ⟨y, ey⟩ : ∃ y, gl[q]'(by rw [EGN.out]; exact hlt) = y := ⟨_, rfl⟩
              rw [ey] at htk hzy
              rw [ey, Nat.mul_one, Nat.add_zero] at es
              replace es : wr.cell? ⟨sg, q, none⟩ = some (.string y) := es
              clear hcell ey HGr hsg B8
              have hlo : (gl.take q).length ≤ 1048576 := by rw [List.length_take]; omega
              go_wp2_with (first
                | (go_at_call 98; refine (shut_any hbf.out y wr hX.out (by omega) hlo hzy).mono ?_; rintro e w9 ⟨rfl, v9, hX9, hT9⟩))
              go_roundw
              case rel => exact ⟨q + 1, v9, by omega, by go_num, by show Bx _ _ _ _ _ _ _ _ _ _ _; rw [htk.out]; exact hX9, hT.out.trans hT9⟩
              case measure => simp [intOf]; omega
            · have hqn : q = gn := by omega
              have ETL : Hid (gl.take gn = gl) := List.take_of_length_le (by rw [EGN.out]; exact Nat.le_refl _)
              rw [hqn, ETL.out] at hX
              clear hqn
              obtain ⟨r3, k3, rfl⟩ := ownsRow_shape hX.out.ru
              obtain ⟨r4, k4, rfl⟩ := ownsRow_shape hX.out.ro
              obtain ⟨r5, k5, rfl⟩ := ownsRow_shape hX.out.rs
              have hul : (usR m P am m).length = m := usR_len _ _ _ _
              have hol : ((List.range k).map Q).length = k := by simp
              have hgl9 : gl.length = gn := EGN.out
              rw [hul, hol, hgl9] at hX
              clear hul hol hgl9
              have d0 := (cell_row hX.out.box 0 (.int .i64 num) rfl).1
              have d1 := (cell_row hX.out.box 1 (.int .i64 1) rfl).1
              have d2 := (cell_row hX.out.box 2 (.slice r2 ts.length k2) rfl).1
              have d3 := (cell_row hX.out.box 3 (.slice r3 m k3) rfl).1
              have d4 := (cell_row hX.out.box 4 (.slice r4 k k4) rfl).1
              have d5 := (cell_row hX.out.box 5 (.slice r5 gn k5) rfl).1
              have YZ := B8.2.2.2.1
              have BWZ : Hid (Below w.heap.size w wr) := B8.1
              clear B8
              obtain ⟨t0', f0'⟩ := cell_row YZ 0 (.int .i64 0) rfl
              obtain ⟨t1', f1'⟩ := cell_row YZ 1 (.int .i64 0) rfl
              obtain ⟨t2', f2'⟩ := cell_row YZ 2 (.slice none 0 0) rfl
              obtain ⟨t3', f3'⟩ := cell_row YZ 3 (.slice none 0 0) rfl
              obtain ⟨t4', f4'⟩ := cell_row YZ 4 (.slice none 0 0) rfl
              obtain ⟨t5', f5'⟩ := cell_row YZ 5 (.slice none 0 0) rfl
              obtain ⟨F0, F1, F2, F3⟩ := ret_6 YZ (.int .i64 num) (.int .i64 1) (.slice r2 ts.length k2) (.slice r3 m k3) (.slice r4 k k4) (.slice r5 gn k5)
              go_wp2_with fail
              obtain ⟨FW, hF⟩ : ∃ u, u = ((((((wr.setCell ⟨w.heap.size + 1 + 1, 0, none⟩ (.int .i64 num)).setCell ⟨w.heap.size + 1 + 1, 1, none⟩ (.int .i64 1)).setCell ⟨w.heap.size + 1 + 1, 2, none⟩ (.slice r2 ts.length k2)).setCell ⟨w.heap.size + 1 + 1, 3, none⟩ (.slice r3 m k3)).setCell ⟨w.heap.size + 1 + 1, 4, none⟩ (.slice r4 k k4)).setCell ⟨w.heap.size + 1 + 1, 5, none⟩ (.slice r5 gn k5)) := ⟨_, rfl⟩
              rw [← hF]
              rw [← hF] at F0 F1 F2 F3
              have g0 := (cell_row F0 0 (.int .i64 num) rfl).1
              have g1 := (cell_row F0 1 (.int .i64 1) rfl).1
              have g2 := (cell_row F0 2 (.slice r2 ts.length k2) rfl).1
              have g3 := (cell_row F0 3 (.slice r3 m k3) rfl).1
              have g4 := (cell_row F0 4 (.slice r4 k k4) rfl).1
              have g5 := (cell_row F0 5 (.slice r5 gn k5) rfl).1
              have BF9 : Below w.heap.size w FW := BWZ.out.trans (F3.mono (by omega))
              have K2 : FW.ownsRow w.heap.size 9 1 (.slice r2 ts.length k2) ts.length (enc 1 eS ts) := Go.Joins.ownsRow_le (ownsRow_kept RT1.out (fun g hg => (F1 g (by have := (World.ownsRow.lt RT1.out g hg).1; omega)).trans (TU.out.but.block g (World.ownsRow.lt RT1.out g hg).2 (fun ho => by have h1 := BX1.out.low hbf.out _ ho; have h2 := RTL.out g hg; omega)))) (by omega)
              have K3 : FW.ownsRow w.heap.size 95 3 (.slice r3 m k3) m (enc 3 eU (usR m P am m)) := by
                have h1 := ownsRow_kept (w' := FW) hX.out.ru (fun g hg => F1 g (by have := (World.ownsRow.lt hX.out.ru g hg).1; omega))
                rw [show (usR m P am m).length = m from usR_len _ _ _ _] at h1
                exact Go.Joins.ownsRow_le h1 (by omega)
              have K4 : FW.ownsRow w.heap.size 9 1 (.slice r4 k k4) k (enc 1 eS ((List.range k).map Q)) := by
                have h1 := ownsRow_kept (w' := FW) hX.out.ro (fun g hg => F1 g (by have := (World.ownsRow.lt hX.out.ro g hg).1; omega))
                rw [show ((List.range k).map Q).length = k by simp] at h1
                exact Go.Joins.ownsRow_le h1 (by omega)
              have K5 : FW.ownsRow w.heap.size 9 1 (.slice r5 gn k5) gn (enc 1 eS (gl)) := by
                have h1 := ownsRow_kept (w' := FW) hX.out.rs (fun g hg => F1 g (by have := (World.ownsRow.lt hX.out.rs g hg).1; omega))
                rw [show gl.length = gn from EGN.out] at h1
                exact Go.Joins.ownsRow_le h1 (by omega)
              have K59 : FW.ownsRow w.heap.size 9 1 (.slice r5 (gdN D m P k Q D.nv).length k5) (gdN D m P k Q D.nv).length (enc 1 eS (gdN D m P k Q D.nv)) := by rw [← HGL.out, EGN.out]; exact K5
              have EL : (gdN D m P k Q D.nv).length = gn := by rw [← HGL.out]; exact EGN.out
              exact bodyPost_ret (v := .agg #[.int .i64 num, .int .i64 1, .slice r2 ts.length k2, .slice r3 m k3, .slice r4 k k4, .slice r5 gn k5]) (by simp [results, Tryz.results63, go_sem, g0, g1, g2, g3, g4, g5]) rfl ⟨r2, k2, r3, k3, r4, k4, r5, k5, by rw [EL], K2, K3, K4, K59, BF9⟩

end Go.Proofs.YtndacfockllehaaGreat

/-
  A contract of the program's CtlRouteAsks.
-/
namespace Go.Proofs.YtndacfockllehaaGreat
open Go.RowKit

attribute [local go_sem] Oper.semAt_some
theorem none_onR {S : Nat → Prop} {w : World} : OnL S w ([] : List DCtlAsk) (.slice none 0 0) := ⟨none, 0, rfl, ⟨Nat.zero_le _, Nat.le_refl 0, fun _ => rfl⟩, .inl rfl⟩
set_option maxRecDepth 100000 in
set_option maxHeartbeats 16000000 in
theorem routeAsksI_any (B : Nat) (S : Nat → Prop) (v0 v1 v2 v3 : Value) (D : PD) (num am : Int) (op ov : Option Addr) (m k cm ck : Nat) (P Q : Nat → ByteArray) (ts : List ByteArray) (vt : Value) (w : World) (h : PAt B w v0 v1 v2 v3 D) (hP : Lst B w (.slice op m cm) m 1 (cS P)) (hQ : Lst B w (.slice ov k ck) k 1 (cS Q)) (hB : B ≤ w.heap.size) (hz : D.Sz) (hcm : m ≤ cm)
    (ht : AtL S w ts vt) (hS : ∀ b, S b → b < w.heap.size) (hl : ts.length ≤ 1048576) (hs : ∀ x ∈ ts, x.size ≤ 1048576) (hn : OkI num) (ha : OkI am) (hsl : D.V → (stnL D).length ≤ 1048576) :
    Calls Tryz.prog 29 #[.agg #[v0, v1, v2, v3], .int .i64 num, .agg #[.slice op m cm, .slice ov k ck], vt, .int .i64 am] w fun e w' => RaE D num am m P k Q ts (fun b => w.heap.size ≤ b ∧ b < w'.heap.size) w' e ∧ Below w.heap.size w w' := by
  have H : Hid (∀ w', Below w.heap.size w w' → PAt B w' v0 v1 v2 v3 D ∧ Lst B w' (.slice op m cm) m 1 (cS P) ∧ Lst B w' (.slice ov k ck) k 1 (cS Q)) := fun w' hb => ⟨h.kept hb hB, hP.kept hb hB, hQ.kept hb hB⟩
  have HT : Hid (∀ w', Below w.heap.size w w' → AtL S w' ts vt) := fun w' hb => ht.same (Same.of_below hb hS)
  have HS : Hid (∀ x ∈ ts, x.size ≤ 1048576) := hs
  obtain ⟨ot, ct, et, hx⟩ := id ht
  subst et
  clear h hP hQ ht hx hs
  obtain ⟨W, hW⟩ : ∃ W, W = (w.alloc (.cells #[v0, v1, v2, v3] 40)).alloc (.cells #[.slice op m cm, .slice ov k ck] 42) := ⟨_, rfl⟩
  have EW : Hid (W = (w.alloc (.cells #[v0, v1, v2, v3] 40)).alloc (.cells #[.slice op m cm, .slice ov k ck] 42)) := hW
  have BW : Hid (Below w.heap.size w W) := by rw [hW]; exact ((Below.refl _ _).alloc (Nat.le_refl _) _).alloc (by simp) _
  have sW : W.heap.size ≤ w.heap.size + 1 + 1 ∧ w.heap.size + 1 + 1 ≤ W.heap.size := by rw [hW]; simp
  have X0 : Hid (W.heap[w.heap.size]? = some (.cells #[v0, v1, v2, v3] 40 (0, 0))) := by rw [hW]; exact (Below.heap_alloc _ _ _ (by simp)).trans (heap_alloc_new w _)
  have R0 : Hid (W.heap[w.heap.size + 1]? = some (.cells #[.slice op m cm, .slice ov k ck] 42 (0, 0))) := by rw [hW]; have := heap_alloc_new (w.alloc (.cells #[v0, v1, v2, v3] 40)) (.cells #[.slice op m cm, .slice ov k ck] 42); rw [World.size_alloc] at this; exact this
  clear hW
  have y0 := (cell_row X0.out 0 (v0) rfl).1
  have y1 := (cell_row X0.out 1 (v1) rfl).1
  have y2 := (cell_row X0.out 2 (v2) rfl).1
  have y3 := (cell_row X0.out 3 (v3) rfl).1
  have z0 := (cell_row R0.out 0 (.slice op m cm) rfl).1
  have z1 := (cell_row R0.out 1 (.slice ov k ck) rfl).1
  have HVA : Hid (Calls Tryz.prog 60 #[.agg #[v0, v1, v2, v3]] W fun e w' => ∃ b, e = .returned (.bool b) ∧ (b = true ↔ D.V) ∧ Below W.heap.size W w') := validI_any B _ _ _ _ D W (H.out W BW.out).1 (by have := BW.out.size; omega) hz
  have HRO : Hid (∀ w', Below w.heap.size w w' → Calls Tryz.prog 61 #[.agg #[v0, v1, v2, v3], .agg #[.slice op m cm, .slice ov k ck]] w' fun e w'' => ∃ b, e = .returned (.bool b) ∧ (b = true ↔ RI D m P k Q) ∧ Below w'.heap.size w' w'') := fun w' hb => isRoute_any B v0 v1 v2 v3 D op ov m k cm ck P Q w' (H.out w' hb).1 (H.out w' hb).2.1 (H.out w' hb).2.2 (Nat.le_trans hB hb.size) hcm
  go_enter Tryz.func29, Tryz.ntmps29
  go_upto_region 1 with fail
  rw [← EW.out]
  go_wp2_with fail
  refine (HVA.out).mono ?_
  rintro e w1 ⟨b, rfl, is, hb1⟩
  have IS : Hid _ := is
  have B1 : Hid (Below w.heap.size w w1) := BW.out.trans (hb1.mono BW.out.size)
  have X1 : Hid (w1.heap[w.heap.size]? = some (.cells #[v0, v1, v2, v3] 40 (0, 0))) := box_stable hb1 X0.out
  have R1 : Hid (w1.heap[w.heap.size + 1]? = some (.cells #[.slice op m cm, .slice ov k ck] 42 (0, 0))) := box_stable hb1 R0.out
  clear is hb1 y0 y1 y2 y3 z0 z1
  cases b
  · go_wp2_with fail
    go_ret
    exact ⟨⟨_, [], rfl, ⟨fun h => absurd (IS.out.2 h.1) (by decide), fun _ => rfl⟩, none_onR⟩, B1.out⟩
  have HV : Hid D.V := IS.out.1 rfl
  have HI1 : Hid _ := HRO.out w1 B1.out
  have y0 := (cell_row X1.out 0 (v0) rfl).1
  have y1 := (cell_row X1.out 1 (v1) rfl).1
  have y2 := (cell_row X1.out 2 (v2) rfl).1
  have y3 := (cell_row X1.out 3 (v3) rfl).1
  have z0 := (cell_row R1.out 0 (.slice op m cm) rfl).1
  have z1 := (cell_row R1.out 1 (.slice ov k ck) rfl).1
  go_wp2_with fail
  refine Calls.mono HI1.out ?_
  rintro e w2 ⟨b, rfl, is, hb2⟩
  have IT : Hid (b = true ↔ RS D m P k Q) := is.trans (RI_iff HV.out m P k Q)
  have B2 : Hid (Below w.heap.size w w2) := B1.out.trans (hb2.mono B1.out.size)
  have X2 : Hid (w2.heap[w.heap.size]? = some (.cells #[v0, v1, v2, v3] 40 (0, 0))) := box_stable hb2 X1.out
  have R2 : Hid (w2.heap[w.heap.size + 1]? = some (.cells #[.slice op m cm, .slice ov k ck] 42 (0, 0))) := box_stable hb2 R1.out
  clear is hb2 y0 y1 y2 y3 z0 z1
  cases b
  · go_wp2_with fail
    go_ret
    exact ⟨⟨_, [], rfl, ⟨fun h => absurd (IT.out.2 h.2) (by decide), fun _ => rfl⟩, none_onR⟩, B2.out⟩
  have y0 := (cell_row X2.out 0 (v0) rfl).1
  have y1 := (cell_row X2.out 1 (v1) rfl).1
  have y2 := (cell_row X2.out 2 (v2) rfl).1
  have y3 := (cell_row X2.out 3 (v3) rfl).1
  have z0 := (cell_row R2.out 0 (.slice op m cm) rfl).1
  have z1 := (cell_row R2.out 1 (.slice ov k ck) rfl).1
  have HR : Hid (RS D m P k Q) := IT.out.1 rfl
  go_upto_region 3 with fail
  have q0 := fun d os => cell_regrown y0 d os
  have q1 := fun d os => cell_regrown y1 d os
  have q2 := fun d os => cell_regrown y2 d os
  have q3 := fun d os => cell_regrown y3 d os
  have r0 := fun d os => cell_regrown z0 d os
  have r1 := fun d os => cell_regrown z1 d os
  have hdr : Hid (Below w2.heap.size w2 w2.drew) := (Below.refl _ _).drew
  have BD : Hid (Below w.heap.size w w2.drew) := B2.out.trans (hdr.out.mono B2.out.size)
  have hm2 : 2 ≤ m := HR.out.1.1
  have hm14 : m ≤ 14 := Nat.le_trans (rt_len HR.out) HV.out.2.1.1
  have hkm : k + 1 ≤ m := by have := HR.out.1.2; omega
  have HZP : Hid (∀ i, i < m → (P i).size ≤ 1048576) := fun i hi => by
    obtain ⟨a, ha, e⟩ := rt_place HR.out hi
    rw [← e]
    have := name_size (HV.out.2.1.2 a ha).1
    omega
  have HZQ : Hid (∀ i, i < k → (Q i).size ≤ 1048576) := fun i hi => by
    obtain ⟨a, ha, e⟩ := rt_valve HR.out hi
    rw [← e]
    have := name_size (HV.out.2.2.2 a ha).1
    omega
  refine wp_region_mix 8 [0, 1, 2, 3, 4, 5] (by kernel_rfl) (by kernel_rfl) ?_
  simp only [List.filterMap_cons, List.filterMap_nil, List.getElem?_cons_succ, List.getElem?_cons_zero]
  repeat (first | go_big_quiet_step (fail) | quiet_step (fail))
  refine wpQuiet_nil ?_
  clear y0 q0 y1 q1 y2 q2 y3 q3 z0 r0 z1 r1
  refine call1 (md := .any) (f := 1) (i := 6) (dc := 26) (fn := 63) ⟨rfl, rfl, rfl, by decide⟩ (by kernel_rfl) ?run5 ((wantAlong_any B S v0 v1 v2 v3 D num am op ov m k cm ck P Q ts (.slice ot ts.length ct) w2.drew (H.out _ BD.out).1 (H.out _ BD.out).2.1 (H.out _ BD.out).2.2 (Nat.le_trans hB BD.out.size) HV.out hm2 (by omega) (by omega) hcm (HT.out _ BD.out) (fun b hs => Nat.lt_of_lt_of_le (hS b hs) BD.out.size) hl HS.out HZP.out HZQ.out).mono ?_)
  case run5 => go_simp
  rintro e w3 ⟨r2, k2, r3, k3, r4, k4, r5, k5, rfl, K2, K3, K4, K5, hb3⟩
  have B3 : Hid (Below w2.heap.size w2 w3) := hdr.out.trans (hb3.mono hdr.out.size)
  have BW3 : Hid (Below w.heap.size w w3) := B2.out.trans (B3.out.mono B2.out.size)
  refine ⟨_, rfl, regrown_of_below B3.out, ?_⟩
  simp only [Act.put, List.setIfInBounds_toArray, List.set_cons_zero, List.set_cons_succ]
  have A2 : AtL (fun b => b < w3.heap.size) w3 ts (.slice r2 ts.length k2) := (onS_row (l := ts) K2 (fun g hg => (World.ownsRow.lt K2 g hg).2) (fun x hx => by have := HS.out x hx; show x.size ≤ maxLen; unfold maxLen; omega)).at_
  have A3 : AtL (fun b => b < w3.heap.size) w3 (usR m P am m) (.slice r3 (usR m P am m).length k3) := by
    have e : (usR m P am m).length = m := usR_len _ _ _ _
    rw [e]
    exact (onU_row (l := usR m P am m) (by show World.ownsRow _ _ _ _ _ _ _; rw [e]; exact K3) (fun g hg => (World.ownsRow.lt K3 g hg).2) (fun x hx => by
      obtain ⟨j, hj, rfl⟩ := List.mem_map.1 hx
      exact ⟨by have := HZP.out j (List.mem_range.1 hj); show (P j).size ≤ maxLen; unfold maxLen; omega, usI_ok ha j⟩)).at_
  have A4 : AtL (fun b => b < w3.heap.size) w3 ((List.range k).map Q) (.slice r4 ((List.range k).map Q).length k4) := by
    have e : ((List.range k).map Q).length = k := by simp
    rw [e]
    exact (onS_row (l := (List.range k).map Q) (by show World.ownsRow _ _ _ _ _ _ _; rw [e]; exact K4) (fun g hg => (World.ownsRow.lt K4 g hg).2) (fun x hx => by
      obtain ⟨j, hj, rfl⟩ := List.mem_map.1 hx
      have := HZQ.out j (List.mem_range.1 hj)
      show _ ≤ maxLen
      unfold maxLen; omega)).at_
  have A5 : AtL (fun b => b < w3.heap.size) w3 (gdN D m P k Q D.nv) (.slice r5 (gdN D m P k Q D.nv).length k5) := (onS_row K5 (fun g hg => (World.ownsRow.lt K5 g hg).2) (fun x hx => by
      obtain ⟨i, hi, rfl⟩ := List.mem_map.1 hx
      have := name_size (HV.out.2.2.2 i (List.mem_range.1 (List.mem_filter.1 hi).1)).1
      show _ ≤ maxLen
      unfold maxLen; omega)).at_
  have SO : Hid _ := shareOut_any B (fun b => b < w3.heap.size) v0 v1 v2 v3 D num 1 ts ((List.range k).map Q) (gdN D m P k Q D.nv) (usR m P am m) r2 r3 r4 r5 k2 k3 k4 k5 w3 (H.out w3 BW3.out).1 (Nat.le_trans hB BW3.out.size) HV.out A2 A3 A4 A5 (fun _ h => h) hn ⟨by decide, by decide⟩ hl (by rw [usR_len]; omega) HS.out (fun x hx => by
      obtain ⟨j, hj, rfl⟩ := List.mem_map.1 hx
      exact ⟨HZP.out j (List.mem_range.1 hj), usI_ok ha j⟩) (hsl HV.out)
  have eul : (usR m P am m).length = m := usR_len _ _ _ _
  have eql : ((List.range k).map Q).length = k := by simp
  rw [eul, eql] at SO
  clear eul eql A2 A3 A4 A5 K2 K3 K4 K5
  refine call1 (md := .any) (f := 0) (i := 7) (dc := 27) (fn := 62) ⟨rfl, rfl, rfl, by decide⟩ (by kernel_rfl) ?run6 (Calls.mono SO.out ?_)
  case run6 => go_simp
  rintro e w4 ⟨rv, rfl, hon, hb4⟩
  rw [share_sameR HV.out HR.out num am ts] at hon
  have B4 : Hid (Below w2.heap.size w2 w4) := B3.out.trans (hb4.mono B3.out.size)
  have BW4 : Hid (Below w.heap.size w w4) := B2.out.trans (B4.out.mono B2.out.size)
  have ON : Hid (OnL (fun b => w.heap.size ≤ b ∧ b < w4.heap.size) w4 (askL D (rtD D num am m P k Q ts) (stL true D)) rv) := hon.up (fun b hb => ⟨Nat.le_trans BW3.out.size hb.1, hb.2⟩)
  clear hon hb4
  refine ⟨_, rfl, regrown_of_below B4.out, ?_⟩
  simp only [Act.put, List.setIfInBounds_toArray, List.set_cons_zero, List.set_cons_succ]
  refine ⟨by kernel_rfl, ?_⟩
  simp only [List.drop_succ_cons, List.drop_zero]
  go_wp2_with fail
  go_ret
  exact ⟨⟨_, _, rfl, ⟨fun _ => rfl, fun h => absurd ⟨HV.out, HR.out⟩ h⟩, ON.out⟩, BW4.out⟩

end Go.Proofs.YtndacfockllehaaGreat
