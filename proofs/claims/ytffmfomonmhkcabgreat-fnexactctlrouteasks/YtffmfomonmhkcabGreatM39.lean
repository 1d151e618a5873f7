/-
  Several texts in one.
-/
import Derived.Test.YtffmfomonmhkcabGreatM28
import Derived.Test.YtffmfomonmhkcabGreatBpb
import Derived.Test.YtffmfomonmhkcabGreatM38
import Derived.Deep.Cut
import Derived.Test.YtffmfomonmhkcabGreatM22
import Derived.Test.YtffmfomonmhkcabGreatKa
import Derived.Test.YtffmfomonmhkcabGreatM34
/-
  A contract of the program's whole want of a move along a route.
-/
namespace Go.Proofs.YtffmfomonmhkcabGreat
open Go.RowKit

attribute [local go_sem] Oper.semAt_some
set_option maxRecDepth 100000 in
set_option maxHeartbeats 16000000 in
theorem wantAlong_any (B : Nat) (S : Nat → Prop) (v0 v1 v2 v3 : Value) (D : PD) (num am : Int) (op ov : Option Addr) (m k cm ck : Nat) (P Q : Nat → ByteArray) (ts : List ByteArray) (vt : Value) (w : World) (h : PAt B w v0 v1 v2 v3 D) (hP : Lst B w (.slice op m cm) m 1 (cS P)) (hQ : Lst B w (.slice ov k ck) k 1 (cS Q)) (hB : B ≤ w.heap.size) (hV : D.V) (hm2 : 2 ≤ m) (hm : m ≤ 1000) (hk : k ≤ 1000) (hcm : m ≤ cm)
    (ht : AtL S w ts vt) (hS : ∀ b, S b → b < w.heap.size) (hl : ts.length ≤ 1048576) (hs : ∀ x ∈ ts, x.size ≤ 1048576) (hzp : ∀ i, i < m → (P i).size ≤ 1048576) (hzq : ∀ i, i < k → (Q i).size ≤ 1048576) :
    Calls Tryz.prog 36 #[.agg #[v0, v1, v2, v3], .agg #[.slice op m cm, .slice ov k ck], .int .i64 num, vt, .int .i64 am] w fun e w' => ∃ r2 k2 r3 k3 r4 k4 r5 k5, e = .returned (.agg #[.int .i64 num, .int .i64 1, .slice r2 ts.length k2, .slice r3 m k3, .slice r4 k k4, .slice r5 (gdN D m P k Q D.nv).length k5]) ∧ w'.ownsRow w.heap.size 9 1 (.slice r2 ts.length k2) ts.length (enc 1 eS ts) ∧ w'.ownsRow w.heap.size 62 3 (.slice r3 m k3) m (enc 3 eU (usR m P am m)) ∧ w'.ownsRow w.heap.size 9 1 (.slice r4 k k4) k (enc 1 eS ((List.range k).map Q)) ∧ w'.ownsRow w.heap.size 9 1 (.slice r5 (gdN D m P k Q D.nv).length k5) (gdN D m P k Q D.nv).length (enc 1 eS (gdN D m P k Q D.nv)) ∧ Below w.heap.size w w' := by
  have H : Hid (∀ w', Below w.heap.size w w' → PAt B w' v0 v1 v2 v3 D ∧ Lst B w' (.slice op m cm) m 1 (cS P) ∧ Lst B w' (.slice ov k ck) k 1 (cS Q)) := fun w' hb => ⟨h.kept hb hB, hP.kept hb hB, hQ.kept hb hB⟩
  have HT : Hid (∀ w', Below w.heap.size w w' → AtL S w' ts vt) := fun w' hb => ht.same (Same.of_below hb hS)
  obtain ⟨ot, ct, et, hx⟩ := id ht
  subst et
  have HV : Hid D.V := hV
  have HZP : Hid (∀ i, i < m → (P i).size ≤ 1048576) := hzp
  have HZQ : Hid (∀ i, i < k → (Q i).size ≤ 1048576) := hzq
  have hnv : D.nv ≤ 18 := hV.2.2.1
  obtain ⟨pb, poff, ep⟩ : ∃ pb poff, op = some ⟨pb, poff, none⟩ := by
    obtain ⟨oa, cap, ev, _, hc⟩ := hP
    obtain ⟨b, off, e, _⟩ := hc 0 (by omega)
    cases ev
    exact ⟨b, off, e⟩
  subst ep
  have CP : Hid (∀ w', Below w.heap.size w w' → ∀ i, i < m → w'.cell? ⟨pb, poff + i, none⟩ = some (.string (P i))) := fun w' hb i hi => by
    obtain ⟨oa, cap, ev, _, hc⟩ := (H.out w' hb).2.1
    obtain ⟨b, off, e, _, hcell⟩ := hc i hi
    cases ev
    cases e
    have := hcell 0 (by omega)
    simpa [cS] using this
  clear h hP hQ ht hV hx hzp hzq
  obtain ⟨W, hW⟩ : ∃ W, W = ((w.alloc (.cells #[v0, v1, v2, v3] 39)).alloc (.cells #[.slice (some ⟨pb, poff, none⟩) m cm, .slice ov k ck] 41)).alloc (.cells #[.int .i64 0, .int .i64 0, .slice none 0 0, .slice none 0 0, .slice none 0 0, .slice none 0 0] 60) := ⟨_, rfl⟩
  have EW : Hid (W = ((w.alloc (.cells #[v0, v1, v2, v3] 39)).alloc (.cells #[.slice (some ⟨pb, poff, none⟩) m cm, .slice ov k ck] 41)).alloc (.cells #[.int .i64 0, .int .i64 0, .slice none 0 0, .slice none 0 0, .slice none 0 0, .slice none 0 0] 60)) := hW
  have BW : Hid (Below w.heap.size w W) := by rw [hW]; exact (((Below.refl _ _).alloc (Nat.le_refl _) _).alloc (by simp) _).alloc (by simp; omega) _
  have sW : W.heap.size ≤ w.heap.size + 1 + 1 + 1 ∧ w.heap.size + 1 + 1 + 1 ≤ W.heap.size := by rw [hW]; simp
  have X0 : Hid (W.heap[w.heap.size]? = some (.cells #[v0, v1, v2, v3] 39 (0, 0))) := by rw [hW]; exact ((Below.heap_alloc _ _ _ (by simp; omega)).trans (Below.heap_alloc _ _ _ (by simp))).trans (heap_alloc_new w _)
  have R0 : Hid (W.heap[w.heap.size + 1]? = some (.cells #[.slice (some ⟨pb, poff, none⟩) m cm, .slice ov k ck] 41 (0, 0))) := by rw [hW]; refine (Below.heap_alloc _ _ _ (by simp)).trans ?_; have := heap_alloc_new (w.alloc (.cells #[v0, v1, v2, v3] 39)) (.cells #[.slice (some ⟨pb, poff, none⟩) m cm, .slice ov k ck] 41); rw [World.size_alloc] at this; exact this
  have Y0 : Hid (W.heap[w.heap.size + 1 + 1]? = some (.cells #[.int .i64 0, .int .i64 0, .slice none 0 0, .slice none 0 0, .slice none 0 0, .slice none 0 0] 60 (0, 0))) := by rw [hW]; have := heap_alloc_new ((w.alloc (.cells #[v0, v1, v2, v3] 39)).alloc (.cells #[.slice (some ⟨pb, poff, none⟩) m cm, .slice ov k ck] 41)) (.cells #[.int .i64 0, .int .i64 0, .slice none 0 0, .slice none 0 0, .slice none 0 0, .slice none 0 0] 60); rw [World.size_alloc, World.size_alloc] at this; exact this
  clear hW
  have HN : Hid (Calls Tryz.prog 78 #[.int .i64 num, .int .i64 1, .slice ot ts.length ct] W fun e w' => ∃ r k, e = .returned (.agg #[.int .i64 num, .int .i64 1, .slice r ts.length k, .slice none 0 0, .slice none 0 0, .slice none 0 0]) ∧ Row w' W.heap.size 9 1 eS (.slice r ts.length k) ts ∧ Below W.heap.size W w') := newWant_any S num 1 _ ts W (HT.out W BW.out) (fun b hb => Nat.lt_of_lt_of_le (hS b hb) BW.out.size) hl hs
  go_enter Tryz.func36, Tryz.ntmps36
  go_upto_region 1 with fail
  rw [← EW.out]
  go_upto_region 2 with (first
    | (go_at_call 78; refine (HN.out).mono ?_; rintro e wa ⟨r2, k2, rfl, hra, hba⟩))
  clear HN EW
  obtain ⟨gx, hgx⟩ : ∃ g, g = wa.heap.size := ⟨_, rfl⟩
  obtain ⟨U1, hU1⟩ : ∃ V, V = wa.alloc (.cells #[.int .i64 num, .int .i64 1, .slice r2 ts.length k2, .slice none 0 0, .slice none 0 0, .slice none 0 0] 110) := ⟨_, rfl⟩
  have G1 : U1.heap[gx]? = some (.cells #[.int .i64 num, .int .i64 1, .slice r2 ts.length k2, .slice none 0 0, .slice none 0 0, .slice none 0 0] 110 (0, 0)) := by rw [hgx, hU1]; exact heap_alloc_new wa _
  have ba1 : Hid (Below wa.heap.size wa U1) := by rw [hU1]; exact (Below.refl _ _).alloc (Nat.le_refl _) _
  have BU1 : Hid (Below W.heap.size W U1) := hba.trans (ba1.out.mono hba.size)
  have sU1 : U1.heap.size ≤ gx + 1 ∧ gx + 1 ≤ U1.heap.size := by rw [hU1, hgx]; simp
  have hgW : W.heap.size ≤ gx := by rw [hgx]; exact hba.size
  rw [← hU1, ← hgx]
  have RT1 : Hid (U1.ownsRow W.heap.size 9 1 (.slice r2 ts.length k2) ts.length (enc 1 eS ts)) := row_stable ba1.out hra
  have RTL : Hid (∀ g, (Value.slice r2 ts.length k2).ownBlock = some g → g < gx) := fun g hg => by rw [hgx]; exact (World.ownsRow.lt hra g hg).2
  have hbf : Hid (BF (bfW (.int .i64 num) (.int .i64 1) (.slice r2 ts.length k2))) := bfW_ok _ _ _
  have BX1 : Hid (Bx (bfW (.int .i64 num) (.int .i64 1) (.slice r2 ts.length k2)) 110 gx (gx + 1) [] [] [] (.slice none 0 0) (.slice none 0 0) (.slice none 0 0) U1) := ⟨G1, World.ownsRow_nil _ _ _ _, World.ownsRow_nil _ _ _ _, World.ownsRow_nil _ _ _ _, (fun _ hk => nomatch hk), Nat.lt_succ_self _⟩
  clear hU1 hra hba hgx ba1 G1
  have bU1 : Hid (Below w.heap.size w U1) := BW.out.trans (BU1.out.mono BW.out.size)
  have hwg : w.heap.size ≤ gx := by omega
  have BOX : Hid (∀ w', Stp gx 110 U1 w' → Below w.heap.size w w' ∧ w'.heap[w.heap.size]? = some (.cells #[v0, v1, v2, v3] 39 (0, 0)) ∧ w'.heap[w.heap.size + 1]? = some (.cells #[.slice (some ⟨pb, poff, none⟩) m cm, .slice ov k ck] 41 (0, 0)) ∧ w'.heap[w.heap.size + 1 + 1]? = some (.cells #[.int .i64 0, .int .i64 0, .slice none 0 0, .slice none 0 0, .slice none 0 0, .slice none 0 0] 60 (0, 0)) ∧ U1.heap.size ≤ w'.heap.size) := fun w' hT => ⟨bU1.out.trans (hT.low hbf.out BX1.out hwg), (hT.but.block w.heap.size (by omega) (fun ho => by have := BX1.out.low hbf.out _ ho; omega)).trans ((BU1.out.block w.heap.size (by omega)).trans X0.out), (hT.but.block (w.heap.size + 1) (by omega) (fun ho => by have := BX1.out.low hbf.out _ ho; omega)).trans ((BU1.out.block (w.heap.size + 1) (by omega)).trans R0.out), (hT.but.block (w.heap.size + 1 + 1) (by omega) (fun ho => by have := BX1.out.low hbf.out _ ho; omega)).trans ((BU1.out.block (w.heap.size + 1 + 1) (by omega)).trans Y0.out), hT.but.size⟩
  have B0 := BOX.out U1 (Stp.refl _ _ _)
  have z0 := (cell_row (B0).2.2.1 0 (.slice (some ⟨pb, poff, none⟩) m cm) rfl).1
  have z1 := (cell_row (B0).2.2.1 1 (.slice ov k ck) rfl).1
  have e0 : U1.cell? ⟨pb, poff, none⟩ = some (.string (P 0)) := by have := CP.out U1 B0.1 0 (by omega); simpa using this
  clear B0
  have HU0 : Hid (Calls Tryz.prog 79 #[.pointer (some ⟨gx, 0, none⟩), .string (P 0), .int .i64 1, .int .i64 am] U1 fun e w' => e = .returned (.tuple #[]) ∧ ∃ v', Bx (bfW (.int .i64 num) (.int .i64 1) (.slice r2 ts.length k2)) 110 gx (gx + 1) ([] ++ [(P 0, 1, am)]) [] [] v' (.slice none 0 0) (.slice none 0 0) w' ∧ Stp gx 110 U1 w') := use_any hbf.out (P 0) 1 am U1 BX1.out (by omega) (by simp) (HZP.out 0 (by omega))
  have hm1 : (m : Int) - 1 = ((m - 1 : Nat) : Int) := by omega
  go_upto_region 4 with (first
    | (go_at_call 79; refine (HU0.out).mono ?_; rintro e w2 ⟨rfl, vk0, hX2, hT2⟩))
  clear HU0 z0 z1 e0
  have BX2 : Hid (Bx (bfW (.int .i64 num) (.int .i64 1) (.slice r2 ts.length k2)) 110 gx (gx + 1) (usR m P am 1) [] [] vk0 (.slice none 0 0) (.slice none 0 0) w2) := by
    have e : usR m P am 1 = [] ++ [(P 0, 1, am)] := by rw [usR_succ, usI_first]; rfl
    show Bx _ _ _ _ _ _ _ _ _ _ _
    rw [e]; exact hX2
  have T2 : Hid (Stp gx 110 U1 w2) := hT2
  clear hX2 hT2
  have B2 := BOX.out w2 T2.out
  have z0 := (cell_row (B2).2.2.1 0 (.slice (some ⟨pb, poff, none⟩) m cm) rfl).1
  have z1 := (cell_row (B2).2.2.1 1 (.slice ov k ck) rfl).1
  clear B2
  have hc1 : ¬ cm = 1 := by omega
  go_wp2_with fail
  clear z0 z1
  go_loopw [37] (fun i wr => ∃ (j : Nat) (vk : Value), j + 2 ≤ m ∧ i = .int .i64 j ∧ Hid (Bx (bfW (.int .i64 num) (.int .i64 1) (.slice r2 ts.length k2)) 110 gx (gx + 1) (usR m P am (j + 1)) [] [] vk (.slice none 0 0) (.slice none 0 0) wr) ∧ Hid (Stp gx 110 U1 wr)) (fun i _ => m - (intOf i).toNat)
  case atStart => exact ⟨0, vk0, by omega, rfl, BX2.out, T2.out⟩
  case round =>
    obtain ⟨j, vk, hj, rfl, hX, hT⟩ := hrel
    have B3 := BOX.out wr hT.out
    have hsz : gx + 1 ≤ wr.heap.size := by have := B3.2.2.2.2; omega
    by_cases hlt : j + 2 < m
    · have e0 : wr.cell? ⟨pb, poff + 1 + j, none⟩ = some (.string (P (j + 1))) := by have := CP.out wr B3.1 (j + 1) (by omega); rw [show poff + 1 + j = poff + (j + 1) by omega]; exact this
      clear B3
      have HU : Hid (Calls Tryz.prog 79 #[.pointer (some ⟨gx, 0, none⟩), .string (P (j + 1)), .int .i64 3, .int .i64 0] wr fun e w' => e = .returned (.tuple #[]) ∧ ∃ v', Bx (bfW (.int .i64 num) (.int .i64 1) (.slice r2 ts.length k2)) 110 gx (gx + 1) (usR m P am (j + 1) ++ [(P (j + 1), 3, 0)]) [] [] v' (.slice none 0 0) (.slice none 0 0) w' ∧ Stp gx 110 wr w') := use_any hbf.out (P (j + 1)) 3 0 wr hX.out (by omega) (by rw [usR_len]; omega) (HZP.out (j + 1) (by omega))
      have hjl : ((j : Int) < ((m - 1 - 1 : Nat) : Int)) := by omega
      go_wp2_with (first
        | (go_at_call 79; refine (HU.out).mono ?_; rintro e w9 ⟨rfl, v9, hX9, hT9⟩))
      go_roundw
      case rel => exact ⟨j + 1, v9, by omega, by go_num, by show Bx _ _ _ _ _ _ _ _ _ _ _; rw [usR_succ, usI_mid P am (by omega) (by omega)]; exact hX9, hT.out.trans hT9⟩
      case measure => simp [intOf]; omega
    · have hjm : m = j + 2 := by omega
      have hnl : ¬ ((j : Int) < ((m - 1 - 1 : Nat) : Int)) := by omega
      have z0 := (cell_row (B3).2.2.1 0 (.slice (some ⟨pb, poff, none⟩) m cm) rfl).1
      have z1 := (cell_row (B3).2.2.1 1 (.slice ov k ck) rfl).1
      have e0 : wr.cell? ⟨pb, poff + (m - 1), none⟩ = some (.string (P (m - 1))) := CP.out wr B3.1 (m - 1) (by omega)
      clear B3
      have HJM : Hid (m = j + 2) := hjm
      clear hjm
      have HU : Hid (Calls Tryz.prog 79 #[.pointer (some ⟨gx, 0, none⟩), .string (P (m - 1)), .int .i64 2, .int .i64 am] wr fun e w' => e = .returned (.tuple #[]) ∧ ∃ v', Bx (bfW (.int .i64 num) (.int .i64 1) (.slice r2 ts.length k2)) 110 gx (gx + 1) (usR m P am (j + 1) ++ [(P (m - 1), 2, am)]) [] [] v' (.slice none 0 0) (.slice none 0 0) w' ∧ Stp gx 110 wr w') := use_any hbf.out (P (m - 1)) 2 am wr hX.out (by omega) (by rw [usR_len]; omega) (HZP.out (m - 1) (by omega))
      go_upto_region 10 with (first
        | (go_at_call 79; refine (HU.out).mono ?_; rintro e w5 ⟨rfl, vk5, hX5, hT5⟩))
      clear HU z0 z1 e0
      have BX5 : Hid (Bx (bfW (.int .i64 num) (.int .i64 1) (.slice r2 ts.length k2)) 110 gx (gx + 1) (usR m P am m) [] [] vk5 (.slice none 0 0) (.slice none 0 0) w5) := by
        have e : usR m P am m = usR m P am (j + 1) ++ [(P (m - 1), 2, am)] := by
          have h1 := usR_succ m P am (j + 1)
          rw [usI_last P am (by omega) (by have := HJM.out; omega)] at h1
          have h2 : j + 1 + 1 = m := by have := HJM.out; omega
          have h3 : j + 1 = m - 1 := by have := HJM.out; omega
          rw [h2, h3] at h1
          rw [h1, h3]
        show Bx _ _ _ _ _ _ _ _ _ _ _
        rw [e]; exact hX5
      have T5 : Hid (Stp gx 110 U1 w5) := hT.out.trans hT5
      clear hX5 hT5 hX hT hlt hj hnl HJM
      have B5 := BOX.out w5 T5.out
      have z0 := (cell_row (B5).2.2.1 0 (.slice (some ⟨pb, poff, none⟩) m cm) rfl).1
      have z1 := (cell_row (B5).2.2.1 1 (.slice ov k ck) rfl).1
      clear B5
      go_wp2_with fail
      clear z0 z1
      go_loopw [54] (fun i wz => ∃ (q : Nat) (vo : Value), q ≤ k ∧ i = .int .i64 q ∧ Hid (Bx (bfW (.int .i64 num) (.int .i64 1) (.slice r2 ts.length k2)) 110 gx (gx + 1) (usR m P am m) ((List.range q).map Q) [] vk5 vo (.slice none 0 0) wz) ∧ Hid (Stp gx 110 U1 wz)) (fun i _ => k - (intOf i).toNat)
      case atStart => exact ⟨0, _, Nat.zero_le _, rfl, BX5.out, T5.out⟩
      case round =>
        obtain ⟨q, vo, hq, rfl, hX, hT⟩ := hrel
        have B6 := BOX.out wr hT.out
        have hsz : gx + 1 ≤ wr.heap.size := by have := B6.2.2.2.2; omega
        by_cases hlt : q < k
        · obtain ⟨oa9, cp, ev, _, hc⟩ := (H.out wr B6.1).2.2
          obtain ⟨b, off, eo, hbB, hcell⟩ := hc q hlt
          have eo1 : ov = some ⟨b, off, none⟩ := by injection ev with h1 _ _; exact h1.trans eo
          subst eo1
          clear ev eo hc
          have e0 : wr.cell? ⟨b, off + q, none⟩ = some (.string (Q q)) := by have := hcell 0 (by omega); simpa [cS] using this
          clear hcell B6
          have hlo : ((List.range q).map Q).length ≤ 1048576 := by simp; omega
          go_wp2_with (first
            | (go_at_call 80; refine (open_any hbf.out (Q q) wr hX.out (by omega) hlo (HZQ.out q hlt)).mono ?_; rintro e w9 ⟨rfl, v9, hX9, hT9⟩))
          go_roundw
          case rel => exact ⟨q + 1, v9, by omega, by go_num, by show Bx _ _ _ _ _ _ _ _ _ _ _; rw [List.range_succ, List.map_append]; exact hX9, hT.out.trans hT9⟩
          case measure => simp [intOf]; omega
        · have hqk : q = k := by omega
          rw [hqk] at hX
          clear hqk
          have y0 := (cell_row B6.2.1 0 (v0) rfl).1
          have y1 := (cell_row B6.2.1 1 (v1) rfl).1
          have y2 := (cell_row B6.2.1 2 (v2) rfl).1
          have y3 := (cell_row B6.2.1 3 (v3) rfl).1
          have z0 := (cell_row (B6).2.2.1 0 (.slice (some ⟨pb, poff, none⟩) m cm) rfl).1
          have z1 := (cell_row (B6).2.2.1 1 (.slice ov k ck) rfl).1
          have HG : Hid (Calls Tryz.prog 81 #[.agg #[v0, v1, v2, v3], .agg #[.slice (some ⟨pb, poff, none⟩) m cm, .slice ov k ck]] wr fun e w' => ∃ v, e = .returned v ∧ w'.ownsRow wr.heap.size 9 1 v (gdN D m P k Q D.nv).length ((gdN D m P k Q D.nv).map .string) ∧ Below wr.heap.size wr w') := guardsOf_any B v0 v1 v2 v3 D _ ov m k cm ck P Q wr (H.out wr B6.1).1 (H.out wr B6.1).2.1 (H.out wr B6.1).2.2 (Nat.le_trans hB B6.1.size) (by omega)
          clear B6
          go_wp2_with (first
            | (go_at_call 81; refine (HG.out).mono ?_; rintro e w7 ⟨gv, rfl, hgv, hb7⟩; obtain ⟨go, gk, rfl⟩ := ownsRow_shape hgv))
          clear HG y0 y1 y2 y3 z0 z1
          obtain ⟨gl, hgl⟩ : ∃ l, l = gdN D m P k Q D.nv := ⟨_, rfl⟩
          have HGL : Hid (gl = gdN D m P k Q D.nv) := hgl
          rw [← hgl] at hgv ⊢
          have hgn : gl.length ≤ 18 := by rw [hgl]; have := gdN_len D m P k Q D.nv; omega
          have HGZ : Hid (∀ x ∈ gl, x.size ≤ 1048576) := fun x hx => by
            rw [hgl] at hx
            obtain ⟨i, hi, rfl⟩ := List.mem_map.1 hx
            have := name_size (HV.out.2.2.2 i (List.mem_range.1 (List.mem_filter.1 hi).1)).1
            omega
          clear hgl
          obtain ⟨gn, egn⟩ : ∃ n, gl.length = n := ⟨_, rfl⟩
          have EGN : Hid (gl.length = gn) := egn
          rw [egn] at hgn hgv ⊢
          clear egn
          have HGR : Hid (Row w7 wr.heap.size 9 1 eS (.slice go gn gk) gl) := by show World.ownsRow _ _ _ _ _ _ _; rw [enc_S, EGN.out]; exact hgv
          have BX7 : Hid (Bx (bfW (.int .i64 num) (.int .i64 1) (.slice r2 ts.length k2)) 110 gx (gx + 1) (usR m P am m) ((List.range k).map Q) [] vk5 vo (.slice none 0 0) w7) := hX.out.below hbf.out hb7
          have hgxl := hX.out.gxlt
          have T7 : Hid (Stp gx 110 U1 w7) := hT.out.trans (Stp.of_below hb7 hgxl)
          have hs7 : wr.heap.size ≤ w7.heap.size := hb7.size
          have OWN : Hid (∀ g, (vk5.ownBlock = some g ∨ vo.ownBlock = some g) → ¬ wr.heap.size ≤ g) := fun g hg => by
            rcases hg with e | e
            · have := (World.ownsRow.lt hX.out.ru g e).2; omega
            · have := (World.ownsRow.lt hX.out.ro g e).2; omega
          clear hgv hb7 hX hT
          obtain ⟨w70, hw70⟩ : ∃ V, V = wr := ⟨_, rfl⟩
          rw [← hw70] at HGR hs7 hsz hgxl OWN
          clear hw70 wr
          go_loopw [65] (fun i wz => ∃ (q : Nat) (vs : Value), q ≤ gn ∧ i = .int .i64 q ∧ Hid (Bx (bfW (.int .i64 num) (.int .i64 1) (.slice r2 ts.length k2)) 110 gx (gx + 1) (usR m P am m) ((List.range k).map Q) (gl.take q) vk5 vo vs wz) ∧ Hid (Stp gx 110 w7 wz)) (fun i _ => gn - (intOf i).toNat)
          case atStart => exact ⟨0, _, Nat.zero_le _, rfl, BX7.out, Stp.refl _ _ _⟩
          case round =>
            obtain ⟨q, vs, hq, rfl, hX, hT⟩ := hrel
            have TU : Hid (Stp gx 110 U1 wr) := T7.out.trans hT.out
            have B8 := BOX.out wr TU.out
            have hsz8 : gx + 1 ≤ wr.heap.size := by have := B8.2.2.2.2; omega
            by_cases hlt : q < gn
            · have HGr : Row wr _ 9 1 eS (.slice go gn gk) gl := ownsRow_kept HGR.out (fun g hg => hT.out.but.block g (World.ownsRow.lt HGR.out g hg).2 (fun ho => by
                have h1 := (World.ownsRow.lt HGR.out g hg).1
                rcases (BX7.out.own hbf.out).1 ho with e | e | e | e
                · omega
                · exact (OWN.out g (.inl e)) h1
                · exact (OWN.out g (.inr e)) h1
                · cases e))
              obtain ⟨sg, sc, ev, hsg, hsl2, hcell⟩ := Row.cell HGr (i := q) (by rw [EGN.out]; exact hlt)
              have eo : go = some ⟨sg, 0, none⟩ := by injection ev
              subst eo
              clear ev
              have es := (hcell 0 (by omega)).1
              have hzy := HGZ.out _ (List.getElem_mem (show q < gl.length by rw [EGN.out]; exact hlt))
              have htk : Hid (gl.take (q + 1) = gl.take q ++ [gl[q]'(by rw [EGN.out]; exact hlt)]) := by
                show _ = _
                rw [List.take_add_one, List.getElem?_eq_getElem (by rw [EGN.out]; exact hlt)]; rfl
              obtain ⟨y, ey⟩ : ∃ y, gl[q]'(by rw [EGN.out]; exact hlt) = y := ⟨_, rfl⟩
              rw [ey] at htk hzy
              rw [ey, Nat.mul_one, Nat.add_zero] at es
              replace es : wr.cell? ⟨sg, q, none⟩ = some (.string y) := es
              clear hcell ey HGr hsg B8
              have hlo : (gl.take q).length ≤ 1048576 := by rw [List.length_take]; omega
              go_wp2_with (first
                | (go_at_call 82; refine (shut_any hbf.out y wr hX.out (by omega) hlo hzy).mono ?_; rintro e w9 ⟨rfl, v9, hX9, hT9⟩))
              go_roundw
              case rel => exact ⟨q + 1, v9, by omega, by go_num, by show Bx _ _ _ _ _ _ _ _ _ _ _; rw [htk.out]; exact hX9, hT.out.trans hT9⟩
              case measure => simp [intOf]; omega
            · have hqn : q = gn := by omega
              have ETL : Hid (gl.take gn = gl) := List.take_of_length_le (by rw [EGN.out]; exact Nat.le_refl _)
              rw [hqn, ETL.out] at hX
              clear hqn
              obtain ⟨r3, k3, rfl⟩ := ownsRow_shape hX.out.ru
              obtain ⟨r4, k4, rfl⟩ := ownsRow_shape hX.out.ro
              obtain ⟨r5, k5, rfl⟩ := ownsRow_shape hX.out.rs
              have hul : (usR m P am m).length = m := usR_len _ _ _ _
              have hol : ((List.range k).map Q).length = k := by simp
              have hgl9 : gl.length = gn := EGN.out
              rw [hul, hol, hgl9] at hX
              clear hul hol hgl9
              have d0 := (cell_row hX.out.box 0 (.int .i64 num) rfl).1
              have d1 := (cell_row hX.out.box 1 (.int .i64 1) rfl).1
              have d2 := (cell_row hX.out.box 2 (.slice r2 ts.length k2) rfl).1
              have d3 := (cell_row hX.out.box 3 (.slice r3 m k3) rfl).1
              have d4 := (cell_row hX.out.box 4 (.slice r4 k k4) rfl).1
              have d5 := (cell_row hX.out.box 5 (.slice r5 gn k5) rfl).1
              have YZ := B8.2.2.2.1
              have BWZ : Hid (Below w.heap.size w wr) := B8.1
              clear B8
              obtain ⟨t0', f0'⟩ := cell_row YZ 0 (.int .i64 0) rfl
              obtain ⟨t1', f1'⟩ := cell_row YZ 1 (.int .i64 0) rfl
              obtain ⟨t2', f2'⟩ := cell_row YZ 2 (.slice none 0 0) rfl
              obtain ⟨t3', f3'⟩ := cell_row YZ 3 (.slice none 0 0) rfl
              obtain ⟨t4', f4'⟩ := cell_row YZ 4 (.slice none 0 0) rfl
              obtain ⟨t5', f5'⟩ := cell_row YZ 5 (.slice none 0 0) rfl
              obtain ⟨F0, F1, F2, F3⟩ := ret_6 YZ (.int .i64 num) (.int .i64 1) (.slice r2 ts.length k2) (.slice r3 m k3) (.slice r4 k k4) (.slice r5 gn k5)
              go_wp2_with fail
              obtain ⟨FW, hF⟩ : ∃ u, u = ((((((wr.setCell ⟨w.heap.size + 1 + 1, 0, none⟩ (.int .i64 num)).setCell ⟨w.heap.size + 1 + 1, 1, none⟩ (.int .i64 1)).setCell ⟨w.heap.size + 1 + 1, 2, none⟩ (.slice r2 ts.length k2)).setCell ⟨w.heap.size + 1 + 1, 3, none⟩ (.slice r3 m k3)).setCell ⟨w.heap.size + 1 + 1, 4, none⟩ (.slice r4 k k4)).setCell ⟨w.heap.size + 1 + 1, 5, none⟩ (.slice r5 gn k5)) := ⟨_, rfl⟩
              rw [← hF]
              rw [← hF] at F0 F1 F2 F3
              have g0 := (cell_row F0 0 (.int .i64 num) rfl).1
              have g1 := (cell_row F0 1 (.int .i64 1) rfl).1
              have g2 := (cell_row F0 2 (.slice r2 ts.length k2) rfl).1
              have g3 := (cell_row F0 3 (.slice r3 m k3) rfl).1
              have g4 := (cell_row F0 4 (.slice r4 k k4) rfl).1
              have g5 := (cell_row F0 5 (.slice r5 gn k5) rfl).1
              have BF9 : Below w.heap.size w FW := BWZ.out.trans (F3.mono (by omega))
              have K2 : FW.ownsRow w.heap.size 9 1 (.slice r2 ts.length k2) ts.length (enc 1 eS ts) := Go.Joins.ownsRow_le (ownsRow_kept RT1.out (fun g hg => (F1 g (by have := (World.ownsRow.lt RT1.out g hg).1; omega)).trans (TU.out.but.block g (World.ownsRow.lt RT1.out g hg).2 (fun ho => by have h1 := BX1.out.low hbf.out _ ho; have h2 := RTL.out g hg; omega)))) (by omega)
              have K3 : FW.ownsRow w.heap.size 62 3 (.slice r3 m k3) m (enc 3 eU (usR m P am m)) := by
                have h1 := ownsRow_kept (w' := FW) hX.out.ru (fun g hg => F1 g (by have := (World.ownsRow.lt hX.out.ru g hg).1; omega))
                rw [show (usR m P am m).length = m from usR_len _ _ _ _] at h1
                exact Go.Joins.ownsRow_le h1 (by omega)
              have K4 : FW.ownsRow w.heap.size 9 1 (.slice r4 k k4) k (enc 1 eS ((List.range k).map Q)) := by
                have h1 := ownsRow_kept (w' := FW) hX.out.ro (fun g hg => F1 g (by have := (World.ownsRow.lt hX.out.ro g hg).1; omega))
                rw [show ((List.range k).map Q).length = k by simp] at h1
                exact Go.Joins.ownsRow_le h1 (by omega)
              have K5 : FW.ownsRow w.heap.size 9 1 (.slice r5 gn k5) gn (enc 1 eS (gl)) := by
                have h1 := ownsRow_kept (w' := FW) hX.out.rs (fun g hg => F1 g (by have := (World.ownsRow.lt hX.out.rs g hg).1; omega))
                rw [show gl.length = gn from EGN.out] at h1
                exact Go.Joins.ownsRow_le h1 (by omega)
              have K59 : FW.ownsRow w.heap.size 9 1 (.slice r5 (gdN D m P k Q D.nv).length k5) (gdN D m P k Q D.nv).length (enc 1 eS (gdN D m P k Q D.nv)) := by rw [← HGL.out, EGN.out]; exact K5
              have EL : (gdN D m P k Q D.nv).length = gn := by rw [← HGL.out]; exact EGN.out
              exact bodyPost_ret (v := .agg #[.int .i64 num, .int .i64 1, .slice r2 ts.length k2, .slice r3 m k3, .slice r4 k k4, .slice r5 gn k5]) (by simp [results, Tryz.results36, go_sem, g0, g1, g2, g3, g4, g5]) rfl ⟨r2, k2, r3, k3, r4, k4, r5, k5, by rw [EL], K2, K3, K4, K59, BF9⟩

end Go.Proofs.YtffmfomonmhkcabGreat

/-
  What is shared out by the order of a plant: names.
-/
namespace Go.Proofs.YtffmfomonmhkcabGreat
open Go.RowKit

theorem hasL_iff {l : List ByteArray} {x : ByteArray} : hasL l x = true ↔ x ∈ l := by
  unfold hasL
  rw [List.any_eq_true]
  constructor
  · rintro ⟨y, hy, e⟩; rw [← (eqB_iff _ _).1 e]; exact hy
  · intro h; exact ⟨x, h, (eqB_iff _ _).2 rfl⟩
theorem tkV_filter (l : List ByteArray) : ∀ pre : List ByteArray, tkV l pre = pre.filter fun x => hasL l x
  | [] => rfl
  | x :: pre => by
    have e : tkV l (x :: pre) = takV x l ++ tkV l pre := rfl
    rw [e, tkV_filter l pre]
    cases h : hasL l x <;> simp [takV, h]
theorem asc_filter {l : List ByteArray} (h : AscL l) (p : ByteArray → Bool) : AscL (l.filter p) := List.Pairwise.sublist List.filter_sublist h
theorem asc_ix {n : Nat} {f : Nat → ByteArray} (h : ascB n f) (p : Nat → Bool) : AscL (((List.range n).filter p).map f) := by
  unfold AscL
  rw [List.pairwise_map]
  refine (List.Pairwise.sublist List.filter_sublist List.pairwise_lt_range).imp_of_mem ?_
  intro a b _ hb hab
  exact h a b hab (List.mem_range.1 (List.mem_filter.1 hb).1)
theorem plA_names (D : PD) (st : ByteArray) : (plA D st D.np).map (·.1) = ((List.range D.np).filter fun i => eqB (D.fp i).2.2 st).map fun i => (D.fp i).1 := by
  unfold plA
  rw [List.map_map]; rfl
section
variable {D : PD} (hV : D.V)
include hV
theorem pl_asc : ascB D.np (fun i => (D.fp i).1) := ascB_of (fun i hi h0 => (hV.2.1.2 i hi).2.1 h0)
theorem va_asc : ascB D.nv (fun i => (D.fv i).1) := ascB_of (fun i hi h0 => (hV.2.2.2 i hi).2.1 h0)
theorem stP_at {i : Nat} (hi : i < D.np) : stP D (D.fp i).1 = (D.fp i).2.2 := by
  have h0 : 0 ≤ placeI D.np D.fp (D.fp i).1 := by
    unfold placeI
    cases e : (List.range D.np).find? (fun j => eqB (D.fp j).1 (D.fp i).1) with
    | none => exact absurd (List.find?_eq_none.1 e i (List.mem_range.2 hi)) (by simp [eqB])
    | some k => exact Int.natCast_nonneg k
  obtain ⟨k, hk, _, e2, e3⟩ := place_ix h0
  have : k = i := ascB_inj (pl_asc hV) hk hi ((eqB_iff _ _).1 e3)
  unfold stP
  rw [e2, this]
theorem stV_at {i : Nat} (hi : i < D.nv) : stV D (D.fv i).1 = (D.fv i).2.2.2 := by
  have h0 : 0 ≤ valI D.nv D.fv (D.fv i).1 := by
    unfold valI
    cases e : (List.range D.nv).find? (fun j => eqB (D.fv j).1 (D.fv i).1) with
    | none => exact absurd (List.find?_eq_none.1 e i (List.mem_range.2 hi)) (by simp [eqB])
    | some k => exact Int.natCast_nonneg k
  obtain ⟨k, hk, _, e2, e3⟩ := val_ix h0
  have : k = i := ascB_inj (va_asc hV) hk hi ((eqB_iff _ _).1 e3)
  unfold stV
  rw [e2, this]
end

end Go.Proofs.YtffmfomonmhkcabGreat

/-
  What the program shares out of the want along a route, by the plant's order, is what the model shares out.
-/
namespace Go.Proofs.YtffmfomonmhkcabGreat
open Go.RowKit

theorem pigeon {α : Type} [DecidableEq α] : ∀ (l m : List α), l.Nodup → (∀ x ∈ l, x ∈ m) → l.length ≤ m.length
  | [], m, _, _ => Nat.zero_le _
  | x :: l, m, hn, hs => by
    have hx := hs x (by simp)
    obtain ⟨hxl, hl⟩ := List.nodup_cons.1 hn
    have ih := pigeon l (m.erase x) hl (fun y hy => by
      have hne : y ≠ x := fun e => hxl (e ▸ hy)
      exact (List.mem_erase_of_ne hne).2 (hs y (by simp [hy])))
    rw [List.length_erase_of_mem hx] at ih
    have : 0 < m.length := List.length_pos_of_mem hx
    simp only [List.length_cons]
    omega
section
variable {D : PD} {m : Nat} {P : Nat → ByteArray} {k : Nat} {Q : Nat → ByteArray} (h : RS D m P k Q)
include h
theorem rt_inj {i j : Nat} (hi : i < m) (hj : j < m) (e : P i = P j) : i = j := by
  have key : ∀ a b, a < b → b < m → P a = P b → False := fun a b hab hb e => by
    have h1 := (h.2.2 b hb).1.2.1
    rw [has_yes hab ((eqB_iff _ _).2 e)] at h1
    cases h1
  rcases Nat.lt_trichotomy i j with h1 | h1 | h1
  · exact (key i j h1 hj e).elim
  · exact h1
  · exact (key j i h1 hi e.symm).elim
theorem rt_place {i : Nat} (hi : i < m) : ∃ a, a < D.np ∧ (D.fp a).1 = P i := by
  obtain ⟨a, ha, _, _, e⟩ := place_ix (cap_place (h.2.2 i hi).1.1)
  exact ⟨a, ha, (eqB_iff _ _).1 e⟩
theorem rt_valve {i : Nat} (hi : i < k) : ∃ a, a < D.nv ∧ (D.fv a).1 = Q i := by
  have h1 := (h.2.2 (i + 1) (by have := h.1; omega)).2 (by omega)
  rw [Nat.add_sub_cancel] at h1
  obtain ⟨a, ha, _, _, e⟩ := val_ix (join_val h1)
  exact ⟨a, ha, (eqB_iff _ _).1 e⟩
theorem rt_len : m ≤ D.np := by
  have h1 := pigeon ((List.range m).map P) ((List.range D.np).map fun a => (D.fp a).1) (by
    rw [List.nodup_iff_pairwise_ne, List.pairwise_map]
    refine List.pairwise_lt_range.imp_of_mem (fun {a b} ha hb hab e => ?_)
    have := rt_inj h (List.mem_range.1 ha) (List.mem_range.1 hb) e
    omega) (fun x hx => by
    obtain ⟨i, hi, rfl⟩ := List.mem_map.1 hx
    obtain ⟨a, ha, e⟩ := rt_place h (List.mem_range.1 hi)
    exact List.mem_map.2 ⟨a, List.mem_range.2 ha, e⟩)
  simpa using h1
end

/-- Uses that ascend by their names. -/
def AscU (l : List DClaimUse) : Prop := l.Pairwise fun a b => ltB a.1 b.1 = true
theorem insU_asc : ∀ (l : List DClaimUse) (x : DClaimUse), AscU l → (∀ y ∈ l, y.1 ≠ x.1) → AscU (insU l x)
  | [], x, _, _ => List.pairwise_singleton _ _
  | y :: l, x, ha, hn => by
    obtain ⟨h1, h2⟩ := List.pairwise_cons.1 ha
    unfold insU
    split
    · rename_i hlt
      refine List.pairwise_cons.2 ⟨fun z hz => ?_, insU_asc l x h2 (fun z hz => hn z (List.mem_cons_of_mem _ hz))⟩
      rcases (insU_mem l x z).1 hz with hz | hz
      · exact h1 z hz
      · rw [hz]; exact hlt
    · rename_i hlt
      have hxy : ltB x.1 y.1 = true := by
        refine ltB_tri (by simpa using hlt) ?_
        cases e : eqB y.1 x.1
        · rfl
        · exact absurd ((eqB_iff _ _).1 e) (hn y List.mem_cons_self)
      refine List.pairwise_cons.2 ⟨fun z hz => ?_, ha⟩
      rcases List.mem_cons.1 hz with e | hz
      · rw [e]; exact hxy
      · exact ltB_trans hxy (h1 z hz)
theorem eq_of_names : ∀ l r : List DClaimUse, l.map (·.1) = r.map (·.1) → (∀ x ∈ l, ∀ y ∈ r, x.1 = y.1 → x = y) → l = r
  | [], [], _, _ => rfl
  | [], _ :: _, e, _ => by cases e
  | _ :: _, [], e, _ => by cases e
  | x :: l, y :: r, e, h => by
    simp only [List.map_cons, List.cons.injEq] at e
    rw [h x List.mem_cons_self y List.mem_cons_self e.1, eq_of_names l r e.2 (fun a ha b hb => h a (List.mem_cons_of_mem _ ha) b (List.mem_cons_of_mem _ hb))]
section
variable {D : PD} (hV : D.V) {m : Nat} {P : Nat → ByteArray} {k : Nat} {Q : Nat → ByteArray} (h : RS D m P k Q)
include h
theorem usS_asc (am : Int) : ∀ i, i ≤ m → AscU (usS m P am i)
  | 0, _ => List.Pairwise.nil
  | i + 1, hi => by
    rw [usS_succ]
    refine insU_asc _ _ (usS_asc am i (by omega)) (fun y hy e => ?_)
    obtain ⟨j, hj, rfl⟩ := (usS_mem m P am y i).1 hy
    have := rt_inj h (i := j) (j := i) (by omega) (by omega) e
    omega
theorem usI_name {am : Int} {x y : DClaimUse} (hx : ∃ j, j < m ∧ x = usI m P am j) (hy : ∃ j, j < m ∧ y = usI m P am j) (e : x.1 = y.1) : x = y := by
  obtain ⟨i, hi, rfl⟩ := hx
  obtain ⟨j, hj, rfl⟩ := hy
  rw [rt_inj h hi hj e]
include hV
theorem uses_sameR (am : Int) (st : ByteArray) : tkU (usR m P am m) (plA D st D.np) = usL D st (usS m P am m) := by
  have mem1 : ∀ x, x ∈ tkU (usR m P am m) (plA D st D.np) ↔ (∃ j, j < m ∧ x = usI m P am j) ∧ stP D x.1 = st := fun x => by
    unfold tkU takU plA
    rw [List.mem_flatMap]
    constructor
    · rintro ⟨y, hy, hx⟩
      obtain ⟨a, ha, rfl⟩ := List.mem_map.1 hy
      have ha := List.mem_filter.1 ha
      have hx := List.mem_filter.1 hx
      obtain ⟨j, hj, e⟩ := List.mem_map.1 hx.1
      refine ⟨⟨j, List.mem_range.1 hj, e.symm⟩, ?_⟩
      rw [(eqB_iff _ _).1 hx.2, stP_at hV (List.mem_range.1 ha.1)]
      exact (eqB_iff _ _).1 ha.2
    · rintro ⟨⟨j, hj, rfl⟩, hs⟩
      obtain ⟨a, ha, e⟩ := rt_place h hj
      have e' : (usI m P am j).1 = (D.fp a).1 := e.symm
      refine ⟨D.fp a, List.mem_map.2 ⟨a, List.mem_filter.2 ⟨List.mem_range.2 ha, ?_⟩, rfl⟩, List.mem_filter.2 ⟨List.mem_map.2 ⟨j, List.mem_range.2 hj, rfl⟩, (eqB_iff _ _).2 e'⟩⟩
      rw [e', stP_at hV ha] at hs
      exact (eqB_iff _ _).2 hs
  have mem2 : ∀ x, x ∈ usL D st (usS m P am m) ↔ (∃ j, j < m ∧ x = usI m P am j) ∧ stP D x.1 = st := fun x => by
    unfold usL
    rw [List.mem_filter, usS_mem, eqB_iff]
  have asc1 : AscU (tkU (usR m P am m) (plA D st D.np)) := by
    have hn : (usR m P am m).Pairwise fun a b => a.1 ≠ b.1 := by
      unfold usR
      rw [List.pairwise_map]
      refine List.pairwise_lt_range.imp_of_mem (fun {a b} ha hb hab e => ?_)
      have := rt_inj h (List.mem_range.1 ha) (List.mem_range.1 hb) e
      omega
    have hp : (plA D st D.np).Pairwise fun a b => ltB a.1 b.1 = true := by
      have := asc_ix (pl_asc hV) (fun i => eqB (D.fp i).2.2 st)
      rw [← plA_names] at this
      exact List.pairwise_map.1 this
    unfold AscU tkU
    rw [List.pairwise_flatMap]
    refine ⟨fun y _ => ?_, hp.imp (fun {a b} hab x hx y hy => ?_)⟩
    · unfold takU
      refine (List.Pairwise.sublist List.filter_sublist hn).imp_of_mem (fun {a b} ha hb hne => ?_)
      exact absurd (((eqB_iff _ _).1 (List.mem_filter.1 ha).2).trans ((eqB_iff _ _).1 (List.mem_filter.1 hb).2).symm) hne
    · rw [(eqB_iff _ _).1 (List.mem_filter.1 hx).2, (eqB_iff _ _).1 (List.mem_filter.1 hy).2]
      exact hab
  have asc2 : AscU (usL D st (usS m P am m)) := List.Pairwise.sublist List.filter_sublist (usS_asc h am m (Nat.le_refl _))
  refine eq_of_names _ _ ?_ (fun x hx y hy e => usI_name h ((mem1 x).1 hx).1 ((mem2 y).1 hy).1 e)
  refine asc_unique _ _ (List.pairwise_map.2 asc1) (List.pairwise_map.2 asc2) (fun y => ?_)
  rw [List.mem_map, List.mem_map]
  constructor
  · rintro ⟨x, hx, e⟩; exact ⟨x, (mem2 x).2 ((mem1 x).1 hx), e⟩
  · rintro ⟨x, hx, e⟩; exact ⟨x, (mem1 x).2 ((mem2 x).1 hx), e⟩
end
/-- Valves of a plant, shared out by its order. -/
theorem vals_sameR {D : PD} (hV : D.V) {l r : List ByteArray} (hr : AscL r) (hm : ∀ y, y ∈ r ↔ y ∈ l) (hin : ∀ x ∈ l, ∃ a, a < D.nv ∧ (D.fv a).1 = x) (st : ByteArray) : tkV l (vlA D st D.nv) = opL D st r := by
  rw [tkV_filter]
  unfold opL
  refine asc_unique _ _ (asc_filter (asc_ix (va_asc hV) _) _) (asc_filter hr _) (fun x => ?_)
  rw [List.mem_filter, List.mem_filter, hasL_iff, hm, eqB_iff]
  constructor
  · rintro ⟨hx, hs⟩
    obtain ⟨i, hi, rfl⟩ := List.mem_map.1 hx
    have hi := List.mem_filter.1 hi
    refine ⟨hs, ?_⟩
    rw [stV_at hV (List.mem_range.1 hi.1)]
    exact (eqB_iff _ _).1 hi.2
  · rintro ⟨hx, hs⟩
    obtain ⟨a, ha, rfl⟩ := hin x hx
    refine ⟨List.mem_map.2 ⟨a, List.mem_filter.2 ⟨List.mem_range.2 ha, ?_⟩, rfl⟩, hx⟩
    rw [← stV_at hV ha, hs]
    exact (eqB_iff _ _).2 rfl
theorem gd_in {D : PD} {m : Nat} {P : Nat → ByteArray} {k : Nat} {Q : Nat → ByteArray} {x : ByteArray} (hx : x ∈ gdN D m P k Q D.nv) : ∃ a, a < D.nv ∧ (D.fv a).1 = x := by
  obtain ⟨i, hi, rfl⟩ := List.mem_map.1 hx
  exact ⟨i, List.mem_range.1 (List.mem_filter.1 hi).1, rfl⟩
theorem share_sameR {D : PD} (hV : D.V) {m : Nat} {P : Nat → ByteArray} {k : Nat} {Q : Nat → ByteArray} (h : RS D m P k Q) (num am : Int) (ts : List ByteArray) : shrL D (num, 1, ts, usR m P am m, (List.range k).map Q, gdN D m P k Q D.nv) (stnL D) = askL D (rtD D num am m P k Q ts) (stL true D) := by
  have e : ∀ st, shD D st (num, 1, ts, usR m P am m, (List.range k).map Q, gdN D m P k Q D.nv) = ofD D st (rtD D num am m P k Q ts) := fun st => by
    show ((num, 1, ts, tkU (usR m P am m) (plA D st D.np), tkV ((List.range k).map Q) (vlA D st D.nv), tkV (gdN D m P k Q D.nv) (vlA D st D.nv)) : DClaimWant) = (num, 1, ts, usL D st (usS m P am m), opL D st (insA ((List.range k).map Q)), opL D st (gdN D m P k Q D.nv))
    rw [uses_sameR hV h, vals_sameR hV (insA_both _).1 (insA_both _).2 (fun x hx => by
      obtain ⟨i, hi, rfl⟩ := List.mem_map.1 hx
      exact rt_valve h (List.mem_range.1 hi)), vals_sameR hV (r := gdN D m P k Q D.nv) (asc_ix (va_asc hV) _) (fun _ => Iff.rfl) (fun x hx => gd_in hx)]
  unfold shrL askL
  show (((stnL D).filter _).map _) = (((stnL D).filter _).map _)
  simp only [e]

end Go.Proofs.YtffmfomonmhkcabGreat
