/-
  Several texts in one.
-/
import Derived.Test.YtndacfockllehaaGreatM30
import Derived.Test.YtndacfockllehaaGreatM37
import Derived.Lib.AtoiErrMem
import Derived.Deep.Cut
/-
  Contracts of the program's test whether a valve is at any of some places, and of the whole want of what is done at places.
-/
namespace Go.Proofs.YtndacfockllehaaGreat
open Go.RowKit

attribute [local go_sem] Oper.semAt_some
theorem cell_keep {w w' : World} {p : Addr} {v : Value} (hb : Below w.heap.size w w') (h : w.cell? p = some v) : w'.cell? p = some v := (hb.cell (Go.Lib.lt_of_cell h)).trans h
/-- Is a valve at any of some places? The names of those that are. -/
def atB (f : ByteArray × ByteArray × ByteArray × ByteArray) (l : List ByteArray) : Bool := hasL l f.2.1 || hasL l f.2.2.1
def shI (D : PD) (l : List ByteArray) (k : Nat) : List ByteArray := ((List.range k).filter fun i => atB (D.fv i) l).map fun i => (D.fv i).1
theorem shI_yes {D : PD} {l : List ByteArray} {k : Nat} (h : atB (D.fv k) l = true) : shI D l (k + 1) = shI D l k ++ [(D.fv k).1] := by simp [shI, List.range_succ, List.filter_append, h]
theorem shI_no {D : PD} {l : List ByteArray} {k : Nat} (h : atB (D.fv k) l = false) : shI D l (k + 1) = shI D l k := by simp [shI, List.range_succ, List.filter_append, h]
theorem shI_len (D : PD) (l : List ByteArray) (k : Nat) : (shI D l k).length ≤ k := by
  have := List.length_filter_le (fun i => atB (D.fv i) l) (List.range k)
  simp only [shI, List.length_map]
  simpa using this

set_option maxRecDepth 100000 in
set_option maxHeartbeats 8000000 in
theorem atAnyP_any (S : Nat → Prop) (f : ByteArray × ByteArray × ByteArray × ByteArray) (l : List ByteArray) (oa : Option Addr) (cap : Nat) (w : World) (hl : AtL S w l (.slice oa l.length cap)) (hS : ∀ b, S b → b < w.heap.size) :
    Calls Tryz.prog 102 #[.agg #[.string f.1, .string f.2.1, .string f.2.2.1, .string f.2.2.2], .slice oa l.length cap] w fun e w' => e = .returned (.bool (atB f l)) ∧ Below w.heap.size w w' := by
  obtain ⟨W, hW⟩ : ∃ W, W = w.alloc (.cells #[.string f.1, .string f.2.1, .string f.2.2.1, .string f.2.2.2] 105) := ⟨_, rfl⟩
  have EW : Hid (W = w.alloc (.cells #[.string f.1, .string f.2.1, .string f.2.2.1, .string f.2.2.2] 105)) := hW
  have BW : Hid (Below w.heap.size w W) := by rw [hW]; exact (Below.refl _ _).alloc (Nat.le_refl _) _
  have X0 : W.heap[w.heap.size]? = some (.cells #[.string f.1, .string f.2.1, .string f.2.2.1, .string f.2.2.2] 105 (0, 0)) := by rw [hW]; exact heap_alloc_new w _
  clear hW
  obtain ⟨y1, _⟩ := cell_row X0 1 (.string f.2.1) rfl
  obtain ⟨y2, _⟩ := cell_row X0 2 (.string f.2.2.1) rfl
  have HC : Hid (∀ x, Calls Tryz.prog 83 #[.slice oa l.length cap, .string x] W fun e w' => e = .returned (.bool (hasL l x)) ∧ w' = W) := fun x => by
    have := hasI_any w.heap.size _ _ (nthB l) x W (lst_at (hl.same (Same.of_below BW.out hS)) hS)
    rw [has_nth] at this
    exact this
  clear X0 hl
  have EB : Hid (atB f l = (hasL l f.2.1 || hasL l f.2.2.1)) := rfl
  go_enter Tryz.func102, Tryz.ntmps102
  go_upto_region 1 with fail
  rw [← EW.out]
  cases b1 : hasL l f.2.1
  · have H1 : Hid (Calls Tryz.prog 83 #[.slice oa l.length cap, .string f.2.1] W fun e w' => e = .returned (.bool false) ∧ w' = W) := by have := HC.out f.2.1; rw [b1] at this; exact this
    have H2 : Hid (Calls Tryz.prog 83 #[.slice oa l.length cap, .string f.2.2.1] W fun e w' => e = .returned (.bool (hasL l f.2.2.1)) ∧ w' = W) := HC.out f.2.2.1
    rw [b1, Bool.false_or] at EB
    clear HC b1
    go_wp2_with (first
      | (go_at_call 83; refine (H1.out).mono ?_; rintro e w' ⟨rfl, hw⟩; have hw := hw.symm; subst hw; clear H1)
      | (go_at_call 83; refine (H2.out).mono ?_; rintro e w' ⟨rfl, hw⟩; have hw := hw.symm; subst hw))
    go_ret
    exact ⟨by rw [EB.out]; rfl, BW.out⟩
  · have H1 : Hid (Calls Tryz.prog 83 #[.slice oa l.length cap, .string f.2.1] W fun e w' => e = .returned (.bool true) ∧ w' = W) := by have := HC.out f.2.1; rw [b1] at this; exact this
    rw [b1, Bool.true_or] at EB
    clear HC b1
    go_wp2_with (first
      | (go_at_call 83; refine (H1.out).mono ?_; rintro e w' ⟨rfl, hw⟩; have hw := hw.symm; subst hw))
    go_ret
    exact ⟨by rw [EB.out]; rfl, BW.out⟩

set_option maxRecDepth 100000 in
set_option maxHeartbeats 16000000 in
theorem wantAt_any (B : Nat) (S : Nat → Prop) (v0 v1 v2 v3 : Value) (D : PD) (num kind : Int) (l : List ByteArray) (v : Value) (w : World) (h : PAt B w v0 v1 v2 v3 D) (hB : B ≤ w.heap.size) (hV : D.V) (hl : AtL S w l v) (hS : ∀ b, S b → b < w.heap.size) (h8 : l.length ≤ 8) (hz : ∀ x ∈ l, x.size ≤ 1048576) :
    Calls Tryz.prog 65 #[.agg #[v0, v1, v2, v3], v, .int .i64 num, .int .i64 kind] w fun e w' => ∃ r2 k2 r3 k3 r5 k5, e = .returned (.agg #[.int .i64 num, .int .i64 kind, .slice r2 0 k2, .slice r3 l.length k3, .slice none 0 0, .slice r5 (shI D l D.nv).length k5]) ∧ w'.ownsRow w.heap.size 9 1 (.slice r2 0 k2) 0 [] ∧ w'.ownsRow w.heap.size 95 3 (.slice r3 l.length k3) l.length (enc 3 eU (useL l)) ∧ w'.ownsRow w.heap.size 9 1 (.slice r5 (shI D l D.nv).length k5) (shI D l D.nv).length (enc 1 eS (shI D l D.nv)) ∧ Below w.heap.size w w' := by
  obtain ⟨o1, c1, e1, hx1⟩ := id h.f
  obtain ⟨o2, c2, e2, hx2⟩ := id h.p
  obtain ⟨o3, c3, e3, hx3⟩ := id h.v
  obtain ⟨oa, cap, e4, hx4⟩ := id hl
  subst e1 e2 e3 e4
  clear hx1 hx2 hx3 hx4
  have H : Hid (∀ w', Below w.heap.size w w' → PAt B w' v0 (.slice o1 D.nf c1) (.slice o2 D.np c2) (.slice o3 D.nv c3) D) := fun w' hb => h.kept hb hB
  have HL : Hid (∀ w', Below w.heap.size w w' → AtL S w' l (.slice oa l.length cap)) := fun w' hb => hl.same (Same.of_below hb hS)
  have HV : Hid D.V := hV
  have HZ : Hid (∀ x ∈ l, x.size ≤ 1048576) := hz
  have hnv : D.nv ≤ 18 := hV.2.2.1
  clear h hl hV hz
  obtain ⟨n, en⟩ : ∃ n, l.length = n := ⟨_, rfl⟩
  rw [en] at HL h8
  rw [en]
  have EN : Hid (l.length = n) := en
  clear en
  obtain ⟨W, hW⟩ : ∃ W, W = (w.alloc (.cells #[v0, .slice o1 D.nf c1, .slice o2 D.np c2, .slice o3 D.nv c3] 40)).alloc (.cells #[.int .i64 0, .int .i64 0, .slice none 0 0, .slice none 0 0, .slice none 0 0, .slice none 0 0] 68) := ⟨_, rfl⟩
  have EW : Hid (W = (w.alloc (.cells #[v0, .slice o1 D.nf c1, .slice o2 D.np c2, .slice o3 D.nv c3] 40)).alloc (.cells #[.int .i64 0, .int .i64 0, .slice none 0 0, .slice none 0 0, .slice none 0 0, .slice none 0 0] 68)) := hW
  have BW : Hid (Below w.heap.size w W) := by rw [hW]; exact ((Below.refl _ _).alloc (Nat.le_refl _) _).alloc (by simp) _
  have sW : W.heap.size ≤ w.heap.size + 1 + 1 ∧ w.heap.size + 1 + 1 ≤ W.heap.size := by rw [hW]; simp
  have X0 : Hid (W.heap[w.heap.size]? = some (.cells #[v0, .slice o1 D.nf c1, .slice o2 D.np c2, .slice o3 D.nv c3] 40 (0, 0))) := by rw [hW]; exact (Below.heap_alloc _ _ _ (by simp)).trans (heap_alloc_new w _)
  have Y0 : Hid (W.heap[w.heap.size + 1]? = some (.cells #[.int .i64 0, .int .i64 0, .slice none 0 0, .slice none 0 0, .slice none 0 0, .slice none 0 0] 68 (0, 0))) := by rw [hW]; have := heap_alloc_new (w.alloc (.cells #[v0, .slice o1 D.nf c1, .slice o2 D.np c2, .slice o3 D.nv c3] 40)) (.cells #[.int .i64 0, .int .i64 0, .slice none 0 0, .slice none 0 0, .slice none 0 0, .slice none 0 0] 68); rw [World.size_alloc] at this; exact this
  clear hW
  have HN : Hid (Calls Tryz.prog 94 #[.int .i64 num, .int .i64 kind, .slice none 0 0] W fun e w' => ∃ r k, e = .returned (.agg #[.int .i64 num, .int .i64 kind, .slice r 0 k, .slice none 0 0, .slice none 0 0, .slice none 0 0]) ∧ Row w' W.heap.size 9 1 eS (.slice r 0 k) [] ∧ Below W.heap.size W w') := newWant_any (fun _ => False) num kind (.slice none 0 0) [] W ⟨none, 0, rfl, ⟨Nat.zero_le _, Nat.le_refl 0, fun _ => rfl⟩, fun _ hi => absurd hi (Nat.not_lt_zero _)⟩ (fun _ h => h.elim) (by simp) (fun _ h => nomatch h)
  go_enter Tryz.func65, Tryz.ntmps65
  go_upto_region 1 with fail
  rw [← EW.out]
  go_upto_region 2 with (first
    | (go_at_call 94; refine (HN.out).mono ?_; rintro e wa ⟨r2, k2, rfl, hra, hba⟩))
  clear HN EW
  obtain ⟨gx, hgx⟩ : ∃ g, g = wa.heap.size := ⟨_, rfl⟩
  obtain ⟨U1, hU1⟩ : ∃ V, V = wa.alloc (.cells #[.int .i64 num, .int .i64 kind, .slice r2 0 k2, .slice none 0 0, .slice none 0 0, .slice none 0 0] 128) := ⟨_, rfl⟩
  have G1 : U1.heap[gx]? = some (.cells #[.int .i64 num, .int .i64 kind, .slice r2 0 k2, .slice none 0 0, .slice none 0 0, .slice none 0 0] 128 (0, 0)) := by rw [hgx, hU1]; exact heap_alloc_new wa _
  have ba1 : Hid (Below wa.heap.size wa U1) := by rw [hU1]; exact (Below.refl _ _).alloc (Nat.le_refl _) _
  have BU1 : Hid (Below W.heap.size W U1) := hba.trans (ba1.out.mono hba.size)
  have sU1 : U1.heap.size ≤ gx + 1 ∧ gx + 1 ≤ U1.heap.size := by rw [hU1, hgx]; simp
  have hgW : W.heap.size ≤ gx := by rw [hgx]; exact hba.size
  rw [← hU1, ← hgx]
  have RT1 : Hid (U1.ownsRow W.heap.size 9 1 (.slice r2 0 k2) 0 []) := row_stable ba1.out hra
  have RTL : Hid (∀ g, (Value.slice r2 0 k2).ownBlock = some g → g < gx) := fun g hg => by rw [hgx]; exact (World.ownsRow.lt hra g hg).2
  have hbf : Hid (BF (bfW (.int .i64 num) (.int .i64 kind) (.slice r2 0 k2))) := bfW_ok _ _ _
  have BX1 : Hid (Bx (bfW (.int .i64 num) (.int .i64 kind) (.slice r2 0 k2)) 128 gx (gx + 1) [] [] [] (.slice none 0 0) (.slice none 0 0) (.slice none 0 0) U1) := ⟨G1, World.ownsRow_nil _ _ _ _, World.ownsRow_nil _ _ _ _, World.ownsRow_nil _ _ _ _, (fun _ hk => nomatch hk), Nat.lt_succ_self _⟩
  clear hU1 hra hba hgx ba1 G1
  have bU1 : Hid (Below w.heap.size w U1) := BW.out.trans (BU1.out.mono BW.out.size)
  have hwg : w.heap.size ≤ gx := by omega
  go_wp2_with fail
  go_loopw [19] (fun i wr => ∃ (k : Nat) (vk : Value), k ≤ n ∧ i = .int .i64 k ∧ Hid (Bx (bfW (.int .i64 num) (.int .i64 kind) (.slice r2 0 k2)) 128 gx (gx + 1) (useL (l.take k)) [] [] vk (.slice none 0 0) (.slice none 0 0) wr) ∧ Hid (Stp gx 128 U1 wr)) (fun i _ => n - (intOf i).toNat)
  case atStart => exact ⟨0, _, Nat.zero_le _, rfl, BX1.out, Stp.refl _ _ _⟩
  case round =>
    obtain ⟨k, vk, hk, rfl, hX, hT⟩ := hrel
    have bwr : Hid (Below w.heap.size w wr) := bU1.out.trans (hT.out.low hbf.out BX1.out hwg)
    have hsz := hT.out.but.size
    by_cases hlt : k < n
    · obtain ⟨oa9, cp, ev, _, hc⟩ := HL.out wr bwr.out
      obtain ⟨b, off, eo, hbS, cc, hcell, hat⟩ := hc k (by rw [EN.out]; exact hlt)
      have eo1 : oa = some ⟨b, off, none⟩ := by injection ev with h1 _ _; exact h1.trans eo
      subst eo1
      clear ev eo hc
      rw [width_str] at hcell
      have e0 : wr.cell? ⟨b, off + k, none⟩ = some (cc 0) := by have := hcell 0 (by omega); simpa using this
      rw [at_str] at hat
      have htk : Hid (l.take (k + 1) = l.take k ++ [l[k]'(by rw [EN.out]; exact hlt)]) := by
        show _ = _
        rw [List.take_add_one, List.getElem?_eq_getElem (by rw [EN.out]; exact hlt)]; rfl
      have hzy := HZ.out _ (List.getElem_mem (show k < l.length by rw [EN.out]; exact hlt))
      obtain ⟨y, ey⟩ : ∃ y, l[k]'(by rw [EN.out]; exact hlt) = y := ⟨_, rfl⟩
      rw [ey] at hat htk hzy
      clear ey hcell
      rw [hat.1] at e0
      clear hat
      have HU : Hid (Calls Tryz.prog 95 #[.pointer (some ⟨gx, 0, none⟩), .string y, .int .i64 3, .int .i64 0] wr fun e w' => e = .returned (.tuple #[]) ∧ ∃ v', Bx (bfW (.int .i64 num) (.int .i64 kind) (.slice r2 0 k2)) 128 gx (gx + 1) (useL (l.take k) ++ [(y, 3, 0)]) [] [] v' (.slice none 0 0) (.slice none 0 0) w' ∧ Stp gx 128 wr w') := use_any hbf.out y 3 0 wr hX.out (by omega) (by rw [useL, List.length_map, List.length_take]; omega) hzy
      go_wp2_with (first
        | (go_at_call 95; refine (HU.out).mono ?_; rintro e w9 ⟨rfl, v9, hX9, hT9⟩))
      go_roundw
      case rel => exact ⟨k + 1, v9, by omega, by go_num, by show Bx _ _ _ _ _ _ _ _ _ _ _; rw [htk.out, useL_snoc]; exact hX9, hT.out.trans hT9⟩
      case measure => simp [intOf]; omega
    · have hkn : k = n := by omega
      subst hkn
      have ETL : Hid (l.take k = l) := List.take_of_length_le (by rw [EN.out]; exact Nat.le_refl _)
      rw [ETL.out] at hX
      have XW : Hid (wr.heap[w.heap.size]? = some (.cells #[v0, .slice o1 D.nf c1, .slice o2 D.np c2, .slice o3 D.nv c3] 40 (0, 0))) := (hT.out.but.block w.heap.size (by omega) (fun ho => by have := BX1.out.low hbf.out _ ho; omega)).trans ((BU1.out.block w.heap.size (by omega)).trans X0.out)
      have y3 := (cell_row XW.out 3 (.slice o3 D.nv c3) rfl).1
      go_wp2_with fail
      clear y3
      obtain ⟨wr0, hw0⟩ : ∃ V, V = wr := ⟨_, rfl⟩
      rw [← hw0] at hX hT bwr hsz XW ⊢
      clear hw0 wr
      go_loopw [29] (fun i wz => ∃ (q : Nat) (vs : Value), q ≤ D.nv ∧ i = .int .i64 q ∧ Hid (Bx (bfW (.int .i64 num) (.int .i64 kind) (.slice r2 0 k2)) 128 gx (gx + 1) (useL l) [] (shI D l q) vk (.slice none 0 0) vs wz) ∧ Hid (Stp gx 128 wr0 wz)) (fun i _ => D.nv - (intOf i).toNat)
      case atStart => exact ⟨0, _, Nat.zero_le _, rfl, hX.out, Stp.refl _ _ _⟩
      case round =>
        obtain ⟨q, vs, hq, rfl, hXz, hTz⟩ := hrel
        have TUZ : Hid (Stp gx 128 U1 wr) := hT.out.trans hTz.out
        have bwz : Hid (Below w.heap.size w wr) := bU1.out.trans (TUZ.out.low hbf.out BX1.out hwg)
        have hszz := TUZ.out.but.size
        by_cases hqt : q < D.nv
        · obtain ⟨oa9, cp, ev, _, hc⟩ := (H.out wr bwz.out).v
          obtain ⟨b, off, eo, hbB, hcell⟩ := hc q hqt
          have eo1 : o3 = some ⟨b, off, none⟩ := by injection ev with h1 _ _; exact h1.trans eo
          subst eo1
          clear ev eo hc
          have e0 : wr.cell? ⟨b, off + q * 4, none⟩ = some (.string (D.fv q).1) := hcell 0 (by omega)
          have e1 : wr.cell? ⟨b, off + q * 4 + 1, none⟩ = some (.string (D.fv q).2.1) := hcell 1 (by omega)
          have e2 : wr.cell? ⟨b, off + q * 4 + 2, none⟩ = some (.string (D.fv q).2.2.1) := hcell 2 (by omega)
          have e3 : wr.cell? ⟨b, off + q * 4 + 3, none⟩ = some (.string (D.fv q).2.2.2) := hcell 3 (by omega)
          clear hcell
          obtain ⟨U, hU⟩ : ∃ V, V = wr.alloc (.cells #[.string (D.fv q).1, .string (D.fv q).2.1, .string (D.fv q).2.2.1, .string (D.fv q).2.2.2] 105) := ⟨_, rfl⟩
          have EU : Hid (U = wr.alloc (.cells #[.string (D.fv q).1, .string (D.fv q).2.1, .string (D.fv q).2.2.1, .string (D.fv q).2.2.2] 105)) := hU
          have BU : Hid (Below wr.heap.size wr U) := by rw [hU]; exact (Below.refl _ _).alloc (Nat.le_refl _) _
          have XP : U.heap[wr.heap.size]? = some (.cells #[.string (D.fv q).1, .string (D.fv q).2.1, .string (D.fv q).2.2.1, .string (D.fv q).2.2.2] 105 (0, 0)) := by rw [hU]; exact heap_alloc_new wr _
          have sU : U.heap.size ≤ wr.heap.size + 1 ∧ wr.heap.size + 1 ≤ U.heap.size := by rw [hU]; simp
          clear hU
          have hXU : Hid (Bx (bfW (.int .i64 num) (.int .i64 kind) (.slice r2 0 k2)) 128 gx (gx + 1) (useL l) [] (shI D l q) vk (.slice none 0 0) vs U) := hXz.out.below hbf.out BU.out
          have hgz := hXz.out.gxlt
          have hTU : Hid (Stp gx 128 wr0 U) := hTz.out.trans (Stp.of_below BU.out hgz)
          obtain ⟨z0, _⟩ := cell_row XP 0 (.string (D.fv q).1) rfl
          obtain ⟨z1, _⟩ := cell_row XP 1 (.string (D.fv q).2.1) rfl
          obtain ⟨z2, _⟩ := cell_row XP 2 (.string (D.fv q).2.2.1) rfl
          obtain ⟨z3, _⟩ := cell_row XP 3 (.string (D.fv q).2.2.2) rfl
          have HAt : Hid (Calls Tryz.prog 102 #[.agg #[.string (D.fv q).1, .string (D.fv q).2.1, .string (D.fv q).2.2.1, .string (D.fv q).2.2.2], .slice oa k cap] U fun e w' => e = .returned (.bool (atB (D.fv q) l)) ∧ Below U.heap.size U w') := by
            have h1 := HL.out U (bwz.out.trans (BU.out.mono bwz.out.size))
            rw [← EN.out] at h1 ⊢
            exact atAnyP_any S (D.fv q) l oa cap U h1 (fun b hb => by have h2 := hS b hb; have h3 := bwz.out.size; omega)
          have hvz : (D.fv q).1.size ≤ 1048576 := by have := name_size (HV.out.2.2.2 q hqt).1; omega
          have hsl : (shI D l q).length ≤ q := shI_len D l q
          cases hE : atB (D.fv q) l
          · rw [hE] at HAt
            go_upto_region 10 with fail
            rw [← EU.out]
            clear e0 e1 e2 e3
            go_wp2_with (first
              | (go_at_call 102; refine (HAt.out).mono ?_; rintro e w8 ⟨rfl, hb8⟩; have B8 : Hid (Below U.heap.size U w8) := hb8; have hX8 : Hid (Bx (bfW (.int .i64 num) (.int .i64 kind) (.slice r2 0 k2)) 128 gx (gx + 1) (useL l) [] (shI D l q) vk (.slice none 0 0) vs w8) := hXU.out.below hbf.out B8.out; have hT8 : Hid (Stp gx 128 wr0 w8) := hTU.out.trans (Stp.of_below B8.out (by omega)); have s8 := hb8.size))
            go_roundw
            case rel => exact ⟨q + 1, vs, by omega, by go_num, by show Bx _ _ _ _ _ _ _ _ _ _ _; rw [shI_no hE]; exact hX8.out, hT8.out⟩
            case measure => simp [intOf]; omega
          · rw [hE] at HAt
            go_upto_region 10 with fail
            rw [← EU.out]
            clear e0 e1 e2 e3
            go_wp2_with (first
              | (go_at_call 102; refine (HAt.out).mono ?_; rintro e w8 ⟨rfl, hb8⟩; have B8 : Hid (Below U.heap.size U w8) := hb8; have hX8 : Hid (Bx (bfW (.int .i64 num) (.int .i64 kind) (.slice r2 0 k2)) 128 gx (gx + 1) (useL l) [] (shI D l q) vk (.slice none 0 0) vs w8) := hXU.out.below hbf.out B8.out; have hT8 : Hid (Stp gx 128 wr0 w8) := hTU.out.trans (Stp.of_below B8.out (by omega)); have s8 := hb8.size; have zz := cell_keep B8.out z0)
              | (go_at_call 98; refine (shut_any hbf.out (D.fv q).1 w8 hX8.out (by omega) (by omega) hvz).mono ?_; rintro e w9 ⟨rfl, v9, hX9, hT9⟩))
            go_roundw
            case rel => exact ⟨q + 1, v9, by omega, by go_num, by show Bx _ _ _ _ _ _ _ _ _ _ _; rw [shI_yes hE]; exact hX9, hT8.out.trans hT9⟩
            case measure => simp [intOf]; omega
        · have hqn : q = D.nv := by omega
          rw [hqn] at hXz
          clear hqn
          obtain ⟨r3, k3, rfl⟩ := ownsRow_shape hXz.out.ru
          obtain ⟨r5, k5, rfl⟩ := ownsRow_shape hXz.out.rs
          have hul : (useL l).length = k := by rw [useL, List.length_map, EN.out]
          rw [hul] at hXz
          clear hul
          obtain ⟨d0, _⟩ := cell_row hXz.out.box 0 (.int .i64 num) rfl
          obtain ⟨d1, _⟩ := cell_row hXz.out.box 1 (.int .i64 kind) rfl
          obtain ⟨d2, _⟩ := cell_row hXz.out.box 2 (.slice r2 0 k2) rfl
          obtain ⟨d3, _⟩ := cell_row hXz.out.box 3 (.slice r3 k k3) rfl
          obtain ⟨d4, _⟩ := cell_row hXz.out.box 4 (.slice none 0 0) rfl
          obtain ⟨d5, _⟩ := cell_row hXz.out.box 5 (.slice r5 (shI D l D.nv).length k5) rfl
          have YZ : wr.heap[w.heap.size + 1]? = some (.cells #[.int .i64 0, .int .i64 0, .slice none 0 0, .slice none 0 0, .slice none 0 0, .slice none 0 0] 68 (0, 0)) := (TUZ.out.but.block (w.heap.size + 1) (by omega) (fun ho => by have := BX1.out.low hbf.out _ ho; omega)).trans ((BU1.out.block (w.heap.size + 1) (by omega)).trans Y0.out)
          obtain ⟨t0', f0'⟩ := cell_row YZ 0 (.int .i64 0) rfl
          obtain ⟨t1', f1'⟩ := cell_row YZ 1 (.int .i64 0) rfl
          obtain ⟨t2', f2'⟩ := cell_row YZ 2 (.slice none 0 0) rfl
          obtain ⟨t3', f3'⟩ := cell_row YZ 3 (.slice none 0 0) rfl
          obtain ⟨t4', f4'⟩ := cell_row YZ 4 (.slice none 0 0) rfl
          obtain ⟨t5', f5'⟩ := cell_row YZ 5 (.slice none 0 0) rfl
          obtain ⟨F0, F1, F2, F3⟩ := ret_6 YZ (.int .i64 num) (.int .i64 kind) (.slice r2 0 k2) (.slice r3 k k3) (.slice none 0 0) (.slice r5 (shI D l D.nv).length k5)
          go_wp2_with fail
          obtain ⟨FW, hF⟩ : ∃ u, u = ((((((wr.setCell ⟨w.heap.size + 1, 0, none⟩ (.int .i64 num)).setCell ⟨w.heap.size + 1, 1, none⟩ (.int .i64 kind)).setCell ⟨w.heap.size + 1, 2, none⟩ (.slice r2 0 k2)).setCell ⟨w.heap.size + 1, 3, none⟩ (.slice r3 k k3)).setCell ⟨w.heap.size + 1, 4, none⟩ (.slice none 0 0)).setCell ⟨w.heap.size + 1, 5, none⟩ (.slice r5 (shI D l D.nv).length k5)) := ⟨_, rfl⟩
          rw [← hF]
          rw [← hF] at F0 F1 F2 F3
          have g0 := (cell_row F0 0 (.int .i64 num) rfl).1
          have g1 := (cell_row F0 1 (.int .i64 kind) rfl).1
          have g2 := (cell_row F0 2 (.slice r2 0 k2) rfl).1
          have g3 := (cell_row F0 3 (.slice r3 k k3) rfl).1
          have g4 := (cell_row F0 4 (.slice none 0 0) rfl).1
          have g5 := (cell_row F0 5 (.slice r5 (shI D l D.nv).length k5) rfl).1
          have BF9 : Below w.heap.size w FW := bwz.out.trans (F3.mono (by omega))
          have K2 : FW.ownsRow w.heap.size 9 1 (.slice r2 0 k2) 0 [] := Go.Joins.ownsRow_le (ownsRow_kept RT1.out (fun g hg => (F1 g (by have := (World.ownsRow.lt RT1.out g hg).1; omega)).trans (TUZ.out.but.block g (World.ownsRow.lt RT1.out g hg).2 (fun ho => by have h1 := BX1.out.low hbf.out _ ho; have h2 := RTL.out g hg; omega)))) (by omega)
          have K3 : FW.ownsRow w.heap.size 95 3 (.slice r3 k k3) k (enc 3 eU (useL l)) := by
            have h1 := ownsRow_kept (w' := FW) hXz.out.ru (fun g hg => F1 g (by have := (World.ownsRow.lt hXz.out.ru g hg).1; omega))
            rw [show (useL l).length = k by rw [useL, List.length_map, EN.out]] at h1
            exact Go.Joins.ownsRow_le h1 (by omega)
          have K5 : FW.ownsRow w.heap.size 9 1 (.slice r5 (shI D l D.nv).length k5) (shI D l D.nv).length (enc 1 eS (shI D l D.nv)) := Go.Joins.ownsRow_le (ownsRow_kept (w' := FW) hXz.out.rs (fun g hg => F1 g (by have := (World.ownsRow.lt hXz.out.rs g hg).1; omega))) (by omega)
          exact bodyPost_ret (v := .agg #[.int .i64 num, .int .i64 kind, .slice r2 0 k2, .slice r3 k k3, .slice none 0 0, .slice r5 (shI D l D.nv).length k5]) (by simp [results, Tryz.results65, go_sem, g0, g1, g2, g3, g4, g5]) rfl ⟨r2, k2, r3, k3, r5, k5, rfl, K2, K3, K5, BF9⟩

end Go.Proofs.YtndacfockllehaaGreat

/-
  What the program shares out of the want at places, by the plant's order, is what the model shares out.
-/
namespace Go.Proofs.YtndacfockllehaaGreat
open Go.RowKit

theorem hasL_iff {l : List ByteArray} {x : ByteArray} : hasL l x = true ↔ x ∈ l := by
  unfold hasL
  rw [List.any_eq_true]
  constructor
  · rintro ⟨y, hy, e⟩; rw [← (eqB_iff _ _).1 e]; exact hy
  · intro h; exact ⟨x, h, (eqB_iff _ _).2 rfl⟩
theorem tkV_filter (l : List ByteArray) : ∀ pre : List ByteArray, tkV l pre = pre.filter fun x => hasL l x
  | [] => rfl
  | x :: pre => by
    have e : tkV l (x :: pre) = takV x l ++ tkV l pre := rfl
    rw [e, tkV_filter l pre]
    cases h : hasL l x <;> simp [takV, h]
theorem tkV_none (pre : List ByteArray) : tkV [] pre = [] := by
  rw [tkV_filter]
  exact List.filter_eq_nil_iff.2 (fun x _ => by simp [hasL])
theorem asc_filter {l : List ByteArray} (h : AscL l) (p : ByteArray → Bool) : AscL (l.filter p) := List.Pairwise.sublist List.filter_sublist h
theorem asc_ix {n : Nat} {f : Nat → ByteArray} (h : ascB n f) (p : Nat → Bool) : AscL (((List.range n).filter p).map f) := by
  unfold AscL
  rw [List.pairwise_map]
  refine (List.Pairwise.sublist List.filter_sublist List.pairwise_lt_range).imp_of_mem ?_
  intro a b _ hb hab
  exact h a b hab (List.mem_range.1 (List.mem_filter.1 hb).1)
theorem takV_one {l : List ByteArray} (h : AscL l) (y : ByteArray) : l.filter (fun x => eqB x y) = takV y l := by
  refine asc_unique _ _ (asc_filter h _) ?_ (fun x => ?_)
  · unfold takV
    cases hasL l y
    · exact List.Pairwise.nil
    · exact List.pairwise_singleton _ _
  · unfold takV
    rw [List.mem_filter, eqB_iff]
    cases e : hasL l y
    · have : ¬ y ∈ l := fun hy => by rw [hasL_iff.2 hy] at e; cases e
      exact ⟨fun hx => absurd (hx.2 ▸ hx.1) this, fun hx => nomatch hx⟩
    · exact ⟨fun hx => List.mem_singleton.2 hx.2, fun hx => ⟨List.mem_singleton.1 hx ▸ hasL_iff.1 e, List.mem_singleton.1 hx⟩⟩
theorem takU_useL {l : List ByteArray} (h : AscL l) (y : ByteArray) : takU y (useL l) = useL (takV y l) := by
  rw [← takV_one h]
  unfold takU useL
  rw [List.filter_map]
  rfl
theorem tkU_useL {l : List ByteArray} (h : AscL l) : ∀ pre : List (ByteArray × Int × ByteArray), tkU (useL l) pre = useL (tkV l (pre.map (·.1)))
  | [] => rfl
  | y :: pre => by
    have e : tkU (useL l) (y :: pre) = takU y.1 (useL l) ++ tkU (useL l) pre := rfl
    have e2 : tkV l ((y :: pre).map (·.1)) = takV y.1 l ++ tkV l (pre.map (·.1)) := rfl
    rw [e, e2, tkU_useL h pre, takU_useL h]
    simp [useL]
theorem plA_names (D : PD) (st : ByteArray) : (plA D st D.np).map (·.1) = ((List.range D.np).filter fun i => eqB (D.fp i).2.2 st).map fun i => (D.fp i).1 := by
  unfold plA
  rw [List.map_map]; rfl
theorem its_asc {D : PD} {l : List ByteArray} (h : itsP D l) : AscL l := by
  have ha : ascB l.length (nthB l) := ascB_of (fun i hi h0 => (h.2.2 i hi).2 h0)
  unfold AscL
  rw [List.pairwise_iff_getElem]
  intro i j hi hj hij
  have := ha i j hij hj
  rw [nthB_at hi, nthB_at hj] at this
  exact this
section
variable {D : PD} (hV : D.V)
include hV
theorem pl_asc : ascB D.np (fun i => (D.fp i).1) := ascB_of (fun i hi h0 => (hV.2.1.2 i hi).2.1 h0)
theorem va_asc : ascB D.nv (fun i => (D.fv i).1) := ascB_of (fun i hi h0 => (hV.2.2.2 i hi).2.1 h0)
theorem stP_at {i : Nat} (hi : i < D.np) : stP D (D.fp i).1 = (D.fp i).2.2 := by
  have h0 : 0 ≤ placeI D.np D.fp (D.fp i).1 := by
    unfold placeI
    cases e : (List.range D.np).find? (fun j => eqB (D.fp j).1 (D.fp i).1) with
    | none => exact absurd (List.find?_eq_none.1 e i (List.mem_range.2 hi)) (by simp [eqB])
    | some k => exact Int.natCast_nonneg k
  obtain ⟨k, hk, _, e2, e3⟩ := place_ix h0
  have : k = i := ascB_inj (pl_asc hV) hk hi ((eqB_iff _ _).1 e3)
  unfold stP
  rw [e2, this]
theorem stV_at {i : Nat} (hi : i < D.nv) : stV D (D.fv i).1 = (D.fv i).2.2.2 := by
  have h0 : 0 ≤ valI D.nv D.fv (D.fv i).1 := by
    unfold valI
    cases e : (List.range D.nv).find? (fun j => eqB (D.fv j).1 (D.fv i).1) with
    | none => exact absurd (List.find?_eq_none.1 e i (List.mem_range.2 hi)) (by simp [eqB])
    | some k => exact Int.natCast_nonneg k
  obtain ⟨k, hk, _, e2, e3⟩ := val_ix h0
  have : k = i := ascB_inj (va_asc hV) hk hi ((eqB_iff _ _).1 e3)
  unfold stV
  rw [e2, this]
theorem uses_same {l : List ByteArray} (hi : itsP D l) (st : ByteArray) : tkU (useL l) (plA D st D.np) = usL D st (useL l) := by
  have e1 : usL D st (useL l) = useL (l.filter fun x => eqB (stP D x) st) := by
    unfold usL useL
    rw [List.filter_map]
    rfl
  rw [e1, tkU_useL (its_asc hi), tkV_filter, plA_names]
  congr 1
  refine asc_unique _ _ (asc_filter (asc_ix (pl_asc hV) _) _) (asc_filter (its_asc hi) _) (fun x => ?_)
  rw [List.mem_filter, List.mem_filter, List.mem_map, hasL_iff, eqB_iff]
  constructor
  · rintro ⟨⟨i, hm, rfl⟩, hx⟩
    have hm := List.mem_filter.1 hm
    refine ⟨hx, ?_⟩
    rw [stP_at hV (List.mem_range.1 hm.1)]
    exact (eqB_iff _ _).1 hm.2
  · rintro ⟨hx, hs⟩
    refine ⟨?_, hx⟩
    obtain ⟨j, hj, rfl⟩ := List.getElem_of_mem hx
    have h0 := (hi.2.2 j hj).1
    rw [nthB_at hj] at h0
    obtain ⟨k, hk, _, _, e3⟩ := place_ix h0
    have e4 := (eqB_iff _ _).1 e3
    refine ⟨k, List.mem_filter.2 ⟨List.mem_range.2 hk, ?_⟩, e4⟩
    rw [← stP_at hV hk, e4, hs]
    exact (eqB_iff _ _).2 rfl
theorem shuts_same {l : List ByteArray} (st : ByteArray) : tkV (shI D l D.nv) (vlA D st D.nv) = opL D st (insA (besL D l)) := by
  rw [tkV_filter]
  unfold opL
  refine asc_unique _ _ (asc_filter (asc_ix (va_asc hV) _) _) (asc_filter (insA_both _).1 _) (fun x => ?_)
  rw [List.mem_filter, List.mem_filter, hasL_iff, (insA_both _).2, eqB_iff]
  have key : ∀ i, i < D.nv → ((D.fv i).1 ∈ shI D l D.nv ↔ (D.fv i).1 ∈ besL D l) := fun i hi => by
    unfold shI besL besN
    rw [List.mem_map, List.mem_flatMap]
    constructor
    · rintro ⟨j, hj, e⟩
      have hj := List.mem_filter.1 hj
      have : j = i := ascB_inj (va_asc hV) (List.mem_range.1 hj.1) hi e
      subst this
      have ha : hasL l (D.fv j).2.1 = true ∨ hasL l (D.fv j).2.2.1 = true := by have := hj.2; unfold atB at this; rwa [Bool.or_eq_true] at this
      rcases ha with ha | ha
      · exact ⟨_, hasL_iff.1 ha, List.mem_map.2 ⟨j, List.mem_filter.2 ⟨hj.1, by rw [endB_flip, (eqB_iff _ _).2 rfl, Bool.true_or]⟩, rfl⟩⟩
      · exact ⟨_, hasL_iff.1 ha, List.mem_map.2 ⟨j, List.mem_filter.2 ⟨hj.1, by rw [endB_flip, (eqB_iff (D.fv j).2.2.1 _).2 rfl, Bool.or_true]⟩, rfl⟩⟩
    · rintro ⟨y, hy, hm⟩
      obtain ⟨j, hj, e⟩ := List.mem_map.1 hm
      have hj := List.mem_filter.1 hj
      have : j = i := ascB_inj (va_asc hV) (List.mem_range.1 hj.1) hi e
      subst this
      refine ⟨j, List.mem_filter.2 ⟨hj.1, ?_⟩, rfl⟩
      have he := hj.2
      rw [endB_flip, Bool.or_eq_true, eqB_iff, eqB_iff] at he
      unfold atB
      rw [Bool.or_eq_true, hasL_iff, hasL_iff]
      rcases he with he | he
      · exact .inl (he ▸ hy)
      · exact .inr (he ▸ hy)
  constructor
  · rintro ⟨hx, hs⟩
    obtain ⟨i, hm, rfl⟩ := List.mem_map.1 hx
    have hm := List.mem_filter.1 hm
    have hi := List.mem_range.1 hm.1
    refine ⟨(key i hi).1 hs, ?_⟩
    rw [stV_at hV hi]
    exact (eqB_iff _ _).1 hm.2
  · rintro ⟨hx, hs⟩
    obtain ⟨y, hy, hm⟩ := List.mem_flatMap.1 hx
    obtain ⟨i, hm2, rfl⟩ := List.mem_map.1 hm
    have hi := List.mem_range.1 (List.mem_filter.1 hm2).1
    refine ⟨List.mem_map.2 ⟨i, List.mem_filter.2 ⟨List.mem_range.2 hi, ?_⟩, rfl⟩, (key i hi).2 hx⟩
    rw [← stV_at hV hi, hs]
    exact (eqB_iff _ _).2 rfl
theorem share_same {l : List ByteArray} (hi : itsP D l) (num kind : Int) : shrL D (num, kind, [], useL l, [], shI D l D.nv) (stnL D) = askL D (atD D num kind l) (stL true D) := by
  have e : ∀ st, shD D st (num, kind, [], useL l, [], shI D l D.nv) = ofD D st (atD D num kind l) := fun st => by
    show ((num, kind, [], tkU (useL l) (plA D st D.np), tkV [] (vlA D st D.nv), tkV (shI D l D.nv) (vlA D st D.nv)) : DClaimWant) = (num, kind, [], usL D st (useL l), opL D st [], opL D st (insA (besL D l)))
    rw [uses_same hV hi, shuts_same hV, tkV_none]
    rfl
  unfold shrL askL
  show (((stnL D).filter _).map _) = (((stnL D).filter _).map _)
  simp only [e]
end

end Go.Proofs.YtndacfockllehaaGreat
