/-
  Several texts in one.
-/
import Derived.Test.YtffmfomonmhkcaaGreatM42
import Derived.Test.YtffmfomonmhkcaaGreatBpb
import Derived.Test.YtffmfomonmhkcaaGreatM32
import Derived.Lib.AtoiErrMem
import Derived.Deep.Cut
import Derived.Test.YtffmfomonmhkcaaGreatM41
import Derived.Test.YtffmfomonmhkcaaGreatM7
import Derived.Test.YtffmfomonmhkcaaGreatZb
/-
  Contracts of the program's test whether a valve is at any of some places, and of the whole want of what is done at places.
-/
namespace Go.Proofs.YtffmfomonmhkcaaGreat
open Go.RowKit

attribute [local go_sem] Oper.semAt_some
theorem cell_keep {w w' : World} {p : Addr} {v : Value} (hb : Below w.heap.size w w') (h : w.cell? p = some v) : w'.cell? p = some v := (hb.cell (Go.Lib.lt_of_cell h)).trans h
/-- Is a valve at any of some places? The names of those that are. -/
def atB (f : ByteArray × ByteArray × ByteArray × ByteArray) (l : List ByteArray) : Bool := hasL l f.2.1 || hasL l f.2.2.1
def shI (D : PD) (l : List ByteArray) (k : Nat) : List ByteArray := ((List.range k).filter fun i => atB (D.fv i) l).map fun i => (D.fv i).1
theorem shI_yes {D : PD} {l : List ByteArray} {k : Nat} (h : atB (D.fv k) l = true) : shI D l (k + 1) = shI D l k ++ [(D.fv k).1] := by simp [shI, List.range_succ, List.filter_append, h]
theorem shI_no {D : PD} {l : List ByteArray} {k : Nat} (h : atB (D.fv k) l = false) : shI D l (k + 1) = shI D l k := by simp [shI, List.range_succ, List.filter_append, h]
theorem shI_len (D : PD) (l : List ByteArray) (k : Nat) : (shI D l k).length ≤ k := by
  have := List.length_filter_le (fun i => atB (D.fv i) l) (List.range k)
  simp only [shI, List.length_map]
  simpa using this

set_option maxRecDepth 100000 in
set_option maxHeartbeats 8000000 in
theorem atAny_any (S : Nat → Prop) (f : ByteArray × ByteArray × ByteArray × ByteArray) (l : List ByteArray) (oa : Option Addr) (cap : Nat) (w : World) (hl : AtL S w l (.slice oa l.length cap)) (hS : ∀ b, S b → b < w.heap.size) :
    Calls Tryz.prog 71 #[.agg #[.string f.1, .string f.2.1, .string f.2.2.1, .string f.2.2.2], .slice oa l.length cap] w fun e w' => e = .returned (.bool (atB f l)) ∧ Below w.heap.size w w' := by
  obtain ⟨W, hW⟩ : ∃ W, W = w.alloc (.cells #[.string f.1, .string f.2.1, .string f.2.2.1, .string f.2.2.2] 85) := ⟨_, rfl⟩
  have EW : Hid (W = w.alloc (.cells #[.string f.1, .string f.2.1, .string f.2.2.1, .string f.2.2.2] 85)) := hW
  have BW : Hid (Below w.heap.size w W) := by rw [hW]; exact (Below.refl _ _).alloc (Nat.le_refl _) _
  have X0 : W.heap[w.heap.size]? = some (.cells #[.string f.1, .string f.2.1, .string f.2.2.1, .string f.2.2.2] 85 (0, 0)) := by rw [hW]; exact heap_alloc_new w _
  clear hW
  obtain ⟨y1, _⟩ := cell_row X0 1 (.string f.2.1) rfl
  obtain ⟨y2, _⟩ := cell_row X0 2 (.string f.2.2.1) rfl
  have HC : Hid (∀ x, Calls Tryz.prog 85 #[.slice oa l.length cap, .string x] W fun e w' => e = .returned (.bool (hasL l x)) ∧ w' = W) := fun x => by
    have := hasI_any w.heap.size _ _ (nthB l) x W (lst_at (hl.same (Same.of_below BW.out hS)) hS)
    rw [has_nth] at this
    exact this
  clear X0 hl
  have EB : Hid (atB f l = (hasL l f.2.1 || hasL l f.2.2.1)) := rfl
  go_enter Tryz.func71, Tryz.ntmps71
  go_upto_region 1 with fail
  rw [← EW.out]
  cases b1 : hasL l f.2.1
  · have H1 : Hid (Calls Tryz.prog 85 #[.slice oa l.length cap, .string f.2.1] W fun e w' => e = .returned (.bool false) ∧ w' = W) := by have := HC.out f.2.1; rw [b1] at this; exact this
    have H2 : Hid (Calls Tryz.prog 85 #[.slice oa l.length cap, .string f.2.2.1] W fun e w' => e = .returned (.bool (hasL l f.2.2.1)) ∧ w' = W) := HC.out f.2.2.1
    rw [b1, Bool.false_or] at EB
    clear HC b1
    go_wp2_with (first
      | (go_at_call 85; refine (H1.out).mono ?_; rintro e w' ⟨rfl, hw⟩; have hw := hw.symm; subst hw; clear H1)
      | (go_at_call 85; refine (H2.out).mono ?_; rintro e w' ⟨rfl, hw⟩; have hw := hw.symm; subst hw))
    go_ret
    exact ⟨by rw [EB.out]; rfl, BW.out⟩
  · have H1 : Hid (Calls Tryz.prog 85 #[.slice oa l.length cap, .string f.2.1] W fun e w' => e = .returned (.bool true) ∧ w' = W) := by have := HC.out f.2.1; rw [b1] at this; exact this
    rw [b1, Bool.true_or] at EB
    clear HC b1
    go_wp2_with (first
      | (go_at_call 85; refine (H1.out).mono ?_; rintro e w' ⟨rfl, hw⟩; have hw := hw.symm; subst hw))
    go_ret
    exact ⟨by rw [EB.out]; rfl, BW.out⟩

set_option maxRecDepth 100000 in
set_option maxHeartbeats 16000000 in
theorem wantAt_any (B : Nat) (S : Nat → Prop) (v0 v1 v2 v3 : Value) (D : PD) (num kind : Int) (l : List ByteArray) (v : Value) (w : World) (h : PAt B w v0 v1 v2 v3 D) (hB : B ≤ w.heap.size) (hV : D.V) (hl : AtL S w l v) (hS : ∀ b, S b → b < w.heap.size) (h8 : l.length ≤ 8) (hz : ∀ x ∈ l, x.size ≤ 1048576) :
    Calls Tryz.prog 31 #[.agg #[v0, v1, v2, v3], v, .int .i64 num, .int .i64 kind] w fun e w' => ∃ r2 k2 r3 k3 r5 k5, e = .returned (.agg #[.int .i64 num, .int .i64 kind, .slice r2 0 k2, .slice r3 l.length k3, .slice none 0 0, .slice r5 (shI D l D.nv).length k5]) ∧ w'.ownsRow w.heap.size 9 1 (.slice r2 0 k2) 0 [] ∧ w'.ownsRow w.heap.size 54 3 (.slice r3 l.length k3) l.length (enc 3 eU (useL l)) ∧ w'.ownsRow w.heap.size 9 1 (.slice r5 (shI D l D.nv).length k5) (shI D l D.nv).length (enc 1 eS (shI D l D.nv)) ∧ Below w.heap.size w w' := by
  obtain ⟨o1, c1, e1, hx1⟩ := id h.f
  obtain ⟨o2, c2, e2, hx2⟩ := id h.p
  obtain ⟨o3, c3, e3, hx3⟩ := id h.v
  obtain ⟨oa, cap, e4, hx4⟩ := id hl
  subst e1 e2 e3 e4
  clear hx1 hx2 hx3 hx4
  have H : Hid (∀ w', Below w.heap.size w w' → PAt B w' v0 (.slice o1 D.nf c1) (.slice o2 D.np c2) (.slice o3 D.nv c3) D) := fun w' hb => h.kept hb hB
  have HL : Hid (∀ w', Below w.heap.size w w' → AtL S w' l (.slice oa l.length cap)) := fun w' hb => hl.same (Same.of_below hb hS)
  have HV : Hid D.V := hV
  have HZ : Hid (∀ x ∈ l, x.size ≤ 1048576) := hz
  have hnv : D.nv ≤ 18 := hV.2.2.1
  clear h hl hV hz
  obtain ⟨n, en⟩ : ∃ n, l.length = n := ⟨_, rfl⟩
  rw [en] at HL h8
  rw [en]
  have EN : Hid (l.length = n) := en
  clear en
  obtain ⟨W, hW⟩ : ∃ W, W = (w.alloc (.cells #[v0, .slice o1 D.nf c1, .slice o2 D.np c2, .slice o3 D.nv c3] 36)).alloc (.cells #[.int .i64 0, .int .i64 0, .slice none 0 0, .slice none 0 0, .slice none 0 0, .slice none 0 0] 52) := ⟨_, rfl⟩
  have EW : Hid (W = (w.alloc (.cells #[v0, .slice o1 D.nf c1, .slice o2 D.np c2, .slice o3 D.nv c3] 36)).alloc (.cells #[.int .i64 0, .int .i64 0, .slice none 0 0, .slice none 0 0, .slice none 0 0, .slice none 0 0] 52)) := hW
  have BW : Hid (Below w.heap.size w W) := by rw [hW]; exact ((Below.refl _ _).alloc (Nat.le_refl _) _).alloc (by simp) _
  have sW : W.heap.size ≤ w.heap.size + 1 + 1 ∧ w.heap.size + 1 + 1 ≤ W.heap.size := by rw [hW]; simp
  have X0 : Hid (W.heap[w.heap.size]? = some (.cells #[v0, .slice o1 D.nf c1, .slice o2 D.np c2, .slice o3 D.nv c3] 36 (0, 0))) := by rw [hW]; exact (Below.heap_alloc _ _ _ (by simp)).trans (heap_alloc_new w _)
  have Y0 : Hid (W.heap[w.heap.size + 1]? = some (.cells #[.int .i64 0, .int .i64 0, .slice none 0 0, .slice none 0 0, .slice none 0 0, .slice none 0 0] 52 (0, 0))) := by rw [hW]; have := heap_alloc_new (w.alloc (.cells #[v0, .slice o1 D.nf c1, .slice o2 D.np c2, .slice o3 D.nv c3] 36)) (.cells #[.int .i64 0, .int .i64 0, .slice none 0 0, .slice none 0 0, .slice none 0 0, .slice none 0 0] 52); rw [World.size_alloc] at this; exact this
  clear hW
  have HN : Hid (Calls Tryz.prog 69 #[.int .i64 num, .int .i64 kind, .slice none 0 0] W fun e w' => ∃ r k, e = .returned (.agg #[.int .i64 num, .int .i64 kind, .slice r 0 k, .slice none 0 0, .slice none 0 0, .slice none 0 0]) ∧ Row w' W.heap.size 9 1 eS (.slice r 0 k) [] ∧ Below W.heap.size W w') := newWant_any (fun _ => False) num kind (.slice none 0 0) [] W ⟨none, 0, rfl, ⟨Nat.zero_le _, Nat.le_refl 0, fun _ => rfl⟩, fun _ hi => absurd hi (Nat.not_lt_zero _)⟩ (fun _ h => h.elim) (by simp) (fun _ h => nomatch h)
  go_enter Tryz.func31, Tryz.ntmps31
  go_upto_region 1 with fail
  rw [← EW.out]
  go_upto_region 2 with (first
    | (go_at_call 69; refine (HN.out).mono ?_; rintro e wa ⟨r2, k2, rfl, hra, hba⟩))
  clear HN EW
  obtain ⟨gx, hgx⟩ : ∃ g, g = wa.heap.size := ⟨_, rfl⟩
  obtain ⟨U1, hU1⟩ : ∃ V, V = wa.alloc (.cells #[.int .i64 num, .int .i64 kind, .slice r2 0 k2, .slice none 0 0, .slice none 0 0, .slice none 0 0] 100) := ⟨_, rfl⟩
  have G1 : U1.heap[gx]? = some (.cells #[.int .i64 num, .int .i64 kind, .slice r2 0 k2, .slice none 0 0, .slice none 0 0, .slice none 0 0] 100 (0, 0)) := by rw [hgx, hU1]; exact heap_alloc_new wa _
  have ba1 : Hid (Below wa.heap.size wa U1) := by rw [hU1]; exact (Below.refl _ _).alloc (Nat.le_refl _) _
  have BU1 : Hid (Below W.heap.size W U1) := hba.trans (ba1.out.mono hba.size)
  have sU1 : U1.heap.size ≤ gx + 1 ∧ gx + 1 ≤ U1.heap.size := by rw [hU1, hgx]; simp
  have hgW : W.heap.size ≤ gx := by rw [hgx]; exact hba.size
  rw [← hU1, ← hgx]
  have RT1 : Hid (U1.ownsRow W.heap.size 9 1 (.slice r2 0 k2) 0 []) := row_stable ba1.out hra
  have RTL : Hid (∀ g, (Value.slice r2 0 k2).ownBlock = some g → g < gx) := fun g hg => by rw [hgx]; exact (World.ownsRow.lt hra g hg).2
  have hbf : Hid (BF (bfW (.int .i64 num) (.int .i64 kind) (.slice r2 0 k2))) := bfW_ok _ _ _
  have BX1 : Hid (Bx (bfW (.int .i64 num) (.int .i64 kind) (.slice r2 0 k2)) 100 gx (gx + 1) [] [] [] (.slice none 0 0) (.slice none 0 0) (.slice none 0 0) U1) := ⟨G1, World.ownsRow_nil _ _ _ _, World.ownsRow_nil _ _ _ _, World.ownsRow_nil _ _ _ _, (fun _ hk => nomatch hk), Nat.lt_succ_self _⟩
  clear hU1 hra hba hgx ba1 G1
  have bU1 : Hid (Below w.heap.size w U1) := BW.out.trans (BU1.out.mono BW.out.size)
  have hwg : w.heap.size ≤ gx := by omega
  go_wp2_with fail
  go_loopw [19] (fun i wr => ∃ (k : Nat) (vk : Value), k ≤ n ∧ i = .int .i64 k ∧ Hid (Bx (bfW (.int .i64 num) (.int .i64 kind) (.slice r2 0 k2)) 100 gx (gx + 1) (useL (l.take k)) [] [] vk (.slice none 0 0) (.slice none 0 0) wr) ∧ Hid (Stp gx 100 U1 wr)) (fun i _ => n - (intOf i).toNat)
  case atStart => exact ⟨0, _, Nat.zero_le _, rfl, BX1.out, Stp.refl _ _ _⟩
  case round =>
    obtain ⟨k, vk, hk, rfl, hX, hT⟩ := hrel
    have bwr : Hid (Below w.heap.size w wr) := bU1.out.trans (hT.out.low hbf.out BX1.out hwg)
    have hsz := hT.out.but.size
    by_cases hlt : k < n
    · obtain ⟨oa9, cp, ev, _, hc⟩ := HL.out wr bwr.out
      obtain ⟨b, off, eo, hbS, cc, hcell, hat⟩ := hc k (by rw [EN.out]; exact hlt)
      have eo1 : oa = some ⟨b, off, none⟩ := by injection ev with h1 _ _; exact h1.trans eo
      subst eo1
      clear ev eo hc
      rw [width_str] at hcell
      have e0 : wr.cell? ⟨b, off + k, none⟩ = some (cc 0) := by have := hcell 0 (by omega); simpa using this
      rw [at_str] at hat
      have htk : Hid (l.take (k + 1) = l.take k ++ [l[k]'(by rw [EN.out]; exact hlt)]) := by
        show _ = _
        rw [List.take_add_one, List.getElem?_eq_getElem (by rw [EN.out]; exact hlt)]; rfl
      have hzy := HZ.out _ (List.getElem_mem (show k < l.length by rw [EN.out]; exact hlt))
      obtain ⟨y, ey⟩ : ∃ y, l[k]'(by rw [EN.out]; exact hlt) = y := ⟨_, rfl⟩
      rw [ey] at hat htk hzy
      clear ey hcell
      rw [hat.1] at e0
      clear hat
      have HU : Hid (Calls Tryz.prog 70 #[.pointer (some ⟨gx, 0, none⟩), .string y, .int .i64 3, .int .i64 0] wr fun e w' => e = .returned (.tuple #[]) ∧ ∃ v', Bx (bfW (.int .i64 num) (.int .i64 kind) (.slice r2 0 k2)) 100 gx (gx + 1) (useL (l.take k) ++ [(y, 3, 0)]) [] [] v' (.slice none 0 0) (.slice none 0 0) w' ∧ Stp gx 100 wr w') := use_any hbf.out y 3 0 wr hX.out (by omega) (by rw [useL, List.length_map, List.length_take]; omega) hzy
      go_wp2_with (first
        | (go_at_call 70; refine (HU.out).mono ?_; rintro e w9 ⟨rfl, v9, hX9, hT9⟩))
      go_roundw
      case rel => exact ⟨k + 1, v9, by omega, by go_num, by show Bx _ _ _ _ _ _ _ _ _ _ _; rw [htk.out, useL_snoc]; exact hX9, hT.out.trans hT9⟩
      case measure => simp [intOf]; omega
    · have hkn : k = n := by omega
      subst hkn
      have ETL : Hid (l.take k = l) := List.take_of_length_le (by rw [EN.out]; exact Nat.le_refl _)
      rw [ETL.out] at hX
      have XW : Hid (wr.heap[w.heap.size]? = some (.cells #[v0, .slice o1 D.nf c1, .slice o2 D.np c2, .slice o3 D.nv c3] 36 (0, 0))) := (hT.out.but.block w.heap.size (by omega) (fun ho => by have := BX1.out.low hbf.out _ ho; omega)).trans ((BU1.out.block w.heap.size (by omega)).trans X0.out)
      have y3 := (cell_row XW.out 3 (.slice o3 D.nv c3) rfl).1
      go_wp2_with fail
      clear y3
      obtain ⟨wr0, hw0⟩ : ∃ V, V = wr := ⟨_, rfl⟩
      rw [← hw0] at hX hT bwr hsz XW ⊢
      clear hw0 wr
      go_loopw [29] (fun i wz => ∃ (q : Nat) (vs : Value), q ≤ D.nv ∧ i = .int .i64 q ∧ Hid (Bx (bfW (.int .i64 num) (.int .i64 kind) (.slice r2 0 k2)) 100 gx (gx + 1) (useL l) [] (shI D l q) vk (.slice none 0 0) vs wz) ∧ Hid (Stp gx 100 wr0 wz)) (fun i _ => D.nv - (intOf i).toNat)
      case atStart => exact ⟨0, _, Nat.zero_le _, rfl, hX.out, Stp.refl _ _ _⟩
      case round =>
        obtain ⟨q, vs, hq, rfl, hXz, hTz⟩ := hrel
        have TUZ : Hid (Stp gx 100 U1 wr) := hT.out.trans hTz.out
        have bwz : Hid (Below w.heap.size w wr) := bU1.out.trans (TUZ.out.low hbf.out BX1.out hwg)
        have hszz := TUZ.out.but.size
        by_cases hqt : q < D.nv
        · obtain ⟨oa9, cp, ev, _, hc⟩ := (H.out wr bwz.out).v
          obtain ⟨b, off, eo, hbB, hcell⟩ := hc q hqt
          have eo1 : o3 = some ⟨b, off, none⟩ := by injection ev with h1 _ _; exact h1.trans eo
          subst eo1
          clear ev eo hc
          have e0 : wr.cell? ⟨b, off + q * 4, none⟩ = some (.string (D.fv q).1) := hcell 0 (by omega)
          have e1 : wr.cell? ⟨b, off + q * 4 + 1, none⟩ = some (.string (D.fv q).2.1) := hcell 1 (by omega)
          have e2 : wr.cell? ⟨b, off + q * 4 + 2, none⟩ = some (.string (D.fv q).2.2.1) := hcell 2 (by omega)
          have e3 : wr.cell? ⟨b, off + q * 4 + 3, none⟩ = some (.string (D.fv q).2.2.2) := hcell 3 (by omega)
          clear hcell
          obtain ⟨U, hU⟩ : ∃ V, V = wr.alloc (.cells #[.string (D.fv q).1, .string (D.fv q).2.1, .string (D.fv q).2.2.1, .string (D.fv q).2.2.2] 85) := ⟨_, rfl⟩
          have EU : Hid (U = wr.alloc (.cells #[.string (D.fv q).1, .string (D.fv q).2.1, .string (D.fv q).2.2.1, .string (D.fv q).2.2.2] 85)) := hU
          have BU : Hid (Below wr.heap.size wr U) := by rw [hU]; exact (Below.refl _ _).alloc (Nat.le_refl _) _
          have XP : U.heap[wr.heap.size]? = some (.cells #[.string (D.fv q).1, .string (D.fv q).2.1, .string (D.fv q).2.2.1, .string (D.fv q).2.2.2] 85 (0, 0)) := by rw [hU]; exact heap_alloc_new wr _
          have sU : U.heap.size ≤ wr.heap.size + 1 ∧ wr.heap.size + 1 ≤ U.heap.size := by rw [hU]; simp
          clear hU
          have hXU : Hid (Bx (bfW (.int .i64 num) (.int .i64 kind) (.slice r2 0 k2)) 100 gx (gx + 1) (useL l) [] (shI D l q) vk (.slice none 0 0) vs U) := hXz.out.below hbf.out BU.out
          have hgz := hXz.out.gxlt
          have hTU : Hid (Stp gx 100 wr0 U) := hTz.out.trans (Stp.of_below BU.out hgz)
          obtain ⟨z0, _⟩ := cell_row XP 0 (.string (D.fv q).1) rfl
          obtain ⟨z1, _⟩ := cell_row XP 1 (.string (D.fv q).2.1) rfl
          obtain ⟨z2, _⟩ := cell_row XP 2 (.string (D.fv q).2.2.1) rfl
          obtain ⟨z3, _⟩ := cell_row XP 3 (.string (D.fv q).2.2.2) rfl
          have HAt : Hid (Calls Tryz.prog 71 #[.agg #[.string (D.fv q).1, .string (D.fv q).2.1, .string (D.fv q).2.2.1, .string (D.fv q).2.2.2], .slice oa k cap] U fun e w' => e = .returned (.bool (atB (D.fv q) l)) ∧ Below U.heap.size U w') := by
            have h1 := HL.out U (bwz.out.trans (BU.out.mono bwz.out.size))
            rw [← EN.out] at h1 ⊢
            exact atAny_any S (D.fv q) l oa cap U h1 (fun b hb => by have h2 := hS b hb; have h3 := bwz.out.size; omega)
          have hvz : (D.fv q).1.size ≤ 1048576 := by have := name_size (HV.out.2.2.2 q hqt).1; omega
          have hsl : (shI D l q).length ≤ q := shI_len D l q
          cases hE : atB (D.fv q) l
          · rw [hE] at HAt
            go_upto_region 10 with fail
            rw [← EU.out]
            clear e0 e1 e2 e3
            go_wp2_with (first
              | (go_at_call 71; refine (HAt.out).mono ?_; rintro e w8 ⟨rfl, hb8⟩; have B8 : Hid (Below U.heap.size U w8) := hb8; have hX8 : Hid (Bx (bfW (.int .i64 num) (.int .i64 kind) (.slice r2 0 k2)) 100 gx (gx + 1) (useL l) [] (shI D l q) vk (.slice none 0 0) vs w8) := hXU.out.below hbf.out B8.out; have hT8 : Hid (Stp gx 100 wr0 w8) := hTU.out.trans (Stp.of_below B8.out (by omega)); have s8 := hb8.size))
            go_roundw
            case rel => exact ⟨q + 1, vs, by omega, by go_num, by show Bx _ _ _ _ _ _ _ _ _ _ _; rw [shI_no hE]; exact hX8.out, hT8.out⟩
            case measure => simp [intOf]; omega
          · rw [hE] at HAt
            go_upto_region 10 with fail
            rw [← EU.out]
            clear e0 e1 e2 e3
            go_wp2_with (first
              | (go_at_call 71; refine (HAt.out).mono ?_; rintro e w8 ⟨rfl, hb8⟩; have B8 : Hid (Below U.heap.size U w8) := hb8; have hX8 : Hid (Bx (bfW (.int .i64 num) (.int .i64 kind) (.slice r2 0 k2)) 100 gx (gx + 1) (useL l) [] (shI D l q) vk (.slice none 0 0) vs w8) := hXU.out.below hbf.out B8.out; have hT8 : Hid (Stp gx 100 wr0 w8) := hTU.out.trans (Stp.of_below B8.out (by omega)); have s8 := hb8.size; have zz := cell_keep B8.out z0)
              | (go_at_call 72; refine (shut_any hbf.out (D.fv q).1 w8 hX8.out (by omega) (by omega) hvz).mono ?_; rintro e w9 ⟨rfl, v9, hX9, hT9⟩))
            go_roundw
            case rel => exact ⟨q + 1, v9, by omega, by go_num, by show Bx _ _ _ _ _ _ _ _ _ _ _; rw [shI_yes hE]; exact hX9, hT8.out.trans hT9⟩
            case measure => simp [intOf]; omega
        · have hqn : q = D.nv := by omega
          rw [hqn] at hXz
          clear hqn
          obtain ⟨r3, k3, rfl⟩ := ownsRow_shape hXz.out.ru
          obtain ⟨r5, k5, rfl⟩ := ownsRow_shape hXz.out.rs
          have hul : (useL l).length = k := by rw [useL, List.length_map, EN.out]
          rw [hul] at hXz
          clear hul
          obtain ⟨d0, _⟩ := cell_row hXz.out.box 0 (.int .i64 num) rfl
          obtain ⟨d1, _⟩ := cell_row hXz.out.box 1 (.int .i64 kind) rfl
          obtain ⟨d2, _⟩ := cell_row hXz.out.box 2 (.slice r2 0 k2) rfl
          obtain ⟨d3, _⟩ := cell_row hXz.out.box 3 (.slice r3 k k3) rfl
          obtain ⟨d4, _⟩ := cell_row hXz.out.box 4 (.slice none 0 0) rfl
          obtain ⟨d5, _⟩ := cell_row hXz.out.box 5 (.slice r5 (shI D l D.nv).length k5) rfl
          have YZ : wr.heap[w.heap.size + 1]? = some (.cells #[.int .i64 0, .int .i64 0, .slice none 0 0, .slice none 0 0, .slice none 0 0, .slice none 0 0] 52 (0, 0)) := (TUZ.out.but.block (w.heap.size + 1) (by omega) (fun ho => by have := BX1.out.low hbf.out _ ho; omega)).trans ((BU1.out.block (w.heap.size + 1) (by omega)).trans Y0.out)
          obtain ⟨t0', f0'⟩ := cell_row YZ 0 (.int .i64 0) rfl
          obtain ⟨t1', f1'⟩ := cell_row YZ 1 (.int .i64 0) rfl
          obtain ⟨t2', f2'⟩ := cell_row YZ 2 (.slice none 0 0) rfl
          obtain ⟨t3', f3'⟩ := cell_row YZ 3 (.slice none 0 0) rfl
          obtain ⟨t4', f4'⟩ := cell_row YZ 4 (.slice none 0 0) rfl
          obtain ⟨t5', f5'⟩ := cell_row YZ 5 (.slice none 0 0) rfl
          obtain ⟨F0, F1, F2, F3⟩ := ret_6 YZ (.int .i64 num) (.int .i64 kind) (.slice r2 0 k2) (.slice r3 k k3) (.slice none 0 0) (.slice r5 (shI D l D.nv).length k5)
          go_wp2_with fail
          obtain ⟨FW, hF⟩ : ∃ u, u = ((((((wr.setCell ⟨w.heap.size + 1, 0, none⟩ (.int .i64 num)).setCell ⟨w.heap.size + 1, 1, none⟩ (.int .i64 kind)).setCell ⟨w.heap.size + 1, 2, none⟩ (.slice r2 0 k2)).setCell ⟨w.heap.size + 1, 3, none⟩ (.slice r3 k k3)).setCell ⟨w.heap.size + 1, 4, none⟩ (.slice none 0 0)).setCell ⟨w.heap.size + 1, 5, none⟩ (.slice r5 (shI D l D.nv).length k5)) := ⟨_, rfl⟩
          rw [← hF]
          rw [← hF] at F0 F1 F2 F3
          have g0 := (cell_row F0 0 (.int .i64 num) rfl).1
          have g1 := (cell_row F0 1 (.int .i64 kind) rfl).1
          have g2 := (cell_row F0 2 (.slice r2 0 k2) rfl).1
          have g3 := (cell_row F0 3 (.slice r3 k k3) rfl).1
          have g4 := (cell_row F0 4 (.slice none 0 0) rfl).1
          have g5 := (cell_row F0 5 (.slice r5 (shI D l D.nv).length k5) rfl).1
          have BF9 : Below w.heap.size w FW := bwz.out.trans (F3.mono (by omega))
          have K2 : FW.ownsRow w.heap.size 9 1 (.slice r2 0 k2) 0 [] := Go.Joins.ownsRow_le (ownsRow_kept RT1.out (fun g hg => (F1 g (by have := (World.ownsRow.lt RT1.out g hg).1; omega)).trans (TUZ.out.but.block g (World.ownsRow.lt RT1.out g hg).2 (fun ho => by have h1 := BX1.out.low hbf.out _ ho; have h2 := RTL.out g hg; omega)))) (by omega)
          have K3 : FW.ownsRow w.heap.size 54 3 (.slice r3 k k3) k (enc 3 eU (useL l)) := by
            have h1 := ownsRow_kept (w' := FW) hXz.out.ru (fun g hg => F1 g (by have := (World.ownsRow.lt hXz.out.ru g hg).1; omega))
            rw [show (useL l).length = k by rw [useL, List.length_map, EN.out]] at h1
            exact Go.Joins.ownsRow_le h1 (by omega)
          have K5 : FW.ownsRow w.heap.size 9 1 (.slice r5 (shI D l D.nv).length k5) (shI D l D.nv).length (enc 1 eS (shI D l D.nv)) := Go.Joins.ownsRow_le (ownsRow_kept (w' := FW) hXz.out.rs (fun g hg => F1 g (by have := (World.ownsRow.lt hXz.out.rs g hg).1; omega))) (by omega)
          exact bodyPost_ret (v := .agg #[.int .i64 num, .int .i64 kind, .slice r2 0 k2, .slice r3 k k3, .slice none 0 0, .slice r5 (shI D l D.nv).length k5]) (by simp [results, Tryz.results31, go_sem, g0, g1, g2, g3, g4, g5]) rfl ⟨r2, k2, r3, k3, r5, k5, rfl, K2, K3, K5, BF9⟩

end Go.Proofs.YtffmfomonmhkcaaGreat

/-
  A contract of the program's test whether places are a plant's.
-/
namespace Go.Proofs.YtffmfomonmhkcaaGreat
open Go.RowKit

/-- A truth is answered: that of P. -/
def IsB (P : Prop) (e : Ending) : Prop := ∃ b, e = .returned (.bool b) ∧ (b = true ↔ P)

set_option maxRecDepth 100000 in
set_option maxHeartbeats 8000000 in
theorem listP_any (B : Nat) (S : Nat → Prop) (v0 v1 v2 v3 : Value) (D : PD) (l : List ByteArray) (v : Value) (w : World) (h : PAt B w v0 v1 v2 v3 D) (hB : B ≤ w.heap.size) (hl : AtL S w l v) (hS : ∀ b, S b → b < w.heap.size) :
    Calls Tryz.prog 59 #[v, .int .i64 8, .func (.func 60) #[] #[], .func (.func 61) #[.agg #[v0, v1, v2, v3]] #[]] w fun e w' => IsB (l.length ≤ 8 ∧ ∀ i, i < l.length → 0 ≤ placeI D.np D.fp (nthB l i) ∧ (0 < i → ltB (nthB l (i - 1)) (nthB l i) = true)) e ∧ Below w.heap.size w w' := by
  have H : Hid (∀ w', Below w.heap.size w w' → Lst B w' v2 D.np 3 (cP D.fp)) := fun w' hb => (h.kept hb hB).p
  have HL : Hid (∀ w', Below w.heap.size w w' → Lst w.heap.size w' v l.length 1 (cS (nthB l))) := fun w' hb => (lst_at hl hS).kept hb (Nat.le_refl _)
  obtain ⟨oa, cap, rfl, _⟩ := id hl
  clear h hl
  obtain ⟨n, en⟩ : ∃ n, l.length = n := ⟨_, rfl⟩
  rw [en] at HL
  rw [en]
  by_cases h8 : n ≤ 8
  · have dl : decide (8 < (n : Int)) = false := by simp; omega
    go_enter Tryz.func59, Tryz.ntmps59
    go_wp2_with fail
    go_loopw [17] (fun i wr => ∃ k : Nat, k ≤ n ∧ i = .int .i64 k ∧ Hid (∀ j, j < k → 0 ≤ placeI D.np D.fp (nthB l j)) ∧ Hid (Below w.heap.size w wr)) (fun i _ => n - (intOf i).toNat)
    case atStart => exact ⟨0, Nat.zero_le _, rfl, fun _ h => by omega, Below.refl _ _⟩
    case round =>
      obtain ⟨k, hk, rfl, hall, hbel⟩ := hrel
      have hs := hbel.out.size
      by_cases hlt : k < n
      · obtain ⟨oa', cap', ev, _, hc⟩ := HL.out wr hbel.out
        obtain ⟨b, off, eo, hb, hcell⟩ := hc k hlt
        have eo1 : oa = some ⟨b, off, none⟩ := by injection ev with h1 _ _; exact h1.trans eo
        subst eo1
        clear ev eo hc
        have e0 : wr.cell? ⟨b, off + k, none⟩ = some (.string (nthB l k)) := by have := hcell 0 (by omega); simpa [cS] using this
        clear hcell
        have HP : Hid (Calls Tryz.prog 61 #[.agg #[v0, v1, v2, v3], .string (nthB l k)] wr fun e w' => e = .returned (.bool (decide (0 ≤ placeI D.np D.fp (nthB l k)))) ∧ Below wr.heap.size wr w') := hasPlace_any B v0 v1 v2 v3 D.np D.fp (nthB l k) wr (H.out wr hbel.out) (by omega)
        have HB1 : Hid (Below w.heap.size w wr) := hbel
        by_cases hp : 0 ≤ placeI D.np D.fp (nthB l k)
        · rw [show decide (0 ≤ placeI D.np D.fp (nthB l k)) = true by simpa using hp] at HP
          have HP0 : Hid (0 ≤ placeI D.np D.fp (nthB l k)) := hp
          clear hp
          go_wp2_with (go_at_call 61; refine (HP.out).mono ?_; rintro e w1 ⟨rfl, hb1⟩)
          go_roundw
          case rel => exact ⟨k + 1, by omega, by go_num, fun j hj => by
            by_cases e : j = k
            · subst e; exact HP0.out
            · exact hall.out j (by omega), HB1.out.trans (hb1.mono HB1.out.size)⟩
          case measure => simp [intOf]; omega
        · rw [show decide (0 ≤ placeI D.np D.fp (nthB l k)) = false by simpa using hp] at HP
          have HP0 : Hid (¬ 0 ≤ placeI D.np D.fp (nthB l k)) := hp
          clear hp
          go_wp2_with (go_at_call 61; refine (HP.out).mono ?_; rintro e w1 ⟨rfl, hb1⟩)
          go_ret
          exact ⟨⟨_, rfl, ⟨fun h => absurd h (by decide), fun h => absurd (h.2 k hlt).1 (by have := HP0.out; omega)⟩⟩, HB1.out.trans (hb1.mono HB1.out.size)⟩
      · have hkn : k = n := by omega
        subst hkn
        have HA : Hid (Calls Tryz.prog 84 #[.slice oa k cap, .func (.func 60) #[] #[]] wr fun e w' => ∃ b, e = .returned (.bool b) ∧ (b = true ↔ ∀ i, 0 < i → i < k → ltB (nthB l (i - 1)) (nthB l i) = true) ∧ Below wr.heap.size wr w') := ascS_any w.heap.size _ k (nthB l) wr (HL.out wr hbel.out) hs
        go_wp2_with (go_at_call 84; refine (HA.out).mono ?_; rintro e w1 ⟨b, rfl, hb, hb1⟩)
        go_ret
        exact ⟨⟨_, rfl, hb.trans ⟨fun h => ⟨h8, fun i hi => ⟨hall.out i hi, fun h0 => h i h0 hi⟩⟩, fun h i h0 hi => (h.2 i hi).2 h0⟩⟩, hbel.out.trans (hb1.mono hs)⟩
  · have dl : decide (8 < (n : Int)) = true := by simp; omega
    go_enter Tryz.func59, Tryz.ntmps59
    go_wp2_with fail
    go_ret
    exact ⟨⟨_, rfl, ⟨fun h => absurd h (by decide), fun h => absurd h.1 h8⟩⟩, Below.refl _ _⟩

set_option maxRecDepth 100000 in
set_option maxHeartbeats 8000000 in
theorem itsI_any (B : Nat) (S : Nat → Prop) (v0 v1 v2 v3 : Value) (D : PD) (l : List ByteArray) (v : Value) (w : World) (h : PAt B w v0 v1 v2 v3 D) (hB : B ≤ w.heap.size) (hl : AtL S w l v) (hS : ∀ b, S b → b < w.heap.size) :
    Calls Tryz.prog 29 #[.agg #[v0, v1, v2, v3], v] w fun e w' => IsB (itsP D l) e ∧ Below w.heap.size w w' := by
  have hmf : ∀ (fn : Fn) (first cap : Array Value) (w : World), (Instr.makeFunc fn first cap).run Tryz.prog w = .ok (.func fn first cap) w := fun _ _ _ _ => rfl
  obtain ⟨W, hW⟩ : ∃ W, W = w.alloc (.cells #[v0, v1, v2, v3] 36) := ⟨_, rfl⟩
  have EW : Hid (W = w.alloc (.cells #[v0, v1, v2, v3] 36)) := hW
  have BW : Hid (Below w.heap.size w W) := by rw [hW]; exact (Below.refl _ _).alloc (Nat.le_refl _) _
  have X0 : W.heap[w.heap.size]? = some (.cells #[v0, v1, v2, v3] 36 (0, 0)) := by rw [hW]; exact heap_alloc_new w _
  clear hW
  obtain ⟨y0, _⟩ := cell_row X0 0 (v0) rfl
  obtain ⟨y1, _⟩ := cell_row X0 1 (v1) rfl
  obtain ⟨y2, _⟩ := cell_row X0 2 (v2) rfl
  obtain ⟨y3, _⟩ := cell_row X0 3 (v3) rfl
  have HC : Hid _ := listP_any B S v0 v1 v2 v3 D l v W (h.kept BW.out hB) (Nat.le_trans hB BW.out.size) (hl.same (Same.of_below BW.out hS)) (fun b hb => Nat.lt_of_lt_of_le (hS b hb) BW.out.size)
  obtain ⟨oa, cap, rfl, _⟩ := id hl
  clear h hl X0
  go_enter Tryz.func29, Tryz.ntmps29
  by_cases h1 : 1 ≤ l.length
  · have g1 : decide ((1 : Int) ≤ (l.length : Int)) = true := by simp; omega
    have H1 : Hid (1 ≤ l.length) := h1
    clear h1
    go_upto_region 1 with fail
    rw [← EW.out]
    go_wp2_with (go_at_call 59; refine Calls.mono HC.out ?_; rintro e w1 ⟨⟨b, rfl, hb⟩, hb1⟩)
    have hf : b = true ↔ itsP D l := hb.trans ⟨fun h => ⟨H1.out, h⟩, fun h => h.2⟩
    go_ret
    exact ⟨⟨_, rfl, hf⟩, BW.out.trans (hb1.mono BW.out.size)⟩
  · have g1 : decide ((1 : Int) ≤ (l.length : Int)) = false := by simp; omega
    have H1 : Hid (¬ 1 ≤ l.length) := h1
    clear h1
    go_upto_region 1 with fail
    rw [← EW.out]
    go_wp2_with fail
    go_ret
    exact ⟨⟨_, rfl, ⟨fun h => absurd h (by decide), fun h => absurd h.1 H1.out⟩⟩, BW.out⟩

end Go.Proofs.YtffmfomonmhkcaaGreat
