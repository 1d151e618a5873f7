/-
  Several texts in one.
-/
import Derived.Test.YtigkkelaadbhcabGreatM34
import Derived.Test.YtigkkelaadbhcabGreatM14
namespace Go.Proofs.YtigkkelaadbhcabGreat
open Go.RowKit Go.Sort
def gosL (l : List DRunBatch) : List ByteArray := (l.filter fun b => decide (0 ≤ b.2.2.2.2.1)).map (·.1)
theorem gos_take {l : List DRunBatch} {k : Nat} (h : k < l.length) : gosL (l.take (k + 1)) = gosL (l.take k) ++ (if 0 ≤ l[k].2.2.2.2.1 then [l[k].1] else []) := by
  unfold gosL
  rw [List.take_add_one, List.getElem?_eq_getElem h, List.filter_append, List.map_append]
  congr 1
  by_cases c : 0 ≤ l[k].2.2.2.2.1
  · rw [if_pos c]; simp [c]
  · rw [if_neg c]; simp [c]
theorem gos_len (l : List DRunBatch) : (gosL l).length ≤ l.length := by
  unfold gosL
  rw [List.length_map]
  exact List.length_filter_le _ _
theorem gos_mem {l : List DRunBatch} {y : ByteArray} (h : y ∈ gosL l) : ∃ b ∈ l, b.1 = y := by
  unfold gosL at h
  obtain ⟨b, hb, e⟩ := List.mem_map.1 h
  exact ⟨b, (List.mem_filter.1 hb).1, e⟩
noncomputable def gosH (now last : Int) (T : List ByteArray) (Bs : List DShareBatch) (Ba : List DRunBatch) (Do : List DRunDone) : List ByteArray := if houB now last T Bs Ba Do = true then gosL Ba else []
theorem gosH_no {now last : Int} {T : List ByteArray} {Bs : List DShareBatch} {Ba : List DRunBatch} {Do : List DRunDone} (h : houB now last T Bs Ba Do = false) : gosH now last T Bs Ba Do = [] := by unfold gosH; rw [h]; rfl
theorem gosH_yes {now last : Int} {T : List ByteArray} {Bs : List DShareBatch} {Ba : List DRunBatch} {Do : List DRunDone} (h : houB now last T Bs Ba Do = true) : gosH now last T Bs Ba Do = gosL Ba := by unfold gosH; rw [h]; rfl
set_option maxRecDepth 100000 in
set_option maxHeartbeats 8000000 in
theorem goesX_any (S : Nat → Prop) (now last : Int) (o2 o3 o4 o5 : Option Addr) (n2 k2 n3 k3 n4 k4 n5 k5 : Nat) (T : List ByteArray) (Bs : List DShareBatch) (Ba : List DRunBatch) (Do : List DRunDone) (w : World) (hT : AtL S w T (.slice o2 n2 k2)) (hB : AtL S w Bs (.slice o3 n3 k3)) (h : AtL S w Ba (.slice o4 n4 k4)) (hD : AtL S w Do (.slice o5 n5 k5)) (hS : ∀ b, S b → b < w.heap.size) (hbn : Ba.length ≤ 1048576) :
    Calls Tryz.prog 5 #[.agg #[.int .i64 now, .int .i64 last, .slice o2 n2 k2, .slice o3 n3 k3, .slice o4 n4 k4, .slice o5 n5 k5]] w fun e w' => ∃ q, e = .returned q ∧ Row w' w.heap.size 9 1 eS q (gosH now last T Bs Ba Do) ∧ Below w.heap.size w w' := by
  have en4 : Ba.length = n4 := by obtain ⟨_, _, e, _⟩ := h; cases e; rfl
  have hmx : n4 ≤ 1048576 := by omega
  have EN : Hid (Ba.length ≤ n4 ∧ n4 ≤ Ba.length) := ⟨by omega, by omega⟩
  have H2 : Hid _ := hT.ups hS
  have H3 : Hid _ := hB.ups hS
  have H4 : Hid _ := h.ups hS
  have H5 : Hid _ := hD.ups hS
  have HS : Hid _ := lt_up hS
  obtain ⟨W, EW, BW, RW, sW⟩ := box_new w #[.int .i64 now, .int .i64 last, .slice o2 n2 k2, .slice o3 n3 k3, .slice o4 n4 k4, .slice o5 n5 k5] 38
  have BOX : Hid (∀ u, Below W.heap.size W u → u.heap[w.heap.size]? = some (.cells #[.int .i64 now, .int .i64 last, .slice o2 n2 k2, .slice o3 n3 k3, .slice o4 n4 k4, .slice o5 n5 k5] 38 (0, 0)) ∧ Below w.heap.size w u) := fun u hu => ⟨(hu.block _ (by omega)).trans RW.out, BW.out.trans (hu.mono (by omega))⟩
  clear h hT hB hD hS en4 hbn
  have h0 := fun u (hu : Below W.heap.size W u) => cell_row (BOX.out u hu).1
  have Y : Hid (∀ u, Below W.heap.size W u → u.cell? ⟨w.heap.size, 0, none⟩ = some (.int .i64 now) ∧ u.cell? ⟨w.heap.size, 1, none⟩ = some (.int .i64 last) ∧ u.cell? ⟨w.heap.size, 2, none⟩ = some (.slice o2 n2 k2) ∧ u.cell? ⟨w.heap.size, 3, none⟩ = some (.slice o3 n3 k3) ∧ u.cell? ⟨w.heap.size, 4, none⟩ = some (.slice o4 n4 k4) ∧ u.cell? ⟨w.heap.size, 5, none⟩ = some (.slice o5 n5 k5)) := fun u hu =>
    ⟨(h0 u hu 0 _ rfl).1, (h0 u hu 1 _ rfl).1, (h0 u hu 2 _ rfl).1, (h0 u hu 3 _ rfl).1, (h0 u hu 4 _ rfl).1, (h0 u hu 5 _ rfl).1⟩
  clear h0
  have CO : Hid (∀ u, Below w.heap.size w u → ∀ R, houB now last T Bs Ba Do = R → Calls Tryz.prog 16 #[.agg #[.int .i64 now, .int .i64 last, .slice o2 n2 k2, .slice o3 n3 k3, .slice o4 n4 k4, .slice o5 n5 k5]] u fun e w' => e = .returned (.bool R) ∧ Below u.heap.size u w') := fun u hu R hR => by
    subst hR
    exact houX_any S now last o2 o3 o4 o5 n2 k2 n3 k3 n4 k4 n5 k5 T Bs Ba Do u (H2.out u hu) (H3.out u hu) (H4.out u hu) (H5.out u hu) (HS.out u hu)
  have NIL : Hid (Row (W.alloc (.cells #[] 9)) W.heap.size 9 1 eS (.slice (some ⟨W.heap.size, 0, none⟩) 0 0) [] ∧ Below W.heap.size W (W.alloc (.cells #[] 9))) := ⟨own_built (c := #[]) (Nat.le_refl _) (by unfold maxLen; omega) rfl, (Below.refl _ _).alloc (Nat.le_refl _) _⟩
  cases c : houB now last T Bs Ba Do
  · have er : Hid (gosH now last T Bs Ba Do = []) := gosH_no c
    have C0 := CO.out _ (BOX.out _ NIL.out.2).2 _ c
    obtain ⟨y0, y1, y2, y3, y4, y5⟩ := Y.out _ NIL.out.2
    have RN : Hid (Row (W.alloc (.cells #[] 9)) w.heap.size 9 1 eS (.slice (some ⟨W.heap.size, 0, none⟩) 0 0) []) := Row.low NIL.out.1 (by omega)
    have BN : Hid (Below w.heap.size w (W.alloc (.cells #[] 9))) := (BOX.out _ NIL.out.2).2
    have CN : Hid _ := C0
    obtain ⟨Z, hZ⟩ : ∃ Z, Z = W.alloc (.cells #[] 9) := ⟨_, rfl⟩
    have EZ : Hid (Z = W.alloc (.cells #[] 9)) := hZ
    rw [← hZ] at RN BN CN y0 y1 y2 y3 y4 y5
    clear c hZ C0
    rw [er.out]
    go_enter Tryz.func5, Tryz.ntmps5
    go_upto_region 1 with fail
    rw [← EW.out]
    go_upto_region 2 with fail
    rw [← EZ.out]
    by_cases hn : 0 < n4
    case neg =>
      go_wp2_with fail
      go_loopw [3, 4] (fun v i wr => v = .slice (some ⟨W.heap.size, 0, none⟩) 0 0 ∧ i = .int .i64 0 ∧ Hid (wr = Z)) (fun _ _ _ => 0)
      case atStart => exact ⟨rfl, rfl, rfl⟩
      case round =>
        obtain ⟨rfl, rfl, e⟩ := hrel
        obtain rfl := e.out
        go_wp2_with fail
        go_ret
        exact ⟨_, rfl, RN.out, BN.out⟩
    go_wp2_with fail
    go_loopw [3, 4] (fun v i wr => v = .slice (some ⟨W.heap.size, 0, none⟩) 0 0 ∧ i = .int .i64 0 ∧ Hid (wr = Z)) (fun _ _ _ => 0)
    case atStart => exact ⟨rfl, rfl, rfl⟩
    case round =>
      obtain ⟨rfl, rfl, e⟩ := hrel
      obtain rfl := e.out
      go_wp2_with fail
      refine Calls.mono CN.out ?_; rintro e w2 ⟨rfl, hb2⟩
      have B2 : Hid (Below w.heap.size w w2) := BN.out.trans (hb2.mono BN.out.size)
      have R2 : Hid (Row w2 w.heap.size 9 1 eS (.slice (some ⟨W.heap.size, 0, none⟩) 0 0) []) := Row.below RN.out hb2
      clear hb2 CN y0 y1 y2 y3 y4 y5
      go_wp2_with fail
      go_ret
      exact ⟨_, rfl, R2.out, B2.out⟩
  have er : Hid (gosH now last T Bs Ba Do = gosL Ba) := gosH_yes c
  have CK : Hid (∀ u, Below w.heap.size w u → Calls Tryz.prog 16 #[.agg #[.int .i64 now, .int .i64 last, .slice o2 n2 k2, .slice o3 n3 k3, .slice o4 n4 k4, .slice o5 n5 k5]] u fun e w' => e = .returned (.bool true) ∧ Below u.heap.size u w') := fun u hu => CO.out u hu true c
  clear c CO
  rw [er.out]
  go_enter Tryz.func5, Tryz.ntmps5
  go_upto_region 1 with fail
  rw [← EW.out]
  go_wp2_with fail
  go_loopw [3, 4] (fun v i wr => ∃ (k : Nat) (L : List ByteArray) (og : Option Addr) (kg ng : Nat), k ≤ n4 ∧ v = .slice og ng kg ∧ i = .int .i64 k ∧ ng ≤ k ∧ Hid (L.length = ng) ∧ Hid (L = gosL (Ba.take k)) ∧ Hid (Row wr W.heap.size 9 1 eS (.slice og ng kg) L) ∧ Hid (Below W.heap.size W wr)) (fun _ i _ => n4 - (intOf i).toNat)
  case atStart => exact ⟨0, [], some ⟨W.heap.size, 0, none⟩, 0, 0, Nat.zero_le _, rfl, rfl, Nat.le_refl _, rfl, rfl, NIL.out.1, NIL.out.2⟩
  case round =>
    obtain ⟨k, L, og, kg, ng, hk, rfl, rfl, hng, hlen, hL, hrow, hbel⟩ := hrel
    have hs := hbel.out.size
    have BWR : Hid (Below w.heap.size w wr) := (BOX.out wr hbel.out).2
    obtain ⟨y0, y1, y2, y3, y4, y5⟩ := Y.out wr hbel.out
    by_cases hlt : k < n4
    case neg =>
      have FIN : Hid (Row wr w.heap.size 9 1 eS (.slice og ng kg) (gosL Ba)) := by
        have h1 : L = gosL Ba := by rw [hL.out, List.take_of_length_le (by have := EN.out; omega)]
        rw [← h1]
        exact Row.low hrow.out (by omega)
      go_wp2_with fail
      go_ret
      exact ⟨_, rfl, FIN.out, BWR.out⟩
    have hks : k < Ba.length := by have := EN.out; omega
    go_wp2_with fail
    refine (CK.out wr BWR.out).mono ?_; rintro e w2 ⟨rfl, hb2⟩
    have B2 : Hid (Below W.heap.size W w2) := hbel.out.trans (hb2.mono hs)
    have BW2 : Hid (Below w.heap.size w w2) := (BOX.out w2 B2.out).2
    have R2 : Hid (Row w2 W.heap.size 9 1 eS (.slice og ng kg) L) := Row.below hrow.out hb2
    have s2 := B2.out.size
    clear hb2 y0 y1 y2 y3 y4 y5
    obtain ⟨y0, y1, y2, y3, y4, y5⟩ := Y.out w2 B2.out
    obtain ⟨b, off, p1, p2, m1, j1, m2, j2, rfl, hbS, e0, e1, e2, e3, e4, e5, z0, _, _⟩ := rb_at (H4.out w2 BW2.out) k hks
    clear e1 e2 e3 e5 hbS
    obtain ⟨f, ef⟩ : ∃ f, Ba[k] = f := ⟨_, rfl⟩
    have tk := gos_take hks
    rw [← hL.out] at tk
    rw [ef] at e0 e4 z0 tk
    obtain ⟨nm, r, sl, at_, si, st⟩ := f
    simp only at e0 e4 z0 tk
    have TK : Hid (gosL (Ba.take (k + 1)) = L ++ (if 0 ≤ si then [nm] else [])) := tk
    clear tk ef z0
    by_cases hsi : 0 ≤ si
    case neg =>
      have EL : Hid (L = gosL (Ba.take (k + 1))) := by have := TK.out; rw [if_neg hsi, List.append_nil] at this; exact this.symm
      go_wp2_with fail
      go_roundw
      case rel => exact ⟨k + 1, L, og, kg, ng, by omega, rfl, by go_num, by omega, hlen.out, EL.out, R2.out, B2.out⟩
      case measure => simp [intOf]; omega
    have EL : Hid (L ++ [nm] = gosL (Ba.take (k + 1))) := by have := TK.out; rw [if_pos hsi] at this; exact this.symm
    have hlow : Hid (∀ qq, (Value.slice og ng kg).ownBlock = some qq → W.heap.size ≤ qq) := fun qq hq => (World.ownsRow.lt R2.out qq hq).1
    obtain ⟨i0, zz, hi, hz0, hz1, hz2, hz3⟩ := elS.info
    have OWN : Hid ((w2.alloc (.cells #[.string nm] 9)).ownsRow W.heap.size 9 1 (.slice og ng kg) ng (enc 1 eS L)) := by
      have h1 := Row.below R2.out ((Below.refl _ _).alloc (Nat.le_refl _) (.cells #[.string nm] 9))
      rw [Row, hlen.out] at h1
      exact h1
    go_wp2_with (at_builtin; refine wpList_append_own_at _ rfl _ _ 22 rfl W.heap.size 9 i0 zz 1 16 elS.ht hi hz0 hz1 hz2 hz3 (by decide) _ _ _ rfl OWN.out ⟨w2.heap.size, 0, none⟩ 1 1 [.string nm] rfl rfl (cell_one_new _ _ _) (by simp [Value.oneCell']) (by unfold maxLen; omega) (by omega) (by simp; omega) ?_; intro v' u8 hown hgr _ hbk'; have ROW : Row u8 W.heap.size 9 1 eS v' (L ++ [nm]) := (by show World.ownsRow _ _ _ _ _ _ _; rw [List.length_append, enc_append, hlen.out]; exact hown); have B8 : Below W.heap.size W u8 := (B2.out.alloc s2 _).grown hgr (by simp; omega) (fun qq hq => by have := hlow.out qq hq; omega); obtain ⟨ov', kv', hv'⟩ := Row.form ROW; subst hv'; have ROWH : Hid (Row u8 W.heap.size 9 1 eS (.slice ov' (L ++ [nm]).length kv') (L ++ [nm])) := ROW; have B8H : Hid _ := B8; clear ROW hgr hbk' hown B8)
    go_roundw
    case rel => exact ⟨k + 1, L ++ [nm], ov', kv', _, by omega, rfl, by go_num, by have := hlen.out; simp; omega, by show _ = _; simp, EL.out, (by have h := ROWH.out; rw [List.length_append] at h; exact h), B8H.out⟩
    case measure => simp [intOf]; omega
end Go.Proofs.YtigkkelaadbhcabGreat

namespace Go.Proofs.YtigkkelaadbhcabGreat
open Go.RowKit
set_option maxRecDepth 100000 in
set_option maxHeartbeats 4000000 in
theorem eqRecPhase_any (S S' : Nat → Prop) (a : DRecPhase) (c c' : Nat → Value) (w : World) (h : Lay.At S w a c) (h' : Lay.At S' w a c') (_hS : ∀ b, S b → b < w.heap.size) (_hS' : ∀ b, S' b → b < w.heap.size) :
    Calls Tryz.prog 124 #[.agg #[c 0, c 1, c 2, c 3, c 4, c 5, c 6, c 7], .agg #[c' 0, c' 1, c' 2, c' 3, c' 4, c' 5, c' 6, c' 7]] w fun e w' => e = .returned (.bool true) ∧ Below w.heap.size w w' := by
  rw [at_DRecPhase] at h
  obtain ⟨⟨ep0, _⟩, ⟨ep1, _, _⟩, ⟨ep2, _⟩, ⟨ep3, _⟩, ⟨ep4, _, _⟩, ⟨ep5, _, _⟩, ⟨ep6, _⟩, ⟨ep7, _⟩⟩ := h
  rw [ep0, ep1, ep2, ep3, ep4, ep5, ep6, ep7]
  clear ep0 ep1 ep2 ep3 ep4 ep5 ep6 ep7
  rw [at_DRecPhase] at h'
  obtain ⟨⟨eq0, _⟩, ⟨eq1, _, _⟩, ⟨eq2, _⟩, ⟨eq3, _⟩, ⟨eq4, _, _⟩, ⟨eq5, _, _⟩, ⟨eq6, _⟩, ⟨eq7, _⟩⟩ := h'
  rw [eq0, eq1, eq2, eq3, eq4, eq5, eq6, eq7]
  clear eq0 eq1 eq2 eq3 eq4 eq5 eq6 eq7
  have k0 : Hid (Below w.heap.size w ((w.alloc (.cells #[.string a.1, .int .i64 a.2.1, .string a.2.2.1, .string a.2.2.2.1, .int .i64 a.2.2.2.2.1, .int .i64 a.2.2.2.2.2.1, .string a.2.2.2.2.2.2.1, .string a.2.2.2.2.2.2.2] 110)).alloc (.cells #[.string a.1, .int .i64 a.2.1, .string a.2.2.1, .string a.2.2.2.1, .int .i64 a.2.2.2.2.1, .int .i64 a.2.2.2.2.2.1, .string a.2.2.2.2.2.2.1, .string a.2.2.2.2.2.2.2] 110))) := ((Below.refl _ _).alloc (Nat.le_refl _) _).alloc (by simp) _
  go_enter Tryz.func124, Tryz.ntmps124
  go_wp2
  go_ret
  exact ⟨rfl, k0.out⟩
open Go.Sort in
theorem eqRecPhaseq (S S' : Nat → Prop) (a : DRecPhase) (c c' : Nat → Value) (wr : World) (h : Lay.At S wr a c) (h' : Lay.At S' wr a c') (hS : ∀ b, S b → b < wr.heap.size) (hS' : ∀ b, S' b → b < wr.heap.size) (d : Nat) (os : Array Obj) : Calls Tryz.prog 124 #[.agg #[c 0, c 1, c 2, c 3, c 4, c 5, c 6, c 7], .agg #[c' 0, c' 1, c' 2, c' 3, c' 4, c' 5, c' 6, c' 7]] (grow (redrawn wr d) os) fun e w'' => e = .returned (.bool true) ∧ ∃ p : Regrown, w'' = grow (redrawn wr p.d) p.os :=
  Calls.regrown_of (eqRecPhase_any S S' a c c' _ (Lay.same h (Same.of_below (below_regrown wr d os) hS)) (Lay.same h' (Same.of_below (below_regrown wr d os) hS')) (fun b hb => Nat.lt_of_lt_of_le (hS b hb) (below_regrown wr d os).size) (fun b hb => Nat.lt_of_lt_of_le (hS' b hb) (below_regrown wr d os).size))
end Go.Proofs.YtigkkelaadbhcabGreat

namespace Go.Proofs.YtigkkelaadbhcabGreat
open Go.RowKit
set_option maxRecDepth 100000 in
set_option maxHeartbeats 4000000 in
theorem eqRecPhaseS_any (S S' : Nat → Prop) (l : List DRecPhase) (va vb : Value) (w : World) (ha : AtL S w l va) (hb : AtL S' w l vb) (hS : ∀ b, S b → b < w.heap.size) (hS' : ∀ b, S' b → b < w.heap.size) :
    Calls Tryz.prog 93 #[va, vb] w fun e w' => e = .returned (.bool true) ∧ Below w.heap.size w w' := by
  obtain ⟨oa, ca, rfl, hn, hca⟩ := ha
  obtain ⟨ob, cb, rfl, _, hcb⟩ := hb
  obtain ⟨n, en⟩ : ∃ n, l.length = n := ⟨_, rfl⟩
  rw [en] at hn
  rw [en]
  unfold maxLen at hn
  have HA : Hid _ := hca
  have HB : Hid _ := hcb
  clear hca hcb
  go_enter Tryz.func93, Tryz.ntmps93
  go_wp2
  go_loopw [5] (fun i wr => ∃ k : Nat, k ≤ n ∧ i = .int .i64 k ∧ Hid (Below w.heap.size w wr)) (fun i _ => n - (intOf i).toNat)
  case atStart => exact ⟨0, Nat.zero_le _, rfl, Below.refl _ _⟩
  case round =>
    obtain ⟨k, hk, rfl, hbel⟩ := hrel
    have hs := hbel.out.size
    by_cases hlt : k < n
    · obtain ⟨ba, fa, rfl, hba, cc, hxa, hata⟩ := HA.out k (by omega)
      obtain ⟨bb, fb, rfl, hbb, dd, hxb, hatb⟩ := HB.out k (by omega)
      have hba' := hS ba hba
      have hbb' := hS' bb hbb
      rw [width_DRecPhase] at hxa hxb
      have a0 : wr.cell? ⟨ba, fa + k * 8, none⟩ = some (cc 0) := (hbel.out.cell (p := ⟨ba, fa + k * 8, none⟩) (by show ba < _; omega)).trans (by have hq := hxa 0 (by omega); first | exact hq | simpa using hq)
      have a1 : wr.cell? ⟨ba, fa + k * 8 + 1, none⟩ = some (cc 1) := (hbel.out.cell (p := ⟨ba, fa + k * 8 + 1, none⟩) (by show ba < _; omega)).trans (by have hq := hxa 1 (by omega); first | exact hq | simpa using hq)
      have a2 : wr.cell? ⟨ba, fa + k * 8 + 2, none⟩ = some (cc 2) := (hbel.out.cell (p := ⟨ba, fa + k * 8 + 2, none⟩) (by show ba < _; omega)).trans (by have hq := hxa 2 (by omega); first | exact hq | simpa using hq)
      have a3 : wr.cell? ⟨ba, fa + k * 8 + 3, none⟩ = some (cc 3) := (hbel.out.cell (p := ⟨ba, fa + k * 8 + 3, none⟩) (by show ba < _; omega)).trans (by have hq := hxa 3 (by omega); first | exact hq | simpa using hq)
      have a4 : wr.cell? ⟨ba, fa + k * 8 + 4, none⟩ = some (cc 4) := (hbel.out.cell (p := ⟨ba, fa + k * 8 + 4, none⟩) (by show ba < _; omega)).trans (by have hq := hxa 4 (by omega); first | exact hq | simpa using hq)
      have a5 : wr.cell? ⟨ba, fa + k * 8 + 5, none⟩ = some (cc 5) := (hbel.out.cell (p := ⟨ba, fa + k * 8 + 5, none⟩) (by show ba < _; omega)).trans (by have hq := hxa 5 (by omega); first | exact hq | simpa using hq)
      have a6 : wr.cell? ⟨ba, fa + k * 8 + 6, none⟩ = some (cc 6) := (hbel.out.cell (p := ⟨ba, fa + k * 8 + 6, none⟩) (by show ba < _; omega)).trans (by have hq := hxa 6 (by omega); first | exact hq | simpa using hq)
      have a7 : wr.cell? ⟨ba, fa + k * 8 + 7, none⟩ = some (cc 7) := (hbel.out.cell (p := ⟨ba, fa + k * 8 + 7, none⟩) (by show ba < _; omega)).trans (by have hq := hxa 7 (by omega); first | exact hq | simpa using hq)
      have c0 : wr.cell? ⟨bb, fb + k * 8, none⟩ = some (dd 0) := (hbel.out.cell (p := ⟨bb, fb + k * 8, none⟩) (by show bb < _; omega)).trans (by have hq := hxb 0 (by omega); first | exact hq | simpa using hq)
      have c1 : wr.cell? ⟨bb, fb + k * 8 + 1, none⟩ = some (dd 1) := (hbel.out.cell (p := ⟨bb, fb + k * 8 + 1, none⟩) (by show bb < _; omega)).trans (by have hq := hxb 1 (by omega); first | exact hq | simpa using hq)
      have c2 : wr.cell? ⟨bb, fb + k * 8 + 2, none⟩ = some (dd 2) := (hbel.out.cell (p := ⟨bb, fb + k * 8 + 2, none⟩) (by show bb < _; omega)).trans (by have hq := hxb 2 (by omega); first | exact hq | simpa using hq)
      have c3 : wr.cell? ⟨bb, fb + k * 8 + 3, none⟩ = some (dd 3) := (hbel.out.cell (p := ⟨bb, fb + k * 8 + 3, none⟩) (by show bb < _; omega)).trans (by have hq := hxb 3 (by omega); first | exact hq | simpa using hq)
      have c4 : wr.cell? ⟨bb, fb + k * 8 + 4, none⟩ = some (dd 4) := (hbel.out.cell (p := ⟨bb, fb + k * 8 + 4, none⟩) (by show bb < _; omega)).trans (by have hq := hxb 4 (by omega); first | exact hq | simpa using hq)
      have c5 : wr.cell? ⟨bb, fb + k * 8 + 5, none⟩ = some (dd 5) := (hbel.out.cell (p := ⟨bb, fb + k * 8 + 5, none⟩) (by show bb < _; omega)).trans (by have hq := hxb 5 (by omega); first | exact hq | simpa using hq)
      have c6 : wr.cell? ⟨bb, fb + k * 8 + 6, none⟩ = some (dd 6) := (hbel.out.cell (p := ⟨bb, fb + k * 8 + 6, none⟩) (by show bb < _; omega)).trans (by have hq := hxb 6 (by omega); first | exact hq | simpa using hq)
      have c7 : wr.cell? ⟨bb, fb + k * 8 + 7, none⟩ = some (dd 7) := (hbel.out.cell (p := ⟨bb, fb + k * 8 + 7, none⟩) (by show bb < _; omega)).trans (by have hq := hxb 7 (by omega); first | exact hq | simpa using hq)
      have HAA : Hid (Lay.At S wr (l[k]'(by omega)) cc) := Lay.same hata (Same.of_below hbel.out hS)
      have HBB : Hid (Lay.At S' wr (l[k]'(by omega)) dd) := Lay.same hatb (Same.of_below hbel.out hS')
      clear hata hatb
      have hSr : ∀ b, S b → b < wr.heap.size := fun b hb => Nat.lt_of_lt_of_le (hS b hb) hs
      have hSr' : ∀ b, S' b → b < wr.heap.size := fun b hb => Nat.lt_of_lt_of_le (hS' b hb) hs
      clear hxa hxb
      have qa0 := fun d os => cell_regrown a0 d os
      have qa1 := fun d os => cell_regrown a1 d os
      have qa2 := fun d os => cell_regrown a2 d os
      have qa3 := fun d os => cell_regrown a3 d os
      have qa4 := fun d os => cell_regrown a4 d os
      have qa5 := fun d os => cell_regrown a5 d os
      have qa6 := fun d os => cell_regrown a6 d os
      have qa7 := fun d os => cell_regrown a7 d os
      have qc0 := fun d os => cell_regrown c0 d os
      have qc1 := fun d os => cell_regrown c1 d os
      have qc2 := fun d os => cell_regrown c2 d os
      have qc3 := fun d os => cell_regrown c3 d os
      have qc4 := fun d os => cell_regrown c4 d os
      have qc5 := fun d os => cell_regrown c5 d os
      have qc6 := fun d os => cell_regrown c6 d os
      have qc7 := fun d os => cell_regrown c7 d os
      go_wp2
      refine wp_region_quiet_below (by kernel_rfl) (by kernel_rfl) ?_
      repeat (first | go_big_quiet_step (with_reducible exact eqRecPhaseq S S' _ _ _ _ HAA.out HBB.out hSr hSr' _ _) | quiet_step (with_reducible exact eqRecPhaseq S S' _ _ _ _ HAA.out HBB.out hSr hSr' _ _))
      refine wpQuiet_nil ?_
      intro _ hw'
      obtain ⟨⟨dq, osq⟩, hw''⟩ := hw'
      subst hw''
      go_wp2
      go_roundw
      case rel => exact ⟨k + 1, by omega, by go_num, hbel.out.trans ((below_regrown _ dq osq).mono hs)⟩
      case measure => simp [intOf]; omega
    · go_wp2
      go_ret
      exact ⟨rfl, hbel.out⟩
end Go.Proofs.YtigkkelaadbhcabGreat

namespace Go.Proofs.YtigkkelaadbhcabGreat
open Go.RowKit
set_option maxRecDepth 100000 in
set_option maxHeartbeats 4000000 in
theorem eqRunSlot_any (S S' : Nat → Prop) (a : DRunSlot) (c c' : Nat → Value) (w : World) (h : Lay.At S w a c) (h' : Lay.At S' w a c') (_hS : ∀ b, S b → b < w.heap.size) (_hS' : ∀ b, S' b → b < w.heap.size) :
    Calls Tryz.prog 125 #[.agg #[c 0, c 1], .agg #[c' 0, c' 1]] w fun e w' => e = .returned (.bool true) ∧ Below w.heap.size w w' := by
  rw [at_DRunSlot] at h
  obtain ⟨⟨ep0, _⟩, ⟨ep1, _⟩⟩ := h
  rw [ep0, ep1]
  clear ep0 ep1
  rw [at_DRunSlot] at h'
  obtain ⟨⟨eq0, _⟩, ⟨eq1, _⟩⟩ := h'
  rw [eq0, eq1]
  clear eq0 eq1
  have k0 : Hid (Below w.heap.size w ((w.alloc (.cells #[.string a.1, .string a.2] 137)).alloc (.cells #[.string a.1, .string a.2] 137))) := ((Below.refl _ _).alloc (Nat.le_refl _) _).alloc (by simp) _
  go_enter Tryz.func125, Tryz.ntmps125
  go_wp2
  go_ret
  exact ⟨rfl, k0.out⟩
open Go.Sort in
theorem eqRunSlotq (S S' : Nat → Prop) (a : DRunSlot) (c c' : Nat → Value) (wr : World) (h : Lay.At S wr a c) (h' : Lay.At S' wr a c') (hS : ∀ b, S b → b < wr.heap.size) (hS' : ∀ b, S' b → b < wr.heap.size) (d : Nat) (os : Array Obj) : Calls Tryz.prog 125 #[.agg #[c 0, c 1], .agg #[c' 0, c' 1]] (grow (redrawn wr d) os) fun e w'' => e = .returned (.bool true) ∧ ∃ p : Regrown, w'' = grow (redrawn wr p.d) p.os :=
  Calls.regrown_of (eqRunSlot_any S S' a c c' _ (Lay.same h (Same.of_below (below_regrown wr d os) hS)) (Lay.same h' (Same.of_below (below_regrown wr d os) hS')) (fun b hb => Nat.lt_of_lt_of_le (hS b hb) (below_regrown wr d os).size) (fun b hb => Nat.lt_of_lt_of_le (hS' b hb) (below_regrown wr d os).size))
set_option maxRecDepth 100000 in
set_option maxHeartbeats 4000000 in
theorem eqRunSlotS_any (S S' : Nat → Prop) (l : List DRunSlot) (va vb : Value) (w : World) (ha : AtL S w l va) (hb : AtL S' w l vb) (hS : ∀ b, S b → b < w.heap.size) (hS' : ∀ b, S' b → b < w.heap.size) :
    Calls Tryz.prog 94 #[va, vb] w fun e w' => e = .returned (.bool true) ∧ Below w.heap.size w w' := by
  obtain ⟨oa, ca, rfl, hn, hca⟩ := ha
  obtain ⟨ob, cb, rfl, _, hcb⟩ := hb
  obtain ⟨n, en⟩ : ∃ n, l.length = n := ⟨_, rfl⟩
  rw [en] at hn
  rw [en]
  unfold maxLen at hn
  have HA : Hid _ := hca
  have HB : Hid _ := hcb
  clear hca hcb
  go_enter Tryz.func94, Tryz.ntmps94
  go_wp2
  go_loopw [5] (fun i wr => ∃ k : Nat, k ≤ n ∧ i = .int .i64 k ∧ Hid (Below w.heap.size w wr)) (fun i _ => n - (intOf i).toNat)
  case atStart => exact ⟨0, Nat.zero_le _, rfl, Below.refl _ _⟩
  case round =>
    obtain ⟨k, hk, rfl, hbel⟩ := hrel
    have hs := hbel.out.size
    by_cases hlt : k < n
    · obtain ⟨ba, fa, rfl, hba, cc, hxa, hata⟩ := HA.out k (by omega)
      obtain ⟨bb, fb, rfl, hbb, dd, hxb, hatb⟩ := HB.out k (by omega)
      have hba' := hS ba hba
      have hbb' := hS' bb hbb
      rw [width_DRunSlot] at hxa hxb
      have a0 : wr.cell? ⟨ba, fa + k * 2, none⟩ = some (cc 0) := (hbel.out.cell (p := ⟨ba, fa + k * 2, none⟩) (by show ba < _; omega)).trans (by have hq := hxa 0 (by omega); first | exact hq | simpa using hq)
      have a1 : wr.cell? ⟨ba, fa + k * 2 + 1, none⟩ = some (cc 1) := (hbel.out.cell (p := ⟨ba, fa + k * 2 + 1, none⟩) (by show ba < _; omega)).trans (by have hq := hxa 1 (by omega); first | exact hq | simpa using hq)
      have c0 : wr.cell? ⟨bb, fb + k * 2, none⟩ = some (dd 0) := (hbel.out.cell (p := ⟨bb, fb + k * 2, none⟩) (by show bb < _; omega)).trans (by have hq := hxb 0 (by omega); first | exact hq | simpa using hq)
      have c1 : wr.cell? ⟨bb, fb + k * 2 + 1, none⟩ = some (dd 1) := (hbel.out.cell (p := ⟨bb, fb + k * 2 + 1, none⟩) (by show bb < _; omega)).trans (by have hq := hxb 1 (by omega); first | exact hq | simpa using hq)
      have HAA : Hid (Lay.At S wr (l[k]'(by omega)) cc) := Lay.same hata (Same.of_below hbel.out hS)
      have HBB : Hid (Lay.At S' wr (l[k]'(by omega)) dd) := Lay.same hatb (Same.of_below hbel.out hS')
      clear hata hatb
      have hSr : ∀ b, S b → b < wr.heap.size := fun b hb => Nat.lt_of_lt_of_le (hS b hb) hs
      have hSr' : ∀ b, S' b → b < wr.heap.size := fun b hb => Nat.lt_of_lt_of_le (hS' b hb) hs
      clear hxa hxb
      have qa0 := fun d os => cell_regrown a0 d os
      have qa1 := fun d os => cell_regrown a1 d os
      have qc0 := fun d os => cell_regrown c0 d os
      have qc1 := fun d os => cell_regrown c1 d os
      go_wp2
      refine wp_region_quiet_below (by kernel_rfl) (by kernel_rfl) ?_
      repeat (first | go_big_quiet_step (with_reducible exact eqRunSlotq S S' _ _ _ _ HAA.out HBB.out hSr hSr' _ _) | quiet_step (with_reducible exact eqRunSlotq S S' _ _ _ _ HAA.out HBB.out hSr hSr' _ _))
      refine wpQuiet_nil ?_
      intro _ hw'
      obtain ⟨⟨dq, osq⟩, hw''⟩ := hw'
      subst hw''
      go_wp2
      go_roundw
      case rel => exact ⟨k + 1, by omega, by go_num, hbel.out.trans ((below_regrown _ dq osq).mono hs)⟩
      case measure => simp [intOf]; omega
    · go_wp2
      go_ret
      exact ⟨rfl, hbel.out⟩
set_option maxRecDepth 100000 in
set_option maxHeartbeats 4000000 in
theorem eqRunBatch_any (S S' : Nat → Prop) (a : DRunBatch) (c c' : Nat → Value) (w : World) (h : Lay.At S w a c) (h' : Lay.At S' w a c') (hS : ∀ b, S b → b < w.heap.size) (hS' : ∀ b, S' b → b < w.heap.size) :
    Calls Tryz.prog 52 #[.agg #[c 0, c 1, c 2, c 3, c 4, c 5], .agg #[c' 0, c' 1, c' 2, c' 3, c' 4, c' 5]] w fun e w' => e = .returned (.bool true) ∧ Below w.heap.size w w' := by
  rw [at_DRunBatch] at h
  obtain ⟨⟨ep0, _⟩, Hp1, Hp2, ⟨ep3, _⟩, ⟨ep4, _, _⟩, ⟨ep5, _, _⟩⟩ := h
  obtain ⟨vp1, ep1⟩ : ∃ v, c 1 = v := ⟨_, rfl⟩
  rw [ep1] at Hp1
  obtain ⟨vp2, ep2⟩ : ∃ v, c 2 = v := ⟨_, rfl⟩
  rw [ep2] at Hp2
  rw [ep0, ep1, ep2, ep3, ep4, ep5]
  clear ep0 ep1 ep2 ep3 ep4 ep5
  rw [at_DRunBatch] at h'
  obtain ⟨⟨eq0, _⟩, Hq1, Hq2, ⟨eq3, _⟩, ⟨eq4, _, _⟩, ⟨eq5, _, _⟩⟩ := h'
  obtain ⟨vq1, eq1⟩ : ∃ v, c' 1 = v := ⟨_, rfl⟩
  rw [eq1] at Hq1
  obtain ⟨vq2, eq2⟩ : ∃ v, c' 2 = v := ⟨_, rfl⟩
  rw [eq2] at Hq2
  rw [eq0, eq1, eq2, eq3, eq4, eq5]
  clear eq0 eq1 eq2 eq3 eq4 eq5
  have k0 : Hid (Below w.heap.size w ((w.alloc (.cells #[.string a.1, vp1, vp2, .string a.2.2.2.1, .int .i64 a.2.2.2.2.1, .int .i64 a.2.2.2.2.2] 52)).alloc (.cells #[.string a.1, vq1, vq2, .string a.2.2.2.1, .int .i64 a.2.2.2.2.1, .int .i64 a.2.2.2.2.2] 52))) := ((Below.refl _ _).alloc (Nat.le_refl _) _).alloc (by simp) _
  go_enter Tryz.func52, Tryz.ntmps52
  go_wp2_with fail
  refine (eqRecPhaseS_any S S' _ vp1 vq1 _ (Hp1.same (Same.of_below k0.out hS)) (Hq1.same (Same.of_below k0.out hS')) (fun b hb => by have := hS b hb; simp; omega) (fun b hb => by have := hS' b hb; simp; omega)).mono ?_
  rintro e w1 ⟨rfl, hb1⟩
  have k1 : Hid (Below w.heap.size w w1) := k0.out.trans (hb1.mono (by simp; omega))
  have x1_2 : w1.cell? ⟨w.heap.size, 2, none⟩ = some (vp2) := (hb1.cell (p := ⟨w.heap.size, 2, none⟩) (by simp; omega)).trans (cell_past (cell_row (heap_alloc_new w (.cells #[.string a.1, vp1, vp2, .string a.2.2.2.1, .int .i64 a.2.2.2.2.1, .int .i64 a.2.2.2.2.2] 52)) 2 _ rfl).1 (by simp) _)
  have y1_2 : w1.cell? ⟨w.heap.size + 1, 2, none⟩ = some (vq2) := (hb1.cell (p := ⟨w.heap.size + 1, 2, none⟩) (by simp)).trans (by simp)
  have x1_3 : w1.cell? ⟨w.heap.size, 3, none⟩ = some (.string a.2.2.2.1) := (hb1.cell (p := ⟨w.heap.size, 3, none⟩) (by simp; omega)).trans (cell_past (cell_row (heap_alloc_new w (.cells #[.string a.1, vp1, vp2, .string a.2.2.2.1, .int .i64 a.2.2.2.2.1, .int .i64 a.2.2.2.2.2] 52)) 3 _ rfl).1 (by simp) _)
  have y1_3 : w1.cell? ⟨w.heap.size + 1, 3, none⟩ = some (.string a.2.2.2.1) := (hb1.cell (p := ⟨w.heap.size + 1, 3, none⟩) (by simp)).trans (by simp)
  have x1_4 : w1.cell? ⟨w.heap.size, 4, none⟩ = some (.int .i64 a.2.2.2.2.1) := (hb1.cell (p := ⟨w.heap.size, 4, none⟩) (by simp; omega)).trans (cell_past (cell_row (heap_alloc_new w (.cells #[.string a.1, vp1, vp2, .string a.2.2.2.1, .int .i64 a.2.2.2.2.1, .int .i64 a.2.2.2.2.2] 52)) 4 _ rfl).1 (by simp) _)
  have y1_4 : w1.cell? ⟨w.heap.size + 1, 4, none⟩ = some (.int .i64 a.2.2.2.2.1) := (hb1.cell (p := ⟨w.heap.size + 1, 4, none⟩) (by simp)).trans (by simp)
  have x1_5 : w1.cell? ⟨w.heap.size, 5, none⟩ = some (.int .i64 a.2.2.2.2.2) := (hb1.cell (p := ⟨w.heap.size, 5, none⟩) (by simp; omega)).trans (cell_past (cell_row (heap_alloc_new w (.cells #[.string a.1, vp1, vp2, .string a.2.2.2.1, .int .i64 a.2.2.2.2.1, .int .i64 a.2.2.2.2.2] 52)) 5 _ rfl).1 (by simp) _)
  have y1_5 : w1.cell? ⟨w.heap.size + 1, 5, none⟩ = some (.int .i64 a.2.2.2.2.2) := (hb1.cell (p := ⟨w.heap.size + 1, 5, none⟩) (by simp)).trans (by simp)
  have s1 : w.heap.size + 2 ≤ w1.heap.size := by have := hb1.size; simp at this; omega
  go_wp2_with fail
  refine (eqRunSlotS_any S S' _ vp2 vq2 _ (Hp2.same (Same.of_below k1.out hS)) (Hq2.same (Same.of_below k1.out hS')) (fun b hb => by have := hS b hb; omega) (fun b hb => by have := hS' b hb; omega)).mono ?_
  rintro e w2 ⟨rfl, hb2⟩
  have k2 : Hid (Below w.heap.size w w2) := k1.out.trans (hb2.mono (by omega))
  have x2_3 : w2.cell? ⟨w.heap.size, 3, none⟩ = some (.string a.2.2.2.1) := (hb2.cell (p := ⟨w.heap.size, 3, none⟩) (by show w.heap.size < _; omega)).trans x1_3
  have y2_3 : w2.cell? ⟨w.heap.size + 1, 3, none⟩ = some (.string a.2.2.2.1) := (hb2.cell (p := ⟨w.heap.size + 1, 3, none⟩) (by show w.heap.size + 1 < _; omega)).trans y1_3
  have x2_4 : w2.cell? ⟨w.heap.size, 4, none⟩ = some (.int .i64 a.2.2.2.2.1) := (hb2.cell (p := ⟨w.heap.size, 4, none⟩) (by show w.heap.size < _; omega)).trans x1_4
  have y2_4 : w2.cell? ⟨w.heap.size + 1, 4, none⟩ = some (.int .i64 a.2.2.2.2.1) := (hb2.cell (p := ⟨w.heap.size + 1, 4, none⟩) (by show w.heap.size + 1 < _; omega)).trans y1_4
  have x2_5 : w2.cell? ⟨w.heap.size, 5, none⟩ = some (.int .i64 a.2.2.2.2.2) := (hb2.cell (p := ⟨w.heap.size, 5, none⟩) (by show w.heap.size < _; omega)).trans x1_5
  have y2_5 : w2.cell? ⟨w.heap.size + 1, 5, none⟩ = some (.int .i64 a.2.2.2.2.2) := (hb2.cell (p := ⟨w.heap.size + 1, 5, none⟩) (by show w.heap.size + 1 < _; omega)).trans y1_5
  have s2 : w.heap.size + 2 ≤ w2.heap.size := by have := hb2.size; omega
  go_wp2_with fail
  go_ret
  exact ⟨rfl, k2.out⟩
open Go.Sort in
theorem eqRunBatchq (S S' : Nat → Prop) (a : DRunBatch) (c c' : Nat → Value) (wr : World) (h : Lay.At S wr a c) (h' : Lay.At S' wr a c') (hS : ∀ b, S b → b < wr.heap.size) (hS' : ∀ b, S' b → b < wr.heap.size) (d : Nat) (os : Array Obj) : Calls Tryz.prog 52 #[.agg #[c 0, c 1, c 2, c 3, c 4, c 5], .agg #[c' 0, c' 1, c' 2, c' 3, c' 4, c' 5]] (grow (redrawn wr d) os) fun e w'' => e = .returned (.bool true) ∧ ∃ p : Regrown, w'' = grow (redrawn wr p.d) p.os :=
  Calls.regrown_of (eqRunBatch_any S S' a c c' _ (Lay.same h (Same.of_below (below_regrown wr d os) hS)) (Lay.same h' (Same.of_below (below_regrown wr d os) hS')) (fun b hb => Nat.lt_of_lt_of_le (hS b hb) (below_regrown wr d os).size) (fun b hb => Nat.lt_of_lt_of_le (hS' b hb) (below_regrown wr d os).size))
end Go.Proofs.YtigkkelaadbhcabGreat
