/-
  Several texts in one.
-/
import Derived.Test.YtobchllaopdchacGreatM21
import Derived.Test.YtobchllaopdchacGreatM20
import Derived.Test.YtobchllaopdchacGreatM10
import Derived.Test.YtobchllaopdchacGreatM2
import Derived.Test.YtobchllaopdchacGreatM5
import Derived.Test.YtobchllaopdchacGreatM11
namespace Go.Proofs.YtobchllaopdchacGreat
open Go.RowKit Go.Sort
set_option maxRecDepth 100000 in
set_option maxHeartbeats 8000000 in
theorem namOne_any (B : Nat) (v : Value) (L : List ByteArray) (nm at_ : ByteArray) (si st : Int) (o1 o2 : Option Addr) (n1 k1 n2 k2 : Nat) (w : World) (h : Row w B 9 1 eS v L) (hB : B ≤ w.heap.size) (hl : L.length ≤ 5) :
    Calls Tryz.prog 77 #[v, .agg #[.string nm, .slice o1 n1 k1, .slice o2 n2 k2, .string at_, .int .i64 si, .int .i64 st]] w fun e w' => ∃ v', e = .returned v' ∧ Row w' B 9 1 eS v' (L ++ [nm]) ∧ Below B w w' := by
  obtain ⟨W, hW⟩ : ∃ W, W = w.alloc (.cells #[.string nm, .slice o1 n1 k1, .slice o2 n2 k2, .string at_, .int .i64 si, .int .i64 st] 49) := ⟨_, rfl⟩
  have EW : Hid (W = w.alloc (.cells #[.string nm, .slice o1 n1 k1, .slice o2 n2 k2, .string at_, .int .i64 si, .int .i64 st] 49)) := hW
  have BW : Hid (Below w.heap.size w W) := by rw [hW]; exact (Below.refl _ _).alloc (Nat.le_refl _) _
  have RW : Hid (W.heap[w.heap.size]? = some (.cells #[.string nm, .slice o1 n1 k1, .slice o2 n2 k2, .string at_, .int .i64 si, .int .i64 st] 49 (0, 0))) := by rw [hW]; exact heap_alloc_new w _
  have sW : w.heap.size + 1 ≤ W.heap.size := by rw [hW]; simp
  have BB : Hid (Below B w W) := by rw [hW]; exact (Below.refl _ _).alloc hB _
  clear hW
  have HR : Hid (Row W B 9 1 eS v L) := Row.below h BW.out
  clear h
  have y0 := (cell_row RW.out 0 _ rfl).1
  have hsr : Hid (Src (W.alloc (.cells #[.string nm] 9)) (.slice (some ⟨W.heap.size, 0, none⟩) 1 1) 1 1 (enc 1 eS [nm])) := ⟨rfl, .inr ⟨_, _, rfl, by exact cell_one_new _ _ _⟩⟩
  go_enter Tryz.func77, Tryz.ntmps77
  go_upto_region 1 with fail
  rw [← EW.out]
  go_wp2_with (first
    | (at_builtin; refine wpList_app elS rfl _ _ rfl rfl rfl (HR.out.alloc _) hsr.out (flatS.enc_one _) (by unfold maxLen; omega) (by omega) (by simp; omega) ?_; intro v' w3 hown hg hbk))
  go_ret
  refine ⟨v', rfl, ?_, (BB.out.alloc (by omega) _).grown hg (by simp; omega) (fun p hp => (World.ownsRow.lt HR.out p hp).1)⟩
  show World.ownsRow _ _ _ _ _ _ _
  rw [List.length_append, enc_append]
  exact hown
set_option maxRecDepth 100000 in
set_option maxHeartbeats 8000000 in
theorem foldN_any (S : Nat → Prop) (Ba : List DRunBatch) (oa : Option Addr) (n cap : Nat) (w : World) (h : AtL S w Ba (.slice oa n cap)) (hS : ∀ b, S b → b < w.heap.size) (hl : n ≤ 5) :
    Calls Tryz.prog 76 #[.slice oa n cap, .slice none 0 0, .func (.func 77) #[] #[]] w fun e w' => ∃ v, e = .returned v ∧ Row w' w.heap.size 9 1 eS v (Ba.map fun b => b.1) ∧ Below w.heap.size w w' := by
  have en : Ba.length = n := by obtain ⟨_, _, e, _⟩ := h; cases e; rfl
  have EN : Hid (Ba.length ≤ n ∧ n ≤ Ba.length) := ⟨by omega, by omega⟩
  have H : Hid _ := h.ups hS
  clear h hS en
  go_enter Tryz.func76, Tryz.ntmps76
  go_wp2_with fail
  go_loopw [1, 11] (fun v i wr => ∃ q : Nat, q ≤ n ∧ i = .int .i64 q ∧ Hid (Row wr w.heap.size 9 1 eS v ((Ba.take q).map fun b => b.1)) ∧ Hid (Below w.heap.size w wr)) (fun _ i _ => n - (intOf i).toNat)
  case atStart => exact ⟨0, Nat.zero_le _, rfl, by simpa [Hid, Row, enc_nil] using World.ownsRow_nil w w.heap.size 9 1, Below.refl _ _⟩
  case round =>
    obtain ⟨k, hk, rfl, hown, hbel⟩ := hrel
    have hs := hbel.out.size
    by_cases hlt : k < n
    case neg =>
      obtain rfl : n = k := by omega
      have htk : Hid (Ba.take n = Ba) := by show _ = _; rw [List.take_of_length_le (by have := EN.out; omega)]
      go_wp2_with fail
      go_ret
      refine ⟨_, rfl, ?_, hbel.out⟩
      have := hown.out
      rw [htk.out] at this
      exact this
    have hks : k < Ba.length := by have := EN.out; omega
    obtain ⟨b, off, o1, o2, n1, k1, n2, k2, rfl, hbS, c0, c1, c2, c3, c4, c5, z0, _⟩ := rb_at (H.out wr hbel.out) k hks
    obtain ⟨f, ef⟩ : ∃ f, Ba[k] = f := ⟨_, rfl⟩
    have htk : Hid ((Ba.take (k + 1)).map (fun b : DRunBatch => b.1) = (Ba.take k).map (fun b : DRunBatch => b.1) ++ [f.1]) := by
      show _ = _
      rw [List.take_add_one, List.getElem?_eq_getElem hks, ef, List.map_append]; rfl
    rw [ef] at c0 c3 c4 c5 z0
    obtain ⟨nm, r, sl, at_, si, st⟩ := f
    simp only at c0 c3 c4 c5 z0 htk
    have hlk : ((Ba.take k).map fun b : DRunBatch => b.1).length ≤ 5 := by rw [List.length_map, List.length_take]; omega
    have CW : Hid (∀ W', Below wr.heap.size wr W' → Calls Tryz.prog 77 #[u1, .agg #[.string nm, .slice o1 n1 k1, .slice o2 n2 k2, .string at_, .int .i64 si, .int .i64 st]] W' fun e w' => ∃ v', e = .returned v' ∧ Row w' w.heap.size 9 1 eS v' ((Ba.take k).map (fun b : DRunBatch => b.1) ++ [nm]) ∧ Below w.heap.size W' w') := fun W' hW' =>
      namOne_any w.heap.size u1 _ nm at_ si st o1 o2 n1 k1 n2 k2 W' (Row.below hown.out hW') (by have := hW'.size; omega) hlk
    have BXX : Hid (∀ o, Below w.heap.size w (wr.alloc o)) := fun o => hbel.out.alloc hs o
    clear z0 ef hlk
    go_wp2_with fail
    refine Calls.mono (CW.out _ ((Below.refl _ _).alloc (Nat.le_refl _) _)) ?_; rintro e w1 ⟨v', rfl, hrow, hb1⟩
    have B1 : Hid (Below w.heap.size w w1) := (BXX.out _).trans hb1
    have R1 : Hid (Row w1 w.heap.size 9 1 eS v' ((Ba.take (k + 1)).map fun b => b.1)) := by show Row _ _ _ _ _ _ _; rw [htk.out]; exact hrow
    clear hb1 hrow
    go_wp2_with fail
    go_roundw
    case rel => exact ⟨k + 1, by omega, by go_num, R1.out, B1.out⟩
    case measure => simp [intOf]; omega
theorem isNam_any (a y : ByteArray) (o1 o2 : Option Addr) (n1 k1 n2 k2 : Nat) (w : World) :
    Calls Tryz.prog 79 #[.agg #[.string a, .slice o1 n1 k1, .slice o2 n2 k2], .string y] w fun e w' => e = .returned (.bool (eqB a y)) ∧ Below w.heap.size w w' := by
  go_enter Tryz.func79, Tryz.ntmps79
  go_wp2
  go_ret
  exact ⟨rfl, (Below.refl _ _).alloc (Nat.le_refl _) _⟩
noncomputable def nmeB (Bs : List DShareBatch) (L : List ByteArray) : Bool := @decide ((Bs.map fun b => b.1) = L) (Classical.propDecidable _)
theorem nme_iff {Bs : List DShareBatch} {L : List ByteArray} : nmeB Bs L = true ↔ (Bs.map fun b => b.1) = L := by unfold nmeB; exact @decide_eq_true_iff _ (Classical.propDecidable _)
theorem nme_len {Bs : List DShareBatch} {L : List ByteArray} (h : ¬ Bs.length = L.length) : nmeB Bs L = false := by
  rw [Bool.eq_false_iff]; intro hh; exact h (by rw [← nme_iff.1 hh, List.length_map])
theorem nme_at {Bs : List DShareBatch} {L : List ByteArray} {i : Nat} (hi : i < Bs.length) (h : eqB Bs[i].1 (nthB L i) = false) : nmeB Bs L = false := by
  rw [Bool.eq_false_iff]; intro hh
  have e := nme_iff.1 hh
  have : nthB L i = Bs[i].1 := by rw [← e]; simp [nthB, hi]
  rw [this] at h
  rw [(eqB_iff _ _).2 rfl] at h; cases h
theorem nme_yes {Bs : List DShareBatch} {L : List ByteArray} (h : Bs.length = L.length) (h2 : ∀ i (hi : i < Bs.length), eqB Bs[i].1 (nthB L i) = true) : nmeB Bs L = true := by
  rw [nme_iff]
  apply List.ext_getElem (by rw [List.length_map]; exact h)
  intro i h1 h3
  rw [List.getElem_map, (eqB_iff _ _).1 (h2 i (by simpa using h1))]
  simp [nthB, h3]
set_option maxRecDepth 100000 in
set_option maxHeartbeats 8000000 in
theorem eqn_any (S S' : Nat → Prop) (Bs : List DShareBatch) (L : List ByteArray) (oa ob : Option Addr) (n ka m kb : Nat) (w : World) (h : AtL S w Bs (.slice oa n ka)) (hL : AtL S' w L (.slice ob m kb)) (hS : ∀ b, S b → b < w.heap.size) (hS' : ∀ b, S' b → b < w.heap.size) :
    Calls Tryz.prog 80 #[.slice oa n ka, .slice ob m kb, .func (.func 79) #[] #[]] w fun e w' => e = .returned (.bool (nmeB Bs L)) ∧ Below w.heap.size w w' := by
  have en : Bs.length = n := by obtain ⟨_, _, e, _⟩ := h; cases e; rfl
  have em : L.length = m := by obtain ⟨_, _, e, _⟩ := hL; cases e; rfl
  have hmx : n ≤ 9223372036854775807 := by obtain ⟨_, _, e, hf, _⟩ := id h; cases e; have := hf.1; unfold maxLen at this; omega
  have hmb : m ≤ 9223372036854775807 := by obtain ⟨_, _, e, hf, _⟩ := id hL; cases e; have := hf.1; unfold maxLen at this; omega
  have EN : Hid (Bs.length ≤ n ∧ n ≤ Bs.length) := ⟨by omega, by omega⟩
  have EM : Hid (L.length ≤ m ∧ m ≤ L.length) := ⟨by omega, by omega⟩
  have ROW : Hid (∀ i (hi : i < Bs.length), ∃ (b off : Nat) (o1 : Option Addr) (n1 k1 : Nat) (o2 : Option Addr) (n2 k2 : Nat), oa = some ⟨b, off, none⟩ ∧ b < w.heap.size ∧ w.cell? ⟨b, off + i * 3, none⟩ = some (.string Bs[i].1) ∧ w.cell? ⟨b, off + i * 3 + 1, none⟩ = some (.slice o1 n1 k1) ∧ w.cell? ⟨b, off + i * 3 + 2, none⟩ = some (.slice o2 n2 k2)) := fun i hi => by
    obtain ⟨b, off, o1, n1, k1, o2, n2, k2, e, hb, e0, e1, e2, _⟩ := bat_at h i hi
    exact ⟨b, off, o1, n1, k1, o2, n2, k2, e, hS b hb, e0, e1, e2⟩
  have LAT : Hid (∀ i (hi : i < L.length), ∃ b off, ob = some ⟨b, off, none⟩ ∧ b < w.heap.size ∧ w.cell? ⟨b, off + i, none⟩ = some (.string (nthB L i))) := fun i hi => by
    obtain ⟨b, off, eo, hb, e0⟩ := tx_at hL i hi
    exact ⟨b, off, eo, hS' b hb, by rw [e0]; simp [nthB, hi]⟩
  clear h hL hS hS' en em
  go_enter Tryz.func80, Tryz.ntmps80
  by_cases hlen : n = m
  case neg =>
    go_wp2_with fail
    go_ret
    rw [nme_len (fun h => hlen (by have := EN.out; have := EM.out; omega))]
    exact ⟨rfl, Below.refl _ _⟩
  subst hlen
  go_wp2_with fail
  go_loopw [17] (fun i wr => ∃ k : Nat, k ≤ n ∧ i = .int .i64 k ∧ Hid (∀ j (hj : j < Bs.length), j < k → eqB Bs[j].1 (nthB L j) = true) ∧ Hid (Below w.heap.size w wr)) (fun i _ => n - (intOf i).toNat)
  case atStart => exact ⟨0, Nat.zero_le _, rfl, fun _ _ h => by omega, Below.refl _ _⟩
  case round =>
    obtain ⟨k, hk, rfl, hall, hbel⟩ := hrel
    have hs := hbel.out.size
    by_cases hlt : k < n
    case neg =>
      go_wp2_with fail
      go_ret
      rw [nme_yes (by have := EN.out; have := EM.out; omega) fun i hi => hall.out i hi (by have := EN.out; omega)]
      exact ⟨rfl, hbel.out⟩
    have hks : k < Bs.length := by have := EN.out; omega
    obtain ⟨b, off, o1, n1, k1, o2, n2, k2, rfl, hb, c0, c1, c2⟩ := ROW.out k hks
    obtain ⟨g, of2, rfl, hg, cg⟩ := LAT.out k (by have := EM.out; omega)
    obtain ⟨x, ex⟩ : ∃ x, Bs[k].1 = x := ⟨_, rfl⟩
    rw [ex] at c0
    obtain ⟨y, ey⟩ : ∃ y, nthB L k = y := ⟨_, rfl⟩
    rw [ey] at cg
    obtain ⟨X, hX⟩ : ∃ X, X = wr.alloc (.cells #[.string x, .slice o1 n1 k1, .slice o2 n2 k2] 103) := ⟨_, rfl⟩
    have EX : Hid (X = wr.alloc (.cells #[.string x, .slice o1 n1 k1, .slice o2 n2 k2] 103)) := hX
    have BX : Hid (Below w.heap.size w X) := by rw [hX]; exact hbel.out.alloc hs _
    have RX : Hid (X.heap[wr.heap.size]? = some (.cells #[.string x, .slice o1 n1 k1, .slice o2 n2 k2] 103 (0, 0))) := by rw [hX]; exact heap_alloc_new wr _
    have r0 := (cell_row RX.out 0 _ rfl).1
    have r1 := (cell_row RX.out 1 _ rfl).1
    have r2 := (cell_row RX.out 2 _ rfl).1
    have e0 := (hbel.out.cell (p := ⟨b, off + k * 3, none⟩) hb).trans c0
    have e1 := (hbel.out.cell (p := ⟨b, off + k * 3 + 1, none⟩) hb).trans c1
    have e2 := (hbel.out.cell (p := ⟨b, off + k * 3 + 2, none⟩) hb).trans c2
    have eg := (BX.out.cell (p := ⟨g, of2 + k, none⟩) hg).trans cg
    have EQ : Hid (∀ R, eqB x y = R → eqB Bs[k].1 (nthB L k) = R) := fun R h => by rw [ex, ey]; exact h
    clear c0 c1 c2 cg hX ex ey
    go_upto_region 6 with fail
    rw [← EX.out]
    cases c : eqB x y
    · have HP : Hid (nmeB Bs L = false) := nme_at hks (EQ.out _ c)
      go_wp2_with fail
      refine (isNam_any x y _ _ _ _ _ _ _).mono ?_; rintro e u ⟨rfl, hb1⟩
      rw [c]
      have HB : Hid (Below w.heap.size w u) := BX.out.trans (hb1.mono BX.out.size)
      clear hb1
      go_wp2_with fail
      go_ret
      rw [HP.out]
      exact ⟨rfl, HB.out⟩
    · have HP : Hid (eqB Bs[k].1 (nthB L k) = true) := EQ.out _ c
      go_wp2_with fail
      refine (isNam_any x y _ _ _ _ _ _ _).mono ?_; rintro e u ⟨rfl, hb1⟩
      rw [c]
      have HB : Hid (Below w.heap.size w u) := BX.out.trans (hb1.mono BX.out.size)
      clear hb1
      go_wp2_with fail
      go_roundw
      case rel => exact ⟨k + 1, by omega, by go_num, fun j hj hjk => by
        by_cases e : j = k
        · subst e; exact HP.out
        · exact hall.out j hj (by omega), HB.out⟩
      case measure => simp [intOf]; omega
set_option maxRecDepth 100000 in
set_option maxHeartbeats 8000000 in
theorem namesP_any (S : Nat → Prop) (now last : Int) (o2 o3 o4 o5 : Option Addr) (n2 k2 n3 k3 n4 k4 n5 k5 : Nat) (Bs : List DShareBatch) (Ba : List DRunBatch) (w : World) (hB : AtL S w Bs (.slice o3 n3 k3)) (h : AtL S w Ba (.slice o4 n4 k4)) (hS : ∀ b, S b → b < w.heap.size) (hl : n4 ≤ 5) :
    Calls Tryz.prog 43 #[.agg #[.int .i64 now, .int .i64 last, .slice o2 n2 k2, .slice o3 n3 k3, .slice o4 n4 k4, .slice o5 n5 k5]] w fun e w' => e = .returned (.bool (nmeB Bs (sortL (Ba.map fun b => b.1)))) ∧ Below w.heap.size w w' := by
  have hmf : ∀ (fn : Fn) (first cap : Array Value) (w : World), (Instr.makeFunc fn first cap).run Tryz.prog w = .ok (.func fn first cap) w := fun _ _ _ _ => rfl
  have HZ : Hid (∀ y ∈ sortL (Ba.map fun b => b.1), OkS y) := fun y hy => by
    obtain ⟨b, hb, rfl⟩ := List.mem_map.1 ((sort_mem _ _).1 hy)
    obtain ⟨i, hi, rfl⟩ := List.getElem_of_mem hb
    obtain ⟨_, _, _, _, _, _, _, _, _, _, _, _, _, _, _, _, z0, _⟩ := rb_at h i hi
    exact z0
  have HLN : Hid ((Ba.map fun b : DRunBatch => b.1).length ≤ 1048576) := by
    have en : Ba.length = n4 := by obtain ⟨_, _, e, _⟩ := h; cases e; rfl
    show _ ≤ _
    rw [List.length_map]; omega
  obtain ⟨W, EW, BW, RW, sW⟩ := box_new w #[.int .i64 now, .int .i64 last, .slice o2 n2 k2, .slice o3 n3 k3, .slice o4 n4 k4, .slice o5 n5 k5] 38
  have BOX : Hid (∀ u, Below W.heap.size W u → u.heap[w.heap.size]? = some (.cells #[.int .i64 now, .int .i64 last, .slice o2 n2 k2, .slice o3 n3 k3, .slice o4 n4 k4, .slice o5 n5 k5] 38 (0, 0)) ∧ Below w.heap.size w u) := fun u hu => ⟨(hu.block _ (by omega)).trans RW.out, BW.out.trans (hu.mono (by omega))⟩
  have H3 : Hid _ := hB.ups hS
  have HS : Hid _ := lt_up hS
  have C : Hid _ := foldN_any S Ba o4 n4 k4 W (h.same (Same.of_below BW.out hS)) (HS.out W BW.out) hl
  clear h hB hS
  have y4 := (cell_row RW.out 4 _ rfl).1
  go_enter Tryz.func43, Tryz.ntmps43
  go_upto_region 1 with fail
  rw [← EW.out]
  go_wp2_with fail
  refine Calls.mono C.out ?_; rintro e w1 ⟨v, rfl, hrow, hb1⟩
  have R1 : Hid _ := hrow
  have B1 : Hid (Below W.heap.size W w1) := hb1
  clear hb1 hrow y4 C
  go_wp2_with fail
  refine (sortR_any W.heap.size v _ w1 R1.out HLN.out B1.out.size).mono ?_; rintro e u2 ⟨rfl, hrow, hb2⟩
  have B2 : Hid (Below W.heap.size W u2) := B1.out.trans hb2
  have BX2 := BOX.out u2 B2.out
  have BX2' : Hid (Below w.heap.size w u2) := BX2.2
  have y3 := (cell_row BX2.1 3 _ rfl).1
  obtain ⟨ov, kv, hv⟩ := Row.form hrow
  have AL : Hid (AtL (fun b => W.heap.size ≤ b ∧ b < u2.heap.size) u2 (sortL (Ba.map fun b => b.1)) v) := flatS.row_at hrow (fun g hg => World.ownsRow.lt hrow g hg) HZ.out
  clear hb2 hrow BX2 R1
  subst hv
  go_wp2_with fail
  refine (eqn_any S _ Bs _ o3 ov n3 k3 _ kv u2 (H3.out u2 BX2'.out) AL.out (HS.out u2 BX2'.out) (fun b hb => hb.2)).mono ?_; rintro e u3 ⟨rfl, hb3⟩
  have B3 : Hid (Below w.heap.size w u3) := BX2'.out.trans (hb3.mono BX2'.out.size)
  clear hb3 y3
  go_wp2_with fail
  go_ret
  exact ⟨rfl, B3.out⟩
end Go.Proofs.YtobchllaopdchacGreat

namespace Go.Proofs.YtobchllaopdchacGreat
open Go.RowKit Go.Sort
set_option maxRecDepth 100000 in
set_option maxHeartbeats 8000000 in
theorem thgI_any (S : Nat → Prop) (nm : ByteArray) (r : List DRecPhase) (sl : List DRunSlot) (at_ : ByteArray) (si st : Int) (o1 o2 : Option Addr) (n1 k1 n2 k2 : Nat) (x : ByteArray) (w : World) (hn : nm.size ≤ maxLen) (hr : AtL S w r (.slice o1 n1 k1)) (h : AtL S w sl (.slice o2 n2 k2)) (hS : ∀ b, S b → b < w.heap.size) (tr : totL r ≤ 1048576) (ts : totL sl ≤ 1048576) (hx : x.size ≤ 1048576) :
    Calls Tryz.prog 116 #[.agg #[.string nm, .slice o1 n1 k1, .slice o2 n2 k2, .string at_, .int .i64 si, .int .i64 st], .string x] w fun e w' => ∃ q, e = .returned q ∧ Row w' w.heap.size 9 1 eS q (tgL (nm, r, sl, at_, si, st) x) ∧ Below w.heap.size w w' := by
  have HX : Hid (x.size ≤ 1048576) := hx
  obtain ⟨G, hG⟩ : ∃ G, G = tgL (nm, r, sl, at_, si, st) x := ⟨_, rfl⟩
  rw [← hG]
  have TG : Hid (G = if runB (nm, r, sl, at_, si, st) = true then thL sl (sltF 12 r x) else []) := hG
  clear hG hx
  have HN : Hid (nm.size ≤ maxLen) := hn
  have TR : Hid (totL r ≤ 1048576) := tr
  have TS : Hid (totL sl ≤ 1048576) := ts
  obtain ⟨W, EW, BW, RW, sW⟩ := box_new w #[.string nm, .slice o1 n1 k1, .slice o2 n2 k2, .string at_, .int .i64 si, .int .i64 st] 49
  have BOX : Hid (∀ u, Below W.heap.size W u → u.heap[w.heap.size]? = some (.cells #[.string nm, .slice o1 n1 k1, .slice o2 n2 k2, .string at_, .int .i64 si, .int .i64 st] 49 (0, 0)) ∧ Below w.heap.size w u) := fun u hu => ⟨(hu.block _ (by omega)).trans RW.out, BW.out.trans (hu.mono (by omega))⟩
  have HR : Hid _ := hr.ups hS
  have HA : Hid _ := h.ups hS
  have HS : Hid _ := lt_up hS
  have h0 := fun u (hu : Below W.heap.size W u) => cell_row (BOX.out u hu).1
  have Y : Hid (∀ u, Below W.heap.size W u → u.cell? ⟨w.heap.size, 0, none⟩ = some (.string nm) ∧ u.cell? ⟨w.heap.size, 1, none⟩ = some (.slice o1 n1 k1) ∧ u.cell? ⟨w.heap.size, 2, none⟩ = some (.slice o2 n2 k2) ∧ u.cell? ⟨w.heap.size, 3, none⟩ = some (.string at_) ∧ u.cell? ⟨w.heap.size, 4, none⟩ = some (.int .i64 si) ∧ u.cell? ⟨w.heap.size, 5, none⟩ = some (.int .i64 st)) := fun u hu =>
    ⟨(h0 u hu 0 _ rfl).1, (h0 u hu 1 _ rfl).1, (h0 u hu 2 _ rfl).1, (h0 u hu 3 _ rfl).1, (h0 u hu 4 _ rfl).1, (h0 u hu 5 _ rfl).1⟩
  clear h0
  clear h hr hS hn tr ts
  obtain ⟨y0, y1, y2, y3, y4, y5⟩ := Y.out W (Below.refl _ _)
  have BWW := BW.out
  have szW := BWW.size
  go_enter Tryz.func116, Tryz.ntmps116
  go_upto_region 1 with fail
  rw [← EW.out]
  go_wp2_with fail
  refine (runI_any S nm r sl at_ si st o1 o2 n1 k1 n2 k2 W HN.out (HR.out _ BW.out) (HA.out _ BW.out) (HS.out _ BW.out) TR.out TS.out).mono ?_; rintro e w1 ⟨rfl, hb1⟩
  have B1 : Hid (Below W.heap.size W w1) := hb1
  have BW1 : Hid (Below w.heap.size w w1) := (BOX.out w1 hb1).2
  clear y0 y1 y2 y3 y4 y5 hb1
  obtain ⟨y0, y1, y2, y3, y4, y5⟩ := Y.out w1 B1.out
  cases c : runB (nm, r, sl, at_, si, st)
  · rw [c] at TG
    obtain rfl : G = [] := TG.out
    clear y0 y1 y2 y3 y4 y5 szW BWW
    go_wp2_with fail
    go_ret
    exact ⟨_, rfl, Row.nil _ _ _ _ _, BW1.out⟩
  rw [c, if_pos rfl] at TG
  have HP := run_rec c
  have hR : RecP r := HP.1
  have HD : Hid ((sl.map (·.1)).Nodup) := run_dist c
  obtain ⟨L, hL⟩ : ∃ L, L = sltF 12 r x := ⟨_, rfl⟩
  have hsl : slL r x = L := by rw [hL]; unfold slL; rw [rec_yes hR]; rfl
  have hll : L.length ≤ 8192 := by rw [hL]; exact slt_small r (by omega) _
  have HLL : Hid (L.length ≤ 8192) := hll
  have CS : Hid (∀ u, Below w.heap.size w u → Calls Tryz.prog 143 #[.slice o1 n1 k1, .string x] u fun e w' => ∃ q, e = .returned q ∧ OnL (fun b => u.heap.size ≤ b ∧ b < w'.heap.size) w' L q ∧ Below u.heap.size u w') := fun u hu => by
    rw [← hsl]; exact slotsI_any S r _ _ u (HR.out u hu) (HS.out u hu) TR.out HX.out
  rw [← hL] at TG
  have hG : G = thL sl L := TG.out
  subst hG
  have HDR : Hid (Below w1.heap.size w1 w1.drew) := (Below.refl _ _).drew
  have q0 := fun d os => cell_regrown y0 d os
  have q1 := fun d os => cell_regrown y1 d os
  have q2 := fun d os => cell_regrown y2 d os
  have q3 := fun d os => cell_regrown y3 d os
  have q4 := fun d os => cell_regrown y4 d os
  have q5 := fun d os => cell_regrown y5 d os
  clear hL HP hR hll TG y0 y1 y2 y3 y4 y5 szW BWW hsl
  go_wp2_with fail
  refine wp_region_mix 6 [0, 2, 3, 4] (by kernel_rfl) (by kernel_rfl) ?_
  simp only [List.filterMap_cons, List.filterMap_nil, List.getElem?_cons_succ, List.getElem?_cons_zero]
  repeat (first | go_big_quiet_step (fail) | quiet_step (fail))
  refine wpQuiet_nil ?_
  clear q0 q1 q2 q3 q4 q5
  have bdr : Hid (Below w.heap.size w w1.drew) := BW1.out.trans (HDR.out.mono BW1.out.size)
  refine call1 (md := .any) (f := 1) (i := 1) (dc := 9) (fn := 146) ⟨rfl, rfl, rfl, by decide⟩ (by kernel_rfl) ?run ((slotThings_any S sl nm at_ (.slice o1 n1 k1) (.slice o2 n2 k2) si st w1.drew (HA.out _ bdr.out) (HS.out _ bdr.out) HD.out ⟨_, _, _, rfl⟩).mono ?_)
  case run => go_simp
  rintro e u ⟨m, rfl, hm, hM, hb1⟩
  have MM : Hid (Mr u m (thO sl)) := hM
  have C1 : Hid (Below w1.heap.size w1 u) := HDR.out.trans (hb1.mono HDR.out.size)
  have BU : Hid (Below w.heap.size w u) := BW1.out.trans (C1.out.mono BW1.out.size)
  refine ⟨_, rfl, regrown_of_below C1.out, ?_⟩
  clear hb1 hM hm
  simp only [Act.put, List.setIfInBounds_toArray, List.set_cons_zero, List.set_cons_succ]
  refine call1 (md := .any) (f := 0) (i := 5) (dc := 13) (fn := 143) ⟨rfl, rfl, rfl, by decide⟩ (by kernel_rfl) ?run2 ((CS.out u BU.out).mono ?_)
  case run2 => go_simp
  rintro e u2 ⟨q, rfl, hq, hb2⟩
  have C2 : Hid (Below w1.heap.size w1 u2) := C1.out.trans (hb2.mono C1.out.size)
  have BU2 : Hid (Below w.heap.size w u2) := BU.out.trans (hb2.mono BU.out.size)
  have M2 : Hid (Mr u2 m (thO sl)) := MM.out.below hb2 MM.out.lt
  have AL : Hid (AtL (fun b => u.heap.size ≤ b ∧ b < u2.heap.size) u2 L q) := hq.at_
  refine ⟨_, rfl, regrown_of_below C2.out, ?_⟩
  clear hb2 hq
  refine ⟨by kernel_rfl, ?_⟩
  simp only [List.drop_succ_cons, List.drop_zero, Act.put, List.setIfInBounds_toArray, List.set_cons_zero, List.set_cons_succ]
  have s2 := BU2.out.size
  go_wp2_with fail
  refine (things_any _ sl L q m u2 AL.out (fun b hb => hb.2) M2.out (by have := HLL.out; omega) (thing_small TS.out)).mono ?_; rintro e u3 ⟨q', rfl, hrow, hb3⟩
  have HO : Hid (Row u3 w.heap.size 9 1 eS q' (thL sl L)) := hrow.low s2
  have HB : Hid (Below w.heap.size w u3) := BU2.out.trans (hb3.mono s2)
  clear hrow hb3
  go_wp2_with fail
  go_ret
  exact ⟨_, rfl, HO.out, HB.out⟩
end Go.Proofs.YtobchllaopdchacGreat

namespace Go.Proofs.YtobchllaopdchacGreat
open Go.RowKit Go.Sort
theorem stepV1 {P : Program} {md : Region.Mode} {ops : Array Oper} {C : World → Prop} {n f : Nat} {L : Array Bool → Act → World → Prop} {listed : Array Bool} {i d : Nat} {o : Oper} {a : Act} {w : World} (u : Value) (w' : World) (hc : ops[i]? = some o ∧ o.guard = none ∧ o.dst = some d ∧ i < n) (r0 : Region.ready md ops listed = [i]) (run : (execOp a.eval o).run P w = .ok (.value u) w') (hC : C w') (hk : anyC P md ops C n L f (listed.setIfInBounds i true) (a.put (some d) u) w') : anyC P md ops C n L (f + 1) listed a w := by
  obtain ⟨h1, h2, h3, h4⟩ := hc
  refine anyC_step [i] r0 (by simp) (one_list ⟨h4, o, h1, h2, u, w', run, hC, ?_⟩)
  rw [h3]; exact hk
set_option maxRecDepth 100000 in
set_option maxHeartbeats 8000000 in
theorem phaseM_any (nm at_ : ByteArray) (si st : Int) (b off n1 k1 k : Nat) (v2 : Value) (p0 p2 p3 p6 p7 : ByteArray) (p1 p4 p5 : Int) (w : World) (hk : k < n1) (hb : b < w.heap.size) (c0 : w.cell? ⟨b, off + k * 8, none⟩ = some (.string p0)) (c1 : w.cell? ⟨b, off + k * 8 + 1, none⟩ = some (.int .i64 p1)) (c2 : w.cell? ⟨b, off + k * 8 + 2, none⟩ = some (.string p2)) (c3 : w.cell? ⟨b, off + k * 8 + 3, none⟩ = some (.string p3)) (c4 : w.cell? ⟨b, off + k * 8 + 4, none⟩ = some (.int .i64 p4)) (c5 : w.cell? ⟨b, off + k * 8 + 5, none⟩ = some (.int .i64 p5)) (c6 : w.cell? ⟨b, off + k * 8 + 6, none⟩ = some (.string p6)) (c7 : w.cell? ⟨b, off + k * 8 + 7, none⟩ = some (.string p7))
    (CA : ∀ u, Below w.heap.size w u → Calls Tryz.prog 111 #[.slice (some ⟨b, off, none⟩) n1 k1, .string at_] u fun e w' => e = .returned (.int .i64 (k : Int)) ∧ Below u.heap.size u w') :
    Calls Tryz.prog 162 #[.agg #[.string nm, .slice (some ⟨b, off, none⟩) n1 k1, v2, .string at_, .int .i64 si, .int .i64 st]] w fun e w' => e = .returned (.agg #[.string p0, .int .i64 p1, .string p2, .string p3, .int .i64 p4, .int .i64 p5, .string p6, .string p7]) ∧ Below w.heap.size w w' := by
  obtain ⟨W, hW⟩ : ∃ W, W = (w.alloc (.cells #[.string nm, .slice (some ⟨b, off, none⟩) n1 k1, v2, .string at_, .int .i64 si, .int .i64 st] 49)).alloc (.cells #[.string ⟨#[]⟩, .int .i64 0, .string ⟨#[]⟩, .string ⟨#[]⟩, .int .i64 0, .int .i64 0, .string ⟨#[]⟩, .string ⟨#[]⟩] 75) := ⟨_, rfl⟩
  have EW : Hid (W = (w.alloc (.cells #[.string nm, .slice (some ⟨b, off, none⟩) n1 k1, v2, .string at_, .int .i64 si, .int .i64 st] 49)).alloc (.cells #[.string ⟨#[]⟩, .int .i64 0, .string ⟨#[]⟩, .string ⟨#[]⟩, .int .i64 0, .int .i64 0, .string ⟨#[]⟩, .string ⟨#[]⟩] 75)) := hW
  have BW : Hid (Below w.heap.size w W) := by rw [hW]; exact ((Below.refl _ _).alloc (Nat.le_refl _) _).alloc (by simp) _
  have R1 : Hid (W.heap[w.heap.size]? = some (.cells #[.string nm, .slice (some ⟨b, off, none⟩) n1 k1, v2, .string at_, .int .i64 si, .int .i64 st] 49 (0, 0))) := by rw [hW]; exact (Below.heap_alloc _ _ _ (by simp)).trans (heap_alloc_new w _)
  have R2 : Hid (W.heap[w.heap.size + 1]? = some (.cells #[.string ⟨#[]⟩, .int .i64 0, .string ⟨#[]⟩, .string ⟨#[]⟩, .int .i64 0, .int .i64 0, .string ⟨#[]⟩, .string ⟨#[]⟩] 75 (0, 0))) := by
    rw [hW]
    have := heap_alloc_new (w.alloc (.cells #[.string nm, .slice (some ⟨b, off, none⟩) n1 k1, v2, .string at_, .int .i64 si, .int .i64 st] 49)) (.cells #[.string ⟨#[]⟩, .int .i64 0, .string ⟨#[]⟩, .string ⟨#[]⟩, .int .i64 0, .int .i64 0, .string ⟨#[]⟩, .string ⟨#[]⟩] 75)
    rw [World.size_alloc] at this
    exact this
  have sW : w.heap.size + 2 ≤ W.heap.size := by rw [hW]; simp
  clear hW
  have HX : Hid (∀ u, Below w.heap.size w u → u.cell? ⟨b, off + k * 8, none⟩ = some (.string p0) ∧ u.cell? ⟨b, off + k * 8 + 1, none⟩ = some (.int .i64 p1) ∧ u.cell? ⟨b, off + k * 8 + 2, none⟩ = some (.string p2) ∧ u.cell? ⟨b, off + k * 8 + 3, none⟩ = some (.string p3) ∧ u.cell? ⟨b, off + k * 8 + 4, none⟩ = some (.int .i64 p4) ∧ u.cell? ⟨b, off + k * 8 + 5, none⟩ = some (.int .i64 p5) ∧ u.cell? ⟨b, off + k * 8 + 6, none⟩ = some (.string p6) ∧ u.cell? ⟨b, off + k * 8 + 7, none⟩ = some (.string p7)) := fun u hu => ⟨(hu.cell (p := ⟨b, off + k * 8, none⟩) hb).trans c0, (hu.cell (p := ⟨b, off + k * 8 + 1, none⟩) hb).trans c1, (hu.cell (p := ⟨b, off + k * 8 + 2, none⟩) hb).trans c2, (hu.cell (p := ⟨b, off + k * 8 + 3, none⟩) hb).trans c3, (hu.cell (p := ⟨b, off + k * 8 + 4, none⟩) hb).trans c4, (hu.cell (p := ⟨b, off + k * 8 + 5, none⟩) hb).trans c5, (hu.cell (p := ⟨b, off + k * 8 + 6, none⟩) hb).trans c6, (hu.cell (p := ⟨b, off + k * 8 + 7, none⟩) hb).trans c7⟩
  clear c0 c1 c2 c3 c4 c5 c6 c7
  have HCA : Hid _ := CA
  clear CA
  have HDR : Hid (Below W.heap.size W W.drew) := (Below.refl _ _).drew
  have y1 := (cell_row R1.out 1 (.slice (some ⟨b, off, none⟩) n1 k1) rfl).1
  have y3 := (cell_row R1.out 3 (.string at_) rfl).1
  go_enter Tryz.func162, Tryz.ntmps162
  go_upto_region 1 with fail
  rw [← EW.out]
  have q1 := fun d os => cell_regrown y1 d os
  have q3 := fun d os => cell_regrown y3 d os
  clear y1 y3
  refine wp_region_mix 9 [0, 1, 2, 3, 4, 5] (by kernel_rfl) (by kernel_rfl) ?_
  simp only [List.filterMap_cons, List.filterMap_nil, List.getElem?_cons_succ, List.getElem?_cons_zero]
  repeat (first | go_big_quiet_step (fail) | quiet_step (fail))
  refine wpQuiet_nil ?_
  clear q1 q3
  have bdr : Hid (Below w.heap.size w W.drew) := BW.out.trans (HDR.out.mono BW.out.size)
  refine call1 (md := .any) (f := 2) (i := 6) (dc := 9) (fn := 111) ⟨rfl, rfl, rfl, by decide⟩ (by kernel_rfl) ?run ((HCA.out W.drew bdr.out).mono ?_)
  case run => go_simp
  rintro e u ⟨rfl, hb1⟩
  have C1 : Hid (Below W.heap.size W u) := HDR.out.trans (hb1.mono HDR.out.size)
  have BU : Hid (Below w.heap.size w u) := BW.out.trans (C1.out.mono BW.out.size)
  refine ⟨_, rfl, regrown_of_below C1.out, ?_⟩
  clear hb1
  simp only [Act.put, List.setIfInBounds_toArray, List.set_cons_zero, List.set_cons_succ]
  refine stepV1 (md := .any) (f := 1) (i := 7) (d := 10) (.pointer (some ⟨b, off + k * 8, none⟩)) u ⟨rfl, rfl, rfl, by decide⟩ (by kernel_rfl) ?r7 (regrown_of_below C1.out) ?_
  case r7 => go_simp
  simp only [Act.put, List.setIfInBounds_toArray, List.set_cons_zero, List.set_cons_succ]
  obtain ⟨x0, x1, x2, x3, x4, x5, x6, x7⟩ := HX.out u BU.out
  refine stepV1 (md := .any) (f := 0) (i := 8) (d := 11) (.agg #[.string p0, .int .i64 p1, .string p2, .string p3, .int .i64 p4, .int .i64 p5, .string p6, .string p7]) u ⟨rfl, rfl, rfl, by decide⟩ (by kernel_rfl) ?r8 (regrown_of_below C1.out) ?_
  case r8 => go_simp
  clear x0 x1 x2 x3 x4 x5 x6 x7
  refine ⟨by kernel_rfl, ?_⟩
  simp only [List.drop_succ_cons, List.drop_zero, Act.put, List.setIfInBounds_toArray, List.set_cons_zero, List.set_cons_succ]
  have FB := (C1.out.block (w.heap.size + 1) (by omega)).trans R2.out
  obtain ⟨z0, f0⟩ := cell_row FB 0 (.string ⟨#[]⟩) rfl
  obtain ⟨z1, f1⟩ := cell_row FB 1 (.int .i64 0) rfl
  obtain ⟨z2, f2⟩ := cell_row FB 2 (.string ⟨#[]⟩) rfl
  obtain ⟨z3, f3⟩ := cell_row FB 3 (.string ⟨#[]⟩) rfl
  obtain ⟨z4, f4⟩ := cell_row FB 4 (.int .i64 0) rfl
  obtain ⟨z5, f5⟩ := cell_row FB 5 (.int .i64 0) rfl
  obtain ⟨z6, f6⟩ := cell_row FB 6 (.string ⟨#[]⟩) rfl
  obtain ⟨z7, f7⟩ := cell_row FB 7 (.string ⟨#[]⟩) rfl
  go_wp2_with fail
  have FIN := (set_row (set_row (set_row (set_row (set_row (set_row (set_row (set_row FB 0 (.string p0)) 1 (.int .i64 p1)) 2 (.string p2)) 3 (.string p3)) 4 (.int .i64 p4)) 5 (.int .i64 p5)) 6 (.string p6)) 7 (.string p7))
  simp only [List.setIfInBounds_toArray, List.set_cons_zero, List.set_cons_succ] at FIN
  have BF : Below w.heap.size w ((((((((u.setCell ⟨w.heap.size + 1, 0, none⟩ (.string p0)).setCell ⟨w.heap.size + 1, 1, none⟩ (.int .i64 p1)).setCell ⟨w.heap.size + 1, 2, none⟩ (.string p2)).setCell ⟨w.heap.size + 1, 3, none⟩ (.string p3)).setCell ⟨w.heap.size + 1, 4, none⟩ (.int .i64 p4)).setCell ⟨w.heap.size + 1, 5, none⟩ (.int .i64 p5)).setCell ⟨w.heap.size + 1, 6, none⟩ (.string p6)).setCell ⟨w.heap.size + 1, 7, none⟩ (.string p7)) := ((((((((BU.out.setCell (p := ⟨w.heap.size + 1, 0, none⟩) (Nat.le_succ _) _).setCell (p := ⟨w.heap.size + 1, 1, none⟩) (Nat.le_succ _) _).setCell (p := ⟨w.heap.size + 1, 2, none⟩) (Nat.le_succ _) _).setCell (p := ⟨w.heap.size + 1, 3, none⟩) (Nat.le_succ _) _).setCell (p := ⟨w.heap.size + 1, 4, none⟩) (Nat.le_succ _) _).setCell (p := ⟨w.heap.size + 1, 5, none⟩) (Nat.le_succ _) _).setCell (p := ⟨w.heap.size + 1, 6, none⟩) (Nat.le_succ _) _).setCell (p := ⟨w.heap.size + 1, 7, none⟩) (Nat.le_succ _) _)
  generalize ((((((((u.setCell ⟨w.heap.size + 1, 0, none⟩ (.string p0)).setCell ⟨w.heap.size + 1, 1, none⟩ (.int .i64 p1)).setCell ⟨w.heap.size + 1, 2, none⟩ (.string p2)).setCell ⟨w.heap.size + 1, 3, none⟩ (.string p3)).setCell ⟨w.heap.size + 1, 4, none⟩ (.int .i64 p4)).setCell ⟨w.heap.size + 1, 5, none⟩ (.int .i64 p5)).setCell ⟨w.heap.size + 1, 6, none⟩ (.string p6)).setCell ⟨w.heap.size + 1, 7, none⟩ (.string p7)) = F at FIN BF ⊢
  have g0 := (cell_row FIN 0 (.string p0) rfl).1
  have g1 := (cell_row FIN 1 (.int .i64 p1) rfl).1
  have g2 := (cell_row FIN 2 (.string p2) rfl).1
  have g3 := (cell_row FIN 3 (.string p3) rfl).1
  have g4 := (cell_row FIN 4 (.int .i64 p4) rfl).1
  have g5 := (cell_row FIN 5 (.int .i64 p5) rfl).1
  have g6 := (cell_row FIN 6 (.string p6) rfl).1
  have g7 := (cell_row FIN 7 (.string p7) rfl).1
  exact bodyPost_ret (v := .agg #[.string p0, .int .i64 p1, .string p2, .string p3, .int .i64 p4, .int .i64 p5, .string p6, .string p7]) (by simp [results, Tryz.results162, go_sem, g0, g1, g2, g3, g4, g5, g6, g7]) rfl ⟨rfl, BF⟩
end Go.Proofs.YtobchllaopdchacGreat
