/-
  Several texts in one.
-/
import Derived.Test.YtmjafmdecgeckabGreatM25
import Derived.Test.YtmjafmdecgeckabGreatM23
import Derived.Test.YtmjafmdecgeckabGreatM24
import Derived.Test.YtmjafmdecgeckabGreatM11
import Derived.Test.YtmjafmdecgeckabGreatM12
import Derived.Test.YtmjafmdecgeckabGreatXsu
/-
  The program's test of the names of a house.
-/
namespace Go.Proofs.YtmjafmdecgeckabGreat
open Go.RowKit Go.Sort

set_option maxRecDepth 100000 in
set_option maxHeartbeats 8000000 in
theorem namOne_any (B : Nat) (v : Value) (L : List ByteArray) (nm at_ : ByteArray) (si st : Int) (o1 o2 : Option Addr) (n1 k1 n2 k2 : Nat) (w : World) (h : Row w B 9 1 eS v L) (hB : B ≤ w.heap.size) (hl : L.length ≤ 5) :
    Calls Tryz.prog 77 #[v, .agg #[.string nm, .slice o1 n1 k1, .slice o2 n2 k2, .string at_, .int .i64 si, .int .i64 st]] w fun e w' => ∃ v', e = .returned v' ∧ Row w' B 9 1 eS v' (L ++ [nm]) ∧ Below B w w' := by
  obtain ⟨W, hW⟩ : ∃ W, W = w.alloc (.cells #[.string nm, .slice o1 n1 k1, .slice o2 n2 k2, .string at_, .int .i64 si, .int .i64 st] 49) := ⟨_, rfl⟩
  have EW : Hid (W = w.alloc (.cells #[.string nm, .slice o1 n1 k1, .slice o2 n2 k2, .string at_, .int .i64 si, .int .i64 st] 49)) := hW
  have BW : Hid (Below w.heap.size w W) := by rw [hW]; exact (Below.refl _ _).alloc (Nat.le_refl _) _
  have RW : Hid (W.heap[w.heap.size]? = some (.cells #[.string nm, .slice o1 n1 k1, .slice o2 n2 k2, .string at_, .int .i64 si, .int .i64 st] 49 (0, 0))) := by rw [hW]; exact heap_alloc_new w _
  have sW : w.heap.size + 1 ≤ W.heap.size := by rw [hW]; simp
  have BB : Hid (Below B w W) := by rw [hW]; exact (Below.refl _ _).alloc hB _
  clear hW
  have HR : Hid (Row W B 9 1 eS v L) := Row.below h BW.out
  clear h
  have y0 := (cell_row RW.out 0 _ rfl).1
  have hsr : Hid (Src (W.alloc (.cells #[.string nm] 9)) (.slice (some ⟨W.heap.size, 0, none⟩) 1 1) 1 1 (enc 1 eS [nm])) := ⟨rfl, .inr ⟨_, _, rfl, by exact cell_one_new _ _ _⟩⟩
  go_enter Tryz.func77, Tryz.ntmps77
  go_upto_region 1 with fail
  rw [← EW.out]
  go_wp2_with (first
    | (at_builtin; refine wpList_app elS rfl _ _ rfl rfl rfl (HR.out.alloc _) hsr.out (flatS.enc_one _) (by unfold maxLen; omega) (by omega) (by simp; omega) ?_; intro v' w3 hown hg hbk))
  go_ret
  refine ⟨v', rfl, ?_, (BB.out.alloc (by omega) _).grown hg (by simp; omega) (fun p hp => (World.ownsRow.lt HR.out p hp).1)⟩
  show World.ownsRow _ _ _ _ _ _ _
  rw [List.length_append, enc_append]
  exact hown

set_option maxRecDepth 100000 in
set_option maxHeartbeats 8000000 in
theorem foldN_any (S : Nat → Prop) (Ba : List DRunBatch) (oa : Option Addr) (n cap : Nat) (w : World) (h : AtL S w Ba (.slice oa n cap)) (hS : ∀ b, S b → b < w.heap.size) (hl : n ≤ 5) :
    Calls Tryz.prog 76 #[.slice oa n cap, .slice none 0 0, .func (.func 77) #[] #[]] w fun e w' => ∃ v, e = .returned v ∧ Row w' w.heap.size 9 1 eS v (Ba.map fun b => b.1) ∧ Below w.heap.size w w' := by
  have en : Ba.length = n := by obtain ⟨_, _, e, _⟩ := h; cases e; rfl
  have EN : Hid (Ba.length ≤ n ∧ n ≤ Ba.length) := ⟨by omega, by omega⟩
  have H : Hid (∀ u, Below w.heap.size w u → AtL S u Ba (.slice oa n cap)) := fun u hu => h.same (Same.of_below hu hS)
  clear h hS en
  go_enter Tryz.func76, Tryz.ntmps76
  go_wp2_with fail
  go_loopw [1, 11] (fun v i wr => ∃ q : Nat, q ≤ n ∧ i = .int .i64 q ∧ Hid (Row wr w.heap.size 9 1 eS v ((Ba.take q).map fun b => b.1)) ∧ Hid (Below w.heap.size w wr)) (fun _ i _ => n - (intOf i).toNat)
  case atStart => exact ⟨0, Nat.zero_le _, rfl, by simpa [Hid, Row, enc_nil] using World.ownsRow_nil w w.heap.size 9 1, Below.refl _ _⟩
  case round =>
    obtain ⟨k, hk, rfl, hown, hbel⟩ := hrel
    have hs := hbel.out.size
    by_cases hlt : k < n
    case neg =>
      obtain rfl : n = k := by omega
      have htk : Hid (Ba.take n = Ba) := by show _ = _; rw [List.take_of_length_le (by have := EN.out; omega)]
      go_wp2_with fail
      go_ret
      refine ⟨_, rfl, ?_, hbel.out⟩
      have := hown.out
      rw [htk.out] at this
      exact this
    have hks : k < Ba.length := by have := EN.out; omega
    obtain ⟨b, off, o1, o2, n1, k1, n2, k2, rfl, hbS, c0, c1, c2, c3, c4, c5, z0, _⟩ := rb_at (H.out wr hbel.out) k hks
    obtain ⟨f, ef⟩ : ∃ f, Ba[k] = f := ⟨_, rfl⟩
    have htk : Hid ((Ba.take (k + 1)).map (fun b : DRunBatch => b.1) = (Ba.take k).map (fun b : DRunBatch => b.1) ++ [f.1]) := by
      show _ = _
      rw [List.take_add_one, List.getElem?_eq_getElem hks, ef, List.map_append]; rfl
    rw [ef] at c0 c3 c4 c5 z0
    obtain ⟨nm, r, sl, at_, si, st⟩ := f
    simp only at c0 c3 c4 c5 z0 htk
    have hlk : ((Ba.take k).map fun b : DRunBatch => b.1).length ≤ 5 := by rw [List.length_map, List.length_take]; omega
    have CW : Hid (∀ W', Below wr.heap.size wr W' → Calls Tryz.prog 77 #[u1, .agg #[.string nm, .slice o1 n1 k1, .slice o2 n2 k2, .string at_, .int .i64 si, .int .i64 st]] W' fun e w' => ∃ v', e = .returned v' ∧ Row w' w.heap.size 9 1 eS v' ((Ba.take k).map (fun b : DRunBatch => b.1) ++ [nm]) ∧ Below w.heap.size W' w') := fun W' hW' =>
      namOne_any w.heap.size u1 _ nm at_ si st o1 o2 n1 k1 n2 k2 W' (Row.below hown.out hW') (by have := hW'.size; omega) hlk
    have BXX : Hid (∀ o, Below w.heap.size w (wr.alloc o)) := fun o => hbel.out.alloc hs o
    clear z0 ef hlk
    go_wp2_with fail
    refine Calls.mono (CW.out _ ((Below.refl _ _).alloc (Nat.le_refl _) _)) ?_; rintro e w1 ⟨v', rfl, hrow, hb1⟩
    have B1 : Hid (Below w.heap.size w w1) := (BXX.out _).trans hb1
    have R1 : Hid (Row w1 w.heap.size 9 1 eS v' ((Ba.take (k + 1)).map fun b => b.1)) := by show Row _ _ _ _ _ _ _; rw [htk.out]; exact hrow
    clear hb1 hrow
    go_wp2_with fail
    go_roundw
    case rel => exact ⟨k + 1, by omega, by go_num, R1.out, B1.out⟩
    case measure => simp [intOf]; omega

theorem isNam_any (a y : ByteArray) (o1 o2 : Option Addr) (n1 k1 n2 k2 : Nat) (w : World) :
    Calls Tryz.prog 79 #[.agg #[.string a, .slice o1 n1 k1, .slice o2 n2 k2], .string y] w fun e w' => e = .returned (.bool (eqB a y)) ∧ Below w.heap.size w w' := by
  go_enter Tryz.func79, Tryz.ntmps79
  go_wp2
  go_ret
  exact ⟨rfl, (Below.refl _ _).alloc (Nat.le_refl _) _⟩
/-- Have those who share just these names? -/
noncomputable def nmeB (Bs : List DShareBatch) (L : List ByteArray) : Bool := @decide ((Bs.map fun b => b.1) = L) (Classical.propDecidable _)
theorem nme_iff {Bs : List DShareBatch} {L : List ByteArray} : nmeB Bs L = true ↔ (Bs.map fun b => b.1) = L := by unfold nmeB; exact @decide_eq_true_iff _ (Classical.propDecidable _)
theorem nme_len {Bs : List DShareBatch} {L : List ByteArray} (h : ¬ Bs.length = L.length) : nmeB Bs L = false := by
  rw [Bool.eq_false_iff]; intro hh; exact h (by rw [← nme_iff.1 hh, List.length_map])
theorem nme_at {Bs : List DShareBatch} {L : List ByteArray} {i : Nat} (hi : i < Bs.length) (h : eqB Bs[i].1 (nthB L i) = false) : nmeB Bs L = false := by
  rw [Bool.eq_false_iff]; intro hh
  have e := nme_iff.1 hh
  have : nthB L i = Bs[i].1 := by rw [← e]; simp [nthB, hi]
  rw [this] at h
  rw [(eqB_iff _ _).2 rfl] at h; cases h
theorem nme_yes {Bs : List DShareBatch} {L : List ByteArray} (h : Bs.length = L.length) (h2 : ∀ i (hi : i < Bs.length), eqB Bs[i].1 (nthB L i) = true) : nmeB Bs L = true := by
  rw [nme_iff]
  apply List.ext_getElem (by rw [List.length_map]; exact h)
  intro i h1 h3
  rw [List.getElem_map, (eqB_iff _ _).1 (h2 i (by simpa using h1))]
  simp [nthB, h3]

set_option maxRecDepth 100000 in
set_option maxHeartbeats 8000000 in
theorem eqn_any (S S' : Nat → Prop) (Bs : List DShareBatch) (L : List ByteArray) (oa ob : Option Addr) (n ka m kb : Nat) (w : World) (h : AtL S w Bs (.slice oa n ka)) (hL : AtL S' w L (.slice ob m kb)) (hS : ∀ b, S b → b < w.heap.size) (hS' : ∀ b, S' b → b < w.heap.size) :
    Calls Tryz.prog 80 #[.slice oa n ka, .slice ob m kb, .func (.func 79) #[] #[]] w fun e w' => e = .returned (.bool (nmeB Bs L)) ∧ Below w.heap.size w w' := by
  have en : Bs.length = n := by obtain ⟨_, _, e, _⟩ := h; cases e; rfl
  have em : L.length = m := by obtain ⟨_, _, e, _⟩ := hL; cases e; rfl
  have hmx : n ≤ 9223372036854775807 := by obtain ⟨_, _, e, hf, _⟩ := id h; cases e; have := hf.1; unfold maxLen at this; omega
  have hmb : m ≤ 9223372036854775807 := by obtain ⟨_, _, e, hf, _⟩ := id hL; cases e; have := hf.1; unfold maxLen at this; omega
  have EN : Hid (Bs.length ≤ n ∧ n ≤ Bs.length) := ⟨by omega, by omega⟩
  have EM : Hid (L.length ≤ m ∧ m ≤ L.length) := ⟨by omega, by omega⟩
  have ROW : Hid (∀ i (hi : i < Bs.length), ∃ (b off : Nat) (o1 : Option Addr) (n1 k1 : Nat) (o2 : Option Addr) (n2 k2 : Nat), oa = some ⟨b, off, none⟩ ∧ b < w.heap.size ∧ w.cell? ⟨b, off + i * 3, none⟩ = some (.string Bs[i].1) ∧ w.cell? ⟨b, off + i * 3 + 1, none⟩ = some (.slice o1 n1 k1) ∧ w.cell? ⟨b, off + i * 3 + 2, none⟩ = some (.slice o2 n2 k2)) := fun i hi => by
    obtain ⟨b, off, o1, n1, k1, o2, n2, k2, e, hb, e0, e1, e2, _⟩ := bat_at h i hi
    exact ⟨b, off, o1, n1, k1, o2, n2, k2, e, hS b hb, e0, e1, e2⟩
  have LAT : Hid (∀ i (hi : i < L.length), ∃ b off, ob = some ⟨b, off, none⟩ ∧ b < w.heap.size ∧ w.cell? ⟨b, off + i, none⟩ = some (.string (nthB L i))) := fun i hi => by
    obtain ⟨b, off, eo, hb, e0⟩ := tx_at hL i hi
    exact ⟨b, off, eo, hS' b hb, by rw [e0]; simp [nthB, hi]⟩
  clear h hL hS hS' en em
  go_enter Tryz.func80, Tryz.ntmps80
  by_cases hlen : n = m
  case neg =>
    go_wp2_with fail
    go_ret
    rw [nme_len (fun h => hlen (by have := EN.out; have := EM.out; omega))]
    exact ⟨rfl, Below.refl _ _⟩
  subst hlen
  go_wp2_with fail
  go_loopw [17] (fun i wr => ∃ k : Nat, k ≤ n ∧ i = .int .i64 k ∧ Hid (∀ j (hj : j < Bs.length), j < k → eqB Bs[j].1 (nthB L j) = true) ∧ Hid (Below w.heap.size w wr)) (fun i _ => n - (intOf i).toNat)
  case atStart => exact ⟨0, Nat.zero_le _, rfl, fun _ _ h => by omega, Below.refl _ _⟩
  case round =>
    obtain ⟨k, hk, rfl, hall, hbel⟩ := hrel
    have hs := hbel.out.size
    by_cases hlt : k < n
    case neg =>
      go_wp2_with fail
      go_ret
      rw [nme_yes (by have := EN.out; have := EM.out; omega) fun i hi => hall.out i hi (by have := EN.out; omega)]
      exact ⟨rfl, hbel.out⟩
    have hks : k < Bs.length := by have := EN.out; omega
    obtain ⟨b, off, o1, n1, k1, o2, n2, k2, rfl, hb, c0, c1, c2⟩ := ROW.out k hks
    obtain ⟨g, of2, rfl, hg, cg⟩ := LAT.out k (by have := EM.out; omega)
    obtain ⟨x, ex⟩ : ∃ x, Bs[k].1 = x := ⟨_, rfl⟩
    rw [ex] at c0
    obtain ⟨y, ey⟩ : ∃ y, nthB L k = y := ⟨_, rfl⟩
    rw [ey] at cg
    obtain ⟨X, hX⟩ : ∃ X, X = wr.alloc (.cells #[.string x, .slice o1 n1 k1, .slice o2 n2 k2] 103) := ⟨_, rfl⟩
    have EX : Hid (X = wr.alloc (.cells #[.string x, .slice o1 n1 k1, .slice o2 n2 k2] 103)) := hX
    have BX : Hid (Below w.heap.size w X) := by rw [hX]; exact hbel.out.alloc hs _
    have RX : Hid (X.heap[wr.heap.size]? = some (.cells #[.string x, .slice o1 n1 k1, .slice o2 n2 k2] 103 (0, 0))) := by rw [hX]; exact heap_alloc_new wr _
    have r0 := (cell_row RX.out 0 _ rfl).1
    have r1 := (cell_row RX.out 1 _ rfl).1
    have r2 := (cell_row RX.out 2 _ rfl).1
    have e0 := (hbel.out.cell (p := ⟨b, off + k * 3, none⟩) hb).trans c0
    have e1 := (hbel.out.cell (p := ⟨b, off + k * 3 + 1, none⟩) hb).trans c1
    have e2 := (hbel.out.cell (p := ⟨b, off + k * 3 + 2, none⟩) hb).trans c2
    have eg := (BX.out.cell (p := ⟨g, of2 + k, none⟩) hg).trans cg
    have EQ : Hid (∀ R, eqB x y = R → eqB Bs[k].1 (nthB L k) = R) := fun R h => by rw [ex, ey]; exact h
    clear c0 c1 c2 cg hX ex ey
    go_upto_region 6 with fail
    rw [← EX.out]
    cases c : eqB x y
    · have HP : Hid (nmeB Bs L = false) := nme_at hks (EQ.out _ c)
      go_wp2_with fail
      refine (isNam_any x y _ _ _ _ _ _ _).mono ?_; rintro e u ⟨rfl, hb1⟩
      rw [c]
      have HB : Hid (Below w.heap.size w u) := BX.out.trans (hb1.mono BX.out.size)
      clear hb1
      go_wp2_with fail
      go_ret
      rw [HP.out]
      exact ⟨rfl, HB.out⟩
    · have HP : Hid (eqB Bs[k].1 (nthB L k) = true) := EQ.out _ c
      go_wp2_with fail
      refine (isNam_any x y _ _ _ _ _ _ _).mono ?_; rintro e u ⟨rfl, hb1⟩
      rw [c]
      have HB : Hid (Below w.heap.size w u) := BX.out.trans (hb1.mono BX.out.size)
      clear hb1
      go_wp2_with fail
      go_roundw
      case rel => exact ⟨k + 1, by omega, by go_num, fun j hj hjk => by
        by_cases e : j = k
        · subst e; exact HP.out
        · exact hall.out j hj (by omega), HB.out⟩
      case measure => simp [intOf]; omega

set_option maxRecDepth 100000 in
set_option maxHeartbeats 8000000 in
theorem namesP_any (S : Nat → Prop) (now last : Int) (o2 o3 o4 o5 : Option Addr) (n2 k2 n3 k3 n4 k4 n5 k5 : Nat) (Bs : List DShareBatch) (Ba : List DRunBatch) (w : World) (hB : AtL S w Bs (.slice o3 n3 k3)) (h : AtL S w Ba (.slice o4 n4 k4)) (hS : ∀ b, S b → b < w.heap.size) (hl : n4 ≤ 5) :
    Calls Tryz.prog 43 #[.agg #[.int .i64 now, .int .i64 last, .slice o2 n2 k2, .slice o3 n3 k3, .slice o4 n4 k4, .slice o5 n5 k5]] w fun e w' => e = .returned (.bool (nmeB Bs (sortL (Ba.map fun b => b.1)))) ∧ Below w.heap.size w w' := by
  have hmf : ∀ (fn : Fn) (first cap : Array Value) (w : World), (Instr.makeFunc fn first cap).run Tryz.prog w = .ok (.func fn first cap) w := fun _ _ _ _ => rfl
  have HZ : Hid (∀ y ∈ sortL (Ba.map fun b => b.1), OkS y) := fun y hy => by
    obtain ⟨b, hb, rfl⟩ := List.mem_map.1 ((sort_mem _ _).1 hy)
    obtain ⟨i, hi, rfl⟩ := List.getElem_of_mem hb
    obtain ⟨_, _, _, _, _, _, _, _, _, _, _, _, _, _, _, _, z0, _⟩ := rb_at h i hi
    exact z0
  have HLN : Hid ((Ba.map fun b : DRunBatch => b.1).length ≤ 1048576) := by
    have en : Ba.length = n4 := by obtain ⟨_, _, e, _⟩ := h; cases e; rfl
    show _ ≤ _
    rw [List.length_map]; omega
  obtain ⟨W, hW⟩ : ∃ W, W = w.alloc (.cells #[.int .i64 now, .int .i64 last, .slice o2 n2 k2, .slice o3 n3 k3, .slice o4 n4 k4, .slice o5 n5 k5] 38) := ⟨_, rfl⟩
  have EW : Hid (W = w.alloc (.cells #[.int .i64 now, .int .i64 last, .slice o2 n2 k2, .slice o3 n3 k3, .slice o4 n4 k4, .slice o5 n5 k5] 38)) := hW
  have BW : Hid (Below w.heap.size w W) := by rw [hW]; exact (Below.refl _ _).alloc (Nat.le_refl _) _
  have RW : Hid (W.heap[w.heap.size]? = some (.cells #[.int .i64 now, .int .i64 last, .slice o2 n2 k2, .slice o3 n3 k3, .slice o4 n4 k4, .slice o5 n5 k5] 38 (0, 0))) := by rw [hW]; exact heap_alloc_new w _
  have sW : w.heap.size + 1 ≤ W.heap.size := by rw [hW]; simp
  clear hW
  have BOX : Hid (∀ u, Below W.heap.size W u → u.heap[w.heap.size]? = some (.cells #[.int .i64 now, .int .i64 last, .slice o2 n2 k2, .slice o3 n3 k3, .slice o4 n4 k4, .slice o5 n5 k5] 38 (0, 0)) ∧ Below w.heap.size w u) := fun u hu => ⟨(hu.block _ (by omega)).trans RW.out, BW.out.trans (hu.mono (by omega))⟩
  have H3 : Hid (∀ u, Below w.heap.size w u → AtL S u Bs (.slice o3 n3 k3)) := fun u hu => hB.same (Same.of_below hu hS)
  have HS : Hid (∀ u, Below w.heap.size w u → ∀ b, S b → b < u.heap.size) := fun u hu b hb => Nat.lt_of_lt_of_le (hS b hb) hu.size
  have C : Hid _ := foldN_any S Ba o4 n4 k4 W (h.same (Same.of_below BW.out hS)) (HS.out W BW.out) hl
  clear h hB hS
  have y4 := (cell_row RW.out 4 _ rfl).1
  go_enter Tryz.func43, Tryz.ntmps43
  go_upto_region 1 with fail
  rw [← EW.out]
  go_wp2_with fail
  refine Calls.mono C.out ?_; rintro e w1 ⟨v, rfl, hrow, hb1⟩
  have R1 : Hid _ := hrow
  have B1 : Hid (Below W.heap.size W w1) := hb1
  clear hb1 hrow y4 C
  go_wp2_with fail
  refine (sortR_any W.heap.size v _ w1 R1.out HLN.out B1.out.size).mono ?_; rintro e u2 ⟨rfl, hrow, hb2⟩
  have B2 : Hid (Below W.heap.size W u2) := B1.out.trans hb2
  have BX2 := BOX.out u2 B2.out
  have BX2' : Hid (Below w.heap.size w u2) := BX2.2
  have y3 := (cell_row BX2.1 3 _ rfl).1
  obtain ⟨ov, kv, hv⟩ := Row.form hrow
  have AL : Hid (AtL (fun b => W.heap.size ≤ b ∧ b < u2.heap.size) u2 (sortL (Ba.map fun b => b.1)) v) := flatS.row_at hrow (fun g hg => World.ownsRow.lt hrow g hg) HZ.out
  clear hb2 hrow BX2 R1
  subst hv
  go_wp2_with fail
  refine (eqn_any S _ Bs _ o3 ov n3 k3 _ kv u2 (H3.out u2 BX2'.out) AL.out (HS.out u2 BX2'.out) (fun b hb => hb.2)).mono ?_; rintro e u3 ⟨rfl, hb3⟩
  have B3 : Hid (Below w.heap.size w u3) := BX2'.out.trans (hb3.mono BX2'.out.size)
  clear hb3 y3
  go_wp2_with fail
  go_ret
  exact ⟨rfl, B3.out⟩

end Go.Proofs.YtmjafmdecgeckabGreat

/-
  RunThings, by the program.
-/
namespace Go.Proofs.YtmjafmdecgeckabGreat
open Go.RowKit Go.Sort


set_option maxRecDepth 100000 in
set_option maxHeartbeats 8000000 in
theorem thgI_any (S : Nat → Prop) (nm : ByteArray) (r : List DRecPhase) (sl : List DRunSlot) (at_ : ByteArray) (si st : Int) (o1 o2 : Option Addr) (n1 k1 n2 k2 : Nat) (x : ByteArray) (w : World) (hn : nm.size ≤ maxLen) (hr : AtL S w r (.slice o1 n1 k1)) (h : AtL S w sl (.slice o2 n2 k2)) (hS : ∀ b, S b → b < w.heap.size) (tr : totL r ≤ 1048576) (ts : totL sl ≤ 1048576) (hx : x.size ≤ 1048576) :
    Calls Tryz.prog 116 #[.agg #[.string nm, .slice o1 n1 k1, .slice o2 n2 k2, .string at_, .int .i64 si, .int .i64 st], .string x] w fun e w' => ∃ q, e = .returned q ∧ Row w' w.heap.size 9 1 eS q (tgL (nm, r, sl, at_, si, st) x) ∧ Below w.heap.size w w' := by
  have HX : Hid (x.size ≤ 1048576) := hx
  obtain ⟨G, hG⟩ : ∃ G, G = tgL (nm, r, sl, at_, si, st) x := ⟨_, rfl⟩
  rw [← hG]
  have TG : Hid (G = if runB (nm, r, sl, at_, si, st) = true then thL sl (sltF 12 r x) else []) := hG
  clear hG hx
  have HN : Hid (nm.size ≤ maxLen) := hn
  have TR : Hid (totL r ≤ 1048576) := tr
  have TS : Hid (totL sl ≤ 1048576) := ts
  obtain ⟨W, hW⟩ : ∃ W, W = w.alloc (.cells #[.string nm, .slice o1 n1 k1, .slice o2 n2 k2, .string at_, .int .i64 si, .int .i64 st] 49) := ⟨_, rfl⟩
  have EW : Hid (W = w.alloc (.cells #[.string nm, .slice o1 n1 k1, .slice o2 n2 k2, .string at_, .int .i64 si, .int .i64 st] 49)) := hW
  have BW : Hid (Below w.heap.size w W) := by rw [hW]; exact (Below.refl _ _).alloc (Nat.le_refl _) _
  have RW : Hid (W.heap[w.heap.size]? = some (.cells #[.string nm, .slice o1 n1 k1, .slice o2 n2 k2, .string at_, .int .i64 si, .int .i64 st] 49 (0, 0))) := by rw [hW]; exact heap_alloc_new w _
  have sW : w.heap.size + 1 ≤ W.heap.size := by rw [hW]; simp
  clear hW
  have BOX : Hid (∀ u, Below W.heap.size W u → u.heap[w.heap.size]? = some (.cells #[.string nm, .slice o1 n1 k1, .slice o2 n2 k2, .string at_, .int .i64 si, .int .i64 st] 49 (0, 0)) ∧ Below w.heap.size w u) := fun u hu => ⟨(hu.block _ (by omega)).trans RW.out, BW.out.trans (hu.mono (by omega))⟩
  have HR : Hid (∀ u, Below w.heap.size w u → AtL S u r (.slice o1 n1 k1)) := fun u hu => hr.same (Same.of_below hu hS)
  have HA : Hid (∀ u, Below w.heap.size w u → AtL S u sl (.slice o2 n2 k2)) := fun u hu => h.same (Same.of_below hu hS)
  have HS : Hid (∀ u, Below w.heap.size w u → ∀ b, S b → b < u.heap.size) := fun u hu b hb => Nat.lt_of_lt_of_le (hS b hb) hu.size
  have h0 := fun u (hu : Below W.heap.size W u) => cell_row (BOX.out u hu).1
  have Y : Hid (∀ u, Below W.heap.size W u → u.cell? ⟨w.heap.size, 0, none⟩ = some (.string nm) ∧ u.cell? ⟨w.heap.size, 1, none⟩ = some (.slice o1 n1 k1) ∧ u.cell? ⟨w.heap.size, 2, none⟩ = some (.slice o2 n2 k2) ∧ u.cell? ⟨w.heap.size, 3, none⟩ = some (.string at_) ∧ u.cell? ⟨w.heap.size, 4, none⟩ = some (.int .i64 si) ∧ u.cell? ⟨w.heap.size, 5, none⟩ = some (.int .i64 st)) := fun u hu =>
    ⟨(h0 u hu 0 _ rfl).1, (h0 u hu 1 _ rfl).1, (h0 u hu 2 _ rfl).1, (h0 u hu 3 _ rfl).1, (h0 u hu 4 _ rfl).1, (h0 u hu 5 _ rfl).1⟩
  clear h0
  clear h hr hS hn tr ts
  obtain ⟨y0, y1, y2, y3, y4, y5⟩ := Y.out W (Below.refl _ _)
  have BWW := BW.out
  have szW := BWW.size
  go_enter Tryz.func116, Tryz.ntmps116
  go_upto_region 1 with fail
  rw [← EW.out]
  go_wp2_with fail
  refine (runI_any S nm r sl at_ si st o1 o2 n1 k1 n2 k2 W HN.out (HR.out _ BW.out) (HA.out _ BW.out) (HS.out _ BW.out) TR.out TS.out).mono ?_; rintro e w1 ⟨rfl, hb1⟩
  have B1 : Hid (Below W.heap.size W w1) := hb1
  have BW1 : Hid (Below w.heap.size w w1) := (BOX.out w1 hb1).2
  clear y0 y1 y2 y3 y4 y5 hb1
  obtain ⟨y0, y1, y2, y3, y4, y5⟩ := Y.out w1 B1.out
  cases c : runB (nm, r, sl, at_, si, st)
  · rw [c] at TG
    obtain rfl : G = [] := TG.out
    clear y0 y1 y2 y3 y4 y5 szW BWW
    go_wp2_with fail
    go_ret
    exact ⟨_, rfl, Row.nil _ _ _ _ _, BW1.out⟩
  rw [c, if_pos rfl] at TG
  have HP := run_rec c
  have hR : RecP r := HP.1
  have HD : Hid ((sl.map (·.1)).Nodup) := run_dist c
  obtain ⟨L, hL⟩ : ∃ L, L = sltF 12 r x := ⟨_, rfl⟩
  have hsl : slL r x = L := by rw [hL]; unfold slL; rw [rec_yes hR]; rfl
  have hll : L.length ≤ 8192 := by rw [hL]; exact slt_small r (by omega) _
  have HLL : Hid (L.length ≤ 8192) := hll
  have CS : Hid (∀ u, Below w.heap.size w u → Calls Tryz.prog 143 #[.slice o1 n1 k1, .string x] u fun e w' => ∃ q, e = .returned q ∧ OnL (fun b => u.heap.size ≤ b ∧ b < w'.heap.size) w' L q ∧ Below u.heap.size u w') := fun u hu => by
    rw [← hsl]; exact slotsI_any S r _ _ u (HR.out u hu) (HS.out u hu) TR.out HX.out
  rw [← hL] at TG
  have hG : G = thL sl L := TG.out
  subst hG
  have HDR : Hid (Below w1.heap.size w1 w1.drew) := (Below.refl _ _).drew
  have q0 := fun d os => cell_regrown y0 d os
  have q1 := fun d os => cell_regrown y1 d os
  have q2 := fun d os => cell_regrown y2 d os
  have q3 := fun d os => cell_regrown y3 d os
  have q4 := fun d os => cell_regrown y4 d os
  have q5 := fun d os => cell_regrown y5 d os
  clear hL HP hR hll TG y0 y1 y2 y3 y4 y5 szW BWW hsl
  go_wp2_with fail
  refine wp_region_mix 6 [0, 2, 3, 4] (by kernel_rfl) (by kernel_rfl) ?_
  simp only [List.filterMap_cons, List.filterMap_nil, List.getElem?_cons_succ, List.getElem?_cons_zero]
  repeat (first | go_big_quiet_step (fail) | quiet_step (fail))
  refine wpQuiet_nil ?_
  clear q0 q1 q2 q3 q4 q5
  have bdr : Hid (Below w.heap.size w w1.drew) := BW1.out.trans (HDR.out.mono BW1.out.size)
  refine call1 (md := .any) (f := 1) (i := 1) (dc := 9) (fn := 146) ⟨rfl, rfl, rfl, by decide⟩ (by kernel_rfl) ?run ((slotThings_any S sl nm at_ (.slice o1 n1 k1) (.slice o2 n2 k2) si st w1.drew (HA.out _ bdr.out) (HS.out _ bdr.out) HD.out ⟨_, _, _, rfl⟩).mono ?_)
  case run => go_simp
  rintro e u ⟨m, rfl, hm, hM, hb1⟩
  have MM : Hid (Mr u m (thO sl)) := hM
  have C1 : Hid (Below w1.heap.size w1 u) := HDR.out.trans (hb1.mono HDR.out.size)
  have BU : Hid (Below w.heap.size w u) := BW1.out.trans (C1.out.mono BW1.out.size)
  refine ⟨_, rfl, regrown_of_below C1.out, ?_⟩
  clear hb1 hM hm
  simp only [Act.put, List.setIfInBounds_toArray, List.set_cons_zero, List.set_cons_succ]
  refine call1 (md := .any) (f := 0) (i := 5) (dc := 13) (fn := 143) ⟨rfl, rfl, rfl, by decide⟩ (by kernel_rfl) ?run2 ((CS.out u BU.out).mono ?_)
  case run2 => go_simp
  rintro e u2 ⟨q, rfl, hq, hb2⟩
  have C2 : Hid (Below w1.heap.size w1 u2) := C1.out.trans (hb2.mono C1.out.size)
  have BU2 : Hid (Below w.heap.size w u2) := BU.out.trans (hb2.mono BU.out.size)
  have M2 : Hid (Mr u2 m (thO sl)) := MM.out.below hb2 MM.out.lt
  have AL : Hid (AtL (fun b => u.heap.size ≤ b ∧ b < u2.heap.size) u2 L q) := hq.at_
  refine ⟨_, rfl, regrown_of_below C2.out, ?_⟩
  clear hb2 hq
  refine ⟨by kernel_rfl, ?_⟩
  simp only [List.drop_succ_cons, List.drop_zero, Act.put, List.setIfInBounds_toArray, List.set_cons_zero, List.set_cons_succ]
  have s2 := BU2.out.size
  go_wp2_with fail
  refine (things_any _ sl L q m u2 AL.out (fun b hb => hb.2) M2.out (by have := HLL.out; omega) (thing_small TS.out)).mono ?_; rintro e u3 ⟨q', rfl, hrow, hb3⟩
  have HO : Hid (Row u3 w.heap.size 9 1 eS q' (thL sl L)) := hrow.low s2
  have HB : Hid (Below w.heap.size w u3) := BU2.out.trans (hb3.mono s2)
  clear hrow hb3
  go_wp2_with fail
  go_ret
  exact ⟨_, rfl, HO.out, HB.out⟩

end Go.Proofs.YtmjafmdecgeckabGreat

/-
  RunOwn, by the program.
-/
namespace Go.Proofs.YtmjafmdecgeckabGreat
open Go.RowKit Go.Sort

theorem ow_names {nm : ByteArray} {r : List DRecPhase} {sl : List DRunSlot} {at_ : ByteArray} {si st : Int} {y : ByteArray} (h : totL sl ≤ 1048576) (hy : y ∈ owL (nm, r, sl, at_, si, st)) : y.size ≤ maxLen := by
  unfold owL at hy
  split at hy
  · exact th_names h hy
  · cases hy
/-- The things of a phase's slots are the same, in whatever order the slots stand. -/
theorem own_things (sl : List DRunSlot) (p : DRecPhase) : thL sl (ownL p.2.1 p.2.2.1 p.2.2.2.1) = thL sl (ofL p) := by
  refine asc_unique _ _ (both_asc _ _ List.Pairwise.nil) (both_asc _ _ List.Pairwise.nil) fun y => ?_
  unfold thL
  rw [both_memI, both_memI, List.mem_map, List.mem_map]
  constructor
  · rintro (h | ⟨z, hz, e⟩)
    · exact Or.inl h
    · exact Or.inr ⟨z, (own_mem p z).1 hz, e⟩
  · rintro (h | ⟨z, hz, e⟩)
    · exact Or.inl h
    · exact Or.inr ⟨z, (own_mem p z).2 hz, e⟩

/-- A phase by its kind tells of its slots. -/
theorem slotsV (kd : Int) (a b : ByteArray) (n wi : Int) (hk : kd = 1 ∨ kd = 2 ∨ kd = 3 ∨ kd = 4 ∨ kd = 5) : ∃ (t : TypeId) (v : Value) (fn : FuncId) (a0 : Value), phV kd a b n wi = .iface t v ∧ (∀ W, (Go.method 385 t v "loop.example/malthouse/impl.slots").run Tryz.prog W = .ok (fn, a0) W) ∧ (∀ W, (callFunc fn #[a0]).run Tryz.prog W = .ok (.enter fn #[a0]) W) ∧
    ∀ w : World, Calls Tryz.prog fn #[a0] w fun e w' => ∃ q, e = .returned q ∧ Row w' w.heap.size 9 1 eS q (ownL kd a b) ∧ Below w.heap.size w w' := by
  rcases hk with rfl | rfl | rfl | rfl | rfl
  · exact ⟨_, _, 229, .agg #[.string a], ph_1 a b n wi, fun W => by kernel_rfl, fun W => by kernel_rfl, fun w => by rw [own_1 a b (by decide)]; exact slotA_any a w⟩
  · exact ⟨_, _, 233, .agg #[.int .i64 n, .string a, .string b], ph_2 a b n wi, fun W => by kernel_rfl, fun W => by kernel_rfl, fun w => by rw [own_2]; exact slotM_any a b n w⟩
  · exact ⟨_, _, 229, .agg #[.string a], ph_3 a b n wi, fun W => by kernel_rfl, fun W => by kernel_rfl, fun w => by rw [own_1 a b (by decide)]; exact slotA_any a w⟩
  · exact ⟨_, _, 229, .agg #[.string a], ph_4 a b n wi, fun W => by kernel_rfl, fun W => by kernel_rfl, fun w => by rw [own_1 a b (by decide)]; exact slotA_any a w⟩
  · exact ⟨_, _, 229, .agg #[.string a], ph_5 a b n wi, fun W => by kernel_rfl, fun W => by kernel_rfl, fun w => by rw [own_1 a b (by decide)]; exact slotA_any a w⟩

set_option maxRecDepth 100000 in
set_option maxHeartbeats 8000000 in
theorem ownI_any (S : Nat → Prop) (nm : ByteArray) (r : List DRecPhase) (sl : List DRunSlot) (at_ : ByteArray) (si st : Int) (o1 o2 : Option Addr) (n1 k1 n2 k2 : Nat) (w : World) (hn : nm.size ≤ maxLen) (hr : AtL S w r (.slice o1 n1 k1)) (h : AtL S w sl (.slice o2 n2 k2)) (hS : ∀ b, S b → b < w.heap.size) (tr : totL r ≤ 1048576) (ts : totL sl ≤ 1048576) :
    Calls Tryz.prog 117 #[.agg #[.string nm, .slice o1 n1 k1, .slice o2 n2 k2, .string at_, .int .i64 si, .int .i64 st]] w fun e w' => ∃ q, e = .returned q ∧ Row w' w.heap.size 9 1 eS q (owL (nm, r, sl, at_, si, st)) ∧ Below w.heap.size w w' := by
  have HN : Hid (nm.size ≤ maxLen) := hn
  have TR : Hid (totL r ≤ 1048576) := tr
  have TS : Hid (totL sl ≤ 1048576) := ts
  obtain ⟨G, hG⟩ : ∃ G, G = owL (nm, r, sl, at_, si, st) := ⟨_, rfl⟩
  rw [← hG]
  have TG : Hid (G = if runB (nm, r, sl, at_, si, st) = true then thL sl (ofL (phX r at_)) else []) := hG
  clear hG
  obtain ⟨W, hW⟩ : ∃ W, W = w.alloc (.cells #[.string nm, .slice o1 n1 k1, .slice o2 n2 k2, .string at_, .int .i64 si, .int .i64 st] 49) := ⟨_, rfl⟩
  have EW : Hid (W = w.alloc (.cells #[.string nm, .slice o1 n1 k1, .slice o2 n2 k2, .string at_, .int .i64 si, .int .i64 st] 49)) := hW
  have BW : Hid (Below w.heap.size w W) := by rw [hW]; exact (Below.refl _ _).alloc (Nat.le_refl _) _
  have RW : Hid (W.heap[w.heap.size]? = some (.cells #[.string nm, .slice o1 n1 k1, .slice o2 n2 k2, .string at_, .int .i64 si, .int .i64 st] 49 (0, 0))) := by rw [hW]; exact heap_alloc_new w _
  have sW : w.heap.size + 1 ≤ W.heap.size := by rw [hW]; simp
  clear hW
  have BOX : Hid (∀ u, Below W.heap.size W u → u.heap[w.heap.size]? = some (.cells #[.string nm, .slice o1 n1 k1, .slice o2 n2 k2, .string at_, .int .i64 si, .int .i64 st] 49 (0, 0)) ∧ Below w.heap.size w u) := fun u hu => ⟨(hu.block _ (by omega)).trans RW.out, BW.out.trans (hu.mono (by omega))⟩
  have HR : Hid (∀ u, Below w.heap.size w u → AtL S u r (.slice o1 n1 k1)) := fun u hu => hr.same (Same.of_below hu hS)
  have HA : Hid (∀ u, Below w.heap.size w u → AtL S u sl (.slice o2 n2 k2)) := fun u hu => h.same (Same.of_below hu hS)
  have HS : Hid (∀ u, Below w.heap.size w u → ∀ b, S b → b < u.heap.size) := fun u hu b hb => Nat.lt_of_lt_of_le (hS b hb) hu.size
  have h0 := fun u (hu : Below W.heap.size W u) => cell_row (BOX.out u hu).1
  have Y : Hid (∀ u, Below W.heap.size W u → u.cell? ⟨w.heap.size, 0, none⟩ = some (.string nm) ∧ u.cell? ⟨w.heap.size, 1, none⟩ = some (.slice o1 n1 k1) ∧ u.cell? ⟨w.heap.size, 2, none⟩ = some (.slice o2 n2 k2) ∧ u.cell? ⟨w.heap.size, 3, none⟩ = some (.string at_) ∧ u.cell? ⟨w.heap.size, 4, none⟩ = some (.int .i64 si) ∧ u.cell? ⟨w.heap.size, 5, none⟩ = some (.int .i64 st)) := fun u hu =>
    ⟨(h0 u hu 0 _ rfl).1, (h0 u hu 1 _ rfl).1, (h0 u hu 2 _ rfl).1, (h0 u hu 3 _ rfl).1, (h0 u hu 4 _ rfl).1, (h0 u hu 5 _ rfl).1⟩
  clear h0
  have PH : Hid (runB (nm, r, sl, at_, si, st) = true → ∃ (k : Nat), atI r at_ = (k : Int) ∧ k < n1 ∧ (phaseB (phX r at_) = true) ∧ ∃ b off, o1 = some ⟨b, off, none⟩ ∧ b < w.heap.size ∧ ∀ u, Below w.heap.size w u → u.cell? ⟨b, off + k * 8, none⟩ = some (.string (phX r at_).1) ∧ u.cell? ⟨b, off + k * 8 + 1, none⟩ = some (.int .i64 (phX r at_).2.1) ∧ u.cell? ⟨b, off + k * 8 + 2, none⟩ = some (.string (phX r at_).2.2.1) ∧ u.cell? ⟨b, off + k * 8 + 3, none⟩ = some (.string (phX r at_).2.2.2.1) ∧ u.cell? ⟨b, off + k * 8 + 4, none⟩ = some (.int .i64 (phX r at_).2.2.2.2.1) ∧ u.cell? ⟨b, off + k * 8 + 5, none⟩ = some (.int .i64 (phX r at_).2.2.2.2.2.1) ∧ u.cell? ⟨b, off + k * 8 + 6, none⟩ = some (.string (phX r at_).2.2.2.2.2.2.1) ∧ u.cell? ⟨b, off + k * 8 + 7, none⟩ = some (.string (phX r at_).2.2.2.2.2.2.2)) := fun hb => by
    have hR : RecP r := (run_rec hb).1
    have h0 : 0 ≤ atI r at_ := by
      unfold runB at hb
      simp only [Bool.and_eq_true, decide_eq_true_eq] at hb
      exact hb.1.2
    rcases at_cases r at_ with e | ⟨k', hk', e, _⟩
    · omega
    obtain ⟨oa, cap, ev, _, hc⟩ := id hr
    obtain ⟨b, off, eo, hbS, cc, hcell, hat⟩ := hc k' hk'
    rw [width_DRecPhase] at hcell
    rw [at_DRecPhase, ← ph_at hk' e] at hat
    obtain ⟨⟨q0, _⟩, ⟨q1, _, _⟩, ⟨q2, _⟩, ⟨q3, _⟩, ⟨q4, _, _⟩, ⟨q5, _, _⟩, ⟨q6, _⟩, ⟨q7, _⟩⟩ := hat
    cases ev
    have hbb := hS b hbS
    refine ⟨k', e, hk', by rw [ph_at hk' e]; exact (step_of hR hk').1, b, off, eo, hbb, fun u hu => ?_⟩
    rw [← q0, ← q1, ← q2, ← q3, ← q4, ← q5, ← q6, ← q7]
    exact ⟨(hu.cell hbb).trans (hcell 0 (by omega)), (hu.cell hbb).trans (hcell 1 (by omega)), (hu.cell hbb).trans (hcell 2 (by omega)), (hu.cell hbb).trans (hcell 3 (by omega)), (hu.cell hbb).trans (hcell 4 (by omega)), (hu.cell hbb).trans (hcell 5 (by omega)), (hu.cell hbb).trans (hcell 6 (by omega)), (hu.cell hbb).trans (hcell 7 (by omega))⟩
  clear h hr hS hn tr ts
  obtain ⟨y0, y1, y2, y3, y4, y5⟩ := Y.out W (Below.refl _ _)
  have szW := BW.out.size
  go_enter Tryz.func117, Tryz.ntmps117
  go_upto_region 1 with fail
  rw [← EW.out]
  go_wp2_with fail
  refine (runI_any S nm r sl at_ si st o1 o2 n1 k1 n2 k2 W HN.out (HR.out _ BW.out) (HA.out _ BW.out) (HS.out _ BW.out) TR.out TS.out).mono ?_; rintro e w1 ⟨rfl, hb1⟩
  have B1 : Hid (Below W.heap.size W w1) := hb1
  have BW1 : Hid (Below w.heap.size w w1) := (BOX.out w1 hb1).2
  clear y0 y1 y2 y3 y4 y5 hb1
  obtain ⟨y0, y1, y2, y3, y4, y5⟩ := Y.out w1 B1.out
  cases c : runB (nm, r, sl, at_, si, st)
  · rw [c] at TG
    obtain rfl : G = [] := TG.out
    clear y0 y1 y2 y3 y4 y5 szW
    go_wp2_with fail
    go_ret
    exact ⟨_, rfl, Row.nil _ _ _ _ _, BW1.out⟩
  rw [c, if_pos rfl] at TG
  have HD : Hid ((sl.map (·.1)).Nodup) := run_dist c
  obtain ⟨k, hk, hkn, hph, b, off, rfl, hb, hx⟩ := PH.out c
  have HX : Hid _ := hx
  obtain ⟨p, hp⟩ : ∃ p, p = phX r at_ := ⟨_, rfl⟩
  rw [← hp] at HX TG hph
  have hG : G = thL sl (ofL p) := TG.out
  have hkd := kind_of hph
  have hz := ph_args hph
  rw [← own_things] at hG
  obtain ⟨pn, kd, pa, pb, pc, wi, th, el⟩ := p
  simp only at HX hG hkd hz
  obtain ⟨t, v, fn, a0, hv, hm, hcf, hc⟩ := slotsV kd pa pb pc wi hkd
  obtain ⟨L, hL⟩ : ∃ L, L = ownL kd pa pb := ⟨_, rfl⟩
  rw [← hL] at hG hc
  have hzz : ∀ x ∈ L, OkS x := fun x hx => by
    have : x.size ≤ 8 := by
      rw [hL] at hx
      unfold ownL at hx
      split at hx
      · rename_i h2
        rcases List.mem_cons.1 hx with rfl | hx
        · exact name_le hz.1
        · rcases List.mem_cons.1 hx with rfl | hx
          · exact name_le (hz.2 h2)
          · cases hx
      · rcases List.mem_cons.1 hx with rfl | hx
        · exact name_le hz.1
        · cases hx
    show x.size ≤ maxLen
    exact Nat.le_trans this (by decide)
  have HZ : Hid (∀ x ∈ L, OkS x) := hzz
  have HLL : Hid (L.length ≤ 100000) := by
    show _ ≤ _
    rw [hL]
    unfold ownL
    split <;> simp
  have HC : Hid _ := hc
  subst hG
  have CP : Hid (∀ u, Calls Tryz.prog 161 #[.agg #[.string pn, .int .i64 kd, .string pa, .string pb, .int .i64 pc, .int .i64 wi, .string th, .string el]] u fun e w' => e = .returned (.iface t v) ∧ Below u.heap.size u w') := fun u => by rw [← hv]; exact phasing_any pn pa pb th el kd pc wi u
  have CA : Hid (∀ u, Below w.heap.size w u → Calls Tryz.prog 111 #[.slice (some ⟨b, off, none⟩) n1 k1, .string at_] u fun e w' => e = .returned (.int .i64 (k : Int)) ∧ Below u.heap.size u w') := fun u hu => by rw [← hk]; exact phAt_any S r _ at_ u (HR.out u hu) (HS.out u hu)
  clear hL TG hk hp hv hc hph hkd hz hzz szW hx
  go_wp2_with fail
  refine (CA.out w1 BW1.out).mono ?_; rintro e w2 ⟨rfl, hb2⟩
  have B2 : Hid (Below W.heap.size W w2) := B1.out.trans (hb2.mono B1.out.size)
  have BW2 : Hid (Below w.heap.size w w2) := (BOX.out w2 B2.out).2
  clear y0 y1 y2 y3 y4 y5 hb2
  obtain ⟨y0, y1, y2, y3, y4, y5⟩ := Y.out w2 B2.out
  obtain ⟨x0, x1, x2, x3, x4, x5, x6, x7⟩ := HX.out w2 BW2.out
  have HDR : Hid (Below w2.heap.size w2 w2.drew) := (Below.refl _ _).drew
  have q0 := fun d os => cell_regrown y0 d os
  have q1 := fun d os => cell_regrown y1 d os
  have q2 := fun d os => cell_regrown y2 d os
  have q3 := fun d os => cell_regrown y3 d os
  have q4 := fun d os => cell_regrown y4 d os
  have q5 := fun d os => cell_regrown y5 d os
  have qx0 := fun d os => cell_regrown x0 d os
  have qx1 := fun d os => cell_regrown x1 d os
  have qx2 := fun d os => cell_regrown x2 d os
  have qx3 := fun d os => cell_regrown x3 d os
  have qx4 := fun d os => cell_regrown x4 d os
  have qx5 := fun d os => cell_regrown x5 d os
  have qx6 := fun d os => cell_regrown x6 d os
  have qx7 := fun d os => cell_regrown x7 d os
  clear y0 y1 y2 y3 y4 y5 x0 x1 x2 x3 x4 x5 x6 x7
  go_wp2_with fail
  refine wp_region_mix 9 [0, 2, 3, 4, 5, 6] (by kernel_rfl) (by kernel_rfl) ?_
  simp only [List.filterMap_cons, List.filterMap_nil, List.getElem?_cons_succ, List.getElem?_cons_zero]
  repeat (first | go_big_quiet_step (fail) | quiet_step (fail))
  refine wpQuiet_nil ?_
  clear q0 q1 q2 q3 q4 q5 qx0 qx1 qx2 qx3 qx4 qx5 qx6 qx7
  have bdr : Hid (Below w.heap.size w w2.drew) := BW2.out.trans (HDR.out.mono BW2.out.size)
  refine call1 (md := .any) (f := 2) (i := 1) (dc := 13) (fn := 146) ⟨rfl, rfl, rfl, by decide⟩ (by kernel_rfl) ?run ((slotThings_any S sl nm at_ (.slice (some ⟨b, off, none⟩) n1 k1) (.slice o2 n2 k2) si st w2.drew (HA.out _ bdr.out) (HS.out _ bdr.out) HD.out ⟨_, _, _, rfl⟩).mono ?_)
  case run => go_simp
  rintro e u ⟨m, rfl, hm', hM, hb1⟩
  have MM : Hid (Mr u m (thO sl)) := hM
  have C1 : Hid (Below w2.heap.size w2 u) := HDR.out.trans (hb1.mono HDR.out.size)
  have BU : Hid (Below w.heap.size w u) := BW2.out.trans (C1.out.mono BW2.out.size)
  refine ⟨_, rfl, regrown_of_below C1.out, ?_⟩
  clear hb1 hM hm'
  simp only [Act.put, List.setIfInBounds_toArray, List.set_cons_zero, List.set_cons_succ]
  refine call1 (md := .any) (f := 1) (i := 7) (dc := 19) (fn := 161) ⟨rfl, rfl, rfl, by decide⟩ (by kernel_rfl) ?run2 ((CP.out u).mono ?_)
  case run2 => go_simp
  rintro e u2 ⟨rfl, hb2⟩
  have C2 : Hid (Below w2.heap.size w2 u2) := C1.out.trans (hb2.mono C1.out.size)
  have BU2 : Hid (Below w.heap.size w u2) := BU.out.trans (hb2.mono BU.out.size)
  have M2 : Hid (Mr u2 m (thO sl)) := MM.out.below hb2 MM.out.lt
  refine ⟨_, rfl, regrown_of_below C2.out, ?_⟩
  clear hb2
  simp only [Act.put, List.setIfInBounds_toArray, List.set_cons_zero, List.set_cons_succ]
  refine call1 (md := .any) (f := 0) (i := 8) (dc := 20) (fn := fn) (args := #[a0]) ⟨rfl, rfl, rfl, by decide⟩ (by kernel_rfl) ?run3 (Calls.mono (HC.out u2) ?_)
  case run3 => go_simp
  rintro e u3 ⟨q, rfl, hrow, hb3⟩
  have C3 : Hid (Below w2.heap.size w2 u3) := C2.out.trans (hb3.mono C2.out.size)
  have BU3 : Hid (Below w.heap.size w u3) := BU2.out.trans (hb3.mono BU2.out.size)
  have M3 : Hid (Mr u3 m (thO sl)) := M2.out.below hb3 M2.out.lt
  have AL : Hid (AtL (fun b => u2.heap.size ≤ b ∧ b < u3.heap.size) u3 L q) := flatS.row_at hrow (fun g hg => World.ownsRow.lt hrow g hg) HZ.out
  refine ⟨_, rfl, regrown_of_below C3.out, ?_⟩
  clear hb3 hrow
  refine ⟨by kernel_rfl, ?_⟩
  simp only [List.drop_succ_cons, List.drop_zero, Act.put, List.setIfInBounds_toArray, List.set_cons_zero, List.set_cons_succ]
  have s2 := BU3.out.size
  go_wp2_with fail
  refine (things_any _ sl L q m u3 AL.out (fun b hb => hb.2) M3.out HLL.out (thing_small TS.out)).mono ?_; rintro e u4 ⟨q', rfl, hrow, hb4⟩
  have HO : Hid (Row u4 w.heap.size 9 1 eS q' (thL sl L)) := hrow.low s2
  have HB : Hid (Below w.heap.size w u4) := BU3.out.trans (hb4.mono s2)
  clear hrow hb4
  go_wp2_with fail
  go_ret
  exact ⟨_, rfl, HO.out, HB.out⟩

end Go.Proofs.YtmjafmdecgeckabGreat
