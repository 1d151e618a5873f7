/-
  Several texts in one.
-/
import Derived.Test.YtigkkelaadbhcabGreatM50
import Derived.Test.YtigkkelaadbhcabGreatM35
namespace Go.Proofs.YtigkkelaadbhcabGreat
open Go.RowKit Go.Sort
noncomputable def hT (now last : Int) (T : List ByteArray) (Bs : List DShareBatch) (Ba : List DRunBatch) (Do : List DRunDone) : Nat → Bool
  | 0 => inB now 0 100000 && inB last 0 1000000
  | 1 => (ordS (T, Bs)).2
  | 2 => donB now Do
  | 3 => basB last Ba
  | 4 => nmeB Bs (sortL (Ba.map fun b => b.1))
  | _ => nedA Bs Ba
def fnK : Nat → FuncId
  | 0 => 44
  | 1 => 45
  | 2 => 46
  | 3 => 47
  | 4 => 48
  | _ => 49
theorem fnK_run (k : Nat) (hk : k < 6) (v : Value) (W : World) : (callFunc (fnK k) #[v]).run Tryz.prog W = .ok (.enter (fnK k) #[v]) W := by
  rcases (show k = 0 ∨ k = 1 ∨ k = 2 ∨ k = 3 ∨ k = 4 ∨ k = 5 by omega) with rfl | rfl | rfl | rfl | rfl | rfl <;> kernel_rfl
section
variable {now last : Int} {T : List ByteArray} {Bs : List DShareBatch} {Ba : List DRunBatch} {Do : List DRunDone}
theorem hop_no {k : Nat} (hk : k < 6) (h : hT now last T Bs Ba Do k = false) : hopB now last T Bs Ba Do = false := by
  rcases (show k = 0 ∨ k = 1 ∨ k = 2 ∨ k = 3 ∨ k = 4 ∨ k = 5 by omega) with rfl | rfl | rfl | rfl | rfl | rfl <;> simp only [hT] at h <;> unfold hopB <;> rw [h] <;> simp
theorem hop_yes (h : ∀ k, k < 6 → hT now last T Bs Ba Do k = true) : hopB now last T Bs Ba Do = true := by
  have h0 := h 0 (by decide)
  have h1 := h 1 (by decide)
  have h2 := h 2 (by decide)
  have h3 := h 3 (by decide)
  have h4 := h 4 (by decide)
  have h5 := h 5 (by decide)
  simp only [hT] at h0 h1 h2 h3 h4 h5
  unfold hopB
  rw [h0, h1, h2, h3, h4, h5]; rfl
end
set_option maxRecDepth 100000 in
set_option maxHeartbeats 8000000 in
theorem houI_any (S : Nat → Prop) (now last : Int) (o2 o3 o4 o5 : Option Addr) (n2 k2 n3 k3 n4 k4 n5 k5 : Nat) (T : List ByteArray) (Bs : List DShareBatch) (Ba : List DRunBatch) (Do : List DRunDone) (w : World) (hT0 : AtL S w T (.slice o2 n2 k2)) (hB : AtL S w Bs (.slice o3 n3 k3)) (h : AtL S w Ba (.slice o4 n4 k4)) (hD : AtL S w Do (.slice o5 n5 k5)) (hS : ∀ b, S b → b < w.heap.size) (ht : Lay.tot (α := DShareBook) (T, Bs) ≤ 1048576) (hZ : ∀ i (hi : i < Ba.length), totL Ba[i].2.1 ≤ 1048576 ∧ totL Ba[i].2.2.1 ≤ 1048576 ∧ Ba[i].2.2.2.1.size ≤ 1048576) :
    Calls Tryz.prog 20 #[.agg #[.int .i64 now, .int .i64 last, .slice o2 n2 k2, .slice o3 n3 k3, .slice o4 n4 k4, .slice o5 n5 k5]] w fun e w' => e = .returned (.bool (houB now last T Bs Ba Do)) ∧ Below w.heap.size w w' := by
  rw [hou_hop]
  have CK : Hid (∀ k, k < 6 → (∀ j, j < k → hT now last T Bs Ba Do j = true) → ∀ u, Below w.heap.size w u → Calls Tryz.prog (fnK k) #[.agg #[.int .i64 now, .int .i64 last, .slice o2 n2 k2, .slice o3 n3 k3, .slice o4 n4 k4, .slice o5 n5 k5]] u fun e w' => e = .returned (.bool (hT now last T Bs Ba Do k)) ∧ Below u.heap.size u w') := fun k hk hall u hu => by
    have H2 := hT0.same (Same.of_below hu hS)
    have H3 := hB.same (Same.of_below hu hS)
    have H4 := h.same (Same.of_below hu hS)
    have H5 := hD.same (Same.of_below hu hS)
    have HS : ∀ b, S b → b < u.heap.size := fun b hb => Nat.lt_of_lt_of_le (hS b hb) hu.size
    rcases (show k = 0 ∨ k = 1 ∨ k = 2 ∨ k = 3 ∨ k = 4 ∨ k = 5 by omega) with rfl | rfl | rfl | rfl | rfl | rfl
    · exact ticksP_any now last o2 o3 o4 o5 n2 k2 n3 k3 n4 k4 n5 k5 u
    · exact shareP_any S now last o2 o3 o4 o5 n2 k2 n3 k3 n4 k4 n5 k5 T Bs u H2 H3 HS ht
    · exact donesP_any S now last o2 o3 o4 o5 n2 k2 n3 k3 n4 k4 n5 k5 Do u H5 HS
    · exact batchesP_any S now last o2 o3 o4 o5 n2 k2 n3 k3 n4 k4 n5 k5 Ba u H4 HS (fun i hi => ⟨(hZ i hi).1, (hZ i hi).2.1⟩)
    · have h3 : basB last Ba = true := hall 3 (by decide)
      have en : Ba.length = n4 := by obtain ⟨_, _, e, _⟩ := h; cases e; rfl
      exact namesP_any S now last o2 o3 o4 o5 n2 k2 n3 k3 n4 k4 n5 k5 Bs Ba u H3 H4 HS (by have := (bas_iff.1 h3).1; omega)
    · have h4 : nmeB Bs (sortL (Ba.map fun b => b.1)) = true := hall 4 (by decide)
      exact needsP_any S now last o2 o3 o4 o5 n2 k2 n3 k3 n4 k4 n5 k5 Bs Ba u H3 H4 HS hZ (nme_has h4)
  have YES : Hid ((∀ k, k < 6 → hT now last T Bs Ba Do k = true) → hopB now last T Bs Ba Do = true) := hop_yes
  have NO : Hid (∀ k, k < 6 → hT now last T Bs Ba Do k = false → hopB now last T Bs Ba Do = false) := fun k hk h => hop_no hk h
  obtain ⟨V, hV⟩ : ∃ V, V = hopB now last T Bs Ba Do := ⟨_, rfl⟩
  rw [← hV] at YES NO ⊢
  obtain ⟨A, hA⟩ : ∃ A, A = hT now last T Bs Ba Do := ⟨_, rfl⟩
  rw [← hA] at YES NO CK
  clear hT0 hB h hD hS ht hZ hV hA
  obtain ⟨W, hW⟩ : ∃ W, W = (w.alloc (.cells #[.int .i64 now, .int .i64 last, .slice o2 n2 k2, .slice o3 n3 k3, .slice o4 n4 k4, .slice o5 n5 k5] 38)).alloc (.cells #[.func (.func 44) #[] #[], .func (.func 45) #[] #[], .func (.func 46) #[] #[], .func (.func 47) #[] #[], .func (.func 48) #[] #[], .func (.func 49) #[] #[]] 48) := ⟨_, rfl⟩
  have EW : Hid (W = (w.alloc (.cells #[.int .i64 now, .int .i64 last, .slice o2 n2 k2, .slice o3 n3 k3, .slice o4 n4 k4, .slice o5 n5 k5] 38)).alloc (.cells #[.func (.func 44) #[] #[], .func (.func 45) #[] #[], .func (.func 46) #[] #[], .func (.func 47) #[] #[], .func (.func 48) #[] #[], .func (.func 49) #[] #[]] 48)) := hW
  have BW : Hid (Below w.heap.size w W) := by rw [hW]; exact ((Below.refl _ _).alloc (Nat.le_refl _) _).alloc (by simp) _
  have RW : Hid (W.heap[w.heap.size]? = some (.cells #[.int .i64 now, .int .i64 last, .slice o2 n2 k2, .slice o3 n3 k3, .slice o4 n4 k4, .slice o5 n5 k5] 38 (0, 0))) := by rw [hW]; exact ((Below.refl (w.heap.size + 1) _).alloc (by simp) _).block _ (by omega) |>.trans (heap_alloc_new w _)
  have RX : Hid (W.heap[w.heap.size + 1]? = some (.cells #[.func (.func 44) #[] #[], .func (.func 45) #[] #[], .func (.func 46) #[] #[], .func (.func 47) #[] #[], .func (.func 48) #[] #[], .func (.func 49) #[] #[]] 48 (0, 0))) := by rw [hW]; show _ = _; have h := heap_alloc_new (w.alloc (.cells #[.int .i64 now, .int .i64 last, .slice o2 n2 k2, .slice o3 n3 k3, .slice o4 n4 k4, .slice o5 n5 k5] 38)) (.cells #[.func (.func 44) #[] #[], .func (.func 45) #[] #[], .func (.func 46) #[] #[], .func (.func 47) #[] #[], .func (.func 48) #[] #[], .func (.func 49) #[] #[]] 48); rw [show (w.alloc (.cells #[.int .i64 now, .int .i64 last, .slice o2 n2 k2, .slice o3 n3 k3, .slice o4 n4 k4, .slice o5 n5 k5] 38)).heap.size = w.heap.size + 1 by simp] at h; exact h
  have sW : w.heap.size + 2 ≤ W.heap.size := by rw [hW]; simp
  clear hW
  have Y : Hid (∀ u, Below W.heap.size W u → Below w.heap.size w u ∧ u.cell? ⟨w.heap.size, 0, none⟩ = some (.int .i64 now) ∧ u.cell? ⟨w.heap.size, 1, none⟩ = some (.int .i64 last) ∧ u.cell? ⟨w.heap.size, 2, none⟩ = some (.slice o2 n2 k2) ∧ u.cell? ⟨w.heap.size, 3, none⟩ = some (.slice o3 n3 k3) ∧ u.cell? ⟨w.heap.size, 4, none⟩ = some (.slice o4 n4 k4) ∧ u.cell? ⟨w.heap.size, 5, none⟩ = some (.slice o5 n5 k5) ∧ ∀ k, k < 6 → u.cell? ⟨w.heap.size + 1, k, none⟩ = some (.func (.func (fnK k)) #[] #[])) := fun u hu => by
    have b1 := (hu.block _ (by omega)).trans RW.out
    have b2 := (hu.block _ (by omega)).trans RX.out
    have p := fun i v h => (cell_row b1 i v h).1
    refine ⟨BW.out.trans (hu.mono (by omega)), p 0 _ rfl, p 1 _ rfl, p 2 _ rfl, p 3 _ rfl, p 4 _ rfl, p 5 _ rfl, fun k hk => ?_⟩
    rcases (show k = 0 ∨ k = 1 ∨ k = 2 ∨ k = 3 ∨ k = 4 ∨ k = 5 by omega) with rfl | rfl | rfl | rfl | rfl | rfl <;> exact (cell_row b2 _ _ rfl).1
  go_enter Tryz.func20, Tryz.ntmps20
  go_wp2_with fail
  rw [← EW.out]
  go_loopw [7] (fun i wr => ∃ k : Nat, k ≤ 6 ∧ i = .int .i64 k ∧ Hid (∀ j, j < k → A j = true) ∧ Hid (Below W.heap.size W wr)) (fun i _ => 6 - (intOf i).toNat)
  case atStart => exact ⟨0, by omega, rfl, fun _ h => by omega, Below.refl _ _⟩
  case round =>
    obtain ⟨k, hk, rfl, hall, hbel⟩ := hrel
    have hs := hbel.out.size
    obtain ⟨bwr', y0, y1, y2, y3, y4, y5, fx⟩ := Y.out wr hbel.out
    have bwr : Hid _ := bwr'
    clear bwr'
    by_cases hlt : k < 6
    case neg =>
      have EV : Hid (V = true) := YES.out (fun j hj => hall.out j (by omega))
      clear fx
      go_wp2_with fail
      go_ret
      rw [EV.out]
      exact ⟨rfl, bwr.out⟩
    have f1 := fx k hlt
    clear fx
    have C : Hid _ := CK.out k hlt hall.out wr bwr.out
    have hcf := fnK_run k hlt
    cases c : A k
    · rw [c] at C
      have EV : Hid (V = false) := NO.out k hlt c
      go_wp2_with fail
      refine Calls.mono C.out ?_; rintro e w1 ⟨rfl, hb1⟩
      have B1 : Hid (Below w.heap.size w w1) := bwr.out.trans (hb1.mono bwr.out.size)
      clear hb1 y0 y1 y2 y3 y4 y5 f1 C
      go_wp2_with fail
      go_ret
      rw [EV.out]
      exact ⟨rfl, B1.out⟩
    · rw [c] at C
      have HP : Hid (A k = true) := c
      go_wp2_with fail
      refine Calls.mono C.out ?_; rintro e w1 ⟨rfl, hb1⟩
      have B1 : Hid (Below W.heap.size W w1) := hbel.out.trans (hb1.mono hs)
      clear hb1 y0 y1 y2 y3 y4 y5 f1 C
      go_wp2_with fail
      go_roundw
      case rel => exact ⟨k + 1, by omega, by go_num, fun j hj => by
        by_cases e : j = k
        · subst e; exact HP.out
        · exact hall.out j (by omega), B1.out⟩
      case measure => simp [intOf]; omega
end Go.Proofs.YtigkkelaadbhcabGreat

namespace Go.Proofs.YtigkkelaadbhcabGreat
open Go.RowKit Go.Sort
theorem go_run {now last : Int} {T : List ByteArray} {Bs : List DShareBatch} {Ba : List DRunBatch} {Do : List DRunDone} (h : houB now last T Bs Ba Do = true) (i : Nat) (hi : i < Ba.length) : Ba[i].1.size ≤ 8 ∧ -1 ≤ Ba[i].2.2.2.2.1 := by
  have h := ((hou_iff.1 h).row i hi).run
  unfold runB at h
  unfold inB at h
  simp only [Bool.and_eq_true, decide_eq_true_eq] at h
  exact ⟨name_le h.1.1.1.1.1, h.2.1⟩
theorem go_five {now last : Int} {T : List ByteArray} {Bs : List DShareBatch} {Ba : List DRunBatch} {Do : List DRunDone} (h : houB now last T Bs Ba Do = true) : Ba.length ≤ 5 := by
  have P := hou_iff.1 h
  have h1 := (sha_iff.1 P.shares).len
  have h2 : bokB (T, Bs) = true := by
    have hs := P.safe
    unfold ordS at hs
    cases c : bokB (T, Bs) with
    | true => rfl
    | false => rw [c] at hs; cases hs
  have h3 : Bs.length ≤ 5 := (bok_iff.1 h2).len
  omega
set_option maxRecDepth 100000 in
set_option maxHeartbeats 8000000 in
theorem goesI_any (S : Nat → Prop) (now last : Int) (o2 o3 o4 o5 : Option Addr) (n2 k2 n3 k3 n4 k4 n5 k5 : Nat) (T : List ByteArray) (Bs : List DShareBatch) (Ba : List DRunBatch) (Do : List DRunDone) (w : World) (hT0 : AtL S w T (.slice o2 n2 k2)) (hB : AtL S w Bs (.slice o3 n3 k3)) (h : AtL S w Ba (.slice o4 n4 k4)) (hD : AtL S w Do (.slice o5 n5 k5)) (hS : ∀ b, S b → b < w.heap.size) (ht : Lay.tot (α := DShareBook) (T, Bs) ≤ 1048576) (hZ : ∀ i (hi : i < Ba.length), totL Ba[i].2.1 ≤ 1048576 ∧ totL Ba[i].2.2.1 ≤ 1048576 ∧ Ba[i].2.2.2.1.size ≤ 1048576) :
    Calls Tryz.prog 7 #[.agg #[.int .i64 now, .int .i64 last, .slice o2 n2 k2, .slice o3 n3 k3, .slice o4 n4 k4, .slice o5 n5 k5]] w fun e w' => ∃ q, e = .returned q ∧ Row w' w.heap.size 9 1 eS q (gosH now last T Bs Ba Do) ∧ Below w.heap.size w w' := by
  have ta_y : ∀ (s : Int) W, (Instr.typeAssert (.iface 57 (.agg #[.int .i64 s])) 60 57 true).run Tryz.prog W = .ok (.tuple #[.agg #[.int .i64 s], .bool true]) W := fun s W => by kernel_rfl
  have ta_n : ∀ W, (Instr.typeAssert (.iface 90 (.agg #[])) 60 57 true).run Tryz.prog W = .ok (.tuple #[.agg #[.int .i64 0], .bool false]) W := fun W => by kernel_rfl
  have HS : Hid _ := lt_up hS
  have en4 : Ba.length = n4 := by obtain ⟨_, _, e, _⟩ := id h; cases e; rfl
  have EN : Hid (Ba.length ≤ n4 ∧ n4 ≤ Ba.length) := ⟨by omega, by omega⟩
  have H5 : Hid (houB now last T Bs Ba Do = true → n4 ≤ 5) := fun c => by have := go_five c; omega
  obtain ⟨W, EW, BW, RW, sW⟩ := box_new w #[.int .i64 now, .int .i64 last, .slice o2 n2 k2, .slice o3 n3 k3, .slice o4 n4 k4, .slice o5 n5 k5] 38
  have Y : Hid (∀ u, Below W.heap.size W u → Below w.heap.size w u ∧ u.cell? ⟨w.heap.size, 0, none⟩ = some (.int .i64 now) ∧ u.cell? ⟨w.heap.size, 1, none⟩ = some (.int .i64 last) ∧ u.cell? ⟨w.heap.size, 2, none⟩ = some (.slice o2 n2 k2) ∧ u.cell? ⟨w.heap.size, 3, none⟩ = some (.slice o3 n3 k3) ∧ u.cell? ⟨w.heap.size, 4, none⟩ = some (.slice o4 n4 k4) ∧ u.cell? ⟨w.heap.size, 5, none⟩ = some (.slice o5 n5 k5)) := fun u hu => by
    have b1 := (hu.block _ (by omega)).trans RW.out
    have p := fun i v h => (cell_row b1 i v h).1
    exact ⟨BW.out.trans (hu.mono (by omega)), p 0 _ rfl, p 1 _ rfl, p 2 _ rfl, p 3 _ rfl, p 4 _ rfl, p 5 _ rfl⟩
  have CO : Hid _ := houI_any S now last o2 o3 o4 o5 n2 k2 n3 k3 n4 k4 n5 k5 T Bs Ba Do W (hT0.same (Same.of_below BW.out hS)) (hB.same (Same.of_below BW.out hS)) (h.same (Same.of_below BW.out hS)) (hD.same (Same.of_below BW.out hS)) (HS.out W BW.out) ht hZ
  have H4 : Hid _ := h.ups hS
  clear hT0 hB h hD hS ht hZ en4
  obtain ⟨V, hV⟩ : ∃ V, V = gosH now last T Bs Ba Do := ⟨_, rfl⟩
  have V0 : Hid (houB now last T Bs Ba Do = false → V = []) := fun c => by rw [hV]; exact gosH_no c
  have V1 : Hid (houB now last T Bs Ba Do = true → gosL Ba = V) := fun c => by rw [hV]; exact (gosH_yes c).symm
  have VR : Hid (houB now last T Bs Ba Do = true → ∀ i (hi : i < Ba.length), Ba[i].1.size ≤ 8 ∧ -1 ≤ Ba[i].2.2.2.2.1) := fun c => go_run c
  rw [← hV]
  clear hV
  obtain ⟨_, y0, y1, y2, y3, y4, y5⟩ := Y.out W (Below.refl _ _)
  go_enter Tryz.func7, Tryz.ntmps7
  go_upto_region 1 with fail
  rw [← EW.out]
  cases c : houB now last T Bs Ba Do
  · have er : Hid (V = []) := V0.out c
    rw [c] at CO
    go_wp2_with fail
    refine Calls.mono CO.out ?_; rintro e w1 ⟨rfl, hb1⟩
    have B1 : Hid (Below w.heap.size w w1) := BW.out.trans (hb1.mono BW.out.size)
    clear hb1 y0 y1 y2 y3 y4 y5 CO
    go_wp2_with fail
    go_ret
    rw [er.out]
    exact ⟨_, rfl, Row.nil _ _ _ _ _, B1.out⟩
  have er : Hid (gosL Ba = V) := V1.out c
  have RN : Hid _ := VR.out c
  have hmx := H5.out c
  rw [c] at CO
  clear c V0 V1 VR H5
  go_wp2_with fail
  refine Calls.mono CO.out ?_; rintro e w1 ⟨rfl, hb1⟩
  have B1 : Hid (Below W.heap.size W w1) := hb1
  clear hb1 y0 y1 y2 y3 y4 y5 CO
  obtain ⟨_, y0, y1, y2, y3, y4, y5⟩ := Y.out w1 B1.out
  go_wp2_with fail
  clear y0 y1 y2 y3 y4 y5
  go_loopw [3, 14] (fun v i wr => ∃ (k : Nat) (L : List ByteArray) (og : Option Addr) (kg ng : Nat), k ≤ n4 ∧ v = .slice og ng kg ∧ i = .int .i64 k ∧ ng ≤ k ∧ Hid (L.length = ng) ∧ Hid (L = gosL (Ba.take k)) ∧ Hid (Row wr W.heap.size 9 1 eS (.slice og ng kg) L) ∧ Hid (Below W.heap.size W wr)) (fun _ i _ => n4 - (intOf i).toNat)
  case atStart => exact ⟨0, [], none, 0, 0, Nat.zero_le _, rfl, rfl, Nat.le_refl _, rfl, rfl, Row.nil _ _ _ _ _, B1.out⟩
  case round =>
    obtain ⟨k, L, og, kg, ng, hk, rfl, rfl, hng, hlen, hL, hrow, hbel⟩ := hrel
    have hs := hbel.out.size
    have BWR : Hid (Below w.heap.size w wr) := (Y.out wr hbel.out).1
    by_cases hlt : k < n4
    case neg =>
      have FIN : Hid (Row wr w.heap.size 9 1 eS (.slice og ng kg) (gosL Ba)) := by
        have h1 : L = gosL Ba := by rw [hL.out, List.take_of_length_le (by have := EN.out; omega)]
        rw [← h1]
        exact Row.low hrow.out (by omega)
      go_wp2_with fail
      go_ret
      rw [← er.out]
      exact ⟨_, rfl, FIN.out, BWR.out⟩
    have hks : k < Ba.length := by have := EN.out; omega
    obtain ⟨b, off, p1, p2, m1, j1, m2, j2, rfl, hbS, e0, e1, e2, e3, e4, e5, _, _, _⟩ := rb_at (H4.out wr BWR.out) k hks
    have rn := RN.out k hks
    have tk := gos_take hks
    rw [← hL.out] at tk
    obtain ⟨f, ef⟩ : ∃ f, Ba[k] = f := ⟨_, rfl⟩
    rw [ef] at e0 e3 e4 e5 rn tk
    obtain ⟨nm, r, sl, at_, si, st⟩ := f
    simp only at e0 e3 e4 e5 rn tk
    obtain ⟨hz8, hs1⟩ := rn
    have TK : Hid (gosL (Ba.take (k + 1)) = L ++ (if 0 ≤ si then [nm] else [])) := tk
    clear tk ef hbS
    obtain ⟨X, hX⟩ : ∃ X, X = wr.alloc (.cells #[.string nm, .slice p1 m1 j1, .slice p2 m2 j2, .string at_, .int .i64 si, .int .i64 st] 52) := ⟨_, rfl⟩
    have EX : Hid (X = wr.alloc (.cells #[.string nm, .slice p1 m1 j1, .slice p2 m2 j2, .string at_, .int .i64 si, .int .i64 st] 52)) := hX
    have BX1 : Hid (Below wr.heap.size wr X) := by rw [hX]; exact (Below.refl _ _).alloc (Nat.le_refl _) _
    have RX : Hid (X.heap[wr.heap.size]? = some (.cells #[.string nm, .slice p1 m1 j1, .slice p2 m2 j2, .string at_, .int .i64 si, .int .i64 st] 52 (0, 0))) := by rw [hX]; exact heap_alloc_new wr _
    have sX : wr.heap.size + 1 ≤ X.heap.size := by rw [hX]; simp
    have BX : Hid (Below W.heap.size W X) := hbel.out.trans (BX1.out.mono hs)
    clear hX
    go_upto_region 7 with fail
    rw [← EX.out]
    clear e0 e1 e2 e3 e4 e5
    have x0 := (cell_row RX.out 0 _ rfl).1
    have x1 := (cell_row RX.out 1 _ rfl).1
    have x2 := (cell_row RX.out 2 _ rfl).1
    have x3 := (cell_row RX.out 3 _ rfl).1
    have x4 := (cell_row RX.out 4 _ rfl).1
    have x5 := (cell_row RX.out 5 _ rfl).1
    have C4 : Hid _ := pace_any nm at_ si st p1 p2 m1 j1 m2 j2 X
    by_cases hsi : si = -1
    · subst hsi
      have EL : Hid (L = gosL (Ba.take (k + 1))) := by have := TK.out; rw [if_neg (by omega), List.append_nil] at this; exact this.symm
      rw [pa_w] at C4
      go_wp2_with fail
      refine Calls.mono C4.out ?_; rintro e w3 ⟨rfl, hb3⟩
      have B3 : Hid (Below W.heap.size W w3) := BX.out.trans (hb3.mono BX.out.size)
      have R3 : Hid (Row w3 W.heap.size 9 1 eS (.slice og ng kg) L) := Row.below (Row.below hrow.out BX1.out) hb3
      clear hb3 C4 x0 x1 x2 x3 x4 x5
      go_wp2_with fail
      go_roundw
      case rel => exact ⟨k + 1, L, og, kg, ng, by omega, rfl, by go_num, by omega, hlen.out, EL.out, R3.out.alloc _, B3.out.alloc B3.out.size _⟩
      case measure => simp [intOf]; omega
    have hs0 : 0 ≤ si := by omega
    have EL : Hid (L ++ [nm] = gosL (Ba.take (k + 1))) := by have := TK.out; rw [if_pos hs0] at this; exact this.symm
    rw [pa_g hsi] at C4
    go_wp2_with fail
    refine Calls.mono C4.out ?_; rintro e w3 ⟨rfl, hb3⟩
    have B3 : Hid (Below W.heap.size W w3) := BX.out.trans (hb3.mono BX.out.size)
    have R3 : Hid (Row w3 W.heap.size 9 1 eS (.slice og ng kg) L) := Row.below (Row.below hrow.out BX1.out) hb3
    have RX3 : Hid (w3.heap[wr.heap.size]? = some (.cells #[.string nm, .slice p1 m1 j1, .slice p2 m2 j2, .string at_, .int .i64 si, .int .i64 st] 52 (0, 0))) := (hb3.block _ (by omega)).trans RX.out
    have s3 := hb3.size
    clear hb3 C4 x0 x1 x2 x3 x4 x5
    obtain ⟨Z, hZ⟩ : ∃ Z, Z = w3.alloc (.cells #[.int .i64 si] 57) := ⟨_, rfl⟩
    have EZ : Hid (Z = w3.alloc (.cells #[.int .i64 si] 57)) := hZ
    have BZ1 : Hid (Below w3.heap.size w3 Z) := by rw [hZ]; exact (Below.refl _ _).alloc (Nat.le_refl _) _
    have BZ : Hid (Below W.heap.size W Z) := B3.out.trans (BZ1.out.mono B3.out.size)
    have RZ : Hid (Row Z W.heap.size 9 1 eS (.slice og ng kg) L) := Row.below R3.out BZ1.out
    have x0 : Z.cell? ⟨wr.heap.size, 0, none⟩ = some (.string nm) := (cell_row ((BZ1.out.block _ (by omega)).trans RX3.out) 0 _ rfl).1
    clear hZ
    go_upto_region 9 with fail
    rw [← EZ.out]
    go_wp2_with fail
    refine (clones_any nm Z (by omega)).mono ?_; rintro e w4 ⟨rfl, hb4⟩
    have hs4 := hb4.size
    have B4 : Hid (Below W.heap.size W w4) := BZ.out.trans (hb4.mono BZ.out.size)
    have R4 : Hid (Row w4 W.heap.size 9 1 eS (.slice og ng kg) L) := Row.below RZ.out hb4
    have hsr : Hid (Src (w4.alloc (.cells #[.string nm] 9)) (.slice (some ⟨w4.heap.size, 0, none⟩) 1 1) 1 1 (enc 1 eS [nm])) := ⟨rfl, .inr ⟨_, _, rfl, by exact cell_one_new _ _ _⟩⟩
    have szB := B4.out.size
    clear hb4 x0
    have hln := hlen.out
    go_wp2_with (first
      | (at_builtin; refine wpList_app elS rfl _ _ rfl rfl rfl (R4.out.alloc _) hsr.out (flatS.enc_one _) (by unfold maxLen; omega) (by omega) (by simp; omega) ?_; intro v' w5 hown hg hbk))
    have ROW : Hid (Row w5 W.heap.size 9 1 eS v' (L ++ [nm])) := by
      show World.ownsRow _ _ _ _ _ _ _
      rw [List.length_append, enc_append]
      exact hown
    have B5 : Hid (Below W.heap.size W w5) := (B4.out.alloc szB _).grown hg (by simp; omega) (fun p hp => (World.ownsRow.lt R4.out p hp).1)
    clear hown hg hbk
    obtain ⟨ov', kv', rfl⟩ := Row.form ROW.out
    go_roundw
    case rel => exact ⟨k + 1, L ++ [nm], ov', kv', _, by omega, rfl, by go_num, by have := hlen.out; simp; omega, by show _ = _; simp, EL.out, ROW.out, B5.out⟩
    case measure => simp [intOf]; omega
end Go.Proofs.YtigkkelaadbhcabGreat
