/-
  Several texts in one.
-/
import Derived.Test.YtobchllaopdchabGreatM31
import Derived.Test.YtobchllaopdchabGreatM0
namespace Go.Proofs.YtobchllaopdchabGreat
open Go.RowKit Go.Sort
noncomputable def hT (now last : Int) (T : List ByteArray) (Bs : List DShareBatch) (Ba : List DRunBatch) (Do : List DRunDone) : Nat → Bool
  | 0 => inB now 0 100000 && inB last 0 1000000
  | 1 => (ordS (T, Bs)).2
  | 2 => donB now Do
  | 3 => basB last Ba
  | 4 => nmeB Bs (sortL (Ba.map fun b => b.1))
  | _ => nedA Bs Ba
def fnK : Nat → FuncId
  | 0 => 21
  | 1 => 22
  | 2 => 23
  | 3 => 24
  | 4 => 25
  | _ => 26
theorem fnK_run (k : Nat) (hk : k < 6) (v : Value) (W : World) : (callFunc (fnK k) #[v]).run Tryz.prog W = .ok (.enter (fnK k) #[v]) W := by
  rcases (show k = 0 ∨ k = 1 ∨ k = 2 ∨ k = 3 ∨ k = 4 ∨ k = 5 by omega) with rfl | rfl | rfl | rfl | rfl | rfl <;> kernel_rfl
section
variable {now last : Int} {T : List ByteArray} {Bs : List DShareBatch} {Ba : List DRunBatch} {Do : List DRunDone}
theorem hop_no {k : Nat} (hk : k < 6) (h : hT now last T Bs Ba Do k = false) : hopB now last T Bs Ba Do = false := by
  rcases (show k = 0 ∨ k = 1 ∨ k = 2 ∨ k = 3 ∨ k = 4 ∨ k = 5 by omega) with rfl | rfl | rfl | rfl | rfl | rfl <;> simp only [hT] at h <;> unfold hopB <;> rw [h] <;> simp
theorem hop_yes (h : ∀ k, k < 6 → hT now last T Bs Ba Do k = true) : hopB now last T Bs Ba Do = true := by
  have h0 := h 0 (by decide)
  have h1 := h 1 (by decide)
  have h2 := h 2 (by decide)
  have h3 := h 3 (by decide)
  have h4 := h 4 (by decide)
  have h5 := h 5 (by decide)
  simp only [hT] at h0 h1 h2 h3 h4 h5
  unfold hopB
  rw [h0, h1, h2, h3, h4, h5]; rfl
end
set_option maxRecDepth 100000 in
set_option maxHeartbeats 8000000 in
theorem houI_any (S : Nat → Prop) (now last : Int) (o2 o3 o4 o5 : Option Addr) (n2 k2 n3 k3 n4 k4 n5 k5 : Nat) (T : List ByteArray) (Bs : List DShareBatch) (Ba : List DRunBatch) (Do : List DRunDone) (w : World) (hT0 : AtL S w T (.slice o2 n2 k2)) (hB : AtL S w Bs (.slice o3 n3 k3)) (h : AtL S w Ba (.slice o4 n4 k4)) (hD : AtL S w Do (.slice o5 n5 k5)) (hS : ∀ b, S b → b < w.heap.size) (ht : Lay.tot (α := DShareBook) (T, Bs) ≤ 1048576) (hZ : ∀ i (hi : i < Ba.length), totL Ba[i].2.1 ≤ 1048576 ∧ totL Ba[i].2.2.1 ≤ 1048576 ∧ Ba[i].2.2.2.1.size ≤ 1048576) :
    Calls Tryz.prog 7 #[.agg #[.int .i64 now, .int .i64 last, .slice o2 n2 k2, .slice o3 n3 k3, .slice o4 n4 k4, .slice o5 n5 k5]] w fun e w' => e = .returned (.bool (houB now last T Bs Ba Do)) ∧ Below w.heap.size w w' := by
  rw [hou_hop]
  have CK : Hid (∀ k, k < 6 → (∀ j, j < k → hT now last T Bs Ba Do j = true) → ∀ u, Below w.heap.size w u → Calls Tryz.prog (fnK k) #[.agg #[.int .i64 now, .int .i64 last, .slice o2 n2 k2, .slice o3 n3 k3, .slice o4 n4 k4, .slice o5 n5 k5]] u fun e w' => e = .returned (.bool (hT now last T Bs Ba Do k)) ∧ Below u.heap.size u w') := fun k hk hall u hu => by
    have H2 := hT0.same (Same.of_below hu hS)
    have H3 := hB.same (Same.of_below hu hS)
    have H4 := h.same (Same.of_below hu hS)
    have H5 := hD.same (Same.of_below hu hS)
    have HS : ∀ b, S b → b < u.heap.size := fun b hb => Nat.lt_of_lt_of_le (hS b hb) hu.size
    rcases (show k = 0 ∨ k = 1 ∨ k = 2 ∨ k = 3 ∨ k = 4 ∨ k = 5 by omega) with rfl | rfl | rfl | rfl | rfl | rfl
    · exact ticksP_any now last o2 o3 o4 o5 n2 k2 n3 k3 n4 k4 n5 k5 u
    · exact shareP_any S now last o2 o3 o4 o5 n2 k2 n3 k3 n4 k4 n5 k5 T Bs u H2 H3 HS ht
    · exact donesP_any S now last o2 o3 o4 o5 n2 k2 n3 k3 n4 k4 n5 k5 Do u H5 HS
    · exact batchesP_any S now last o2 o3 o4 o5 n2 k2 n3 k3 n4 k4 n5 k5 Ba u H4 HS (fun i hi => ⟨(hZ i hi).1, (hZ i hi).2.1⟩)
    · have h3 : basB last Ba = true := hall 3 (by decide)
      have en : Ba.length = n4 := by obtain ⟨_, _, e, _⟩ := h; cases e; rfl
      exact namesP_any S now last o2 o3 o4 o5 n2 k2 n3 k3 n4 k4 n5 k5 Bs Ba u H3 H4 HS (by have := (bas_iff.1 h3).1; omega)
    · have h4 : nmeB Bs (sortL (Ba.map fun b => b.1)) = true := hall 4 (by decide)
      exact needsP_any S now last o2 o3 o4 o5 n2 k2 n3 k3 n4 k4 n5 k5 Bs Ba u H3 H4 HS hZ (nme_has h4)
  have YES : Hid ((∀ k, k < 6 → hT now last T Bs Ba Do k = true) → hopB now last T Bs Ba Do = true) := hop_yes
  have NO : Hid (∀ k, k < 6 → hT now last T Bs Ba Do k = false → hopB now last T Bs Ba Do = false) := fun k hk h => hop_no hk h
  obtain ⟨V, hV⟩ : ∃ V, V = hopB now last T Bs Ba Do := ⟨_, rfl⟩
  rw [← hV] at YES NO ⊢
  obtain ⟨A, hA⟩ : ∃ A, A = hT now last T Bs Ba Do := ⟨_, rfl⟩
  rw [← hA] at YES NO CK
  clear hT0 hB h hD hS ht hZ hV hA
  obtain ⟨W, hW⟩ : ∃ W, W = (w.alloc (.cells #[.int .i64 now, .int .i64 last, .slice o2 n2 k2, .slice o3 n3 k3, .slice o4 n4 k4, .slice o5 n5 k5] 38)).alloc (.cells #[.func (.func 21) #[] #[], .func (.func 22) #[] #[], .func (.func 23) #[] #[], .func (.func 24) #[] #[], .func (.func 25) #[] #[], .func (.func 26) #[] #[]] 31) := ⟨_, rfl⟩
  have EW : Hid (W = (w.alloc (.cells #[.int .i64 now, .int .i64 last, .slice o2 n2 k2, .slice o3 n3 k3, .slice o4 n4 k4, .slice o5 n5 k5] 38)).alloc (.cells #[.func (.func 21) #[] #[], .func (.func 22) #[] #[], .func (.func 23) #[] #[], .func (.func 24) #[] #[], .func (.func 25) #[] #[], .func (.func 26) #[] #[]] 31)) := hW
  have BW : Hid (Below w.heap.size w W) := by rw [hW]; exact ((Below.refl _ _).alloc (Nat.le_refl _) _).alloc (by simp) _
  have RW : Hid (W.heap[w.heap.size]? = some (.cells #[.int .i64 now, .int .i64 last, .slice o2 n2 k2, .slice o3 n3 k3, .slice o4 n4 k4, .slice o5 n5 k5] 38 (0, 0))) := by rw [hW]; exact ((Below.refl (w.heap.size + 1) _).alloc (by simp) _).block _ (by omega) |>.trans (heap_alloc_new w _)
  have RX : Hid (W.heap[w.heap.size + 1]? = some (.cells #[.func (.func 21) #[] #[], .func (.func 22) #[] #[], .func (.func 23) #[] #[], .func (.func 24) #[] #[], .func (.func 25) #[] #[], .func (.func 26) #[] #[]] 31 (0, 0))) := by rw [hW]; show _ = _; have h := heap_alloc_new (w.alloc (.cells #[.int .i64 now, .int .i64 last, .slice o2 n2 k2, .slice o3 n3 k3, .slice o4 n4 k4, .slice o5 n5 k5] 38)) (.cells #[.func (.func 21) #[] #[], .func (.func 22) #[] #[], .func (.func 23) #[] #[], .func (.func 24) #[] #[], .func (.func 25) #[] #[], .func (.func 26) #[] #[]] 31); rw [show (w.alloc (.cells #[.int .i64 now, .int .i64 last, .slice o2 n2 k2, .slice o3 n3 k3, .slice o4 n4 k4, .slice o5 n5 k5] 38)).heap.size = w.heap.size + 1 by simp] at h; exact h
  have sW : w.heap.size + 2 ≤ W.heap.size := by rw [hW]; simp
  clear hW
  have Y : Hid (∀ u, Below W.heap.size W u → Below w.heap.size w u ∧ u.cell? ⟨w.heap.size, 0, none⟩ = some (.int .i64 now) ∧ u.cell? ⟨w.heap.size, 1, none⟩ = some (.int .i64 last) ∧ u.cell? ⟨w.heap.size, 2, none⟩ = some (.slice o2 n2 k2) ∧ u.cell? ⟨w.heap.size, 3, none⟩ = some (.slice o3 n3 k3) ∧ u.cell? ⟨w.heap.size, 4, none⟩ = some (.slice o4 n4 k4) ∧ u.cell? ⟨w.heap.size, 5, none⟩ = some (.slice o5 n5 k5) ∧ ∀ k, k < 6 → u.cell? ⟨w.heap.size + 1, k, none⟩ = some (.func (.func (fnK k)) #[] #[])) := fun u hu => by
    have b1 := (hu.block _ (by omega)).trans RW.out
    have b2 := (hu.block _ (by omega)).trans RX.out
    have p := fun i v h => (cell_row b1 i v h).1
    refine ⟨BW.out.trans (hu.mono (by omega)), p 0 _ rfl, p 1 _ rfl, p 2 _ rfl, p 3 _ rfl, p 4 _ rfl, p 5 _ rfl, fun k hk => ?_⟩
    rcases (show k = 0 ∨ k = 1 ∨ k = 2 ∨ k = 3 ∨ k = 4 ∨ k = 5 by omega) with rfl | rfl | rfl | rfl | rfl | rfl <;> exact (cell_row b2 _ _ rfl).1
  go_enter Tryz.func7, Tryz.ntmps7
  go_wp2_with fail
  rw [← EW.out]
  go_loopw [7] (fun i wr => ∃ k : Nat, k ≤ 6 ∧ i = .int .i64 k ∧ Hid (∀ j, j < k → A j = true) ∧ Hid (Below W.heap.size W wr)) (fun i _ => 6 - (intOf i).toNat)
  case atStart => exact ⟨0, by omega, rfl, fun _ h => by omega, Below.refl _ _⟩
  case round =>
    obtain ⟨k, hk, rfl, hall, hbel⟩ := hrel
    have hs := hbel.out.size
    obtain ⟨bwr', y0, y1, y2, y3, y4, y5, fx⟩ := Y.out wr hbel.out
    have bwr : Hid _ := bwr'
    clear bwr'
    by_cases hlt : k < 6
    case neg =>
      have EV : Hid (V = true) := YES.out (fun j hj => hall.out j (by omega))
      clear fx
      go_wp2_with fail
      go_ret
      rw [EV.out]
      exact ⟨rfl, bwr.out⟩
    have f1 := fx k hlt
    clear fx
    have C : Hid _ := CK.out k hlt hall.out wr bwr.out
    have hcf := fnK_run k hlt
    cases c : A k
    · rw [c] at C
      have EV : Hid (V = false) := NO.out k hlt c
      go_wp2_with fail
      refine Calls.mono C.out ?_; rintro e w1 ⟨rfl, hb1⟩
      have B1 : Hid (Below w.heap.size w w1) := bwr.out.trans (hb1.mono bwr.out.size)
      clear hb1 y0 y1 y2 y3 y4 y5 f1 C
      go_wp2_with fail
      go_ret
      rw [EV.out]
      exact ⟨rfl, B1.out⟩
    · rw [c] at C
      have HP : Hid (A k = true) := c
      go_wp2_with fail
      refine Calls.mono C.out ?_; rintro e w1 ⟨rfl, hb1⟩
      have B1 : Hid (Below W.heap.size W w1) := hbel.out.trans (hb1.mono hs)
      clear hb1 y0 y1 y2 y3 y4 y5 f1 C
      go_wp2_with fail
      go_roundw
      case rel => exact ⟨k + 1, by omega, by go_num, fun j hj => by
        by_cases e : j = k
        · subst e; exact HP.out
        · exact hall.out j (by omega), B1.out⟩
      case measure => simp [intOf]; omega
end Go.Proofs.YtobchllaopdchabGreat

namespace Go.Proofs.YtobchllaopdchabGreat
open Go.RowKit
set_option maxRecDepth 100000 in
set_option maxHeartbeats 4000000 in
theorem szRecPhase_any (S : Nat → Prop) (a : DRecPhase) (c : Nat → Value) (x : Int) (w : World) (h : Lay.At S w a c) (_hS : ∀ b, S b → b < w.heap.size) (h0 : 0 ≤ x) (h1 : x ≤ 1048576) :
    Calls Tryz.prog 106 #[.agg #[c 0, c 1, c 2, c 3, c 4, c 5, c 6, c 7], .int .i64 x] w fun e w' => ∃ y : Int, e = .returned (.int .i64 y) ∧ (y < 0 ∨ y + (Lay.tot a : Int) = x) ∧ Below w.heap.size w w' := by
  rw [tot_DRecPhase]
  rw [at_DRecPhase] at h
  obtain ⟨⟨e0, z0⟩, ⟨e1, z1, y1⟩, ⟨e2, z2⟩, ⟨e3, z3⟩, ⟨e4, z4, y4⟩, ⟨e5, z5, y5⟩, ⟨e6, z6⟩, ⟨e7, z7⟩⟩ := h
  rw [e0, e1, e2, e3, e4, e5, e6, e7]
  clear e0 e1 e2 e3 e4 e5 e6 e7
  unfold maxLen at z0
  unfold maxLen at z2
  unfold maxLen at z3
  unfold maxLen at z6
  unfold maxLen at z7
  have b0 : Hid (Below w.heap.size w (w.alloc (.cells #[.string a.1, .int .i64 a.2.1, .string a.2.2.1, .string a.2.2.2.1, .int .i64 a.2.2.2.2.1, .int .i64 a.2.2.2.2.2.1, .string a.2.2.2.2.2.2.1, .string a.2.2.2.2.2.2.2] 144))) := (Below.refl _ _).alloc (Nat.le_refl _) _
  go_enter Tryz.func106, Tryz.ntmps106
  by_cases n0 : x < (a.1.size : Int)
  · go_wp2_with fail
    go_ret
    exact ⟨_, rfl, Or.inl (by omega), b0.out⟩
  · have _u := trivial
    by_cases n2 : (x - (a.1.size : Int)) < (a.2.2.1.size : Int)
    · go_wp2_with fail
      go_ret
      exact ⟨_, rfl, Or.inl (by omega), b0.out⟩
    · have _u := trivial
      by_cases n3 : ((x - (a.1.size : Int)) - (a.2.2.1.size : Int)) < (a.2.2.2.1.size : Int)
      · go_wp2_with fail
        go_ret
        exact ⟨_, rfl, Or.inl (by omega), b0.out⟩
      · have _u := trivial
        by_cases n6 : (((x - (a.1.size : Int)) - (a.2.2.1.size : Int)) - (a.2.2.2.1.size : Int)) < (a.2.2.2.2.2.2.1.size : Int)
        · go_wp2_with fail
          go_ret
          exact ⟨_, rfl, Or.inl (by omega), b0.out⟩
        · have _u := trivial
          by_cases n7 : ((((x - (a.1.size : Int)) - (a.2.2.1.size : Int)) - (a.2.2.2.1.size : Int)) - (a.2.2.2.2.2.2.1.size : Int)) < (a.2.2.2.2.2.2.2.size : Int)
          · go_wp2_with fail
            go_ret
            exact ⟨_, rfl, Or.inl (by omega), b0.out⟩
          · have _u := trivial
            go_wp2_with fail
            go_ret
            exact ⟨_, rfl, Or.inr (by omega), b0.out⟩
end Go.Proofs.YtobchllaopdchabGreat

namespace Go.Proofs.YtobchllaopdchabGreat
open Go.RowKit
set_option maxRecDepth 100000 in
set_option maxHeartbeats 4000000 in
theorem szRecPhaseS_any (S : Nat → Prop) (l : List DRecPhase) (v : Value) (x : Int) (w : World) (h : AtL S w l v) (hS : ∀ b, S b → b < w.heap.size) (h0 : 0 ≤ x) (h1 : x ≤ 1048576) :
    Calls Tryz.prog 72 #[v, .int .i64 x] w fun e w' => ∃ y : Int, e = .returned (.int .i64 y) ∧ (y < 0 ∨ y + (totL l : Int) = x) ∧ Below w.heap.size w w' := by
  obtain ⟨oa, cap, rfl, hn, hc⟩ := h
  have ht : totL l = l.length + sumTo l l.length := rfl
  obtain ⟨n, en⟩ : ∃ n, l.length = n := ⟨_, rfl⟩
  rw [en] at ht hn
  rw [en]
  unfold maxLen at hn
  have HC : Hid _ := hc
  clear hc
  have HT : Hid _ := ht
  clear ht
  by_cases hx : (n : Int) ≤ x
  · go_enter Tryz.func72, Tryz.ntmps72
    go_wp2
    go_loopw [1, 5] (fun q i wr => ∃ (k : Nat) (y : Int), k ≤ n ∧ i = .int .i64 k ∧ q = .int .i64 y ∧ 0 ≤ y ∧ y ≤ x ∧ Hid (y + ((n + sumTo l k : Nat) : Int) = x) ∧ Hid (Below w.heap.size w wr)) (fun _ i _ => n - (intOf i).toNat)
    case atStart => exact ⟨0, _, Nat.zero_le _, rfl, rfl, by omega, by omega, by rw [sumTo_zero]; show _ = _; omega, Below.refl _ _⟩
    case round =>
      obtain ⟨k, y, hk, rfl, rfl, hy0, hy1, hsum, hbel⟩ := hrel
      have hs := hbel.out.size
      by_cases hlt : k < n
      · obtain ⟨b, off, rfl, hbS, cc, hcell, hat⟩ := HC.out k (by omega)
        have hb := hS b hbS
        have hsu := sumTo_succ l k (by omega)
        rw [width_DRecPhase] at hcell
        have e0 : wr.cell? ⟨b, off + k * 8, none⟩ = some (cc 0) := (hbel.out.cell (p := ⟨b, off + k * 8, none⟩) (by show b < _; omega)).trans (by have hq := hcell 0 (by omega); first | exact hq | simpa using hq)
        have e1 : wr.cell? ⟨b, off + k * 8 + 1, none⟩ = some (cc 1) := (hbel.out.cell (p := ⟨b, off + k * 8 + 1, none⟩) (by show b < _; omega)).trans (by have hq := hcell 1 (by omega); first | exact hq | simpa using hq)
        have e2 : wr.cell? ⟨b, off + k * 8 + 2, none⟩ = some (cc 2) := (hbel.out.cell (p := ⟨b, off + k * 8 + 2, none⟩) (by show b < _; omega)).trans (by have hq := hcell 2 (by omega); first | exact hq | simpa using hq)
        have e3 : wr.cell? ⟨b, off + k * 8 + 3, none⟩ = some (cc 3) := (hbel.out.cell (p := ⟨b, off + k * 8 + 3, none⟩) (by show b < _; omega)).trans (by have hq := hcell 3 (by omega); first | exact hq | simpa using hq)
        have e4 : wr.cell? ⟨b, off + k * 8 + 4, none⟩ = some (cc 4) := (hbel.out.cell (p := ⟨b, off + k * 8 + 4, none⟩) (by show b < _; omega)).trans (by have hq := hcell 4 (by omega); first | exact hq | simpa using hq)
        have e5 : wr.cell? ⟨b, off + k * 8 + 5, none⟩ = some (cc 5) := (hbel.out.cell (p := ⟨b, off + k * 8 + 5, none⟩) (by show b < _; omega)).trans (by have hq := hcell 5 (by omega); first | exact hq | simpa using hq)
        have e6 : wr.cell? ⟨b, off + k * 8 + 6, none⟩ = some (cc 6) := (hbel.out.cell (p := ⟨b, off + k * 8 + 6, none⟩) (by show b < _; omega)).trans (by have hq := hcell 6 (by omega); first | exact hq | simpa using hq)
        have e7 : wr.cell? ⟨b, off + k * 8 + 7, none⟩ = some (cc 7) := (hbel.out.cell (p := ⟨b, off + k * 8 + 7, none⟩) (by show b < _; omega)).trans (by have hq := hcell 7 (by omega); first | exact hq | simpa using hq)
        clear hcell
        have HSU : Hid _ := hsu
        clear hsu
        have HAT : Hid _ := hat
        clear hat
        go_wp2_with fail
        refine (szRecPhase_any S _ cc _ _ (Lay.same HAT.out (Same.of_below hbel.out hS)) (fun b hb => by have := hS b hb; omega) hy0 (by omega)).mono ?_
        rintro e u ⟨z, rfl, hz1, hbu⟩
        by_cases hneg : z < 0
        · go_wp2_with fail
          go_ret
          exact ⟨_, rfl, Or.inl (by omega), hbel.out.trans (hbu.mono hs)⟩
        · go_wp2_with fail
          go_roundw
          case rel => exact ⟨k + 1, z, by omega, by go_num, rfl, by omega, by omega, by rw [HSU.out]; have := hsum.out; show _ = _; omega, hbel.out.trans (hbu.mono hs)⟩
          case measure => simp [intOf]; omega
      · have hkn : k = n := by omega
        subst hkn
        go_wp2
        go_ret
        exact ⟨y, rfl, Or.inr (by have := hsum.out; rw [HT.out]; omega), hbel.out⟩
  · go_enter Tryz.func72, Tryz.ntmps72
    go_wp2
    go_ret
    exact ⟨-1, rfl, Or.inl (by omega), Below.refl _ _⟩
end Go.Proofs.YtobchllaopdchabGreat

namespace Go.Proofs.YtobchllaopdchabGreat
open Go.RowKit
set_option maxRecDepth 100000 in
set_option maxHeartbeats 4000000 in
theorem szRunSlot_any (S : Nat → Prop) (a : DRunSlot) (c : Nat → Value) (x : Int) (w : World) (h : Lay.At S w a c) (_hS : ∀ b, S b → b < w.heap.size) (h0 : 0 ≤ x) (h1 : x ≤ 1048576) :
    Calls Tryz.prog 107 #[.agg #[c 0, c 1], .int .i64 x] w fun e w' => ∃ y : Int, e = .returned (.int .i64 y) ∧ (y < 0 ∨ y + (Lay.tot a : Int) = x) ∧ Below w.heap.size w w' := by
  rw [tot_DRunSlot]
  rw [at_DRunSlot] at h
  obtain ⟨⟨e0, z0⟩, ⟨e1, z1⟩⟩ := h
  rw [e0, e1]
  clear e0 e1
  unfold maxLen at z0
  unfold maxLen at z1
  have b0 : Hid (Below w.heap.size w (w.alloc (.cells #[.string a.1, .string a.2] 146))) := (Below.refl _ _).alloc (Nat.le_refl _) _
  go_enter Tryz.func107, Tryz.ntmps107
  by_cases n0 : x < (a.1.size : Int)
  · go_wp2_with fail
    go_ret
    exact ⟨_, rfl, Or.inl (by omega), b0.out⟩
  · have _u := trivial
    by_cases n1 : (x - (a.1.size : Int)) < (a.2.size : Int)
    · go_wp2_with fail
      go_ret
      exact ⟨_, rfl, Or.inl (by omega), b0.out⟩
    · have _u := trivial
      go_wp2_with fail
      go_ret
      exact ⟨_, rfl, Or.inr (by omega), b0.out⟩
set_option maxRecDepth 100000 in
set_option maxHeartbeats 4000000 in
theorem szRunSlotS_any (S : Nat → Prop) (l : List DRunSlot) (v : Value) (x : Int) (w : World) (h : AtL S w l v) (hS : ∀ b, S b → b < w.heap.size) (h0 : 0 ≤ x) (h1 : x ≤ 1048576) :
    Calls Tryz.prog 73 #[v, .int .i64 x] w fun e w' => ∃ y : Int, e = .returned (.int .i64 y) ∧ (y < 0 ∨ y + (totL l : Int) = x) ∧ Below w.heap.size w w' := by
  obtain ⟨oa, cap, rfl, hn, hc⟩ := h
  have ht : totL l = l.length + sumTo l l.length := rfl
  obtain ⟨n, en⟩ : ∃ n, l.length = n := ⟨_, rfl⟩
  rw [en] at ht hn
  rw [en]
  unfold maxLen at hn
  have HC : Hid _ := hc
  clear hc
  have HT : Hid _ := ht
  clear ht
  by_cases hx : (n : Int) ≤ x
  · go_enter Tryz.func73, Tryz.ntmps73
    go_wp2
    go_loopw [1, 5] (fun q i wr => ∃ (k : Nat) (y : Int), k ≤ n ∧ i = .int .i64 k ∧ q = .int .i64 y ∧ 0 ≤ y ∧ y ≤ x ∧ Hid (y + ((n + sumTo l k : Nat) : Int) = x) ∧ Hid (Below w.heap.size w wr)) (fun _ i _ => n - (intOf i).toNat)
    case atStart => exact ⟨0, _, Nat.zero_le _, rfl, rfl, by omega, by omega, by rw [sumTo_zero]; show _ = _; omega, Below.refl _ _⟩
    case round =>
      obtain ⟨k, y, hk, rfl, rfl, hy0, hy1, hsum, hbel⟩ := hrel
      have hs := hbel.out.size
      by_cases hlt : k < n
      · obtain ⟨b, off, rfl, hbS, cc, hcell, hat⟩ := HC.out k (by omega)
        have hb := hS b hbS
        have hsu := sumTo_succ l k (by omega)
        rw [width_DRunSlot] at hcell
        have e0 : wr.cell? ⟨b, off + k * 2, none⟩ = some (cc 0) := (hbel.out.cell (p := ⟨b, off + k * 2, none⟩) (by show b < _; omega)).trans (by have hq := hcell 0 (by omega); first | exact hq | simpa using hq)
        have e1 : wr.cell? ⟨b, off + k * 2 + 1, none⟩ = some (cc 1) := (hbel.out.cell (p := ⟨b, off + k * 2 + 1, none⟩) (by show b < _; omega)).trans (by have hq := hcell 1 (by omega); first | exact hq | simpa using hq)
        clear hcell
        have HSU : Hid _ := hsu
        clear hsu
        have HAT : Hid _ := hat
        clear hat
        go_wp2_with fail
        refine (szRunSlot_any S _ cc _ _ (Lay.same HAT.out (Same.of_below hbel.out hS)) (fun b hb => by have := hS b hb; omega) hy0 (by omega)).mono ?_
        rintro e u ⟨z, rfl, hz1, hbu⟩
        by_cases hneg : z < 0
        · go_wp2_with fail
          go_ret
          exact ⟨_, rfl, Or.inl (by omega), hbel.out.trans (hbu.mono hs)⟩
        · go_wp2_with fail
          go_roundw
          case rel => exact ⟨k + 1, z, by omega, by go_num, rfl, by omega, by omega, by rw [HSU.out]; have := hsum.out; show _ = _; omega, hbel.out.trans (hbu.mono hs)⟩
          case measure => simp [intOf]; omega
      · have hkn : k = n := by omega
        subst hkn
        go_wp2
        go_ret
        exact ⟨y, rfl, Or.inr (by have := hsum.out; rw [HT.out]; omega), hbel.out⟩
  · go_enter Tryz.func73, Tryz.ntmps73
    go_wp2
    go_ret
    exact ⟨-1, rfl, Or.inl (by omega), Below.refl _ _⟩
set_option maxRecDepth 100000 in
set_option maxHeartbeats 4000000 in
theorem szRunBatch_any (S : Nat → Prop) (a : DRunBatch) (c : Nat → Value) (x : Int) (w : World) (h : Lay.At S w a c) (hS : ∀ b, S b → b < w.heap.size) (h0 : 0 ≤ x) (h1 : x ≤ 1048576) :
    Calls Tryz.prog 32 #[.agg #[c 0, c 1, c 2, c 3, c 4, c 5], .int .i64 x] w fun e w' => ∃ y : Int, e = .returned (.int .i64 y) ∧ (y < 0 ∨ y + (Lay.tot a : Int) = x) ∧ Below w.heap.size w w' := by
  rw [tot_DRunBatch]
  rw [at_DRunBatch] at h
  obtain ⟨⟨e0, z0⟩, H1, H2, ⟨e3, z3⟩, ⟨e4, z4, y4⟩, ⟨e5, z5, y5⟩⟩ := h
  obtain ⟨v1, e1⟩ : ∃ v, c 1 = v := ⟨_, rfl⟩
  rw [e1] at H1
  obtain ⟨v2, e2⟩ : ∃ v, c 2 = v := ⟨_, rfl⟩
  rw [e2] at H2
  rw [e0, e1, e2, e3, e4, e5]
  clear e0 e1 e2 e3 e4 e5
  unfold maxLen at z0
  unfold maxLen at z3
  have b0 : Hid (Below w.heap.size w (w.alloc (.cells #[.string a.1, v1, v2, .string a.2.2.2.1, .int .i64 a.2.2.2.2.1, .int .i64 a.2.2.2.2.2] 66))) := (Below.refl _ _).alloc (Nat.le_refl _) _
  go_enter Tryz.func32, Tryz.ntmps32
  by_cases n0 : x < (a.1.size : Int)
  · go_wp2_with fail
    go_ret
    exact ⟨_, rfl, Or.inl (by omega), b0.out⟩
  · have _u := trivial
    go_wp2_with fail
    refine (szRecPhaseS_any S _ v1 _ _ (H1.same (Same.of_below b0.out hS)) (fun b hb => by have := hS b hb; have := b0.out.size; omega) (by omega) (by omega)).mono ?_
    rintro e w1 ⟨y1, rfl, t1, u1⟩
    have b1 : Hid (Below w.heap.size w w1) := b0.out.trans (u1.mono b0.out.size)
    have x1_2 : w1.cell? ⟨w.heap.size, 2, none⟩ = some (v2) := (u1.cell (p := ⟨w.heap.size, 2, none⟩) (by simp)).trans (by simp)
    have x1_3 : w1.cell? ⟨w.heap.size, 3, none⟩ = some (.string a.2.2.2.1) := (u1.cell (p := ⟨w.heap.size, 3, none⟩) (by simp)).trans (by simp)
    have s1 : w.heap.size < w1.heap.size := by have := u1.size; simp at this; omega
    by_cases n1 : y1 < 0
    · go_wp2_with fail
      go_ret
      exact ⟨_, rfl, Or.inl (by omega), b1.out⟩
    · have _u := trivial
      go_wp2_with fail
      refine (szRunSlotS_any S _ v2 _ _ (H2.same (Same.of_below b1.out hS)) (fun b hb => by have := hS b hb; have := b1.out.size; omega) (by omega) (by omega)).mono ?_
      rintro e w2 ⟨y2, rfl, t2, u2⟩
      have b2 : Hid (Below w.heap.size w w2) := b1.out.trans (u2.mono b1.out.size)
      have x2_3 : w2.cell? ⟨w.heap.size, 3, none⟩ = some (.string a.2.2.2.1) := (u2.cell (p := ⟨w.heap.size, 3, none⟩) (by show w.heap.size < _; omega)).trans x1_3
      have s2 : w.heap.size < w2.heap.size := by have := u2.size; omega
      by_cases n2 : y2 < 0
      · go_wp2_with fail
        go_ret
        exact ⟨_, rfl, Or.inl (by omega), b2.out⟩
      · have _u := trivial
        by_cases n3 : y2 < (a.2.2.2.1.size : Int)
        · go_wp2_with fail
          go_ret
          exact ⟨_, rfl, Or.inl (by omega), b2.out⟩
        · have _u := trivial
          go_wp2_with fail
          go_ret
          exact ⟨_, rfl, Or.inr (by omega), b2.out⟩
end Go.Proofs.YtobchllaopdchabGreat

namespace Go.Proofs.YtobchllaopdchabGreat
open Go.RowKit
set_option maxRecDepth 100000 in
set_option maxHeartbeats 4000000 in
theorem szStringS_any (S : Nat → Prop) (l : List ByteArray) (v : Value) (x : Int) (w : World) (h : AtL S w l v) (hS : ∀ b, S b → b < w.heap.size) (h0 : 0 ≤ x) (h1 : x ≤ 1048576) :
    Calls Tryz.prog 30 #[v, .int .i64 x] w fun e w' => ∃ y : Int, e = .returned (.int .i64 y) ∧ (y < 0 ∨ y + (totL l : Int) = x) ∧ Below w.heap.size w w' := by
  obtain ⟨oa, cap, rfl, hn, hc⟩ := h
  have ht : totL l = l.length + sumTo l l.length := rfl
  obtain ⟨n, en⟩ : ∃ n, l.length = n := ⟨_, rfl⟩
  rw [en] at ht hn
  rw [en]
  unfold maxLen at hn
  have HC : Hid _ := hc
  clear hc
  have HT : Hid _ := ht
  clear ht
  by_cases hx : (n : Int) ≤ x
  · go_enter Tryz.func30, Tryz.ntmps30
    go_wp2
    go_loopw [1, 5] (fun q i wr => ∃ (k : Nat) (y : Int), k ≤ n ∧ i = .int .i64 k ∧ q = .int .i64 y ∧ 0 ≤ y ∧ y ≤ x ∧ Hid (y + ((n + sumTo l k : Nat) : Int) = x) ∧ Hid (Below w.heap.size w wr)) (fun _ i _ => n - (intOf i).toNat)
    case atStart => exact ⟨0, _, Nat.zero_le _, rfl, rfl, by omega, by omega, by rw [sumTo_zero]; show _ = _; omega, Below.refl _ _⟩
    case round =>
      obtain ⟨k, y, hk, rfl, rfl, hy0, hy1, hsum, hbel⟩ := hrel
      have hs := hbel.out.size
      by_cases hlt : k < n
      · obtain ⟨b, off, rfl, hbS, cc, hcell, hat⟩ := HC.out k (by omega)
        have hb := hS b hbS
        have hsu := sumTo_succ l k (by omega)
        rw [width_str] at hcell
        have e0 : wr.cell? ⟨b, off + k, none⟩ = some (cc 0) := (hbel.out.cell (p := ⟨b, off + k, none⟩) (by show b < _; omega)).trans (by have hq := hcell 0 (by omega); first | exact hq | simpa using hq)
        clear hcell
        rw [at_str] at hat
        obtain ⟨ec, hz⟩ := hat
        rw [ec] at e0
        clear ec
        unfold maxLen at hz
        rw [tot_str] at hsu
        obtain ⟨f, ef⟩ : ∃ f, l[k]'(by omega) = f := ⟨_, rfl⟩
        rw [ef] at e0 hz hsu
        have HSU : Hid _ := hsu
        clear hsu
        by_cases hs : (f.size : Int) ≤ y
        · go_wp2
          go_roundw
          case rel => exact ⟨k + 1, _, by omega, by go_num, rfl, by omega, by omega, by rw [HSU.out]; have := hsum.out; show _ = _; omega, hbel.out⟩
          case measure => simp [intOf]; omega
        · go_wp2
          go_ret
          exact ⟨_, rfl, Or.inl (by omega), hbel.out⟩
      · have hkn : k = n := by omega
        subst hkn
        go_wp2
        go_ret
        exact ⟨y, rfl, Or.inr (by have := hsum.out; rw [HT.out]; omega), hbel.out⟩
  · go_enter Tryz.func30, Tryz.ntmps30
    go_wp2
    go_ret
    exact ⟨-1, rfl, Or.inl (by omega), Below.refl _ _⟩
set_option maxRecDepth 100000 in
set_option maxHeartbeats 4000000 in
theorem szShareBatch_any (S : Nat → Prop) (a : DShareBatch) (c : Nat → Value) (x : Int) (w : World) (h : Lay.At S w a c) (hS : ∀ b, S b → b < w.heap.size) (h0 : 0 ≤ x) (h1 : x ≤ 1048576) :
    Calls Tryz.prog 71 #[.agg #[c 0, c 1, c 2], .int .i64 x] w fun e w' => ∃ y : Int, e = .returned (.int .i64 y) ∧ (y < 0 ∨ y + (Lay.tot a : Int) = x) ∧ Below w.heap.size w w' := by
  rw [tot_DShareBatch]
  rw [at_DShareBatch] at h
  obtain ⟨⟨e0, z0⟩, H1, H2⟩ := h
  obtain ⟨v1, e1⟩ : ∃ v, c 1 = v := ⟨_, rfl⟩
  rw [e1] at H1
  obtain ⟨v2, e2⟩ : ∃ v, c 2 = v := ⟨_, rfl⟩
  rw [e2] at H2
  rw [e0, e1, e2]
  clear e0 e1 e2
  unfold maxLen at z0
  have b0 : Hid (Below w.heap.size w (w.alloc (.cells #[.string a.1, v1, v2] 107))) := (Below.refl _ _).alloc (Nat.le_refl _) _
  go_enter Tryz.func71, Tryz.ntmps71
  by_cases n0 : x < (a.1.size : Int)
  · go_wp2_with fail
    go_ret
    exact ⟨_, rfl, Or.inl (by omega), b0.out⟩
  · have _u := trivial
    go_wp2_with fail
    refine (szStringS_any S _ v1 _ _ (H1.same (Same.of_below b0.out hS)) (fun b hb => by have := hS b hb; have := b0.out.size; omega) (by omega) (by omega)).mono ?_
    rintro e w1 ⟨y1, rfl, t1, u1⟩
    have b1 : Hid (Below w.heap.size w w1) := b0.out.trans (u1.mono b0.out.size)
    have x1_2 : w1.cell? ⟨w.heap.size, 2, none⟩ = some (v2) := (u1.cell (p := ⟨w.heap.size, 2, none⟩) (by simp)).trans (by simp)
    have s1 : w.heap.size < w1.heap.size := by have := u1.size; simp at this; omega
    by_cases n1 : y1 < 0
    · go_wp2_with fail
      go_ret
      exact ⟨_, rfl, Or.inl (by omega), b1.out⟩
    · have _u := trivial
      go_wp2_with fail
      refine (szStringS_any S _ v2 _ _ (H2.same (Same.of_below b1.out hS)) (fun b hb => by have := hS b hb; have := b1.out.size; omega) (by omega) (by omega)).mono ?_
      rintro e w2 ⟨y2, rfl, t2, u2⟩
      have b2 : Hid (Below w.heap.size w w2) := b1.out.trans (u2.mono b1.out.size)
      have s2 : w.heap.size < w2.heap.size := by have := u2.size; omega
      by_cases n2 : y2 < 0
      · go_wp2_with fail
        go_ret
        exact ⟨_, rfl, Or.inl (by omega), b2.out⟩
      · have _u := trivial
        go_wp2_with fail
        go_ret
        exact ⟨_, rfl, Or.inr (by omega), b2.out⟩
set_option maxRecDepth 100000 in
set_option maxHeartbeats 4000000 in
theorem szShareBatchS_any (S : Nat → Prop) (l : List DShareBatch) (v : Value) (x : Int) (w : World) (h : AtL S w l v) (hS : ∀ b, S b → b < w.heap.size) (h0 : 0 ≤ x) (h1 : x ≤ 1048576) :
    Calls Tryz.prog 31 #[v, .int .i64 x] w fun e w' => ∃ y : Int, e = .returned (.int .i64 y) ∧ (y < 0 ∨ y + (totL l : Int) = x) ∧ Below w.heap.size w w' := by
  obtain ⟨oa, cap, rfl, hn, hc⟩ := h
  have ht : totL l = l.length + sumTo l l.length := rfl
  obtain ⟨n, en⟩ : ∃ n, l.length = n := ⟨_, rfl⟩
  rw [en] at ht hn
  rw [en]
  unfold maxLen at hn
  have HC : Hid _ := hc
  clear hc
  have HT : Hid _ := ht
  clear ht
  by_cases hx : (n : Int) ≤ x
  · go_enter Tryz.func31, Tryz.ntmps31
    go_wp2
    go_loopw [1, 5] (fun q i wr => ∃ (k : Nat) (y : Int), k ≤ n ∧ i = .int .i64 k ∧ q = .int .i64 y ∧ 0 ≤ y ∧ y ≤ x ∧ Hid (y + ((n + sumTo l k : Nat) : Int) = x) ∧ Hid (Below w.heap.size w wr)) (fun _ i _ => n - (intOf i).toNat)
    case atStart => exact ⟨0, _, Nat.zero_le _, rfl, rfl, by omega, by omega, by rw [sumTo_zero]; show _ = _; omega, Below.refl _ _⟩
    case round =>
      obtain ⟨k, y, hk, rfl, rfl, hy0, hy1, hsum, hbel⟩ := hrel
      have hs := hbel.out.size
      by_cases hlt : k < n
      · obtain ⟨b, off, rfl, hbS, cc, hcell, hat⟩ := HC.out k (by omega)
        have hb := hS b hbS
        have hsu := sumTo_succ l k (by omega)
        rw [width_DShareBatch] at hcell
        have e0 : wr.cell? ⟨b, off + k * 3, none⟩ = some (cc 0) := (hbel.out.cell (p := ⟨b, off + k * 3, none⟩) (by show b < _; omega)).trans (by have hq := hcell 0 (by omega); first | exact hq | simpa using hq)
        have e1 : wr.cell? ⟨b, off + k * 3 + 1, none⟩ = some (cc 1) := (hbel.out.cell (p := ⟨b, off + k * 3 + 1, none⟩) (by show b < _; omega)).trans (by have hq := hcell 1 (by omega); first | exact hq | simpa using hq)
        have e2 : wr.cell? ⟨b, off + k * 3 + 2, none⟩ = some (cc 2) := (hbel.out.cell (p := ⟨b, off + k * 3 + 2, none⟩) (by show b < _; omega)).trans (by have hq := hcell 2 (by omega); first | exact hq | simpa using hq)
        clear hcell
        have HSU : Hid _ := hsu
        clear hsu
        have HAT : Hid _ := hat
        clear hat
        go_wp2_with fail
        refine (szShareBatch_any S _ cc _ _ (Lay.same HAT.out (Same.of_below hbel.out hS)) (fun b hb => by have := hS b hb; omega) hy0 (by omega)).mono ?_
        rintro e u ⟨z, rfl, hz1, hbu⟩
        by_cases hneg : z < 0
        · go_wp2_with fail
          go_ret
          exact ⟨_, rfl, Or.inl (by omega), hbel.out.trans (hbu.mono hs)⟩
        · go_wp2_with fail
          go_roundw
          case rel => exact ⟨k + 1, z, by omega, by go_num, rfl, by omega, by omega, by rw [HSU.out]; have := hsum.out; show _ = _; omega, hbel.out.trans (hbu.mono hs)⟩
          case measure => simp [intOf]; omega
      · have hkn : k = n := by omega
        subst hkn
        go_wp2
        go_ret
        exact ⟨y, rfl, Or.inr (by have := hsum.out; rw [HT.out]; omega), hbel.out⟩
  · go_enter Tryz.func31, Tryz.ntmps31
    go_wp2
    go_ret
    exact ⟨-1, rfl, Or.inl (by omega), Below.refl _ _⟩
set_option maxRecDepth 100000 in
set_option maxHeartbeats 4000000 in
theorem szShareBook_any (S : Nat → Prop) (a : DShareBook) (c : Nat → Value) (x : Int) (w : World) (h : Lay.At S w a c) (hS : ∀ b, S b → b < w.heap.size) (h0 : 0 ≤ x) (h1 : x ≤ 1048576) :
    Calls Tryz.prog 9 #[.agg #[c 0, c 1], .int .i64 x] w fun e w' => ∃ y : Int, e = .returned (.int .i64 y) ∧ (y < 0 ∨ y + (Lay.tot a : Int) = x) ∧ Below w.heap.size w w' := by
  rw [tot_DShareBook]
  rw [at_DShareBook] at h
  obtain ⟨H0, H1⟩ := h
  obtain ⟨v0, e0⟩ : ∃ v, c 0 = v := ⟨_, rfl⟩
  rw [e0] at H0
  obtain ⟨v1, e1⟩ : ∃ v, c 1 = v := ⟨_, rfl⟩
  rw [e1] at H1
  rw [e0, e1]
  clear e0 e1
  have b0 : Hid (Below w.heap.size w (w.alloc (.cells #[v0, v1] 25))) := (Below.refl _ _).alloc (Nat.le_refl _) _
  go_enter Tryz.func9, Tryz.ntmps9
  go_wp2_with fail
  refine (szStringS_any S _ v0 _ _ (H0.same (Same.of_below b0.out hS)) (fun b hb => by have := hS b hb; have := b0.out.size; omega) (by omega) (by omega)).mono ?_
  rintro e w1 ⟨y0, rfl, t0, u1⟩
  have b1 : Hid (Below w.heap.size w w1) := b0.out.trans (u1.mono b0.out.size)
  have x1_1 : w1.cell? ⟨w.heap.size, 1, none⟩ = some (v1) := (u1.cell (p := ⟨w.heap.size, 1, none⟩) (by simp)).trans (by simp)
  have s1 : w.heap.size < w1.heap.size := by have := u1.size; simp at this; omega
  by_cases n0 : y0 < 0
  · go_wp2_with fail
    go_ret
    exact ⟨_, rfl, Or.inl (by omega), b1.out⟩
  · have _u := trivial
    go_wp2_with fail
    refine (szShareBatchS_any S _ v1 _ _ (H1.same (Same.of_below b1.out hS)) (fun b hb => by have := hS b hb; have := b1.out.size; omega) (by omega) (by omega)).mono ?_
    rintro e w2 ⟨y1, rfl, t1, u2⟩
    have b2 : Hid (Below w.heap.size w w2) := b1.out.trans (u2.mono b1.out.size)
    have s2 : w.heap.size < w2.heap.size := by have := u2.size; omega
    by_cases n1 : y1 < 0
    · go_wp2_with fail
      go_ret
      exact ⟨_, rfl, Or.inl (by omega), b2.out⟩
    · have _u := trivial
      go_wp2_with fail
      go_ret
      exact ⟨_, rfl, Or.inr (by omega), b2.out⟩
end Go.Proofs.YtobchllaopdchabGreat
