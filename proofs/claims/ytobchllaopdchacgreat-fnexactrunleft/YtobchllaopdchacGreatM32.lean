/-
  Several texts in one.
-/
import Derived.Test.YtobchllaopdchacGreatM31
import Derived.Test.YtobchllaopdchacGreatM11
import Derived.Test.YtobchllaopdchacGreatM3
import Derived.Test.YtobchllaopdchacGreatM15
import Derived.Test.YtobchllaopdchacGreatM2
import Derived.Test.YtobchllaopdchacGreatM5
import Derived.Test.YtobchllaopdchacGreatM16
import Derived.Deep.Cut
import Derived.Laws.EntriesVeiled
import Derived.Maps.OwnIn
namespace Go.Proofs.YtobchllaopdchacGreat
open Go.RowKit Go.Sort
noncomputable def hT (now last : Int) (T : List ByteArray) (Bs : List DShareBatch) (Ba : List DRunBatch) (Do : List DRunDone) : Nat → Bool
  | 0 => inB now 0 100000 && inB last 0 1000000
  | 1 => (ordS (T, Bs)).2
  | 2 => donB now Do
  | 3 => basB last Ba
  | 4 => nmeB Bs (sortL (Ba.map fun b => b.1))
  | _ => nedA Bs Ba
def fnK : Nat → FuncId
  | 0 => 39
  | 1 => 40
  | 2 => 41
  | 3 => 42
  | 4 => 43
  | _ => 44
theorem fnK_run (k : Nat) (hk : k < 6) (v : Value) (W : World) : (callFunc (fnK k) #[v]).run Tryz.prog W = .ok (.enter (fnK k) #[v]) W := by
  rcases (show k = 0 ∨ k = 1 ∨ k = 2 ∨ k = 3 ∨ k = 4 ∨ k = 5 by omega) with rfl | rfl | rfl | rfl | rfl | rfl <;> kernel_rfl
section
variable {now last : Int} {T : List ByteArray} {Bs : List DShareBatch} {Ba : List DRunBatch} {Do : List DRunDone}
theorem hop_no {k : Nat} (hk : k < 6) (h : hT now last T Bs Ba Do k = false) : hopB now last T Bs Ba Do = false := by
  rcases (show k = 0 ∨ k = 1 ∨ k = 2 ∨ k = 3 ∨ k = 4 ∨ k = 5 by omega) with rfl | rfl | rfl | rfl | rfl | rfl <;> simp only [hT] at h <;> unfold hopB <;> rw [h] <;> simp
theorem hop_yes (h : ∀ k, k < 6 → hT now last T Bs Ba Do k = true) : hopB now last T Bs Ba Do = true := by
  have h0 := h 0 (by decide)
  have h1 := h 1 (by decide)
  have h2 := h 2 (by decide)
  have h3 := h 3 (by decide)
  have h4 := h 4 (by decide)
  have h5 := h 5 (by decide)
  simp only [hT] at h0 h1 h2 h3 h4 h5
  unfold hopB
  rw [h0, h1, h2, h3, h4, h5]; rfl
end
set_option maxRecDepth 100000 in
set_option maxHeartbeats 8000000 in
theorem houI_any (S : Nat → Prop) (now last : Int) (o2 o3 o4 o5 : Option Addr) (n2 k2 n3 k3 n4 k4 n5 k5 : Nat) (T : List ByteArray) (Bs : List DShareBatch) (Ba : List DRunBatch) (Do : List DRunDone) (w : World) (hT0 : AtL S w T (.slice o2 n2 k2)) (hB : AtL S w Bs (.slice o3 n3 k3)) (h : AtL S w Ba (.slice o4 n4 k4)) (hD : AtL S w Do (.slice o5 n5 k5)) (hS : ∀ b, S b → b < w.heap.size) (ht : Lay.tot (α := DShareBook) (T, Bs) ≤ 1048576) (hZ : ∀ i (hi : i < Ba.length), totL Ba[i].2.1 ≤ 1048576 ∧ totL Ba[i].2.2.1 ≤ 1048576 ∧ Ba[i].2.2.2.1.size ≤ 1048576) :
    Calls Tryz.prog 17 #[.agg #[.int .i64 now, .int .i64 last, .slice o2 n2 k2, .slice o3 n3 k3, .slice o4 n4 k4, .slice o5 n5 k5]] w fun e w' => e = .returned (.bool (houB now last T Bs Ba Do)) ∧ Below w.heap.size w w' := by
  rw [hou_hop]
  have CK : Hid (∀ k, k < 6 → (∀ j, j < k → hT now last T Bs Ba Do j = true) → ∀ u, Below w.heap.size w u → Calls Tryz.prog (fnK k) #[.agg #[.int .i64 now, .int .i64 last, .slice o2 n2 k2, .slice o3 n3 k3, .slice o4 n4 k4, .slice o5 n5 k5]] u fun e w' => e = .returned (.bool (hT now last T Bs Ba Do k)) ∧ Below u.heap.size u w') := fun k hk hall u hu => by
    have H2 := hT0.same (Same.of_below hu hS)
    have H3 := hB.same (Same.of_below hu hS)
    have H4 := h.same (Same.of_below hu hS)
    have H5 := hD.same (Same.of_below hu hS)
    have HS : ∀ b, S b → b < u.heap.size := fun b hb => Nat.lt_of_lt_of_le (hS b hb) hu.size
    rcases (show k = 0 ∨ k = 1 ∨ k = 2 ∨ k = 3 ∨ k = 4 ∨ k = 5 by omega) with rfl | rfl | rfl | rfl | rfl | rfl
    · exact ticksP_any now last o2 o3 o4 o5 n2 k2 n3 k3 n4 k4 n5 k5 u
    · exact shareP_any S now last o2 o3 o4 o5 n2 k2 n3 k3 n4 k4 n5 k5 T Bs u H2 H3 HS ht
    · exact donesP_any S now last o2 o3 o4 o5 n2 k2 n3 k3 n4 k4 n5 k5 Do u H5 HS
    · exact batchesP_any S now last o2 o3 o4 o5 n2 k2 n3 k3 n4 k4 n5 k5 Ba u H4 HS (fun i hi => ⟨(hZ i hi).1, (hZ i hi).2.1⟩)
    · have h3 : basB last Ba = true := hall 3 (by decide)
      have en : Ba.length = n4 := by obtain ⟨_, _, e, _⟩ := h; cases e; rfl
      exact namesP_any S now last o2 o3 o4 o5 n2 k2 n3 k3 n4 k4 n5 k5 Bs Ba u H3 H4 HS (by have := (bas_iff.1 h3).1; omega)
    · have h4 : nmeB Bs (sortL (Ba.map fun b => b.1)) = true := hall 4 (by decide)
      exact needsP_any S now last o2 o3 o4 o5 n2 k2 n3 k3 n4 k4 n5 k5 Bs Ba u H3 H4 HS hZ (nme_has h4)
  have YES : Hid ((∀ k, k < 6 → hT now last T Bs Ba Do k = true) → hopB now last T Bs Ba Do = true) := hop_yes
  have NO : Hid (∀ k, k < 6 → hT now last T Bs Ba Do k = false → hopB now last T Bs Ba Do = false) := fun k hk h => hop_no hk h
  obtain ⟨V, hV⟩ : ∃ V, V = hopB now last T Bs Ba Do := ⟨_, rfl⟩
  rw [← hV] at YES NO ⊢
  obtain ⟨A, hA⟩ : ∃ A, A = hT now last T Bs Ba Do := ⟨_, rfl⟩
  rw [← hA] at YES NO CK
  clear hT0 hB h hD hS ht hZ hV hA
  obtain ⟨W, hW⟩ : ∃ W, W = (w.alloc (.cells #[.int .i64 now, .int .i64 last, .slice o2 n2 k2, .slice o3 n3 k3, .slice o4 n4 k4, .slice o5 n5 k5] 38)).alloc (.cells #[.func (.func 39) #[] #[], .func (.func 40) #[] #[], .func (.func 41) #[] #[], .func (.func 42) #[] #[], .func (.func 43) #[] #[], .func (.func 44) #[] #[]] 45) := ⟨_, rfl⟩
  have EW : Hid (W = (w.alloc (.cells #[.int .i64 now, .int .i64 last, .slice o2 n2 k2, .slice o3 n3 k3, .slice o4 n4 k4, .slice o5 n5 k5] 38)).alloc (.cells #[.func (.func 39) #[] #[], .func (.func 40) #[] #[], .func (.func 41) #[] #[], .func (.func 42) #[] #[], .func (.func 43) #[] #[], .func (.func 44) #[] #[]] 45)) := hW
  have BW : Hid (Below w.heap.size w W) := by rw [hW]; exact ((Below.refl _ _).alloc (Nat.le_refl _) _).alloc (by simp) _
  have RW : Hid (W.heap[w.heap.size]? = some (.cells #[.int .i64 now, .int .i64 last, .slice o2 n2 k2, .slice o3 n3 k3, .slice o4 n4 k4, .slice o5 n5 k5] 38 (0, 0))) := by rw [hW]; exact ((Below.refl (w.heap.size + 1) _).alloc (by simp) _).block _ (by omega) |>.trans (heap_alloc_new w _)
  have RX : Hid (W.heap[w.heap.size + 1]? = some (.cells #[.func (.func 39) #[] #[], .func (.func 40) #[] #[], .func (.func 41) #[] #[], .func (.func 42) #[] #[], .func (.func 43) #[] #[], .func (.func 44) #[] #[]] 45 (0, 0))) := by rw [hW]; show _ = _; have h := heap_alloc_new (w.alloc (.cells #[.int .i64 now, .int .i64 last, .slice o2 n2 k2, .slice o3 n3 k3, .slice o4 n4 k4, .slice o5 n5 k5] 38)) (.cells #[.func (.func 39) #[] #[], .func (.func 40) #[] #[], .func (.func 41) #[] #[], .func (.func 42) #[] #[], .func (.func 43) #[] #[], .func (.func 44) #[] #[]] 45); rw [show (w.alloc (.cells #[.int .i64 now, .int .i64 last, .slice o2 n2 k2, .slice o3 n3 k3, .slice o4 n4 k4, .slice o5 n5 k5] 38)).heap.size = w.heap.size + 1 by simp] at h; exact h
  have sW : w.heap.size + 2 ≤ W.heap.size := by rw [hW]; simp
  clear hW
  have Y : Hid (∀ u, Below W.heap.size W u → Below w.heap.size w u ∧ u.cell? ⟨w.heap.size, 0, none⟩ = some (.int .i64 now) ∧ u.cell? ⟨w.heap.size, 1, none⟩ = some (.int .i64 last) ∧ u.cell? ⟨w.heap.size, 2, none⟩ = some (.slice o2 n2 k2) ∧ u.cell? ⟨w.heap.size, 3, none⟩ = some (.slice o3 n3 k3) ∧ u.cell? ⟨w.heap.size, 4, none⟩ = some (.slice o4 n4 k4) ∧ u.cell? ⟨w.heap.size, 5, none⟩ = some (.slice o5 n5 k5) ∧ ∀ k, k < 6 → u.cell? ⟨w.heap.size + 1, k, none⟩ = some (.func (.func (fnK k)) #[] #[])) := fun u hu => by
    have b1 := (hu.block _ (by omega)).trans RW.out
    have b2 := (hu.block _ (by omega)).trans RX.out
    have p := fun i v h => (cell_row b1 i v h).1
    refine ⟨BW.out.trans (hu.mono (by omega)), p 0 _ rfl, p 1 _ rfl, p 2 _ rfl, p 3 _ rfl, p 4 _ rfl, p 5 _ rfl, fun k hk => ?_⟩
    rcases (show k = 0 ∨ k = 1 ∨ k = 2 ∨ k = 3 ∨ k = 4 ∨ k = 5 by omega) with rfl | rfl | rfl | rfl | rfl | rfl <;> exact (cell_row b2 _ _ rfl).1
  go_enter Tryz.func17, Tryz.ntmps17
  go_wp2_with fail
  rw [← EW.out]
  go_loopw [7] (fun i wr => ∃ k : Nat, k ≤ 6 ∧ i = .int .i64 k ∧ Hid (∀ j, j < k → A j = true) ∧ Hid (Below W.heap.size W wr)) (fun i _ => 6 - (intOf i).toNat)
  case atStart => exact ⟨0, by omega, rfl, fun _ h => by omega, Below.refl _ _⟩
  case round =>
    obtain ⟨k, hk, rfl, hall, hbel⟩ := hrel
    have hs := hbel.out.size
    obtain ⟨bwr', y0, y1, y2, y3, y4, y5, fx⟩ := Y.out wr hbel.out
    have bwr : Hid _ := bwr'
    clear bwr'
    by_cases hlt : k < 6
    case neg =>
      have EV : Hid (V = true) := YES.out (fun j hj => hall.out j (by omega))
      clear fx
      go_wp2_with fail
      go_ret
      rw [EV.out]
      exact ⟨rfl, bwr.out⟩
    have f1 := fx k hlt
    clear fx
    have C : Hid _ := CK.out k hlt hall.out wr bwr.out
    have hcf := fnK_run k hlt
    cases c : A k
    · rw [c] at C
      have EV : Hid (V = false) := NO.out k hlt c
      go_wp2_with fail
      refine Calls.mono C.out ?_; rintro e w1 ⟨rfl, hb1⟩
      have B1 : Hid (Below w.heap.size w w1) := bwr.out.trans (hb1.mono bwr.out.size)
      clear hb1 y0 y1 y2 y3 y4 y5 f1 C
      go_wp2_with fail
      go_ret
      rw [EV.out]
      exact ⟨rfl, B1.out⟩
    · rw [c] at C
      have HP : Hid (A k = true) := c
      go_wp2_with fail
      refine Calls.mono C.out ?_; rintro e w1 ⟨rfl, hb1⟩
      have B1 : Hid (Below W.heap.size W w1) := hbel.out.trans (hb1.mono hs)
      clear hb1 y0 y1 y2 y3 y4 y5 f1 C
      go_wp2_with fail
      go_roundw
      case rel => exact ⟨k + 1, by omega, by go_num, fun j hj => by
        by_cases e : j = k
        · subst e; exact HP.out
        · exact hall.out j (by omega), B1.out⟩
      case measure => simp [intOf]; omega
end Go.Proofs.YtobchllaopdchacGreat

namespace Go.Proofs.YtobchllaopdchacGreat
open Go.RowKit Go.Sort
attribute [local go_sem] Oper.semAt_some
theorem endP_q (x : ByteArray) (wr : World) (d : Nat) (os : Array Obj) : Calls Tryz.prog 124 #[.string x] (grow (redrawn wr d) os) fun e w'' => e = .returned (.int .i64 (endI x)) ∧ ∃ p : Regrown, w'' = grow (redrawn wr p.d) p.os :=
  (endP_any x _).mono fun _ _ h => ⟨h.1, ⟨d, os⟩, h.2⟩
set_option maxRecDepth 100000 in
set_option maxHeartbeats 4000000 in
theorem noneB_any (e : Int) (w : World) : Calls Tryz.prog 86 #[.int .i64 e] w fun e w' => e = .returned (.int .i64 0) ∧ w' = w := by
  go_enter Tryz.func86, Tryz.ntmps86
  go_wp2
  go_ret
  exact ⟨rfl, rfl⟩
set_option maxRecDepth 100000 in
set_option maxHeartbeats 4000000 in
theorem longB_any (nm a b th el : ByteArray) (kd n wi x y : Int) (w : World) (hx : 0 ≤ x ∧ x ≤ 12000) (hy : 0 ≤ y ∧ y ≤ 12000) (hw : 1 ≤ wi ∧ wi ≤ 1000) :
    Calls Tryz.prog 87 #[.agg #[.string nm, .int .i64 kd, .string a, .string b, .int .i64 n, .int .i64 wi, .string th, .string el], .int .i64 x, .int .i64 y] w fun e w' => e = .returned (.int .i64 (max x y + wi)) ∧ Below w.heap.size w w' := by
  rcases Int.lt_trichotomy x y with c | rfl | c
  · rw [show max x y + wi = wi + y by omega]
    go_enter Tryz.func87, Tryz.ntmps87
    go_wp2
    go_ret
    exact ⟨by go_num, (Below.refl _ _).alloc (Nat.le_refl _) _⟩
  · rw [show max x x + wi = wi + x by omega]
    go_enter Tryz.func87, Tryz.ntmps87
    go_wp2
    go_ret
    exact ⟨by go_num, (Below.refl _ _).alloc (Nat.le_refl _) _⟩
  · rw [show max x y + wi = wi + x by omega]
    go_enter Tryz.func87, Tryz.ntmps87
    go_wp2
    go_ret
    exact ⟨by go_num, (Below.refl _ _).alloc (Nat.le_refl _) _⟩
set_option maxRecDepth 100000 in
set_option maxHeartbeats 4000000 in
theorem ofB_any (S : Nat → Prop) (r : List DRecPhase) (oa : Option Addr) (n cap : Nat) (x : ByteArray) (g : Nat) (B : Int) (w : World) (h : AtL S w r (.slice oa n cap)) (hl : r.length = n) (hS : ∀ b, S b → b < w.heap.size) (hg : g < w.heap.size)
    (hk : ∀ k : Nat, atI r x = (k : Int) → w.cell? ⟨g, k, none⟩ = some (.int .i64 B)) (h0 : atI r x = -1 → B = 0) :
    Calls Tryz.prog 89 #[.agg #[.slice oa n cap, .slice (some ⟨g, 0, none⟩) n n, .func (.func 86) #[] #[]], .string x] w fun e w' => e = .returned (.int .i64 B) ∧ Below w.heap.size w w' := by
  have H : Hid (AtL S (w.alloc (.cells #[.slice oa n cap, .slice (some ⟨g, 0, none⟩) n n, .func (.func 86) #[] #[]] 127)) r (.slice oa n cap)) := h.same (Same.of_below ((Below.refl _ _).alloc (Nat.le_refl _) _) hS)
  have HS : Hid (∀ b, S b → b < (w.alloc (.cells #[.slice oa n cap, .slice (some ⟨g, 0, none⟩) n n, .func (.func 86) #[] #[]] 127)).heap.size) := fun b hb => by have := hS b hb; simp; omega
  have k0 : Hid (Below (w.heap.size + 1) (w.alloc (.cells #[.slice oa n cap, .slice (some ⟨g, 0, none⟩) n n, .func (.func 86) #[] #[]] 127)) (w.alloc (.cells #[.slice oa n cap, .slice (some ⟨g, 0, none⟩) n n, .func (.func 86) #[] #[]] 127))) := Below.refl _ _
  have HK : Hid _ := hk
  have HZ : Hid _ := h0
  have hn : n ≤ 9223372036854775807 := by obtain ⟨_, _, e, hx, _⟩ := h; rw [hl] at hx; have := hx.1; unfold maxLen at this; omega
  clear h hk h0 hS
  go_enter Tryz.func89, Tryz.ntmps89
  go_wp2_with fail
  refine (phAt_any S r _ x _ H.out HS.out).mono ?_; rintro e w1 ⟨rfl, hb1⟩
  have k1 : Hid (Below (w.heap.size + 1) (w.alloc (.cells #[.slice oa n cap, .slice (some ⟨g, 0, none⟩) n n, .func (.func 86) #[] #[]] 127)) w1) := below_of k0.out hb1
  have kb : Hid (Below w.heap.size w w1) := below_end k1.out
  clear hb1
  have y0 := box_at _ _ k1.out 0 (.slice oa n cap) rfl
  have y1 := box_at _ _ k1.out 1 (.slice (some ⟨g, 0, none⟩) n n) rfl
  have y2 := box_at _ _ k1.out 2 (.func (.func 86) #[] #[]) rfl
  rcases at_cases r x with e | ⟨k, hk, e, _⟩
  · have hB := HZ.out e
    subst hB
    rw [e]
    have q2 := fun d os => cell_regrown y2 d os
    go_upto_region 4 with fail
    refine wp_region_head_tail 4 (by kernel_rfl) (by kernel_rfl) ?_
    simp only [List.take_succ_cons, List.take_zero]
    repeat (first | go_big_quiet_step (with_reducible exact endP_q x _ _ _) | quiet_step (with_reducible exact endP_q x _ _ _))
    refine wpQuiet_nil ?_
    rintro w2 ⟨p, rfl⟩
    simp only [List.drop_succ_cons, List.drop_zero]
    obtain ⟨w3, hw3⟩ : ∃ w3, w3 = grow (redrawn w1 p.d) p.os := ⟨_, rfl⟩
    have b3 : Hid (Below w.heap.size w w3) := by rw [hw3]; exact kb.out.trans ((below_regrown w1 p.d p.os).mono kb.out.size)
    rw [← hw3]
    clear hw3
    go_wp2_with fail
    refine (noneB_any _ _).mono ?_; rintro e w4 ⟨rfl, rfl⟩
    go_wp2_with fail
    go_ret
    exact ⟨rfl, b3.out⟩
  · rw [e]
    have hkn : k < n := by omega
    have yk : w1.cell? ⟨g, k, none⟩ = some (.int .i64 B) := (kb.out.cell (p := ⟨g, k, none⟩) hg).trans (HK.out k e)
    go_wp2_with fail
    go_ret
    exact ⟨rfl, kb.out⟩
theorem underTB : Tryz.prog.underlying 125 = some (.slice 3) := by kernel_rfl
theorem infoTB : (Tryz.prog.info? 3).map (fun i => (i.zero, i.size, i.bytes)) = some (some (.int .i64 0), 1, 8) := by kernel_rfl
structure TbB (U : World) (g n : Nat) (r : List DRecPhase) (m : Nat) (X : World) : Prop where
  row : ∃ c : Array Value, X.heap[g]? = some (.cells c 3 (0, 0)) ∧ c.size = n * 1 ∧ ∀ i, i < n → n ≤ i + m → c[i]? = some (.int .i64 (bndF 12 r (phN r i).1))
  but : But (fun k => k = g) U X
theorem TbB.grown {U : World} {g n : Nat} {r : List DRecPhase} {m : Nat} {A C : World} {row : Option Nat} (h : TbB U g n r m A) (hg : A.grownBy C row) (hr : ∀ q, row = some q → U.heap.size ≤ q ∧ ∃ o : Obj, A.heap[q]? = some o ∧ o.isCells = false) (hU : g < U.heap.size) : TbB U g n r m C := by
  obtain ⟨⟨c, h1, h2⟩, hb⟩ := h
  exact ⟨⟨c, (hg.block g (Array.getElem?_eq_some_iff.1 h1).1 (fun e => by have := (hr g e.symm).1; omega)).trans h1, h2⟩, but_grown hb hg (fun q e => (hr q e).1)⟩
set_option maxRecDepth 100000 in
set_option maxHeartbeats 4000000 in
theorem tabB_any (S : Nat → Prop) (r : List DRecPhase) (oa : Option Addr) (n cap : Nat) (w : World) (hR : RecP r) (h : AtL S w r (.slice oa n cap)) (hl : r.length = n) (hS : ∀ b, S b → b < w.heap.size) :
    Calls Tryz.prog 88 #[.slice oa n cap, .func (.func 86) #[] #[], .func (.func 87) #[] #[]] w fun e w' => ∃ g, e = .returned (.agg #[.slice oa n cap, .slice (some ⟨g, 0, none⟩) n n, .func (.func 86) #[] #[]]) ∧ (g < w'.heap.size ∧ ∀ i, i < n → w'.cell? ⟨g, i, none⟩ = some (.int .i64 (bndF 12 r (phN r i).1))) ∧ Below w.heap.size w w' := by
  have h1 := hR.1.1
  have h2 := hR.1.2
  rw [hl] at h1 h2
  have HR : Hid (RecP r) := hR
  have HL : Hid (r.length = n) := hl
  have H : Hid _ := h.ups hS
  have HS : Hid (∀ b, S b → b < w.heap.size) := hS
  clear h hS hl hR
  obtain ⟨i0, hi, hz0, hz1, hz2⟩ := info_parts infoTB
  obtain ⟨M, hM⟩ : ∃ M, M = madeCells (.int .i64 0 : Value).cells ((n : Int).toNat * i0.size) := ⟨_, rfl⟩
  have hMs : M.size = n * 1 := by rw [hM, size_madeCells, hz1]; simp
  have hmk : ∀ W : World, (Instr.makeSlice 125 (.int .i64 (n : Int)) (.int .i64 (n : Int))).run Tryz.prog W = .ok (.slice (some ⟨W.heap.size, 0, none⟩) n n) (W.alloc (.cells M 3)) := fun W => by
    have h := run_make (P := Tryz.prog) W 125 3 i0 (.int .i64 0) underTB hi hz0 .i64 .i64 (n : Int) (n : Int) (by omega) (by omega) (by rw [hz2]; omega) (by omega)
    rw [← hM] at h
    simpa using h
  have HMS : Hid (M.size = n * 1) := hMs
  clear hM hMs hi hz0 hz1 hz2 i0
  obtain ⟨U, hU⟩ : ∃ u, u = ((((w.alloc (.cells #[.func (.func 87) #[] #[]] 124)).alloc (.cells #[.slice none 0 0, .slice none 0 0, .nilFunc] 127)).alloc (.cells M 3)).alloc (.cells #[.slice oa n cap, .slice (some ⟨w.heap.size + 1 + 1, 0, none⟩) n n, .func (.func 86) #[] #[]] 127)).alloc (.cells #[.slice oa n cap] 46) := ⟨_, rfl⟩
  have EU : Hid (U = ((((w.alloc (.cells #[.func (.func 87) #[] #[]] 124)).alloc (.cells #[.slice none 0 0, .slice none 0 0, .nilFunc] 127)).alloc (.cells M 3)).alloc (.cells #[.slice oa n cap, .slice (some ⟨w.heap.size + 1 + 1, 0, none⟩) n n, .func (.func 86) #[] #[]] 127)).alloc (.cells #[.slice oa n cap] 46)) := hU
  have sU : w.heap.size + 5 ≤ U.heap.size ∧ U.heap.size ≤ w.heap.size + 5 := by rw [hU]; simp
  have BU : Hid (Below w.heap.size w U) := by rw [hU]; exact (((((Below.refl _ _).alloc (Nat.le_refl _) _).alloc (by simp) _).alloc (by simp; omega) _).alloc (by simp; omega) _).alloc (by simp; omega) _
  have P5 : Hid (U.heap[w.heap.size]? = some (.cells #[.func (.func 87) #[] #[]] 124 (0, 0))) := by rw [hU]; exact alloc_up _ (alloc_up _ (alloc_up _ (alloc_up _ (alloc_at _ rfl))))
  have P6 : Hid (U.heap[w.heap.size + 1]? = some (.cells #[.slice none 0 0, .slice none 0 0, .nilFunc] 127 (0, 0))) := by rw [hU]; exact alloc_up _ (alloc_up _ (alloc_up _ (alloc_at _ (by simp))))
  have PG : Hid (U.heap[w.heap.size + 1 + 1]? = some (.cells M 3 (0, 0))) := by rw [hU]; exact alloc_up _ (alloc_up _ (alloc_at _ (by simp)))
  have P7 : Hid (U.heap[w.heap.size + 1 + 1 + 1]? = some (.cells #[.slice oa n cap, .slice (some ⟨w.heap.size + 1 + 1, 0, none⟩) n n, .func (.func 86) #[] #[]] 127 (0, 0))) := by rw [hU]; exact alloc_up _ (alloc_at _ (by simp))
  have PB : Hid (U.heap[w.heap.size + 1 + 1 + 1 + 1]? = some (.cells #[.slice oa n cap] 46 (0, 0))) := by rw [hU]; exact alloc_at _ (by simp)
  clear hU
  refine (callsIn_wide (n := 6)).1 ?_
  refine callsIn_of_wp_marks Tryz.func88 rfl trivial ?_ rfl
  simp only [Tryz.ntmps88, List.size_toArray, List.length_cons, List.length_nil, Nat.reduceAdd, Nat.reduceSub, Array.replicate_succ, Array.replicate_zero, List.push_toArray, List.append_toArray, List.nil_append, List.cons_append]
  refine wpIn_wide.2 ?_
  go_wp2_with fail
  refine (back_any oa n cap _).mono ?_; rintro e w' ⟨rfl, hw'⟩
  rw [← EU.out] at hw'
  subst hw'
  go_wp2_with fail
  refine (wpIn_wide (n := 5)).1 ?_
  refine wpIn_range_fitp (F := Fence.wide) rfl (by omega) (gf := 169) (lb := #[.pointer (some ⟨w.heap.size + 1 + 1 + 1 + 1, 0, none⟩)]) rfl trivial (enters_of Tryz.func169 (by kernel_rfl) rfl)
    (back_fit 4 (w.heap.size + 1 + 1 + 1 + 1) w.heap.size (by omega) S oa cap n r (fun _ k => k = w.heap.size + 1 + 1) w' PB.out (H.out _ BU.out) HS.out BU.out.size HL.out (by omega)) (fun _ _ _ _ _ _ _ h _ _ => h) (Below.refl _ _) (fun _ => rfl) (fun k hk e => by omega) BU.out.size
    (fun pre X => TbB w' (w.heap.size + 1 + 1) n r pre.length X) (fun pre A C row hI hg hr => hI.grown hg hr (by omega)) (fun pre X hI => st_one (by have := hI.but.size; omega)) ⟨⟨M, PG.out, by have := HMS.out; omega, fun i h1 h2 => by simp at h2; omega⟩, But.refl _ _⟩ (fun _ _ _ _ _ h _ => h) ?round ?done
  case round =>
    intro l pre y X hI hlen
    obtain ⟨f, ef⟩ : ∃ f, phN r y = f := ⟨_, rfl⟩
    have hv : phV2 r y = #[.int .i64 (y : Int), phC f] := by unfold phV2; rw [ef]
    obtain ⟨nm, kd, a, b', n', wi, th, el⟩ := f
    simp only [phC] at hv
    rw [hv]
    clear hv
    apply Exists.intro
    apply Exists.intro
    refine ⟨?ba, ?assign, ?body⟩
    case assign =>
      intro K hK
      gi_wp2
      exact hK
    case ba => exact (Below.refl _ _).alloc (Nat.le_refl _) _
    case body =>
      intro X0 V _ hV hy hput
      obtain ⟨kk, oo, oo', hk1, hk2, hV2⟩ := hput
      have hne : kk ≠ X.heap.size := fun e => by
        subst e
        rw [heap_alloc_new] at hk1
        cases hk1; cases hk2
      have XP : V.heap[X.heap.size]? = some (.cells #[.string nm, .int .i64 kd, .string a, .string b', .int .i64 n', .int .i64 wi, .string th, .string el] 75 (0, 0)) := by rw [hV2]; exact (World.putObj_heap_other (by omega)).trans (heap_alloc_new X _)
      clear hV2 hk1 hk2 hne hI
      obtain ⟨z0, _⟩ := cell_row XP 0 (.string nm) rfl
      obtain ⟨z1, _⟩ := cell_row XP 1 (.int .i64 kd) rfl
      obtain ⟨z2, _⟩ := cell_row XP 2 (.string a) rfl
      obtain ⟨z3, _⟩ := cell_row XP 3 (.string b') rfl
      obtain ⟨z4, _⟩ := cell_row XP 4 (.int .i64 n') rfl
      obtain ⟨z5, _⟩ := cell_row XP 5 (.int .i64 wi) rfl
      obtain ⟨z6, _⟩ := cell_row XP 6 (.string th) rfl
      obtain ⟨z7, _⟩ := cell_row XP 7 (.string el) rfl
      obtain ⟨⟨c, hc, hcs, hct⟩, hbut⟩ := hV
      have sV := hbut.size
      have yn : y < n := by omega
      have V5 := (hbut.block w.heap.size (by omega) (by omega)).trans P5.out
      have V7 := (hbut.block (w.heap.size + 1 + 1 + 1) (by omega) (by omega)).trans P7.out
      obtain ⟨p5, _⟩ := cell_row V5 0 (.func (.func 87) #[] #[]) rfl
      obtain ⟨t0, _⟩ := cell_row V7 0 (.slice oa n cap) rfl
      obtain ⟨t1, _⟩ := cell_row V7 1 (.slice (some ⟨w.heap.size + 1 + 1, 0, none⟩) n n) rfl
      obtain ⟨t2, _⟩ := cell_row V7 2 (.func (.func 86) #[] #[]) rfl
      have qz0 := fun d os => cell_regrown z0 d os
      have qz1 := fun d os => cell_regrown z1 d os
      have qz2 := fun d os => cell_regrown z2 d os
      have qz3 := fun d os => cell_regrown z3 d os
      have qz4 := fun d os => cell_regrown z4 d os
      have qz5 := fun d os => cell_regrown z5 d os
      have qz6 := fun d os => cell_regrown z6 d os
      have qz7 := fun d os => cell_regrown z7 d os
      have qt0 := fun d os => cell_regrown t0 d os
      have qt1 := fun d os => cell_regrown t1 d os
      have qt2 := fun d os => cell_regrown t2 d os
      have q5 := fun d os => cell_regrown p5 d os
      clear XP V5 V7
      have BUT : Hid (But (fun k => k = w.heap.size + 1 + 1) w' V) := hbut
      have HC : Hid (V.heap[w.heap.size + 1 + 1]? = some (.cells c 3 (0, 0))) := hc
      have HCT : Hid (∀ i, i < n → n ≤ i + pre.length → c[i]? = some (.int .i64 (bndF 12 r (phN r i).1))) := hct
      have HCS : Hid (c.size = n * 1) := by show _ = _; omega
      have HY : Hid (y = n - 1 - pre.length) := hy
      have BV : Hid (Below w.heap.size w V) := BU.out.trans (hbut.below (B := w.heap.size) (fun b hb => by omega) (by omega))
      have hdV : Hid (Below V.heap.size V V.drew) := (Below.refl _ _).drew
      have hyr : y < r.length := by have := HL.out; omega
      have hri : Hid (r[y]'hyr = (nm, kd, a, b', n', wi, th, el)) := by show _ = _; rw [← ef, phN_at hyr]
      have HLT := later_of HR.out (i := y) hyr
      rw [hri.out] at HLT
      have LAT : Hid _ := HLT
      have HWI := (ph_name (step_of HR.out (k := y) hyr).1).2.2.1
      rw [hri.out] at HWI
      have hwi : 1 ≤ wi ∧ wi ≤ 1000 := HWI
      have TOLD : Hid (∀ (x : ByteArray) (u : World), Below V.heap.size V u → (∀ j : Nat, atI r x = (j : Int) → y < j) → ∀ k : Nat, atI r x = (k : Int) → u.cell? ⟨w.heap.size + 1 + 1, k, none⟩ = some (.int .i64 (bndF 12 r x))) := fun x u hu hlater k hk => by
        rcases at_cases r x with e | ⟨k', hk', e, _⟩
        · omega
        · obtain rfl : k = k' := by omega
          have hkl := hlater k hk
          have hlen := HL.out
          have hyy := HY.out
          have h1 := HCT.out k (by omega) (by omega)
          rw [phN_at (by omega), ← bnd_at HR.out (by omega) e 12] at h1
          exact (hu.cell (p := ⟨w.heap.size + 1 + 1, k, none⟩) (show w.heap.size + 1 + 1 < V.heap.size by omega)).trans (cell_row HC.out k _ h1).1
      have HSV : Hid (∀ u, Below V.heap.size V u → ∀ b, S b → b < u.heap.size) := fun u hu b hb => by have := HS.out b hb; have := hu.size; omega
      have HAV : Hid (∀ u, Below V.heap.size V u → AtL S u r (.slice oa n cap)) := fun u hu => H.out u (BV.out.trans (hu.mono BV.out.size))
      clear hbut hc hcs hct hy ef HLT HWI
      gi_wp2
      refine wpIn_region_mix 14 [0, 1, 2, 3, 4, 5, 6, 7, 9, 10, 11] (by kernel_rfl) (by kernel_rfl) (by kernel_rfl) ?_
      simp only [List.filterMap_cons, List.filterMap_nil, List.getElem?_cons_succ, List.getElem?_cons_zero]
      repeat (first | go_big_quiet_step (fail) | quiet_step (fail))
      refine wpQuiet_nil ?_
      clear p5 t0 t1 t2 q5 qt0 qt1 qt2 z0 z1 z2 z3 z4 z5 z6 z7 qz0 qz1 qz2 qz3 qz4 qz5 qz6 qz7
      have C1 : Hid _ := (fun x u hu hl => ofB_any S r oa n cap x (w.heap.size + 1 + 1) (bndF 12 r x) u (HAV.out u hu) HL.out (HSV.out u hu) (by have := hu.size; omega) (TOLD.out x u hu hl) (fun e => bnd_none e 12)) th V.drew hdV.out LAT.out.1
      refine call1 (md := .any) (f := 2) (i := 8) (dc := 28) (fn := 89) ⟨rfl, rfl, rfl, by decide⟩ (by kernel_rfl) ?run1 (Calls.mono C1.out ?_)
      case run1 => go_simp
      rintro e u1 ⟨rfl, hb1⟩
      have B1 : Hid (Below V.heap.size V u1) := hdV.out.trans hb1
      clear hb1
      refine ⟨_, rfl, regrown_of_below B1.out, ?_⟩
      simp only [Act.put, List.setIfInBounds_toArray, List.set_cons_zero, List.set_cons_succ]
      have C2 : Hid _ := (fun x u hu hl => ofB_any S r oa n cap x (w.heap.size + 1 + 1) (bndF 12 r x) u (HAV.out u hu) HL.out (HSV.out u hu) (by have := hu.size; omega) (TOLD.out x u hu hl) (fun e => bnd_none e 12)) el u1 B1.out LAT.out.2
      refine call1 (md := .any) (f := 1) (i := 12) (dc := 32) (fn := 89) ⟨rfl, rfl, rfl, by decide⟩ (by kernel_rfl) ?run2 (Calls.mono C2.out ?_)
      case run2 => go_simp
      rintro e u2 ⟨rfl, hb2⟩
      have B2 : Hid (Below V.heap.size V u2) := B1.out.trans (hb2.mono B1.out.size)
      clear hb2
      refine ⟨_, rfl, regrown_of_below B2.out, ?_⟩
      simp only [Act.put, List.setIfInBounds_toArray, List.set_cons_zero, List.set_cons_succ]
      have C3 : Hid _ := longB_any nm a b' th el kd n' wi (bndF 12 r th) (bndF 12 r el) u2 (by have := bnd_le HR.out 12 th; omega) (by have := bnd_le HR.out 12 el; omega) hwi
      refine call1 (md := .any) (f := 0) (i := 13) (dc := 33) (fn := 87) ⟨rfl, rfl, rfl, by decide⟩ (by kernel_rfl) ?run3 (Calls.mono C3.out ?_)
      case run3 => go_simp
      rintro e u3 ⟨rfl, hb3⟩
      have B3 : Hid (Below V.heap.size V u3) := B2.out.trans (hb3.mono B2.out.size)
      clear hb3
      refine ⟨_, rfl, regrown_of_below B3.out, ?_⟩
      simp only [Act.put, List.setIfInBounds_toArray, List.set_cons_zero, List.set_cons_succ]
      refine ⟨by kernel_rfl, ?_⟩
      simp only [List.drop_succ_cons, List.drop_zero]
      have G3 : Hid (u3.heap[w.heap.size + 1 + 1]? = some (.cells c 3 (0, 0))) := (B3.out.block _ (by omega)).trans HC.out
      obtain ⟨v0, hv0⟩ : ∃ v, c[y]? = some v := ⟨_, Array.getElem?_eq_getElem (by have := HCS.out; omega)⟩
      obtain ⟨g0, f0⟩ := cell_row G3.out y v0 hv0
      gi_wp2
      have BB : But (fun k => k = w.heap.size + 1 + 1) V (u3.setCell ⟨w.heap.size + 1 + 1, y, none⟩ (.int .i64 (max (bndF 12 r th) (bndF 12 r el) + wi))) := But.set (S := fun k => k = w.heap.size + 1 + 1) (g := w.heap.size + 1 + 1) (But.of_below B3.out) rfl y _
      refine ⟨but_keeps BB HC.out, but_kpo BB (by omega) (by omega), ⟨⟨_, set_row G3.out y _, by have := HCS.out; simp only [Array.size_setIfInBounds]; omega, fun i h1 h2 => ?_⟩, BUT.out.trans BB⟩⟩
      rw [List.length_append] at h2
      have hlen1 : [y].length = 1 := rfl
      have hyy := HY.out
      have hcs := HCS.out
      by_cases e : i = y
      · subst e
        have hst := bnd_step HR.out hyr
        rw [phN_at hyr, hst, hri.out]
        simp only [Array.getElem?_setIfInBounds]
        rw [if_pos True.intro, if_pos (by omega)]
      · have hold := HCT.out i h1 (by omega)
        simp only [Array.getElem?_setIfInBounds]
        rw [if_neg (by omega)]
        exact hold
  case done =>
    rintro D xs Z hD hDZ hS hI hK hko
    subst hS
    rw [bk_len] at hI
    obtain ⟨⟨c, hc, hcs, hct⟩, hbut⟩ := hI
    have sZ := hbut.size
    have Z7 := (hbut.block (w.heap.size + 1 + 1 + 1) (by omega) (by omega)).trans P7.out
    have Z6 := (hbut.block (w.heap.size + 1) (by omega) (by omega)).trans P6.out
    have BZ : Hid (Below w.heap.size w Z) := BU.out.trans (hbut.below (B := w.heap.size) (fun b hb => by omega) (by omega))
    have KD : Hid (Z.heap[D]? = some (.deferred (some []))) := hK
    have HC : Hid (Z.heap[w.heap.size + 1 + 1]? = some (.cells c 3 (0, 0))) := hc
    have HCT : Hid (∀ i, i < n → n ≤ i + n → c[i]? = some (.int .i64 (bndF 12 r (phN r i).1))) := hct
    obtain ⟨l0, _⟩ := cell_row Z7 0 (.slice oa n cap) rfl
    obtain ⟨p0', f0'⟩ := cell_row Z6 0 (.slice none 0 0) rfl
    obtain ⟨l1, _⟩ := cell_row Z7 1 (.slice (some ⟨w.heap.size + 1 + 1, 0, none⟩) n n) rfl
    obtain ⟨p1', f1'⟩ := cell_row Z6 1 (.slice none 0 0) rfl
    obtain ⟨l2, _⟩ := cell_row Z7 2 (.func (.func 86) #[] #[]) rfl
    obtain ⟨p2', f2'⟩ := cell_row Z6 2 (.nilFunc) rfl
    obtain ⟨F0, F1, F2, F3⟩ := ret3 Z6 (.slice oa n cap) (.slice (some ⟨w.heap.size + 1 + 1, 0, none⟩) n n) (.func (.func 86) #[] #[])
    have HF0 : Hid _ := F0
    have HF1 : Hid _ := F1
    have HF2 : Hid (_ ≤ _ ∧ _ ≤ _) := ⟨Nat.le_of_eq F2, Nat.le_of_eq F2.symm⟩
    have HF3 : Hid _ := F3
    clear F0 F1 F2 F3 hK hko hbut hc hcs hct
    go_wp2_with fail
    obtain ⟨FW, hF⟩ : ∃ u, u = ((Z.setCell ⟨w.heap.size + 1, 0, none⟩ (.slice oa n cap)).setCell ⟨w.heap.size + 1, 1, none⟩ (.slice (some ⟨w.heap.size + 1 + 1, 0, none⟩) n n)).setCell ⟨w.heap.size + 1, 2, none⟩ (.func (.func 86) #[] #[]) := ⟨_, rfl⟩
    have F0 := HF0.out
    have F1 := HF1.out
    have F2 := HF2.out
    have F3 := HF3.out
    rw [← hF]
    rw [← hF] at F0 F1 F2 F3
    clear hF HF0 HF1 HF2 HF3
    have T1 : FW.heap[D]? = some (.deferred (some [])) := (F1 D (by omega)).trans KD.out
    refine ⟨by simp, .inl ⟨_, _, rfl, run_takeDeferred T1, ?_⟩⟩
    obtain ⟨FF, hFF⟩ : ∃ u, u = FW.putObj D (.deferred none) := ⟨_, rfl⟩
    rw [← hFF]
    have same : ∀ g, g ≠ D → FF.heap[g]? = FW.heap[g]? := fun g h1 => by rw [hFF]; exact World.putObj_heap_other (by omega)
    have sFF : FF.heap.size = FW.heap.size := by rw [hFF]; simp
    have F0' := (same (w.heap.size + 1) (by omega)).trans F0
    have s0 := (cell_row F0' 0 (.slice oa n cap) rfl).1
    have s1 := (cell_row F0' 1 (.slice (some ⟨w.heap.size + 1 + 1, 0, none⟩) n n) rfl).1
    have s2 := (cell_row F0' 2 (.func (.func 86) #[] #[]) rfl).1
    have BFF : Below w.heap.size w FF := by
      have h1 : Below w.heap.size w FW := BZ.out.trans (F3.mono (by omega))
      refine ⟨?_, ?_, ?_, by rw [sFF]; exact h1.size, fun b hb => (same b (by omega)).trans (h1.block b hb)⟩
      · rw [hFF]; exact h1.os
      · rw [hFF]; exact h1.tape
      · rw [hFF]; exact h1.output
    have GF : FF.heap[w.heap.size + 1 + 1]? = some (.cells c 3 (0, 0)) := (same _ (by omega)).trans ((F1 _ (by omega)).trans HC.out)
    exact ⟨.agg #[.slice oa n cap, .slice (some ⟨w.heap.size + 1 + 1, 0, none⟩) n n, .func (.func 86) #[] #[]], (by simp [results, Tryz.results88, go_sem, s0, s1, s2]), w.heap.size + 1 + 1, rfl, ⟨(Array.getElem?_eq_some_iff.1 GF).1, fun i hi => (cell_row GF i _ (HCT.out i hi (by omega))).1⟩, BFF⟩
end Go.Proofs.YtobchllaopdchacGreat

namespace Go.Proofs.YtobchllaopdchacGreat
open Go.RowKit
set_option maxRecDepth 100000 in
set_option maxHeartbeats 4000000 in
theorem boundI_any (S : Nat → Prop) (r : List DRecPhase) (v : Value) (x : ByteArray) (w : World) (h : AtL S w r v) (hS : ∀ b, S b → b < w.heap.size) (ht : totL r ≤ 1048576) :
    Calls Tryz.prog 45 #[v, .string x] w fun e w' => e = .returned (.int .i64 (if recB r = true then bndF 12 r x else 0)) ∧ Below w.heap.size w w' := by
  obtain ⟨oa, cap, ev, _⟩ := id h
  obtain ⟨n, en⟩ : ∃ n, r.length = n := ⟨_, rfl⟩
  rw [en] at ev
  subst ev
  have HL : Hid (r.length = n) := en
  have H : Hid _ := h.ups hS
  have HS : Hid _ := lt_up hS
  have B0 : Hid (Below w.heap.size w w) := Below.refl _ _
  clear h hS en
  cases hr : recB r
  · rw [if_neg (by simp)]
    go_enter Tryz.func45, Tryz.ntmps45
    go_wp2_with fail
    refine (okI_any S r _ _ (H.out _ B0.out) (HS.out _ B0.out) ht).mono ?_; rintro e w1 ⟨rfl, hb1⟩
    have B1 : Hid (Below w.heap.size w w1) := hb1
    clear hb1
    rw [hr]
    go_wp2_with fail
    go_ret
    exact ⟨rfl, B1.out⟩
  · have HR : Hid (RecP r) := rec_iff.1 hr
    rw [if_pos rfl]
    go_enter Tryz.func45, Tryz.ntmps45
    go_wp2_with fail
    refine (okI_any S r _ _ (H.out _ B0.out) (HS.out _ B0.out) ht).mono ?_; rintro e w1 ⟨rfl, hb1⟩
    have B1 : Hid (Below w.heap.size w w1) := hb1
    clear hb1
    rw [hr]
    go_wp2_with fail
    refine (tabB_any S r oa n cap _ HR.out (H.out _ B1.out) HL.out (HS.out _ B1.out)).mono ?_; rintro e w2 ⟨g, rfl, ⟨hg, hc⟩, hb2⟩
    have B2 : Hid (Below w.heap.size w w2) := B1.out.trans (hb2.mono B1.out.size)
    have HC : Hid _ := hc
    clear hb2 hc
    go_wp2_with fail
    refine (ofB_any S r oa n cap x g (bndF 12 r x) _ (H.out _ B2.out) HL.out (HS.out _ B2.out) hg (fun k hk => ?told) (fun e => bnd_none e 12)).mono ?_
    case told =>
      rcases at_cases r x with e | ⟨k', hk', e, _⟩
      · omega
      · obtain rfl : k = k' := by omega
        have h1 := HC.out k (by have := HL.out; omega)
        rw [phN_at hk', ← bnd_at HR.out hk' e 12] at h1
        exact h1
    rintro e w3 ⟨rfl, hb3⟩
    have B3 : Hid (Below w.heap.size w w3) := B2.out.trans (hb3.mono B2.out.size)
    clear hb3
    go_wp2_with fail
    go_ret
    exact ⟨rfl, B3.out⟩
end Go.Proofs.YtobchllaopdchacGreat
