/-
  The law FnExactCtlBook, walked: whatever the plant and the station, the call returns true, and nothing that was there before has turned.
-/
import Derived.Test.YtciembgenlcogacBf
import Derived.Test.YtciembgenlcogacBh
import Derived.Test.YtciembgenlcogacRv
import Derived.Test.YtciembgenlcogacCbe
import Derived.Test.YtciembgenlcogacCbh
import Derived.Test.YtciembgenlcogacBmc
namespace Go.Proofs.Ytciembgenlcogac
open Go.RowKit

/-- The lists of a book. -/
def bkl (a : DClaimBook) : DClaimBookL := (a.1, a.2.1, a.2.2.1, a.2.2.2.1)
theorem on_bkl {S : Nat → Prop} {w : World} {a : DClaimBook} {c : Nat → Value} (h : Own.On S w a c) : Own.On S w (bkl a) c := by
  obtain ⟨A0, B0, p0, q0, H0, A1, B1, p1, q1, H1, A2, B2, p2, q2, H2, A3, B3, p3, q3, H3, _⟩ := on_DClaimBook.1 h
  exact on_DClaimBookL.2 ⟨A0, B0, p0, q0, H0, A1, B1, p1, q1, H1, A2, B2, p2, q2, H2, H3.up (fun b hb => (p3 b hb).1)⟩
theorem cntL_len {α : Type} [Own α] (K : Nat) : ∀ l : List α, (∀ x ∈ l, Own.cnt x ≤ K) → cntL l ≤ K * l.length
  | [], _ => by simp [cntL, cntTo]
  | x :: l, h => by
    have h1 := h x List.mem_cons_self
    have h2 := cntL_len K l (fun y hy => h y (List.mem_cons_of_mem _ hy))
    have e1 : cntL (x :: l) = Own.cnt x + cntL l := by simp [cntL, cntTo]
    rw [e1, List.length_cons, Nat.mul_add]
    omega
theorem cnt_book {D : PD} {st : ByteArray} {b : Bool} (hV : b = true → D.V) : Own.cnt (bkl (bookD b D st)) ≤ 1000 := by
  rw [cnt_DClaimBookL]
  cases b
  · show cntL ([] : List DClaimFoe) + (cntL ([] : List DClaimSpot) + (cntL ([] : List ByteArray) + cntL ([] : List DClaimPart))) ≤ 1000
    simp [cntL, cntTo]
  · have hv := hV rfl
    have h0 := cntL_len 2 (foL D D.nf) (fun x _ => by rw [cnt_DClaimFoe]; omega)
    have h1 := cntL_len 4 ((spL D st D.np).map toSpot) (fun x hx => by
      obtain ⟨p, _, rfl⟩ := List.mem_map.1 hx
      rw [cnt_DClaimSpot]
      show 1 + (1 + (1 + (1 + cntL ([] : List ByteArray)))) ≤ 4
      simp [cntL, cntTo])
    have h2 := cntL_len 1 (vaL D st D.nv) (fun x _ => Nat.le_refl 1)
    have l0 := foL_len D D.nf
    have l1 := spL_len D st D.np
    have l2 := vaL_len D st D.nv
    rw [List.length_map] at h1
    have := hv.1.2.1
    have := hv.2.1.1
    have := hv.2.2.1
    show cntL (foL D D.nf) + (cntL ((spL D st D.np).map toSpot) + (cntL (vaL D st D.nv) + cntL ([] : List DClaimPart))) ≤ 1000
    have h3 : cntL ([] : List DClaimPart) = 0 := by simp [cntL, cntTo]
    omega
theorem book_form {S : Nat → Prop} {w : World} {R : DClaimBook} {g : Nat → Value} (h : Own.On S w R g) : ∃ (o0 o1 o2 o3 : Option Addr) (k0 k1 k2 k3 : Nat), (g 0 = .slice o0 R.1.length k0 ∧ g 1 = .slice o1 R.2.1.length k1 ∧ g 2 = .slice o2 R.2.2.1.length k2 ∧ g 3 = .slice o3 R.2.2.2.1.length k3 ∧ g 4 = .int .i64 R.2.2.2.2) ∧ Own.On S w R (cs [.slice o0 R.1.length k0, .slice o1 R.2.1.length k1, .slice o2 R.2.2.1.length k2, .slice o3 R.2.2.2.1.length k3, .int .i64 R.2.2.2.2]) := by
  obtain ⟨H0, H1, H2, H3, e4, _⟩ := at_DClaimBook.1 (Own.on_at h)
  obtain ⟨o0, k0, e0, _⟩ := H0
  obtain ⟨o1, k1, e1, _⟩ := H1
  obtain ⟨o2, k2, e2, _⟩ := H2
  obtain ⟨o3, k3, e3, _⟩ := H3
  refine ⟨o0, o1, o2, o3, k0, k1, k2, k3, ⟨e0, e1, e2, e3, e4⟩, ?_⟩
  have h' := on_DClaimBook.1 h
  rw [e0, e1, e2, e3, e4] at h'
  exact on_DClaimBook.2 h'

set_option maxRecDepth 100000 in
set_option maxHeartbeats 8000000 in
theorem lawBk_any (B : Nat) (v0 v1 v2 v3 : Value) (D : PD) (st : ByteArray) (w : World) (h : PAt B w v0 v1 v2 v3 D) (hB : B ≤ w.heap.size) (hz : D.All) (hx : st.size ≤ maxLen) :
    Calls Try.prog 3 #[.agg #[v0, v1, v2, v3], .string st] w fun e w' => e = .returned (.bool true) ∧ Below w.heap.size w w' := by
  unfold maxLen at hx
  have H : Hid (∀ w', Below w.heap.size w w' → PAt B w' v0 v1 v2 v3 D) := fun w' hb => h.kept hb hB
  clear h
  have k0 : Hid (Below (w.heap.size + 1) (w.alloc (.cells #[v0, v1, v2, v3] 27)) (w.alloc (.cells #[v0, v1, v2, v3] 27))) := Below.refl _ _
  by_cases hxl : st.size ≤ 1048576
  · go_enter Try.func3, Try.ntmps3
    go_wp2_with fail
    refine (szPlant_any B v0 v1 v2 v3 D _ (H.out _ (below_end k0.out)) (by simp; omega) hz).mono ?_; rintro e w1 ⟨y, rfl, hsm, hb1⟩
    have k1 : Hid (Below (w.heap.size + 1) (w.alloc (.cells #[v0, v1, v2, v3] 27)) w1) := below_of k0.out hb1
    have HS : Hid _ := hsm
    clear hsm
    by_cases hneg : y < 0
    · go_wp2_with fail
      go_ret
      exact ⟨rfl, below_end k1.out⟩
    · have s1 : w.heap.size + 1 ≤ w1.heap.size := by have := k1.out.size; simpa using this
      have HM : Hid (D.ns ≤ 1048576 ∧ D.nf ≤ 1048576 ∧ D.np ≤ 1048576 ∧ D.nv ≤ 1048576) := HS.out (by omega)
      have bx : Hid (∀ w', Below (w.heap.size + 1) (w.alloc (.cells #[v0, v1, v2, v3] 27)) w' → w'.cell? ⟨w.heap.size, 0, none⟩ = some v0 ∧ w'.cell? ⟨w.heap.size, 1, none⟩ = some v1 ∧ w'.cell? ⟨w.heap.size, 2, none⟩ = some v2 ∧ w'.cell? ⟨w.heap.size, 3, none⟩ = some v3) := fun w' hb => ⟨box_in hb 0 _ rfl, box_in hb 1 _ rfl, box_in hb 2 _ rfl, box_in hb 3 _ rfl⟩
      obtain ⟨a0, a1, a2, a3⟩ := bx.out w1 k1.out
      go_wp2_with fail
      refine (toPlant_any B v0 v1 v2 v3 D _ (H.out _ (below_end k1.out)) (by omega) HM.out).mono ?_; rintro e w2 ⟨p0, p1, p2, p3, rfl, P1, hb2⟩
      have k2 : Hid (Below (w.heap.size + 1) (w.alloc (.cells #[v0, v1, v2, v3] 27)) w2) := below_of k1.out hb2
      have HP1 : Hid (PAt w2.heap.size w2 p0 p1 p2 p3 D) := P1
      have s2 := hb2.size
      clear P1 a0 a1 a2 a3 hb2
      go_wp2_with fail
      refine (bookS_any w2.heap.size p0 p1 p2 p3 D st _ HP1.out (Nat.le_refl _) hz.sz).mono ?_; rintro e w3 ⟨g, bs, rfl, is, O0f, hb3⟩
      have IS : Hid (bs = true ↔ D.V) := is
      have CN : Hid (Own.cnt (bkl (bookD bs D st)) ≤ 1000) := cnt_book is.1
      clear is HP1
      obtain ⟨R, hR⟩ : ∃ R, bookD bs D st = R := ⟨_, rfl⟩
      rw [hR] at O0f
      rw [hR] at CN
      have HR : Hid (bookD bs D st = R) := hR
      clear hR
      obtain ⟨mo0, mo1, mo2, mo3, mk0, mk1, mk2, mk3, ⟨e0', e1', e2', e3', e4'⟩, O0⟩ := book_form O0f
      rw [e0', e1', e2', e3', e4']
      clear e0' e1' e2' e3' e4'
      have s3 := hb3.size
      have k3 : Hid (Below (w.heap.size + 1) (w.alloc (.cells #[v0, v1, v2, v3] 27)) w3) := below_of k2.out hb3
      have D3 : Hid (Own.On (fun x => w2.heap.size ≤ x ∧ x < w3.heap.size) w3 R (cs [.slice mo0 R.1.length mk0, .slice mo1 R.2.1.length mk1, .slice mo2 R.2.2.1.length mk2, .slice mo3 R.2.2.2.1.length mk3, .int .i64 R.2.2.2.2])) := O0
      clear O0 O0f hb3 g
      obtain ⟨w3a, hw3a⟩ : ∃ V, V = w3.alloc (.cells #[.slice mo0 R.1.length mk0, .slice mo1 R.2.1.length mk1, .slice mo2 R.2.2.1.length mk2, .slice mo3 R.2.2.2.1.length mk3, .int .i64 R.2.2.2.2] 33) := ⟨_, rfl⟩
      have Ew3a : Hid (w3a = w3.alloc (.cells #[.slice mo0 R.1.length mk0, .slice mo1 R.2.1.length mk1, .slice mo2 R.2.2.1.length mk2, .slice mo3 R.2.2.2.1.length mk3, .int .i64 R.2.2.2.2] 33)) := hw3a
      have bw3a : Hid (Below w3.heap.size w3 w3a) := by rw [hw3a]; exact (Below.refl _ _).alloc (Nat.le_refl _) _
      have sw3a : w3.heap.size + 1 ≤ w3a.heap.size ∧ w3a.heap.size ≤ w3.heap.size + 1 := by rw [hw3a]; simp
      have Xw3a : Hid (w3a.heap[w3.heap.size]? = some (.cells #[.slice mo0 R.1.length mk0, .slice mo1 R.2.1.length mk1, .slice mo2 R.2.2.1.length mk2, .slice mo3 R.2.2.2.1.length mk3, .int .i64 R.2.2.2.2] 33 (0, 0))) := by rw [hw3a]; exact heap_alloc_new w3 _
      clear hw3a
      have k3a : Hid (Below (w.heap.size + 1) (w.alloc (.cells #[v0, v1, v2, v3] 27)) w3a) := below_of k3.out bw3a.out
      have D3a : Hid (Own.On (fun x => w2.heap.size ≤ x ∧ x < w3.heap.size) w3a R (cs [.slice mo0 R.1.length mk0, .slice mo1 R.2.1.length mk1, .slice mo2 R.2.2.1.length mk2, .slice mo3 R.2.2.2.1.length mk3, .int .i64 R.2.2.2.2])) := Own.on_same D3.out (fun b hb => bw3a.out.block b hb.2)
      go_upto_region 8 with fail
      rw [← Ew3a.out]
      obtain ⟨a0, a1, a2, a3⟩ := bx.out w3a k3a.out
      go_wp2_with fail
      refine (toPlant_blk B v0 v1 v2 v3 D _ (H.out _ (below_end k3a.out)) (by omega) HM.out).mono ?_; rintro e w4 ⟨g0, g1, g2, g3, rfl, P2, PB, hb4⟩
      have s4 := hb4.size
      have k4 : Hid (Below (w.heap.size + 1) (w.alloc (.cells #[v0, v1, v2, v3] 27)) w4) := below_of k3a.out hb4
      have HP2 : Hid (PAt w4.heap.size w4 (sl g0 D.ns) (sl g1 D.nf) (sl g2 D.np) (sl g3 D.nv) D) := P2
      have HPB : Hid (PBlk w3a.heap.size w4.heap.size w4 g0 g1 g2 g3 D) := PB
      have HB4 : Hid (Below w3a.heap.size w3a w4) := hb4
      clear P2 PB hb4 a0 a1 a2 a3
      obtain ⟨w4a, hw4a⟩ : ∃ V, V = w4.alloc (.cells #[sl g0 D.ns, sl g1 D.nf, sl g2 D.np, sl g3 D.nv] 39) := ⟨_, rfl⟩
      have Ew4a : Hid (w4a = w4.alloc (.cells #[sl g0 D.ns, sl g1 D.nf, sl g2 D.np, sl g3 D.nv] 39)) := hw4a
      have bw4a : Hid (Below w4.heap.size w4 w4a) := by rw [hw4a]; exact (Below.refl _ _).alloc (Nat.le_refl _) _
      have sw4a : w4.heap.size + 1 ≤ w4a.heap.size ∧ w4a.heap.size ≤ w4.heap.size + 1 := by rw [hw4a]; simp
      have Xw4a : Hid (w4a.heap[w4.heap.size]? = some (.cells #[sl g0 D.ns, sl g1 D.nf, sl g2 D.np, sl g3 D.nv] 39 (0, 0))) := by rw [hw4a]; exact heap_alloc_new w4 _
      clear hw4a
      have k4a : Hid (Below (w.heap.size + 1) (w.alloc (.cells #[v0, v1, v2, v3] 27)) w4a) := below_of k4.out bw4a.out
      go_upto_region 9 with fail
      rw [← Ew4a.out]
      obtain ⟨d0, _⟩ := cell_row Xw4a.out 0 (sl g0 D.ns) rfl
      obtain ⟨d1, _⟩ := cell_row Xw4a.out 1 (sl g1 D.nf) rfl
      obtain ⟨d2, _⟩ := cell_row Xw4a.out 2 (sl g2 D.np) rfl
      obtain ⟨d3, _⟩ := cell_row Xw4a.out 3 (sl g3 D.nv) rfl
      go_wp2_with fail
      refine (bookI_any w4.heap.size _ _ _ _ D st w4a (HP2.out.kept bw4a.out (Nat.le_refl _)) (by omega) hz.sz).mono ?_; rintro e w5 ⟨g, bi, rfl, ii, O1f, hb5⟩
      have hbe : bi = bs := bool_same ii IS.out
      rw [hbe, HR.out] at O1f
      clear ii hbe d0 d1 d2 d3
      obtain ⟨po0, po1, po2, po3, pk0, pk1, pk2, pk3, ⟨e0', e1', e2', e3', e4'⟩, O1⟩ := book_form O1f
      rw [e0', e1', e2', e3', e4']
      clear e0' e1' e2' e3' e4'
      have s5 := hb5.size
      have k5 : Hid (Below (w.heap.size + 1) (w.alloc (.cells #[v0, v1, v2, v3] 27)) w5) := below_of k4a.out hb5
      have HB5 : Hid (Below w4a.heap.size w4a w5) := hb5
      have D5 : Hid (Own.On (fun x => w4a.heap.size ≤ x ∧ x < w5.heap.size) w5 R (cs [.slice po0 R.1.length pk0, .slice po1 R.2.1.length pk1, .slice po2 R.2.2.1.length pk2, .slice po3 R.2.2.2.1.length pk3, .int .i64 R.2.2.2.2])) := O1
      clear O1 O1f hb5 g bi
      obtain ⟨w5a, hw5a⟩ : ∃ V, V = w5.alloc (.cells #[.slice po0 R.1.length pk0, .slice po1 R.2.1.length pk1, .slice po2 R.2.2.1.length pk2, .slice po3 R.2.2.2.1.length pk3, .int .i64 R.2.2.2.2] 33) := ⟨_, rfl⟩
      have Ew5a : Hid (w5a = w5.alloc (.cells #[.slice po0 R.1.length pk0, .slice po1 R.2.1.length pk1, .slice po2 R.2.2.1.length pk2, .slice po3 R.2.2.2.1.length pk3, .int .i64 R.2.2.2.2] 33)) := hw5a
      have bw5a : Hid (Below w5.heap.size w5 w5a) := by rw [hw5a]; exact (Below.refl _ _).alloc (Nat.le_refl _) _
      have sw5a : w5.heap.size + 1 ≤ w5a.heap.size ∧ w5a.heap.size ≤ w5.heap.size + 1 := by rw [hw5a]; simp
      have Xw5a : Hid (w5a.heap[w5.heap.size]? = some (.cells #[.slice po0 R.1.length pk0, .slice po1 R.2.1.length pk1, .slice po2 R.2.2.1.length pk2, .slice po3 R.2.2.2.1.length pk3, .int .i64 R.2.2.2.2] 33 (0, 0))) := by rw [hw5a]; exact heap_alloc_new w5 _
      clear hw5a
      have k5a : Hid (Below (w.heap.size + 1) (w.alloc (.cells #[v0, v1, v2, v3] 27)) w5a) := below_of k5.out bw5a.out
      have b35 : Hid (Below w3a.heap.size w3a w5a) := ((HB4.out.trans (bw4a.out.mono s4)).trans (HB5.out.mono (by omega))).trans (bw5a.out.mono (by omega))
      have b45 : Hid (Below w4a.heap.size w4a w5a) := HB5.out.trans (bw5a.out.mono s5)
      have b445 : Hid (Below w4.heap.size w4 w5a) := bw4a.out.trans (b45.out.mono (by omega))
      have X6 : Hid (w5a.heap[w3.heap.size]? = some (.cells #[.slice mo0 R.1.length mk0, .slice mo1 R.2.1.length mk1, .slice mo2 R.2.2.1.length mk2, .slice mo3 R.2.2.2.1.length mk3, .int .i64 R.2.2.2.2] 33 (0, 0))) := (b35.out.block _ (by omega)).trans Xw3a.out
      have X7 : Hid (w5a.heap[w4.heap.size]? = some (.cells #[sl g0 D.ns, sl g1 D.nf, sl g2 D.np, sl g3 D.nv] 39 (0, 0))) := (b45.out.block _ (by omega)).trans Xw4a.out
      have D0 : Hid (Own.On (fun x => w2.heap.size ≤ x ∧ x < w3.heap.size) w5a R (cs [.slice mo0 R.1.length mk0, .slice mo1 R.2.1.length mk1, .slice mo2 R.2.2.1.length mk2, .slice mo3 R.2.2.2.1.length mk3, .int .i64 R.2.2.2.2])) := Own.on_same D3a.out (fun b hb => b35.out.block b (by omega))
      have D1 : Hid (Own.On (fun x => w4a.heap.size ≤ x ∧ x < w5.heap.size) w5a R (cs [.slice po0 R.1.length pk0, .slice po1 R.2.1.length pk1, .slice po2 R.2.2.1.length pk2, .slice po3 R.2.2.2.1.length pk3, .int .i64 R.2.2.2.2])) := Own.on_same D5.out (fun b hb => bw5a.out.block b hb.2)
      clear D3 D3a D5
      go_upto_region 10 with fail
      rw [← Ew5a.out]
      obtain ⟨f0, _⟩ := cell_row Xw5a.out 0 (.slice po0 R.1.length pk0) rfl
      obtain ⟨f1, _⟩ := cell_row Xw5a.out 1 (.slice po1 R.2.1.length pk1) rfl
      obtain ⟨f2, _⟩ := cell_row Xw5a.out 2 (.slice po2 R.2.2.1.length pk2) rfl
      obtain ⟨f3, _⟩ := cell_row Xw5a.out 3 (.slice po3 R.2.2.2.1.length pk3) rfl
      obtain ⟨f4, _⟩ := cell_row Xw5a.out 4 (.int .i64 R.2.2.2.2) rfl
      obtain ⟨h0, _⟩ := cell_row X6.out 0 (.slice mo0 R.1.length mk0) rfl
      obtain ⟨h1, _⟩ := cell_row X6.out 1 (.slice mo1 R.2.1.length mk1) rfl
      obtain ⟨h2, _⟩ := cell_row X6.out 2 (.slice mo2 R.2.2.1.length mk2) rfl
      obtain ⟨h3, _⟩ := cell_row X6.out 3 (.slice mo3 R.2.2.2.1.length mk3) rfl
      obtain ⟨h4, _⟩ := cell_row X6.out 4 (.int .i64 R.2.2.2.2) rfl
      go_wp2_with fail
      refine (eqClaimBook_any _ _ R (cs [.slice po0 R.1.length pk0, .slice po1 R.2.1.length pk1, .slice po2 R.2.2.1.length pk2, .slice po3 R.2.2.2.1.length pk3, .int .i64 R.2.2.2.2]) (cs [.slice mo0 R.1.length mk0, .slice mo1 R.2.1.length mk1, .slice mo2 R.2.2.1.length mk2, .slice mo3 R.2.2.2.1.length mk3, .int .i64 R.2.2.2.2]) w5a (Own.on_at D1.out) (Own.on_at D0.out) (fun b hb => by omega) (fun b hb => by omega)).mono ?_; rintro e w6 ⟨rfl, hb6⟩
      have s6 := hb6.size
      have k6 : Hid (Below (w.heap.size + 1) (w.alloc (.cells #[v0, v1, v2, v3] 27)) w6) := below_of k5a.out hb6
      have HB6 : Hid (Below w5a.heap.size w5a w6) := hb6
      clear hb6 f0 h0 f1 h1 f2 h2 f3 h3 f4 h4
      have X76 : Hid (w6.heap[w4.heap.size]? = some (.cells #[sl g0 D.ns, sl g1 D.nf, sl g2 D.np, sl g3 D.nv] 39 (0, 0))) := (HB6.out.block _ (by omega)).trans X7.out
      obtain ⟨d0, _⟩ := cell_row X76.out 0 (sl g0 D.ns) rfl
      obtain ⟨d1, _⟩ := cell_row X76.out 1 (sl g1 D.nf) rfl
      obtain ⟨d2, _⟩ := cell_row X76.out 2 (sl g2 D.np) rfl
      obtain ⟨d3, _⟩ := cell_row X76.out 3 (sl g3 D.nv) rfl
      obtain ⟨a0, a1, a2, a3⟩ := bx.out w6 k6.out
      have qa0 := fun d os => cell_regrown a0 d os
      have qa1 := fun d os => cell_regrown a1 d os
      have qa2 := fun d os => cell_regrown a2 d os
      have qa3 := fun d os => cell_regrown a3 d os
      have qd0 := fun d os => cell_regrown d0 d os
      have qd1 := fun d os => cell_regrown d1 d os
      have qd2 := fun d os => cell_regrown d2 d os
      have qd3 := fun d os => cell_regrown d3 d os
      go_wp2_with fail
      have hdr6 : Hid (Below w6.heap.size w6 w6.drew) := (Below.refl _ _).drew
      refine wp_region_mix 3 [0, 1] (by kernel_rfl) (by kernel_rfl) ?_
      simp only [List.filterMap_cons, List.filterMap_nil, List.getElem?_cons_succ, List.getElem?_cons_zero]
      repeat (first | go_big_quiet_step (fail) | quiet_step (fail))
      refine wpQuiet_nil ?_
      clear qa0 qa1 qa2 qa3 qd0 qd1 qd2 qd3 a0 a1 a2 a3 d0 d1 d2 d3
      refine call1 (md := .any) (f := 0) (i := 2) (dc := 36) (fn := 6) ⟨rfl, rfl, rfl, by decide⟩ (by kernel_rfl) ?run ((toPlant_any B v0 v1 v2 v3 D w6.drew (H.out _ (below_end (below_of k6.out hdr6.out))) (by show B ≤ w6.heap.size; omega) HM.out).mono ?_)
      case run => go_simp
      rintro e w7 ⟨r0, r1, r2, r3, rfl, P3, hb7⟩
      have HB7 : Hid (Below w6.heap.size w6 w7) := hdr6.out.trans hb7
      have HP3 : Hid (PAt w7.heap.size w7 r0 r1 r2 r3 D) := P3
      clear P3 hb7
      refine ⟨_, rfl, regrown_of_below HB7.out, ?_⟩
      refine ⟨by kernel_rfl, ?_⟩
      simp only [List.drop_succ_cons, List.drop_zero, Act.put, List.setIfInBounds_toArray, List.set_cons_zero, List.set_cons_succ]
      have s7 := HB7.out.size
      have b47 : Hid (Below w4.heap.size w4 w7) := (b445.out.trans (HB6.out.mono (by omega))).trans (HB7.out.mono (by omega))
      go_wp2_with fail
      refine (eqPlant_any w4.heap.size w7.heap.size _ _ _ _ r0 r1 r2 r3 D _ (HP2.out.kept b47.out (Nat.le_refl _)) HP3.out (by omega) (Nat.le_refl _)).mono ?_; rintro e w8 ⟨rfl, hb8⟩
      have s8 := hb8.size
      have HB8 : Hid (Below w6.heap.size w6 w8) := HB7.out.trans (hb8.mono s7)
      have k8 : Hid (Below (w.heap.size + 1) (w.alloc (.cells #[v0, v1, v2, v3] 27)) w8) := below_of k6.out HB8.out
      have b58 : Hid (Below w5a.heap.size w5a w8) := HB6.out.trans (HB8.out.mono (by omega))
      have b48 : Hid (Below w4.heap.size w4 w8) := b445.out.trans (b58.out.mono (by omega))
      clear hb8 HP3 HB7
      have X68 : Hid (w8.heap[w3.heap.size]? = some (.cells #[.slice mo0 R.1.length mk0, .slice mo1 R.2.1.length mk1, .slice mo2 R.2.2.1.length mk2, .slice mo3 R.2.2.2.1.length mk3, .int .i64 R.2.2.2.2] 33 (0, 0))) := (b58.out.block _ (by omega)).trans X6.out
      have X78 : Hid (w8.heap[w4.heap.size]? = some (.cells #[sl g0 D.ns, sl g1 D.nf, sl g2 D.np, sl g3 D.nv] 39 (0, 0))) := (b58.out.block _ (by omega)).trans X7.out
      have X88 : Hid (w8.heap[w5.heap.size]? = some (.cells #[.slice po0 R.1.length pk0, .slice po1 R.2.1.length pk1, .slice po2 R.2.2.1.length pk2, .slice po3 R.2.2.2.1.length pk3, .int .i64 R.2.2.2.2] 33 (0, 0))) := (b58.out.block _ (by omega)).trans Xw5a.out
      have D08 : Hid (Own.On (fun x => w2.heap.size ≤ x ∧ x < w3.heap.size) w8 R (cs [.slice mo0 R.1.length mk0, .slice mo1 R.2.1.length mk1, .slice mo2 R.2.2.1.length mk2, .slice mo3 R.2.2.2.1.length mk3, .int .i64 R.2.2.2.2])) := Own.on_same D0.out (fun b hb => b58.out.block b (by omega))
      have D18 : Hid (Own.On (fun x => w4a.heap.size ≤ x ∧ x < w5.heap.size) w8 R (cs [.slice po0 R.1.length pk0, .slice po1 R.2.1.length pk1, .slice po2 R.2.2.1.length pk2, .slice po3 R.2.2.2.1.length pk3, .int .i64 R.2.2.2.2])) := Own.on_same D1.out (fun b hb => b58.out.block b (by omega))
      have pb8 : Hid (PBlk w3a.heap.size w4.heap.size w8 g0 g1 g2 g3 D) := ⟨HPB.out.a, HPB.out.s.kept b48.out (Nat.le_refl _), HPB.out.f.kept b48.out (Nat.le_refl _), HPB.out.p.kept b48.out (Nat.le_refl _), HPB.out.v.kept b48.out (Nat.le_refl _)⟩
      obtain ⟨d0, _⟩ := cell_row X78.out 0 (sl g0 D.ns) rfl
      obtain ⟨d1, _⟩ := cell_row X78.out 1 (sl g1 D.nf) rfl
      obtain ⟨d2, _⟩ := cell_row X78.out 2 (sl g2 D.np) rfl
      obtain ⟨d3, _⟩ := cell_row X78.out 3 (sl g3 D.nv) rfl
      go_wp2_with fail
      refine (markPlant_any w3a.heap.size w4.heap.size g0 g1 g2 g3 D _ pb8.out (by omega) s4 HM.out).mono ?_; rintro e w9 ⟨kk, rfl, hkk, o9⟩
      have s9 := o9.bel.size
      have O9 : Hid (Outs w3a.heap.size w4.heap.size w8 w9) := o9
      have k9 : Hid (Below (w.heap.size + 1) (w.alloc (.cells #[v0, v1, v2, v3] 27)) w9) := k8.out.trans (O9.out.bel.mono (by omega))
      clear o9 d0 d1 d2 d3
      have X69 : Hid (w9.heap[w3.heap.size]? = some (.cells #[.slice mo0 R.1.length mk0, .slice mo1 R.2.1.length mk1, .slice mo2 R.2.2.1.length mk2, .slice mo3 R.2.2.2.1.length mk3, .int .i64 R.2.2.2.2] 33 (0, 0))) := (O9.out.bel.block _ (by omega)).trans X68.out
      have X89 : Hid (w9.heap[w5.heap.size]? = some (.cells #[.slice po0 R.1.length pk0, .slice po1 R.2.1.length pk1, .slice po2 R.2.2.1.length pk2, .slice po3 R.2.2.2.1.length pk3, .int .i64 R.2.2.2.2] 33 (0, 0))) := (O9.out.out _ (by omega) (by omega)).trans X88.out
      have D09 : Hid (Own.On (fun x => w2.heap.size ≤ x ∧ x < w3.heap.size) w9 R (cs [.slice mo0 R.1.length mk0, .slice mo1 R.2.1.length mk1, .slice mo2 R.2.2.1.length mk2, .slice mo3 R.2.2.2.1.length mk3, .int .i64 R.2.2.2.2])) := Own.on_same D08.out (fun b hb => O9.out.bel.block b (by omega))
      have D19 : Hid (Own.On (fun x => w4a.heap.size ≤ x ∧ x < w5.heap.size) w9 R (cs [.slice po0 R.1.length pk0, .slice po1 R.2.1.length pk1, .slice po2 R.2.2.1.length pk2, .slice po3 R.2.2.2.1.length pk3, .int .i64 R.2.2.2.2])) := Own.on_same D18.out (fun b hb => O9.out.out b (by omega) (by omega))
      have hkk0 : ¬ kk < 0 := by omega
      obtain ⟨f0, _⟩ := cell_row X89.out 0 (.slice po0 R.1.length pk0) rfl
      obtain ⟨f1, _⟩ := cell_row X89.out 1 (.slice po1 R.2.1.length pk1) rfl
      obtain ⟨f2, _⟩ := cell_row X89.out 2 (.slice po2 R.2.2.1.length pk2) rfl
      obtain ⟨f3, _⟩ := cell_row X89.out 3 (.slice po3 R.2.2.2.1.length pk3) rfl
      obtain ⟨f4, _⟩ := cell_row X89.out 4 (.int .i64 R.2.2.2.2) rfl
      obtain ⟨h0, _⟩ := cell_row X69.out 0 (.slice mo0 R.1.length mk0) rfl
      obtain ⟨h1, _⟩ := cell_row X69.out 1 (.slice mo1 R.2.1.length mk1) rfl
      obtain ⟨h2, _⟩ := cell_row X69.out 2 (.slice mo2 R.2.2.1.length mk2) rfl
      obtain ⟨h3, _⟩ := cell_row X69.out 3 (.slice mo3 R.2.2.2.1.length mk3) rfl
      obtain ⟨h4, _⟩ := cell_row X69.out 4 (.int .i64 R.2.2.2.2) rfl
      go_wp2_with fail
      refine (eqClaimBook_any _ _ R (cs [.slice po0 R.1.length pk0, .slice po1 R.2.1.length pk1, .slice po2 R.2.2.1.length pk2, .slice po3 R.2.2.2.1.length pk3, .int .i64 R.2.2.2.2]) (cs [.slice mo0 R.1.length mk0, .slice mo1 R.2.1.length mk1, .slice mo2 R.2.2.1.length mk2, .slice mo3 R.2.2.2.1.length mk3, .int .i64 R.2.2.2.2]) w9 (Own.on_at D19.out) (Own.on_at D09.out) (fun b hb => by omega) (fun b hb => by omega)).mono ?_; rintro e w10 ⟨rfl, hb10⟩
      have s10 := hb10.size
      have k10 : Hid (Below (w.heap.size + 1) (w.alloc (.cells #[v0, v1, v2, v3] 27)) w10) := below_of k9.out hb10
      have HB10 : Hid (Below w9.heap.size w9 w10) := hb10
      clear hb10 f0 h0 f1 h1 f2 h2 f3 h3 f4 h4
      have X810 : Hid (w10.heap[w5.heap.size]? = some (.cells #[.slice po0 R.1.length pk0, .slice po1 R.2.1.length pk1, .slice po2 R.2.2.1.length pk2, .slice po3 R.2.2.2.1.length pk3, .int .i64 R.2.2.2.2] 33 (0, 0))) := (HB10.out.block _ (by omega)).trans X89.out
      have X610 : Hid (w10.heap[w3.heap.size]? = some (.cells #[.slice mo0 R.1.length mk0, .slice mo1 R.2.1.length mk1, .slice mo2 R.2.2.1.length mk2, .slice mo3 R.2.2.2.1.length mk3, .int .i64 R.2.2.2.2] 33 (0, 0))) := (HB10.out.block _ (by omega)).trans X69.out
      have D010 : Hid (Own.On (fun x => w2.heap.size ≤ x ∧ x < w3.heap.size) w10 R (cs [.slice mo0 R.1.length mk0, .slice mo1 R.2.1.length mk1, .slice mo2 R.2.2.1.length mk2, .slice mo3 R.2.2.2.1.length mk3, .int .i64 R.2.2.2.2])) := Own.on_same D09.out (fun b hb => HB10.out.block b (by omega))
      have D110 : Hid (Own.On (fun x => w4a.heap.size ≤ x ∧ x < w5.heap.size) w10 R (cs [.slice po0 R.1.length pk0, .slice po1 R.2.1.length pk1, .slice po2 R.2.2.1.length pk2, .slice po3 R.2.2.2.1.length pk3, .int .i64 R.2.2.2.2])) := Own.on_same D19.out (fun b hb => HB10.out.block b (by omega))
      obtain ⟨f0, _⟩ := cell_row X810.out 0 (.slice po0 R.1.length pk0) rfl
      obtain ⟨f1, _⟩ := cell_row X810.out 1 (.slice po1 R.2.1.length pk1) rfl
      obtain ⟨f2, _⟩ := cell_row X810.out 2 (.slice po2 R.2.2.1.length pk2) rfl
      obtain ⟨f3, _⟩ := cell_row X810.out 3 (.slice po3 R.2.2.2.1.length pk3) rfl
      obtain ⟨f4, _⟩ := cell_row X810.out 4 (.int .i64 R.2.2.2.2) rfl
      go_wp2_with fail
      refine (markClaimBook_any _ (bkl R) (cs [.slice po0 R.1.length pk0, .slice po1 R.2.1.length pk1, .slice po2 R.2.2.1.length pk2, .slice po3 R.2.2.2.1.length pk3, .int .i64 R.2.2.2.2]) R.2.2.2.2 1 w10 (on_bkl D110.out) (fun b hb => by omega) (by omega) (by have := CN.out; omega)).mono ?_; rintro e w11 ⟨rfl, O11, hbu⟩
      have s11 := hbu.size
      have AT : Hid (Lay.At (fun x => w4a.heap.size ≤ x ∧ x < w5.heap.size) w11 (Own.mkD 1 (bkl R)) (cs [.slice po0 R.1.length pk0, .slice po1 R.2.1.length pk1, .slice po2 R.2.2.1.length pk2, .slice po3 R.2.2.2.1.length pk3, .int .i64 R.2.2.2.2])) := Own.on_at O11
      have BU : Hid (But (fun x => w4a.heap.size ≤ x ∧ x < w5.heap.size) w10 w11) := hbu
      have k11 : Hid (Below (w.heap.size + 1) (w.alloc (.cells #[v0, v1, v2, v3] 27)) w11) := k10.out.trans (BU.out.below (B := w.heap.size + 1) (fun b hb => by omega) (by omega))
      clear O11 hbu f0 f1 f2 f3 f4
      have X811 : Hid (w11.heap[w5.heap.size]? = some (.cells #[.slice po0 R.1.length pk0, .slice po1 R.2.1.length pk1, .slice po2 R.2.2.1.length pk2, .slice po3 R.2.2.2.1.length pk3, .int .i64 R.2.2.2.2] 33 (0, 0))) := (BU.out.block _ (by omega) (by omega)).trans X810.out
      have X611 : Hid (w11.heap[w3.heap.size]? = some (.cells #[.slice mo0 R.1.length mk0, .slice mo1 R.2.1.length mk1, .slice mo2 R.2.2.1.length mk2, .slice mo3 R.2.2.2.1.length mk3, .int .i64 R.2.2.2.2] 33 (0, 0))) := (BU.out.block _ (by omega) (by omega)).trans X610.out
      have D011 : Hid (Own.On (fun x => w2.heap.size ≤ x ∧ x < w3.heap.size) w11 R (cs [.slice mo0 R.1.length mk0, .slice mo1 R.2.1.length mk1, .slice mo2 R.2.2.1.length mk2, .slice mo3 R.2.2.2.1.length mk3, .int .i64 R.2.2.2.2])) := Own.on_same D010.out (fun b hb => BU.out.block b (by omega) (by omega))
      have HE : Hid (∀ w', Below w11.heap.size w11 w' → Calls Try.prog 12 #[.agg #[.slice po0 R.1.length pk0, .slice po1 R.2.1.length pk1, .slice po2 R.2.2.1.length pk2, .slice po3 R.2.2.2.1.length pk3, .int .i64 R.2.2.2.2], .int .i64 1] w' fun e w'' => e = .returned (.int .i64 (1 + (Own.cnt (bkl R) : Int))) ∧ Below w'.heap.size w' w'') := fun w' hb => heldClaimBook_any _ (bkl R) (cs [.slice po0 R.1.length pk0, .slice po1 R.2.1.length pk1, .slice po2 R.2.2.1.length pk2, .slice po3 R.2.2.2.1.length pk3, .int .i64 R.2.2.2.2]) R.2.2.2.2 1 w' (Lay.same AT.out (Same.of_below hb (fun b hb => by omega))) (fun b hb' => by have := hb.size; omega) (by omega) (by have := CN.out; omega)
      have hcn : (Own.cnt (bkl R) : Int) ≤ 1000 := by have := CN.out; omega
      obtain ⟨f0, _⟩ := cell_row X811.out 0 (.slice po0 R.1.length pk0) rfl
      obtain ⟨f1, _⟩ := cell_row X811.out 1 (.slice po1 R.2.1.length pk1) rfl
      obtain ⟨f2, _⟩ := cell_row X811.out 2 (.slice po2 R.2.2.1.length pk2) rfl
      obtain ⟨f3, _⟩ := cell_row X811.out 3 (.slice po3 R.2.2.2.1.length pk3) rfl
      obtain ⟨f4, _⟩ := cell_row X811.out 4 (.int .i64 R.2.2.2.2) rfl
      go_wp2_with fail
      refine (HE.out w11 (Below.refl _ _)).mono ?_; rintro e w12 ⟨rfl, hb12⟩
      have s12 := hb12.size
      have k12 : Hid (Below (w.heap.size + 1) (w.alloc (.cells #[v0, v1, v2, v3] 27)) w12) := below_of k11.out hb12
      have HB12 : Hid (Below w11.heap.size w11 w12) := hb12
      clear hb12 f0 f1 f2 f3 f4
      obtain ⟨a0, a1, a2, a3⟩ := bx.out w12 k12.out
      go_wp2_with fail
      refine (toPlant_any B v0 v1 v2 v3 D _ (H.out _ (below_end k12.out)) (by omega) HM.out).mono ?_; rintro e w13 ⟨r0, r1, r2, r3, rfl, P4, hb13⟩
      have HP4 : Hid (PAt w13.heap.size w13 r0 r1 r2 r3 D) := P4
      have s13 := hb13.size
      have k13 : Hid (Below (w.heap.size + 1) (w.alloc (.cells #[v0, v1, v2, v3] 27)) w13) := below_of k12.out hb13
      have HB13 : Hid (Below w12.heap.size w12 w13) := hb13
      clear P4 hb13 a0 a1 a2 a3
      go_wp2_with fail
      refine (bookI_any w13.heap.size r0 r1 r2 r3 D st _ HP4.out (Nat.le_refl _) hz.sz).mono ?_; rintro e w14 ⟨g, bi, rfl, ii, O2f, hb14⟩
      have hbe : bi = bs := bool_same ii IS.out
      rw [hbe, HR.out] at O2f
      clear ii hbe
      obtain ⟨qo0, qo1, qo2, qo3, qk0, qk1, qk2, qk3, ⟨e0', e1', e2', e3', e4'⟩, O2⟩ := book_form O2f
      rw [e0', e1', e2', e3', e4']
      clear e0' e1' e2' e3' e4'
      have s14 := hb14.size
      have k14 : Hid (Below (w.heap.size + 1) (w.alloc (.cells #[v0, v1, v2, v3] 27)) w14) := below_of k13.out hb14
      have D14 : Hid (Own.On (fun x => w13.heap.size ≤ x ∧ x < w14.heap.size) w14 R (cs [.slice qo0 R.1.length qk0, .slice qo1 R.2.1.length qk1, .slice qo2 R.2.2.1.length qk2, .slice qo3 R.2.2.2.1.length qk3, .int .i64 R.2.2.2.2])) := O2
      have b1114 : Hid (Below w11.heap.size w11 w14) := (HB12.out.trans (HB13.out.mono (by omega))).trans (hb14.mono (by omega))
      clear O2 O2f hb14 g bi
      obtain ⟨w14a, hw14a⟩ : ∃ V, V = w14.alloc (.cells #[.slice qo0 R.1.length qk0, .slice qo1 R.2.1.length qk1, .slice qo2 R.2.2.1.length qk2, .slice qo3 R.2.2.2.1.length qk3, .int .i64 R.2.2.2.2] 33) := ⟨_, rfl⟩
      have Ew14a : Hid (w14a = w14.alloc (.cells #[.slice qo0 R.1.length qk0, .slice qo1 R.2.1.length qk1, .slice qo2 R.2.2.1.length qk2, .slice qo3 R.2.2.2.1.length qk3, .int .i64 R.2.2.2.2] 33)) := hw14a
      have bw14a : Hid (Below w14.heap.size w14 w14a) := by rw [hw14a]; exact (Below.refl _ _).alloc (Nat.le_refl _) _
      have sw14a : w14.heap.size + 1 ≤ w14a.heap.size ∧ w14a.heap.size ≤ w14.heap.size + 1 := by rw [hw14a]; simp
      have Xw14a : Hid (w14a.heap[w14.heap.size]? = some (.cells #[.slice qo0 R.1.length qk0, .slice qo1 R.2.1.length qk1, .slice qo2 R.2.2.1.length qk2, .slice qo3 R.2.2.2.1.length qk3, .int .i64 R.2.2.2.2] 33 (0, 0))) := by rw [hw14a]; exact heap_alloc_new w14 _
      clear hw14a
      have k14a : Hid (Below (w.heap.size + 1) (w.alloc (.cells #[v0, v1, v2, v3] 27)) w14a) := below_of k14.out bw14a.out
      have b1114a : Hid (Below w11.heap.size w11 w14a) := b1114.out.trans (bw14a.out.mono (by omega))
      have X614 : Hid (w14a.heap[w3.heap.size]? = some (.cells #[.slice mo0 R.1.length mk0, .slice mo1 R.2.1.length mk1, .slice mo2 R.2.2.1.length mk2, .slice mo3 R.2.2.2.1.length mk3, .int .i64 R.2.2.2.2] 33 (0, 0))) := (b1114a.out.block _ (by omega)).trans X611.out
      have D014 : Hid (Own.On (fun x => w2.heap.size ≤ x ∧ x < w3.heap.size) w14a R (cs [.slice mo0 R.1.length mk0, .slice mo1 R.2.1.length mk1, .slice mo2 R.2.2.1.length mk2, .slice mo3 R.2.2.2.1.length mk3, .int .i64 R.2.2.2.2])) := Own.on_same D011.out (fun b hb => b1114a.out.block b (by omega))
      have D214 : Hid (Own.On (fun x => w13.heap.size ≤ x ∧ x < w14.heap.size) w14a R (cs [.slice qo0 R.1.length qk0, .slice qo1 R.2.1.length qk1, .slice qo2 R.2.2.1.length qk2, .slice qo3 R.2.2.2.1.length qk3, .int .i64 R.2.2.2.2])) := Own.on_same D14.out (fun b hb => bw14a.out.block b hb.2)
      go_upto_region 27 with fail
      rw [← Ew14a.out]
      obtain ⟨f0, _⟩ := cell_row Xw14a.out 0 (.slice qo0 R.1.length qk0) rfl
      obtain ⟨f1, _⟩ := cell_row Xw14a.out 1 (.slice qo1 R.2.1.length qk1) rfl
      obtain ⟨f2, _⟩ := cell_row Xw14a.out 2 (.slice qo2 R.2.2.1.length qk2) rfl
      obtain ⟨f3, _⟩ := cell_row Xw14a.out 3 (.slice qo3 R.2.2.2.1.length qk3) rfl
      obtain ⟨f4, _⟩ := cell_row Xw14a.out 4 (.int .i64 R.2.2.2.2) rfl
      obtain ⟨h0, _⟩ := cell_row X614.out 0 (.slice mo0 R.1.length mk0) rfl
      obtain ⟨h1, _⟩ := cell_row X614.out 1 (.slice mo1 R.2.1.length mk1) rfl
      obtain ⟨h2, _⟩ := cell_row X614.out 2 (.slice mo2 R.2.2.1.length mk2) rfl
      obtain ⟨h3, _⟩ := cell_row X614.out 3 (.slice mo3 R.2.2.2.1.length mk3) rfl
      obtain ⟨h4, _⟩ := cell_row X614.out 4 (.int .i64 R.2.2.2.2) rfl
      go_wp2_with fail
      refine (eqClaimBook_any _ _ R (cs [.slice qo0 R.1.length qk0, .slice qo1 R.2.1.length qk1, .slice qo2 R.2.2.1.length qk2, .slice qo3 R.2.2.2.1.length qk3, .int .i64 R.2.2.2.2]) (cs [.slice mo0 R.1.length mk0, .slice mo1 R.2.1.length mk1, .slice mo2 R.2.2.1.length mk2, .slice mo3 R.2.2.2.1.length mk3, .int .i64 R.2.2.2.2]) w14a (Own.on_at D214.out) (Own.on_at D014.out) (fun b hb => by omega) (fun b hb => by omega)).mono ?_; rintro e w15 ⟨rfl, hb15⟩
      have s15 := hb15.size
      have k15 : Hid (Below (w.heap.size + 1) (w.alloc (.cells #[v0, v1, v2, v3] 27)) w15) := below_of k14a.out hb15
      have b1115 : Hid (Below w11.heap.size w11 w15) := b1114a.out.trans (hb15.mono (by omega))
      clear hb15 f0 h0 f1 h1 f2 h2 f3 h3 f4 h4
      have X815 : Hid (w15.heap[w5.heap.size]? = some (.cells #[.slice po0 R.1.length pk0, .slice po1 R.2.1.length pk1, .slice po2 R.2.2.1.length pk2, .slice po3 R.2.2.2.1.length pk3, .int .i64 R.2.2.2.2] 33 (0, 0))) := (b1115.out.block _ (by omega)).trans X811.out
      obtain ⟨f0, _⟩ := cell_row X815.out 0 (.slice po0 R.1.length pk0) rfl
      obtain ⟨f1, _⟩ := cell_row X815.out 1 (.slice po1 R.2.1.length pk1) rfl
      obtain ⟨f2, _⟩ := cell_row X815.out 2 (.slice po2 R.2.2.1.length pk2) rfl
      obtain ⟨f3, _⟩ := cell_row X815.out 3 (.slice po3 R.2.2.2.1.length pk3) rfl
      obtain ⟨f4, _⟩ := cell_row X815.out 4 (.int .i64 R.2.2.2.2) rfl
      go_wp2_with fail
      refine (HE.out w15 b1115.out).mono ?_; rintro e w16 ⟨rfl, hb16⟩
      have k16 : Hid (Below (w.heap.size + 1) (w.alloc (.cells #[v0, v1, v2, v3] 27)) w16) := below_of k15.out hb16
      clear hb16 f0 f1 f2 f3 f4
      go_wp2_with fail
      go_ret
      exact ⟨rfl, below_end k16.out⟩
  · go_enter Try.func3, Try.ntmps3
    go_wp2
    go_ret
    exact ⟨rfl, below_end k0.out⟩

end Go.Proofs.Ytciembgenlcogac
