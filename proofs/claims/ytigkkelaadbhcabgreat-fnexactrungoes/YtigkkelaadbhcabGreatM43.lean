/-
  Several texts in one.
-/
import Derived.Test.YtigkkelaadbhcabGreatM42
import Derived.Laws.EntriesVeiled
import Derived.Test.YtigkkelaadbhcabGreatM41
namespace Go.Proofs.YtigkkelaadbhcabGreat
open Go.RowKit
set_option maxRecDepth 100000 in
set_option maxHeartbeats 4000000 in
theorem batchAtIs_any (a x : ByteArray) (a1 a2 : Value) (nb : Nat) (w : World) (hx : w.cell? ⟨nb, 0, none⟩ = some (.string x)) (hnb : nb < w.heap.size) :
    Calls Tryz.prog 123 #[.agg #[.string a, a1, a2], .pointer (some ⟨nb, 0, none⟩)] w fun e w' => e = .returned (.bool (eqB a x)) ∧ Below w.heap.size w w' := by
  have hx' := fun o => cell_past hx hnb o
  go_enter Tryz.func123, Tryz.ntmps123
  go_wp2
  go_ret
  exact ⟨rfl, (Below.refl _ _).alloc (Nat.le_refl _) _⟩
set_option maxRecDepth 100000 in
set_option maxHeartbeats 4000000 in
theorem batchAtIdx_any (S : Nat → Prop) (v : Value) (l : List DShareBatch) (x : ByteArray) (nb : Nat) (w : World) (h : AtL S w l v) (hS : ∀ b, S b → b < w.heap.size) (hx : w.cell? ⟨nb, 0, none⟩ = some (.string x)) (hnb : nb < w.heap.size) :
    Calls Tryz.prog 122 #[v, .func (.func 123) #[] #[.pointer (some ⟨nb, 0, none⟩)]] w fun e w' => e = .returned (.int .i64 (idxI l (fun p : DShareBatch => eqB p.1 x))) ∧ Below w.heap.size w w' := by
  obtain ⟨oa, cap, rfl, hn, hc⟩ := h
  obtain ⟨n, en⟩ : ∃ n, l.length = n := ⟨_, rfl⟩
  rw [en] at hn
  rw [en]
  unfold maxLen at hn
  have HC : Hid _ := hc
  have HX : Hid _ := hx
  clear hc hx
  go_enter Tryz.func122, Tryz.ntmps122
  go_wp2
  go_loopw [8] (fun i wr => ∃ k : Nat, k ≤ n ∧ i = .int .i64 k ∧ Hid (∀ j (hj : j < l.length), j < k → eqB l[j].1 x = false) ∧ Hid (Below w.heap.size w wr)) (fun i _ => n - (intOf i).toNat)
  case atStart => exact ⟨0, Nat.zero_le _, rfl, fun _ _ h => by omega, Below.refl _ _⟩
  case round =>
    obtain ⟨k, hk, rfl, hno, hbel⟩ := hrel
    have hs := hbel.out.size
    by_cases hlt : k < n
    · obtain ⟨b, off, rfl, hbS, ce, hcelle, hate⟩ := HC.out k (by omega)
      have hbb := hS b hbS
      have hbw := hbel.out
      rw [width_DShareBatch] at hcelle
      have e0 : wr.cell? ⟨b, off + k * 3, none⟩ = some (ce 0) := (hbw.cell (p := ⟨b, off + k * 3, none⟩) (by show b < _; omega)).trans (by have hq := hcelle 0 (by omega); first | exact hq | simpa using hq)
      have e1 : wr.cell? ⟨b, off + k * 3 + 1, none⟩ = some (ce 1) := (hbw.cell (p := ⟨b, off + k * 3 + 1, none⟩) (by show b < _; omega)).trans (by have hq := hcelle 1 (by omega); first | exact hq | simpa using hq)
      have e2 : wr.cell? ⟨b, off + k * 3 + 2, none⟩ = some (ce 2) := (hbw.cell (p := ⟨b, off + k * 3 + 2, none⟩) (by show b < _; omega)).trans (by have hq := hcelle 2 (by omega); first | exact hq | simpa using hq)
      clear hcelle
      have hate := Lay.same hate (Same.of_below hbw hS)
      rw [at_DShareBatch] at hate
      obtain ⟨ef, eef⟩ : ∃ f, l[k]'(by omega) = f := ⟨_, rfl⟩
      rw [eef] at hate
      obtain ⟨⟨te0, ze0⟩, le1, le2⟩ := hate
      obtain ⟨soe1, sce1, te1, _⟩ := id le1
      clear le1
      obtain ⟨soe2, sce2, te2, _⟩ := id le2
      clear le2
      rw [te0] at e0
      rw [te1] at e1
      rw [te2] at e2
      clear te0 te1 te2
      clear hbw
      have HXR : Hid (wr.cell? ⟨nb, 0, none⟩ = some (.string x)) := (hbel.out.cell (p := ⟨nb, 0, none⟩) hnb).trans HX.out
      cases hy : eqB ef.1 x
      · go_wp2_with (go_at_call 123; refine (batchAtIs_any _ x _ _ nb _ HXR.out (by omega)).mono ?_; rintro e w1 ⟨rfl, hb1⟩; rw [hy])
        go_roundw
        case rel => exact ⟨k + 1, by omega, by go_num, fun j hj hjk => by
          by_cases e : j = k
          · subst e; rw [eef]; exact hy
          · exact hno.out j hj (by omega), hbel.out.trans (hb1.mono hs)⟩
        case measure => simp [intOf]; omega
      · go_wp2_with (go_at_call 123; refine (batchAtIs_any _ x _ _ nb _ HXR.out (by omega)).mono ?_; rintro e w1 ⟨rfl, hb1⟩; rw [hy])
        rw [idx_yes (k := k) (by omega) (by rw [eef]; exact hy) hno.out]
        go_ret
        exact ⟨rfl, hbel.out.trans (hb1.mono hs)⟩
    · go_wp2
      go_ret
      rw [idx_no (fun j hj => hno.out j hj (by omega))]
      exact ⟨rfl, hbel.out⟩
set_option maxRecDepth 100000 in
set_option maxHeartbeats 4000000 in
theorem batchAtI_any (S : Nat → Prop) (v0 v1 : Value) (l : List DShareBatch) (x : ByteArray) (w : World) (h : AtL S w l v1) (hS : ∀ b, S b → b < w.heap.size) :
    Calls Tryz.prog 91 #[.agg #[v0, v1], .string x] w fun e w' => e = .returned (.int .i64 (idxI l (fun p : DShareBatch => eqB p.1 x))) ∧ Below w.heap.size w w' := by
  have hmf : ∀ (fn : Fn) (first cap : Array Value) (w : World), (Instr.makeFunc fn first cap).run Tryz.prog w = .ok (.func fn first cap) w := fun _ _ _ _ => rfl
  have H : Hid (∀ o1 o2, AtL S ((w.alloc o1).alloc o2) l v1) := fun o1 o2 => h.same (Same.of_below (((Below.refl _ _).alloc (Nat.le_refl _) o1).alloc (by simp) o2) hS)
  have HS : Hid (∀ o1 o2 b, S b → b < ((w.alloc o1).alloc o2).heap.size) := fun o1 o2 b hb => by have := hS b hb; simp; omega
  clear h
  go_enter Tryz.func91, Tryz.ntmps91
  go_wp2_with (go_at_call 122; refine (batchAtIdx_any S v1 l x (w.heap.size + 1) _ (H.out _ _) (HS.out _ _) (by simp) (by simp)).mono ?_; rintro e w1 ⟨rfl, hb1⟩)
  go_ret
  exact ⟨rfl, (((Below.refl _ _).alloc (Nat.le_refl _) _).alloc (by simp) _).trans (hb1.mono (by simp; omega))⟩
end Go.Proofs.YtigkkelaadbhcabGreat

namespace Go.Proofs.YtigkkelaadbhcabGreat
open Go.RowKit Go.Sort
theorem alk_len {a b : List ByteArray} (h : ¬ a.length = b.length) : alkB a b = false := alk_no fun e => h (by rw [e])
theorem alk_at {a b : List ByteArray} {i : Nat} (hi : i < a.length) (h : eqB a[i] (nthB b i) = false) : alkB a b = false := alk_no fun e => by
  subst e
  rw [show nthB a i = a[i] by simp [nthB, hi], (eqB_iff _ _).2 rfl] at h; cases h
theorem alk_all {a b : List ByteArray} (h : a.length = b.length) (h2 : ∀ i (hi : i < a.length), eqB a[i] (nthB b i) = true) : alkB a b = true := alk_yes (by
  apply List.ext_getElem h
  intro i h1 h3
  rw [(eqB_iff _ _).1 (h2 i h1)]
  simp [nthB, h3])
set_option maxRecDepth 100000 in
set_option maxHeartbeats 8000000 in
theorem equT_any (S S' : Nat → Prop) (a b : List ByteArray) (oa ob : Option Addr) (n ka m kb : Nat) (w : World) (h : AtL S w a (.slice oa n ka)) (hL : AtL S' w b (.slice ob m kb)) (hS : ∀ b, S b → b < w.heap.size) (hS' : ∀ b, S' b → b < w.heap.size) :
    Calls Tryz.prog 118 #[.slice oa n ka, .slice ob m kb] w fun e w' => e = .returned (.bool (alkB a b)) ∧ Below w.heap.size w w' := by
  have en : a.length = n := by obtain ⟨_, _, e, _⟩ := h; cases e; rfl
  have em : b.length = m := by obtain ⟨_, _, e, _⟩ := hL; cases e; rfl
  have hmx : n ≤ 9223372036854775807 := by obtain ⟨_, _, e, hf, _⟩ := id h; cases e; have := hf.1; unfold maxLen at this; omega
  have hmb : m ≤ 9223372036854775807 := by obtain ⟨_, _, e, hf, _⟩ := id hL; cases e; have := hf.1; unfold maxLen at this; omega
  have EN : Hid (a.length ≤ n ∧ n ≤ a.length) := ⟨by omega, by omega⟩
  have EM : Hid (b.length ≤ m ∧ m ≤ b.length) := ⟨by omega, by omega⟩
  have ROW : Hid (∀ i (hi : i < a.length), ∃ b off, oa = some ⟨b, off, none⟩ ∧ b < w.heap.size ∧ w.cell? ⟨b, off + i, none⟩ = some (.string a[i])) := fun i hi => by
    obtain ⟨b, off, eo, hb, e0⟩ := tx_at h i hi
    exact ⟨b, off, eo, hS b hb, e0⟩
  have LAT : Hid (∀ i (hi : i < b.length), ∃ q off, ob = some ⟨q, off, none⟩ ∧ q < w.heap.size ∧ w.cell? ⟨q, off + i, none⟩ = some (.string (nthB b i))) := fun i hi => by
    obtain ⟨q, off, eo, hb, e0⟩ := tx_at hL i hi
    exact ⟨q, off, eo, hS' q hb, by rw [e0]; simp [nthB, hi]⟩
  clear h hL hS hS' en em
  go_enter Tryz.func118, Tryz.ntmps118
  by_cases hlen : n = m
  case neg =>
    go_wp2_with fail
    go_ret
    rw [alk_len (fun h => hlen (by have := EN.out; have := EM.out; omega))]
    exact ⟨rfl, Below.refl _ _⟩
  subst hlen
  go_wp2_with fail
  go_loopw [13] (fun i wr => ∃ k : Nat, k ≤ n ∧ i = .int .i64 k ∧ Hid (∀ j (hj : j < a.length), j < k → eqB a[j] (nthB b j) = true) ∧ Hid (Below w.heap.size w wr)) (fun i _ => n - (intOf i).toNat)
  case atStart => exact ⟨0, Nat.zero_le _, rfl, fun _ _ h => by omega, Below.refl _ _⟩
  case round =>
    obtain ⟨k, hk, rfl, hall, hbel⟩ := hrel
    have hs := hbel.out.size
    by_cases hlt : k < n
    case neg =>
      go_wp2_with fail
      go_ret
      rw [alk_all (by have := EN.out; have := EM.out; omega) fun i hi => hall.out i hi (by have := EN.out; omega)]
      exact ⟨rfl, hbel.out⟩
    have hks : k < a.length := by have := EN.out; omega
    obtain ⟨q, off, rfl, hb, c0⟩ := ROW.out k hks
    obtain ⟨g, of2, rfl, hg, cg⟩ := LAT.out k (by have := EM.out; omega)
    obtain ⟨x, ex⟩ : ∃ x, a[k] = x := ⟨_, rfl⟩
    rw [ex] at c0
    obtain ⟨y, ey⟩ : ∃ y, nthB b k = y := ⟨_, rfl⟩
    rw [ey] at cg
    have e0 := (hbel.out.cell (p := ⟨q, off + k, none⟩) hb).trans c0
    have eg := (hbel.out.cell (p := ⟨g, of2 + k, none⟩) hg).trans cg
    have EQ : Hid (∀ R, eqB x y = R → eqB a[k] (nthB b k) = R) := fun R h => by rw [ex, ey]; exact h
    have q0 := fun d os => cell_regrown e0 d os
    have qg := fun d os => cell_regrown eg d os
    clear c0 cg ex ey e0 eg
    cases c : eqB x y
    · have HP : Hid (alkB a b = false) := alk_at hks (EQ.out _ c)
      have c' : (x.toList == y.toList) = false := c
      go_wp2_with fail
      refine wp_region_quiet_below (by kernel_rfl) (by kernel_rfl) ?_
      repeat (first | go_big_quiet_step (fail) | quiet_step (fail))
      refine wpQuiet_nil ?_
      intro _ hw'
      obtain ⟨⟨dq, osq⟩, hw''⟩ := hw'
      subst hw''
      go_wp2_with fail
      go_ret
      rw [HP.out]
      exact ⟨rfl, hbel.out.trans ((below_regrown wr dq osq).mono hs)⟩
    · have HP : Hid (eqB a[k] (nthB b k) = true) := EQ.out _ c
      have c' : (x.toList == y.toList) = true := c
      go_wp2_with fail
      refine wp_region_quiet_below (by kernel_rfl) (by kernel_rfl) ?_
      repeat (first | go_big_quiet_step (fail) | quiet_step (fail))
      refine wpQuiet_nil ?_
      intro _ hw'
      obtain ⟨⟨dq, osq⟩, hw''⟩ := hw'
      subst hw''
      go_wp2_with fail
      go_roundw
      case rel => exact ⟨k + 1, by omega, by go_num, fun j hj hjk => by
        by_cases e : j = k
        · subst e; exact HP.out
        · exact hall.out j hj (by omega), hbel.out.trans ((below_regrown wr dq osq).mono hs)⟩
      case measure => simp [intOf]; omega
noncomputable def shrB (b : DRunBatch) (ha ne : List ByteArray) : Bool := alkB ne (tgL b b.2.2.2.1) && (decide (b.2.2.2.2.1 = -1) || subB ha (owL b))
set_option maxRecDepth 100000 in
set_option maxHeartbeats 8000000 in
theorem sharesAs_any (S : Nat → Prop) (nm : ByteArray) (r : List DRecPhase) (sl : List DRunSlot) (at_ : ByteArray) (si st : Int) (o1 o2 : Option Addr) (n1 k1 n2 k2 : Nat) (x : ByteArray) (ha ne : List ByteArray) (oh on : Option Addr) (nh kh nn kn : Nat) (w : World) (hn : nm.size ≤ maxLen) (hr : AtL S w r (.slice o1 n1 k1)) (h : AtL S w sl (.slice o2 n2 k2)) (hh : AtL S w ha (.slice oh nh kh)) (hne : AtL S w ne (.slice on nn kn)) (hS : ∀ b, S b → b < w.heap.size) (tr : totL r ≤ 1048576) (ts : totL sl ≤ 1048576) (hx : at_.size ≤ 1048576) :
    Calls Tryz.prog 90 #[.agg #[.string nm, .slice o1 n1 k1, .slice o2 n2 k2, .string at_, .int .i64 si, .int .i64 st], .agg #[.string x, .slice oh nh kh, .slice on nn kn]] w fun e w' => e = .returned (.bool (shrB (nm, r, sl, at_, si, st) ha ne)) ∧ Below w.heap.size w w' := by
  have ta_y : ∀ W, (Instr.typeAssert (.iface 57 (.agg #[.int .i64 si])) 60 57 true).run Tryz.prog W = .ok (.tuple #[.agg #[.int .i64 si], .bool true]) W := fun W => by kernel_rfl
  have ta_n : ∀ W, (Instr.typeAssert (.iface 90 (.agg #[])) 60 57 true).run Tryz.prog W = .ok (.tuple #[.agg #[.int .i64 0], .bool false]) W := fun W => by kernel_rfl
  have HN : Hid (nm.size ≤ maxLen) := hn
  have TR : Hid (totL r ≤ 1048576) := tr
  have TS : Hid (totL sl ≤ 1048576) := ts
  have TX : Hid (at_.size ≤ 1048576) := hx
  obtain ⟨W, hW⟩ : ∃ W, W = (w.alloc (.cells #[.string nm, .slice o1 n1 k1, .slice o2 n2 k2, .string at_, .int .i64 si, .int .i64 st] 52)).alloc (.cells #[.string x, .slice oh nh kh, .slice on nn kn] 112) := ⟨_, rfl⟩
  have EW : Hid (W = (w.alloc (.cells #[.string nm, .slice o1 n1 k1, .slice o2 n2 k2, .string at_, .int .i64 si, .int .i64 st] 52)).alloc (.cells #[.string x, .slice oh nh kh, .slice on nn kn] 112)) := hW
  have BW : Hid (Below w.heap.size w W) := by rw [hW]; exact ((Below.refl _ _).alloc (Nat.le_refl _) _).alloc (by simp) _
  have RW : Hid (W.heap[w.heap.size]? = some (.cells #[.string nm, .slice o1 n1 k1, .slice o2 n2 k2, .string at_, .int .i64 si, .int .i64 st] 52 (0, 0))) := by rw [hW]; exact ((Below.refl (w.heap.size + 1) _).alloc (by simp) _).block _ (by omega) |>.trans (heap_alloc_new w _)
  have RX : Hid (W.heap[w.heap.size + 1]? = some (.cells #[.string x, .slice oh nh kh, .slice on nn kn] 112 (0, 0))) := by rw [hW]; exact by show _ = _; have h := heap_alloc_new (w.alloc (.cells #[.string nm, .slice o1 n1 k1, .slice o2 n2 k2, .string at_, .int .i64 si, .int .i64 st] 52)) (.cells #[.string x, .slice oh nh kh, .slice on nn kn] 112); rw [show (w.alloc (.cells #[.string nm, .slice o1 n1 k1, .slice o2 n2 k2, .string at_, .int .i64 si, .int .i64 st] 52)).heap.size = w.heap.size + 1 by simp] at h; exact h
  have sW : w.heap.size + 2 ≤ W.heap.size := by rw [hW]; simp
  clear hW
  have BOX : Hid (∀ u, Below W.heap.size W u → u.heap[w.heap.size]? = some (.cells #[.string nm, .slice o1 n1 k1, .slice o2 n2 k2, .string at_, .int .i64 si, .int .i64 st] 52 (0, 0)) ∧ u.heap[w.heap.size + 1]? = some (.cells #[.string x, .slice oh nh kh, .slice on nn kn] 112 (0, 0)) ∧ Below w.heap.size w u) := fun u hu => ⟨(hu.block _ (by omega)).trans RW.out, (hu.block _ (by omega)).trans RX.out, BW.out.trans (hu.mono (by omega))⟩
  have HR : Hid _ := hr.ups hS
  have HA : Hid _ := h.ups hS
  have HH : Hid _ := hh.ups hS
  have HE : Hid _ := hne.ups hS
  have HS : Hid _ := lt_up hS
  have SLM : Hid (∀ s ∈ sl, s.2.size ≤ maxLen) := sl_max h
  clear h hr hh hne hS hn tr ts hx
  have Y : Hid (∀ u, Below W.heap.size W u → Below w.heap.size w u ∧ u.cell? ⟨w.heap.size, 0, none⟩ = some (.string nm) ∧ u.cell? ⟨w.heap.size, 1, none⟩ = some (.slice o1 n1 k1) ∧ u.cell? ⟨w.heap.size, 2, none⟩ = some (.slice o2 n2 k2) ∧ u.cell? ⟨w.heap.size, 3, none⟩ = some (.string at_) ∧ u.cell? ⟨w.heap.size, 4, none⟩ = some (.int .i64 si) ∧ u.cell? ⟨w.heap.size, 5, none⟩ = some (.int .i64 st) ∧ u.cell? ⟨w.heap.size + 1, 0, none⟩ = some (.string x) ∧ u.cell? ⟨w.heap.size + 1, 1, none⟩ = some (.slice oh nh kh) ∧ u.cell? ⟨w.heap.size + 1, 2, none⟩ = some (.slice on nn kn)) := fun u hu => by
    obtain ⟨b1, b2, b3⟩ := BOX.out u hu
    have p := fun i v h => (cell_row b1 i v h).1
    have q := fun i v h => (cell_row b2 i v h).1
    exact ⟨b3, p 0 _ rfl, p 1 _ rfl, p 2 _ rfl, p 3 _ rfl, p 4 _ rfl, p 5 _ rfl, q 0 _ rfl, q 1 _ rfl, q 2 _ rfl⟩
  obtain ⟨V, hV⟩ : ∃ V, V = shrB (nm, r, sl, at_, si, st) ha ne := ⟨_, rfl⟩
  have V1 : Hid (alkB ne (tgL (nm, r, sl, at_, si, st) at_) = false → V = false) := fun h => by rw [hV]; unfold shrB; rw [h]; rfl
  have V2 : Hid (alkB ne (tgL (nm, r, sl, at_, si, st) at_) = true → si = -1 → V = true) := fun h e => by rw [hV]; unfold shrB; rw [h, decide_eq_true e]; rfl
  have V3 : Hid (alkB ne (tgL (nm, r, sl, at_, si, st) at_) = true → ¬ si = -1 → V = subB ha (owL (nm, r, sl, at_, si, st))) := fun h e => by rw [hV]; unfold shrB; rw [h, decide_eq_false e]; rfl
  rw [← hV]
  clear hV
  obtain ⟨_, y0, y1, y2, y3, y4, y5, z0, z1, z2⟩ := Y.out W (Below.refl _ _)
  go_enter Tryz.func90, Tryz.ntmps90
  go_upto_region 1 with fail
  rw [← EW.out]
  have HDR : Hid (Below W.heap.size W W.drew) := (Below.refl _ _).drew
  have q0 := fun d os => cell_regrown y0 d os
  have q1 := fun d os => cell_regrown y1 d os
  have q2 := fun d os => cell_regrown y2 d os
  have q3 := fun d os => cell_regrown y3 d os
  have q4 := fun d os => cell_regrown y4 d os
  have q5 := fun d os => cell_regrown y5 d os
  have p0 := fun d os => cell_regrown z0 d os
  have p1 := fun d os => cell_regrown z1 d os
  have p2 := fun d os => cell_regrown z2 d os
  clear y0 y1 y2 y3 y4 y5 z0 z1 z2
  go_wp2_with fail
  refine wp_region_mix 7 [0, 1, 2, 3, 4] (by kernel_rfl) (by kernel_rfl) ?_
  simp only [List.filterMap_cons, List.filterMap_nil, List.getElem?_cons_succ, List.getElem?_cons_zero]
  repeat (first | go_big_quiet_step (fail) | quiet_step (fail))
  refine wpQuiet_nil ?_
  clear q0 q1 q2 q3 q4 q5 p0 p1 p2
  have bdr : Hid (Below w.heap.size w W.drew) := BW.out.trans (HDR.out.mono BW.out.size)
  refine call1 (md := .any) (f := 1) (i := 5) (dc := 12) (fn := 119) ⟨rfl, rfl, rfl, by decide⟩ (by kernel_rfl) ?run ((thgI_any S nm r sl at_ si st o1 o2 n1 k1 n2 k2 at_ W.drew HN.out (HR.out _ bdr.out) (HA.out _ bdr.out) (HS.out _ bdr.out) TR.out TS.out TX.out).mono ?_)
  case run => go_simp
  rintro e w1 ⟨q, rfl, hrow, hb1⟩
  have B1 : Hid (Below W.heap.size W w1) := HDR.out.trans (hb1.mono HDR.out.size)
  have AL : Hid (AtL (fun b => W.drew.heap.size ≤ b ∧ b < w1.heap.size) w1 (tgL (nm, r, sl, at_, si, st) at_) q) := flatS.row_at hrow (fun g hg => World.ownsRow.lt hrow g hg) (fun y hy => tg_max SLM.out hy)
  obtain ⟨oq, kq, hq⟩ := Row.form hrow
  have bw1 : Hid (Below w.heap.size w w1) := BW.out.trans (B1.out.mono BW.out.size)
  subst hq
  refine ⟨_, rfl, regrown_of_below B1.out, ?_⟩
  clear hb1 hrow
  simp only [Act.put, List.setIfInBounds_toArray, List.set_cons_zero, List.set_cons_succ]
  refine call1 (md := .any) (f := 0) (i := 6) (dc := 13) (fn := 118) ⟨rfl, rfl, rfl, by decide⟩ (by kernel_rfl) ?run2 ((equT_any S _ ne _ on oq nn kn _ kq w1 (HE.out w1 bw1.out) AL.out (HS.out w1 bw1.out) (fun b hb => hb.2)).mono ?_)
  case run2 => go_simp
  rintro e w2 ⟨rfl, hb2⟩
  have B2 : Hid (Below W.heap.size W w2) := B1.out.trans (hb2.mono B1.out.size)
  refine ⟨_, rfl, regrown_of_below B2.out, ?_⟩
  clear hb2 AL bw1
  refine ⟨by kernel_rfl, ?_⟩
  simp only [List.drop_succ_cons, List.drop_zero, Act.put, List.setIfInBounds_toArray, List.set_cons_zero, List.set_cons_succ]
  obtain ⟨bw2', y0, y1, y2, y3, y4, y5, z0, z1, z2⟩ := Y.out w2 B2.out
  have bw2 : Hid _ := bw2'
  clear bw2'
  cases c : alkB ne (tgL (nm, r, sl, at_, si, st) at_)
  · have er : Hid (V = false) := V1.out c
    go_wp2_with fail
    go_ret
    rw [er.out]
    exact ⟨rfl, bw2.out⟩
  have C4 : Hid _ := pace_any nm at_ si st o1 o2 n1 k1 n2 k2 w2
  by_cases hsi : si = -1
  · have er : Hid (V = true) := V2.out c hsi
    subst hsi
    rw [pa_w] at C4
    go_wp2_with fail
    refine Calls.mono C4.out ?_; rintro e w3 ⟨rfl, hb3⟩
    have B3 : Hid (Below w.heap.size w w3) := bw2.out.trans (hb3.mono bw2.out.size)
    clear hb3 C4 y0 y1 y2 y3 y4 y5 z0 z1 z2
    go_wp2_with fail
    refine wp_region_quiet_below (by kernel_rfl) (by kernel_rfl) ?_
    repeat (first | go_big_quiet_step (fail) | quiet_step (fail))
    refine wpQuiet_nil ?_
    intro _ hw'
    obtain ⟨⟨dq, osq⟩, hw''⟩ := hw'
    subst hw''
    go_wp2_with fail
    go_ret
    rw [er.out]
    exact ⟨rfl, (B3.out.alloc B3.out.size _).trans ((below_regrown _ dq osq).mono (by have := B3.out.size; simp; omega))⟩
  have er : Hid (V = subB ha (owL (nm, r, sl, at_, si, st))) := V3.out c hsi
  rw [pa_g hsi] at C4
  go_wp2_with fail
  refine Calls.mono C4.out ?_; rintro e w3 ⟨rfl, hb3⟩
  have B3 : Hid (Below W.heap.size W w3) := B2.out.trans (hb3.mono B2.out.size)
  clear hb3 C4 y0 y1 y2 y3 y4 y5 z0 z1 z2
  obtain ⟨x3, hx3⟩ : ∃ x3, x3 = w3.alloc (.cells #[.int .i64 si] 57) := ⟨_, rfl⟩
  have EX3 : Hid (x3 = w3.alloc (.cells #[.int .i64 si] 57)) := hx3
  have BX3 : Hid (Below W.heap.size W x3) := by rw [hx3]; exact B3.out.alloc B3.out.size _
  clear hx3
  obtain ⟨bw3', y0, y1, y2, y3, y4, y5, z0, z1, z2⟩ := Y.out x3 BX3.out
  have bw3 : Hid _ := bw3'
  clear bw3'
  go_upto_region 4 with fail
  rw [← EX3.out]
  have HDR3 : Hid (Below x3.heap.size x3 x3.drew) := (Below.refl _ _).drew
  have q0 := fun d os => cell_regrown y0 d os
  have q1 := fun d os => cell_regrown y1 d os
  have q2 := fun d os => cell_regrown y2 d os
  have q3 := fun d os => cell_regrown y3 d os
  have q4 := fun d os => cell_regrown y4 d os
  have q5 := fun d os => cell_regrown y5 d os
  have p0 := fun d os => cell_regrown z0 d os
  have p1 := fun d os => cell_regrown z1 d os
  have p2 := fun d os => cell_regrown z2 d os
  clear y0 y1 y2 y3 y4 y5 z0 z1 z2
  refine wp_region_guarded 9 [0] (by kernel_rfl) (by kernel_rfl) ?_
  simp only [List.filterMap_cons, List.filterMap_nil, List.getElem?_cons_zero]
  show wpQuiet _ _ _ _ [_] _
  repeat (first | go_big_quiet_step (fail) | quiet_step (fail))
  refine wpQuiet_nil ?_
  refine oneGX (i := 1) (dc := 22) (.bool false) ⟨rfl, rfl, by decide⟩ (by kernel_rfl) rfl ?run (regrown_of_below HDR3.out) ?_
  case run => go_simp
  simp only [Act.put, List.setIfInBounds_toArray, List.set_cons_zero, List.set_cons_succ]
  refine lexG (g := 3) [2, 3, 5, 6] (by kernel_rfl) (regrown_of_below HDR3.out) ?_
  simp only [List.filterMap_cons, List.filterMap_nil, List.getElem?_cons_succ, List.getElem?_cons_zero]
  show wpQuiet _ _ _ _ [_, _, _, _] _
  repeat (first | go_big_quiet_step (fail) | quiet_step (fail))
  refine wpQuiet_nil ?_
  clear q0 q1 q2 q3 q4 q5 p0 p1 p2
  have bd3 : Hid (Below w.heap.size w x3.drew) := bw3.out.trans (HDR3.out.mono bw3.out.size)
  refine callG (md := .any) (f := 2) (i := 4) (dc := 25) (fn := 120) ⟨rfl, rfl, by decide⟩ (by kernel_rfl) ?want ?run ((ownI_any S nm r sl at_ si st o1 o2 n1 k1 n2 k2 x3.drew HN.out (HR.out _ bd3.out) (HA.out _ bd3.out) (HS.out _ bd3.out) TR.out TS.out).mono ?_)
  case want => rfl
  case run => go_simp
  rintro e w4 ⟨q, rfl, hrow, hb4⟩
  have C4 : Hid (Below x3.heap.size x3 w4) := HDR3.out.trans (hb4.mono HDR3.out.size)
  have bw4 : Hid (Below w.heap.size w w4) := bw3.out.trans (C4.out.mono bw3.out.size)
  have AO : Hid (AtL (fun b => x3.drew.heap.size ≤ b ∧ b < w4.heap.size) w4 (owL (nm, r, sl, at_, si, st)) q) := flatS.row_at hrow (fun g hg => World.ownsRow.lt hrow g hg) (fun y hy => ow_max SLM.out hy)
  obtain ⟨oq, kq, hq⟩ := Row.form hrow
  subst hq
  refine ⟨_, rfl, regrown_of_below C4.out, ?_⟩
  clear hb4 hrow
  simp only [Act.put, List.setIfInBounds_toArray, List.set_cons_zero, List.set_cons_succ]
  refine callG (md := .any) (f := 1) (i := 7) (dc := 28) (fn := 121) ⟨rfl, rfl, by decide⟩ (by kernel_rfl) ?want ?run ((isOf_any _ S _ _ _ ha w4 AO.out (HH.out w4 bw4.out) (fun b hb => hb.2) (HS.out w4 bw4.out)).mono ?_)
  case want => rfl
  case run => go_simp
  rintro e w5 ⟨rfl, hb5⟩
  have C5 : Hid (Below x3.heap.size x3 w5) := C4.out.trans (hb5.mono C4.out.size)
  have B5 : Hid (Below w.heap.size w w5) := bw4.out.trans (hb5.mono bw4.out.size)
  refine ⟨_, rfl, regrown_of_below C5.out, ?_⟩
  rw [← er.out]
  clear hb5
  simp only [Act.put, List.setIfInBounds_toArray, List.set_cons_zero, List.set_cons_succ]
  refine lexG (g := 0) [8] (by kernel_rfl) (regrown_of_below C5.out) ?_
  simp only [List.filterMap_cons, List.filterMap_nil, List.getElem?_cons_succ, List.getElem?_cons_zero]
  show wpQuiet _ _ _ _ [_] _
  repeat (first | go_big_quiet_step (fail) | quiet_step (fail))
  refine wpQuiet_nil ?_
  refine ⟨by kernel_rfl, ?_⟩
  simp only [List.drop_succ_cons, List.drop_zero]
  go_wp2_with fail
  go_ret
  exact ⟨rfl, B5.out⟩
end Go.Proofs.YtigkkelaadbhcabGreat
