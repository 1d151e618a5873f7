/-
  Several texts in one.
-/
import Derived.Test.YtigkkelaadbhcabGreatXrm
import Derived.Test.YtigkkelaadbhcabGreatM13
import Derived.Test.YtigkkelaadbhcabGreatM18
import Derived.Test.YtigkkelaadbhcabGreatM35
import Derived.Test.YtigkkelaadbhcabGreatM15
import Derived.Test.YtigkkelaadbhcabGreatM37
import Derived.Test.YtigkkelaadbhcabGreatXze
import Derived.Deep.Cut
import Derived.Test.YtigkkelaadbhcabGreatM7
namespace Go.Proofs.YtigkkelaadbhcabGreat
open Go.RowKit
set_option maxRecDepth 100000 in
set_option maxHeartbeats 4000000 in
theorem heldStringS_any (S : Nat → Prop) (l : List ByteArray) (v : Value) (k : Int) (w : World) (h : AtL S w (mkL k l) v) (hS : ∀ b, S b → b < w.heap.size) (h1 : 1 ≤ k) (h2 : k + cntL l ≤ 20000000) :
    Calls Tryz.prog 12 #[v, .int .i64 k] w fun e w' => e = .returned (.int .i64 (k + cntL l)) ∧ Below w.heap.size w w' := by
  obtain ⟨oa, cap, rfl, hn, hc⟩ := h
  have HC : Hid _ := hc
  have HS : Hid (∀ b, S b → b < w.heap.size) := hS
  have HML : Hid ((mkL k l).length = l.length) := mkL_len k l
  have HCL : Hid (cntTo l l.length = cntL l) := rfl
  have HCM : Hid (∀ i, i < l.length → cntTo l (i + 1) ≤ cntL l) := cntTo_le l
  rw [mkL_len] at hn
  unfold maxLen at hn
  rw [mkL_len]
  clear hc hS
  obtain ⟨n, en⟩ : ∃ n, l.length = n := ⟨_, rfl⟩
  obtain ⟨m, em⟩ : ∃ m, cntL l = m := ⟨_, rfl⟩
  rw [en] at hn
  rw [em] at h2
  rw [en, em]
  have EN : Hid (l.length = n) := en
  have EM : Hid (cntL l = m) := em
  clear en em
  go_enter Tryz.func12, Tryz.ntmps12
  go_wp2
  go_loopw [1, 5] (fun q i wr => ∃ i' : Nat, i' ≤ n ∧ i = .int .i64 i' ∧ q = .int .i64 (k + cntTo l i') ∧ Hid (Below w.heap.size w wr)) (fun _ i _ => n - (intOf i).toNat)
  case atStart => exact ⟨0, Nat.zero_le _, rfl, by rw [cntTo_zero]; simp, Below.refl _ _⟩
  case round =>
    obtain ⟨i, hi, rfl, rfl, hbel⟩ := hrel
    have hsz := hbel.out.size
    by_cases hlt : i < n
    · have hil : i < l.length := by have := EN.out; omega
      obtain ⟨b, off, rfl, hbS, cc, hcell, hat⟩ := HC.out i (by rw [HML.out]; exact hil)
      have hb := HS.out b hbS
      rw [mkL_at k l i hil] at hat
      have hcs := cntTo_succ l i hil
      have hle := HCM.out i hil
      obtain ⟨a, ea⟩ : ∃ a, l[i]'hil = a := ⟨_, rfl⟩
      rw [ea] at hcs hat
      rw [show Own.cnt a = 1 from rfl] at hcs
      rw [hcs, EM.out] at hle
      have HCS : Hid _ := hcs
      obtain ⟨p, ep⟩ : ∃ p, cntTo l i = p := ⟨_, rfl⟩
      rw [ep] at hle HCS hat
      rw [ep]
      clear hcs ep ea hil
      rw [width_str] at hcell
      have e0 : w.cell? ⟨b, off + i, none⟩ = some (cc 0) := by simpa using hcell 0 (by omega)
      clear hcell
      obtain ⟨ge0, _⟩ := at_str.1 hat
      clear hat
      have ge0 : cc 0 = .string (mkO (k + p)) := ge0
      rw [ge0] at e0
      clear ge0
      have E0 : Hid (w.cell? ⟨b, off + i, none⟩ = some (.string (mkO (k + p)))) := e0
      clear e0
      have c0 : wr.cell? ⟨b, off + i, none⟩ = some (.string (mkO (k + p))) := (hbel.out.cell (p := ⟨b, off + i, none⟩) (by show b < _; exact hb)).trans E0.out
      have gw0 : b < wr.heap.size := by omega
      go_wp2
      go_region_with (go_at_call 29; refine (mkTx_any _ _ (by omega) (by omega)).mono ?_; rintro e u0 ⟨rfl, hb0⟩; have d0 := (hb0.cell (p := ⟨b, off + i, none⟩) gw0).trans c0)
      all_goals
        have bl0 : Hid (Below w.heap.size w u0) := hbel.out.drew.trans (hb0.mono hsz)
        have sz0 := bl0.out.size
        go_wp2
        go_roundw
        case rel => exact ⟨i + 1, by omega, by go_num, by rw [HCS.out]; congr 1; omega, bl0.out⟩
        case measure => simp [intOf]; omega
    · have hin : i = n := by omega
      subst hin
      have hck : cntTo l i = m := by rw [← EM.out, ← HCL.out, EN.out]
      rw [hck]
      clear hck
      go_wp2
      go_ret
      exact ⟨rfl, hbel.out⟩
end Go.Proofs.YtigkkelaadbhcabGreat

namespace Go.Proofs.YtigkkelaadbhcabGreat
open Go.RowKit Go.Sort
theorem gosH_len {now last : Int} {T : List ByteArray} {Bs : List DShareBatch} {Ba : List DRunBatch} {Do : List DRunDone} : (gosH now last T Bs Ba Do).length ≤ 8192 := by
  cases c : houB now last T Bs Ba Do
  · rw [gosH_no c]; simp
  · rw [gosH_yes c]
    have P := hou_iff.1 c
    have h1 := (sha_iff.1 P.shares).len
    have h2 : bokB (T, Bs) = true := by
      have hs := P.safe
      unfold ordS at hs
      cases c : bokB (T, Bs) with
      | true => rfl
      | false => rw [c] at hs; cases hs
    have h3 : Bs.length ≤ 5 := (bok_iff.1 h2).len
    have := gos_len Ba
    omega
theorem gos_names {S : Nat → Prop} {w : World} {c : Nat → Value} {now last : Int} {T : List ByteArray} {Bs : List DShareBatch} {Ba : List DRunBatch} {Do : List DRunDone} (h : Lay.At S w ((now, last, T, Bs, Ba, Do) : DRunHouse) c) {y : ByteArray} (hy : y ∈ gosH now last T Bs Ba Do) : y.size ≤ maxLen := by
  have hm : y ∈ gosL Ba := by
    cases c : houB now last T Bs Ba Do
    · rw [gosH_no c] at hy; cases hy
    · rw [gosH_yes c] at hy; exact hy
  obtain ⟨b, hb, rfl⟩ := gos_mem hm
  obtain ⟨i, hi, rfl⟩ := List.getElem_of_mem hb
  obtain ⟨_, _, _, _, h4, _⟩ := at_DRunHouse.1 h
  simp only at h4
  obtain ⟨oa, k, e, _⟩ := id h4
  rw [e] at h4
  obtain ⟨_, _, _, _, _, _, _, _, _, _, _, _, _, _, _, _, z, _⟩ := rb_at h4 i hi
  exact z
set_option maxRecDepth 100000 in
set_option maxHeartbeats 16000000 in
theorem lawg_any (S : Nat → Prop) (now last : Int) (T : List ByteArray) (Bs : List DShareBatch) (Ba : List DRunBatch) (Do : List DRunDone)
    (PI : ∀ (S : Nat → Prop) (o2 o3 o4 o5 : Option Addr) (n2 k2 n3 k3 n4 k4 n5 k5 : Nat) (w : World), AtL S w T (.slice o2 n2 k2) → AtL S w Bs (.slice o3 n3 k3) → AtL S w Ba (.slice o4 n4 k4) → AtL S w Do (.slice o5 n5 k5) → (∀ b, S b → b < w.heap.size) → Lay.tot (α := DShareBook) (T, Bs) ≤ 1048576 → (∀ i (hi : i < Ba.length), totL Ba[i].2.1 ≤ 1048576 ∧ totL Ba[i].2.2.1 ≤ 1048576 ∧ Ba[i].2.2.2.1.size ≤ 1048576) → Calls Tryz.prog 7 #[.agg #[.int .i64 now, .int .i64 last, .slice o2 n2 k2, .slice o3 n3 k3, .slice o4 n4 k4, .slice o5 n5 k5]] w fun e w' => ∃ q, e = .returned q ∧ Row w' w.heap.size 9 1 eS q (gosH now last T Bs Ba Do) ∧ Below w.heap.size w w')
    (c : Nat → Value) (w : World) (h : Lay.At S w ((now, last, T, Bs, Ba, Do) : DRunHouse) c) (hS : ∀ b, S b → b < w.heap.size) :
    Calls Tryz.prog 3 #[.agg #[c 0, c 1, c 2, c 3, c 4, c 5]] w fun e w' => e = .returned (.bool true) ∧ Below w.heap.size w w' := by
  have H : Hid (∀ w', Below w.heap.size w w' → Lay.At S w' ((now, last, T, Bs, Ba, Do) : DRunHouse) c) := fun w' hb => Lay.same h (Same.of_below hb hS)
  clear h
  obtain ⟨w0, hw0⟩ : ∃ w0, w0 = (w.alloc (.cells #[c 0, c 1, c 2, c 3, c 4, c 5] 29)) := ⟨_, rfl⟩
  have EW : Hid (w0 = (w.alloc (.cells #[c 0, c 1, c 2, c 3, c 4, c 5] 29))) := hw0
  have k0 : Hid (Below (w.heap.size + 1) (w.alloc (.cells #[c 0, c 1, c 2, c 3, c 4, c 5] 29)) w0) := by rw [hw0]; exact Below.refl _ _
  have s0 : w.heap.size + 1 ≤ w0.heap.size := by have := k0.out.size; simpa using this
  clear hw0
  have a0 := box_at _ _ k0.out 0 (c 0) rfl
  have a1 := box_at _ _ k0.out 1 (c 1) rfl
  have a2 := box_at _ _ k0.out 2 (c 2) rfl
  have a3 := box_at _ _ k0.out 3 (c 3) rfl
  have a4 := box_at _ _ k0.out 4 (c 4) rfl
  have a5 := box_at _ _ k0.out 5 (c 5) rfl
  go_enter Tryz.func3, Tryz.ntmps3
  go_upto_region 1 with fail
  rw [← EW.out]
  go_wp2_with fail
  refine (szRunHouse_any S (now, last, T, Bs, Ba, Do) c 1048576 _ (H.out _ (below_end k0.out)) (fun b hb => by have := hS b hb; omega) (by omega) (by omega)).mono ?_
  rintro e w1 ⟨y, rfl, hy, hb1⟩
  clear a0 a1 a2 a3 a4 a5
  have k1 : Hid (Below (w.heap.size + 1) (w.alloc (.cells #[c 0, c 1, c 2, c 3, c 4, c 5] 29)) w1) := below_of k0.out hb1
  have s1 : w.heap.size + 1 ≤ w1.heap.size := by have := k1.out.size; simpa using this
  have HY : Hid _ := hy
  clear hy hb1
  by_cases hneg : y < 0
  · go_wp2_with fail
    go_ret
    exact ⟨rfl, below_end k1.out⟩
  have HM : Hid (Lay.tot (α := DRunHouse) (now, last, T, Bs, Ba, Do) ≤ 1048576) := by have := HY.out; show _ ≤ _; omega
  have TR : Hid (Lay.tot (α := DShareBook) (T, Bs) ≤ 1048576) := by have := HM.out; rw [tot_DRunHouse] at this; simp only at this; show _ ≤ _; rw [tot_DShareBook]; simp only; omega
  have TS : Hid (∀ i (hi : i < Ba.length), totL Ba[i].2.1 ≤ 1048576 ∧ totL Ba[i].2.2.1 ≤ 1048576 ∧ Ba[i].2.2.2.1.size ≤ 1048576) := fun i hi => by
    have h1 := HM.out
    rw [tot_DRunHouse] at h1
    simp only at h1
    have h2 := totL_el Ba i hi
    rw [tot_DRunBatch] at h2
    exact ⟨by omega, by omega, by omega⟩
  have NB : Hid (Ba.length ≤ 1048576) := by have h1 := HM.out; rw [tot_DRunHouse] at h1; simp only at h1; have := totL_len Ba; show _ ≤ _; omega
  clear HY
  obtain ⟨L, hL⟩ : ∃ L, L = gosH now last T Bs Ba Do := ⟨_, rfl⟩
  have HZ : Hid (∀ y ∈ L, y.size ≤ maxLen) := by rw [hL]; exact fun y hy => gos_names (H.out w (Below.refl _ _)) hy
  have hll : L.length ≤ 8192 := by rw [hL]; exact gosH_len
  have HCL : Hid (cntL L ≤ 8192) := by have := cnt_le 1 L (fun y _ => Nat.le_refl 1); show _ ≤ _; omega
  have HCH : Hid (cntH (now, last, T, Bs, Ba, Do) ≤ 8388608) := cntH_le HM.out
  have PP : Hid (∀ (S : Nat → Prop) (o2 o3 o4 o5 : Option Addr) (n2 k2 n3 k3 n4 k4 n5 k5 : Nat) (w : World), AtL S w T (.slice o2 n2 k2) → AtL S w Bs (.slice o3 n3 k3) → AtL S w Ba (.slice o4 n4 k4) → AtL S w Do (.slice o5 n5 k5) → (∀ b, S b → b < w.heap.size) → Calls Tryz.prog 7 #[.agg #[.int .i64 now, .int .i64 last, .slice o2 n2 k2, .slice o3 n3 k3, .slice o4 n4 k4, .slice o5 n5 k5]] w fun e w' => ∃ q, e = .returned q ∧ Row w' w.heap.size 9 1 eS q L ∧ Below w.heap.size w w') := fun S o2 o3 o4 o5 n2 k2 n3 k3 n4 k4 n5 k5 w h1 h2 h3 h4 h5 => by rw [hL]; exact PI S o2 o3 o4 o5 n2 k2 n3 k3 n4 k4 n5 k5 w h1 h2 h3 h4 h5 TR.out TS.out
  have MM : Hid (∀ (S : Nat → Prop) (o2 o3 o4 o5 : Option Addr) (n2 k2 n3 k3 n4 k4 n5 k5 : Nat) (w : World), AtL S w T (.slice o2 n2 k2) → AtL S w Bs (.slice o3 n3 k3) → AtL S w Ba (.slice o4 n4 k4) → AtL S w Do (.slice o5 n5 k5) → (∀ b, S b → b < w.heap.size) → Calls Tryz.prog 5 #[.agg #[.int .i64 now, .int .i64 last, .slice o2 n2 k2, .slice o3 n3 k3, .slice o4 n4 k4, .slice o5 n5 k5]] w fun e w' => ∃ q, e = .returned q ∧ Row w' w.heap.size 9 1 eS q L ∧ Below w.heap.size w w') := fun S o2 o3 o4 o5 n2 k2 n3 k3 n4 k4 n5 k5 w h1 h2 h3 h4 h5 => by rw [hL]; exact goesX_any S now last o2 o3 o4 o5 n2 k2 n3 k3 n4 k4 n5 k5 T Bs Ba Do w h1 h2 h3 h4 h5 NB.out
  clear hL
  have a0 := box_at _ _ k1.out 0 (c 0) rfl
  have a1 := box_at _ _ k1.out 1 (c 1) rfl
  have a2 := box_at _ _ k1.out 2 (c 2) rfl
  have a3 := box_at _ _ k1.out 3 (c 3) rfl
  have a4 := box_at _ _ k1.out 4 (c 4) rfl
  have a5 := box_at _ _ k1.out 5 (c 5) rfl
  go_wp2_with fail
  refine (toRunHouse_any S (now, last, T, Bs, Ba, Do) c _ (H.out _ (below_end k1.out)) (fun b hb => by have := hS b hb; omega) HM.out).mono ?_
  rintro e w2 ⟨g2, rfl, G, hb⟩
  clear a0 a1 a2 a3 a4 a5
  have k2 : Hid (Below (w.heap.size + 1) (w.alloc (.cells #[c 0, c 1, c 2, c 3, c 4, c 5] 29)) w2) := below_of k1.out hb
  have s2 : w.heap.size + 1 ≤ w2.heap.size := by have := k2.out.size; simpa using this
  have z2 : w1.heap.size ≤ w2.heap.size := hb.size
  obtain ⟨oA2, oB2, oC2, oD2, nA2, kA2, nB2, kB2, nC2, kC2, nD2, kD2, e0, e1, e2, e3, e4, e5, LA, LB, LC, LD⟩ := house_shape G
  have GC2 : Hid (Lay.At (fun b => w1.heap.size ≤ b ∧ b < w2.heap.size) w2 ((now, last, T, Bs, Ba, Do) : DRunHouse) (cs [.int .i64 now, .int .i64 last, .slice oA2 nA2 kA2, .slice oB2 nB2 kB2, .slice oC2 nC2 kC2, .slice oD2 nD2 kD2])) := Lay.ext G (house_ext e0 e1 e2 e3 e4 e5)
  rw [e0, e1, e2, e3, e4, e5]
  have LA2 : Hid (AtL (fun b => w1.heap.size ≤ b ∧ b < w2.heap.size) w2 T (.slice oA2 nA2 kA2)) := LA
  have LB2 : Hid (AtL (fun b => w1.heap.size ≤ b ∧ b < w2.heap.size) w2 Bs (.slice oB2 nB2 kB2)) := LB
  have LC2 : Hid (AtL (fun b => w1.heap.size ≤ b ∧ b < w2.heap.size) w2 Ba (.slice oC2 nC2 kC2)) := LC
  have LD2 : Hid (AtL (fun b => w1.heap.size ≤ b ∧ b < w2.heap.size) w2 Do (.slice oD2 nD2 kD2)) := LD
  clear e0 e1 e2 e3 e4 e5 LA LB LC LD G hb
  go_wp2_with fail
  refine (MM.out _ _ _ _ _ _ _ _ _ _ _ _ _ w2 LA2.out LB2.out LC2.out LD2.out (fun b hb => hb.2)).mono ?_; rintro e w3 ⟨u0, rfl, o3, hb⟩
  have U3 : Hid (AtL (fun b => w2.heap.size ≤ b ∧ b < w3.heap.size) w3 L u0) := flatS.row_at o3 (fun g hg => World.ownsRow.lt o3 g hg) (fun y hy => HZ.out y hy)
  have k3 : Hid (Below (w.heap.size + 1) (w.alloc (.cells #[c 0, c 1, c 2, c 3, c 4, c 5] 29)) w3) := below_of k2.out hb
  have s3 : w.heap.size + 1 ≤ w3.heap.size := by have := k3.out.size; simpa using this
  have z3 := hb.size
  clear hb o3 LA2 LB2 LC2 LD2 GC2 MM
  have a0 := box_at _ _ k3.out 0 (c 0) rfl
  have a1 := box_at _ _ k3.out 1 (c 1) rfl
  have a2 := box_at _ _ k3.out 2 (c 2) rfl
  have a3 := box_at _ _ k3.out 3 (c 3) rfl
  have a4 := box_at _ _ k3.out 4 (c 4) rfl
  have a5 := box_at _ _ k3.out 5 (c 5) rfl
  go_wp2_with fail
  refine (toRunHouse_own S (now, last, T, Bs, Ba, Do) c _ (H.out _ (below_end k3.out)) (fun b hb => by have := hS b hb; omega) HM.out).mono ?_
  rintro e w4 ⟨g4, rfl, G, hb⟩
  clear a0 a1 a2 a3 a4 a5
  have k4 : Hid (Below (w.heap.size + 1) (w.alloc (.cells #[c 0, c 1, c 2, c 3, c 4, c 5] 29)) w4) := below_of k3.out hb
  have s4 : w.heap.size + 1 ≤ w4.heap.size := by have := k4.out.size; simpa using this
  have z4 : w3.heap.size ≤ w4.heap.size := hb.size
  obtain ⟨oA4, oB4, oC4, oD4, nA4, kA4, nB4, kB4, nC4, kC4, nD4, kD4, e0, e1, e2, e3, e4, e5, LA, LB, LC, LD⟩ := house_shape (Own.on_at G)
  have ON4 : Hid (Own.On (fun b => w3.heap.size ≤ b ∧ b < w4.heap.size) w4 ((now, last, T, Bs, Ba, Do) : DRunHouse) (cs [.int .i64 now, .int .i64 last, .slice oA4 nA4 kA4, .slice oB4 nB4 kB4, .slice oC4 nC4 kC4, .slice oD4 nD4 kD4])) := Own.on_ext G (house_ext e0 e1 e2 e3 e4 e5)
  rw [e0, e1, e2, e3, e4, e5]
  have LA4 : Hid (AtL (fun b => w3.heap.size ≤ b ∧ b < w4.heap.size) w4 T (.slice oA4 nA4 kA4)) := LA
  have LB4 : Hid (AtL (fun b => w3.heap.size ≤ b ∧ b < w4.heap.size) w4 Bs (.slice oB4 nB4 kB4)) := LB
  have LC4 : Hid (AtL (fun b => w3.heap.size ≤ b ∧ b < w4.heap.size) w4 Ba (.slice oC4 nC4 kC4)) := LC
  have LD4 : Hid (AtL (fun b => w3.heap.size ≤ b ∧ b < w4.heap.size) w4 Do (.slice oD4 nD4 kD4)) := LD
  have Z34 : Hid (Below w3.heap.size w3 w4) := hb
  clear e0 e1 e2 e3 e4 e5 LA LB LC LD G hb
  obtain ⟨W4, hW4⟩ : ∃ W, W = w4.alloc (.cells #[.int .i64 now, .int .i64 last, .slice oA4 nA4 kA4, .slice oB4 nB4 kB4, .slice oC4 nC4 kC4, .slice oD4 nD4 kD4] 38) := ⟨_, rfl⟩
  have EW4 : Hid (W4 = w4.alloc (.cells #[.int .i64 now, .int .i64 last, .slice oA4 nA4 kA4, .slice oB4 nB4 kB4, .slice oC4 nC4 kC4, .slice oD4 nD4 kD4] 38)) := hW4
  have B4 : Hid (Below w4.heap.size w4 W4) := by rw [hW4]; exact (Below.refl _ _).alloc (Nat.le_refl _) _
  have X4 : Hid (W4.heap[w4.heap.size]? = some (.cells #[.int .i64 now, .int .i64 last, .slice oA4 nA4 kA4, .slice oB4 nB4 kB4, .slice oC4 nC4 kC4, .slice oD4 nD4 kD4] 38 (0, 0))) := by rw [hW4]; exact heap_alloc_new w4 _
  have p4 : w4.heap.size + 1 ≤ W4.heap.size := by rw [hW4]; simp
  have LA5 : Hid (AtL (fun b => w3.heap.size ≤ b ∧ b < w4.heap.size) W4 T (.slice oA4 nA4 kA4)) := LA4.out.same (Same.of_below B4.out (fun b hb => hb.2))
  have LB5 : Hid (AtL (fun b => w3.heap.size ≤ b ∧ b < w4.heap.size) W4 Bs (.slice oB4 nB4 kB4)) := LB4.out.same (Same.of_below B4.out (fun b hb => hb.2))
  have LC5 : Hid (AtL (fun b => w3.heap.size ≤ b ∧ b < w4.heap.size) W4 Ba (.slice oC4 nC4 kC4)) := LC4.out.same (Same.of_below B4.out (fun b hb => hb.2))
  have LD5 : Hid (AtL (fun b => w3.heap.size ≤ b ∧ b < w4.heap.size) W4 Do (.slice oD4 nD4 kD4)) := LD4.out.same (Same.of_below B4.out (fun b hb => hb.2))
  have j0 := (cell_row X4.out 0 _ rfl).1
  have j1 := (cell_row X4.out 1 _ rfl).1
  have j2 := (cell_row X4.out 2 _ rfl).1
  have j3 := (cell_row X4.out 3 _ rfl).1
  have j4 := (cell_row X4.out 4 _ rfl).1
  have j5 := (cell_row X4.out 5 _ rfl).1
  clear hW4
  go_upto_region 7 with fail
  rw [← EW4.out]
  go_wp2_with fail
  refine (PP.out _ _ _ _ _ _ _ _ _ _ _ _ _ W4 LA5.out LB5.out LC5.out LD5.out (fun b hb => by omega)).mono ?_; rintro e w5 ⟨g0, rfl, a5, hb⟩
  have C5 : Hid (Below w4.heap.size w4 w5) := B4.out.trans (hb.mono B4.out.size)
  have k5 : Hid (Below (w.heap.size + 1) (w.alloc (.cells #[c 0, c 1, c 2, c 3, c 4, c 5] 29)) w5) := below_of k4.out C5.out
  have s5 : w.heap.size + 1 ≤ w5.heap.size := by have := k5.out.size; simpa using this
  have z5 := hb.size
  have X5 : Hid (w5.heap[w4.heap.size]? = some (.cells #[.int .i64 now, .int .i64 last, .slice oA4 nA4 kA4, .slice oB4 nB4 kB4, .slice oC4 nC4 kC4, .slice oD4 nD4 kD4] 38 (0, 0))) := (hb.block _ (by omega)).trans X4.out
  have G5 : Hid (OnL (fun b => W4.heap.size ≤ b ∧ b < w5.heap.size) w5 L g0) := onS a5 (fun g hg => World.ownsRow.lt a5 g hg) (fun y hy => HZ.out y hy)
  have U5 : Hid (AtL (fun b => w2.heap.size ≤ b ∧ b < w3.heap.size) w5 L u0) := U3.out.same (Same.of_below ((Z34.out.trans (C5.out.mono z4))) (fun b hb => by omega))
  clear hb a5 j0 j1 j2 j3 j4 j5 LA5 LB5 LC5 LD5 X4
  go_wp2_with fail
  refine (eqStringS_any _ _ L g0 u0 w5 G5.out.at_ U5.out (fun b hb => hb.2) (fun b hb => by omega)).mono ?_; rintro e w6 ⟨rfl, hb6⟩
  have C6 : Hid (Below w5.heap.size w5 w6) := hb6
  have k6 : Hid (Below (w.heap.size + 1) (w.alloc (.cells #[c 0, c 1, c 2, c 3, c 4, c 5] 29)) w6) := below_of k5.out hb6
  have s6 : w.heap.size + 1 ≤ w6.heap.size := by have := k6.out.size; simpa using this
  have z6 := hb6.size
  have X6 : Hid (w6.heap[w4.heap.size]? = some (.cells #[.int .i64 now, .int .i64 last, .slice oA4 nA4 kA4, .slice oB4 nB4 kB4, .slice oC4 nC4 kC4, .slice oD4 nD4 kD4] 38 (0, 0))) := (hb6.block _ (by omega)).trans X5.out
  clear hb6
  have qa0 := fun d os => cell_regrown (box_at _ _ k6.out 0 (c 0) rfl) d os
  have qj0 := fun d os => cell_regrown ((cell_row X6.out 0 _ rfl).1) d os
  have qa1 := fun d os => cell_regrown (box_at _ _ k6.out 1 (c 1) rfl) d os
  have qj1 := fun d os => cell_regrown ((cell_row X6.out 1 _ rfl).1) d os
  have qa2 := fun d os => cell_regrown (box_at _ _ k6.out 2 (c 2) rfl) d os
  have qj2 := fun d os => cell_regrown ((cell_row X6.out 2 _ rfl).1) d os
  have qa3 := fun d os => cell_regrown (box_at _ _ k6.out 3 (c 3) rfl) d os
  have qj3 := fun d os => cell_regrown ((cell_row X6.out 3 _ rfl).1) d os
  have qa4 := fun d os => cell_regrown (box_at _ _ k6.out 4 (c 4) rfl) d os
  have qj4 := fun d os => cell_regrown ((cell_row X6.out 4 _ rfl).1) d os
  have qa5 := fun d os => cell_regrown (box_at _ _ k6.out 5 (c 5) rfl) d os
  have qj5 := fun d os => cell_regrown ((cell_row X6.out 5 _ rfl).1) d os
  go_wp2_with fail
  refine wp_region_mix 3 [0, 1] (by kernel_rfl) (by kernel_rfl) ?_
  simp only [List.filterMap_cons, List.filterMap_nil, List.getElem?_cons_succ, List.getElem?_cons_zero]
  repeat (first | go_big_quiet_step (fail) | quiet_step (fail))
  refine wpQuiet_nil ?_
  clear qa0 qa1 qa2 qa3 qa4 qa5 qj0 qj1 qj2 qj3 qj4 qj5
  have HDR : Hid (Below w6.heap.size w6 w6.drew) := (Below.refl _ _).drew
  refine call1 (md := .any) (f := 0) (i := 2) (dc := 29) (fn := 6) ⟨rfl, rfl, rfl, by decide⟩ (by kernel_rfl) ?run ((toRunHouse_any S (now, last, T, Bs, Ba, Do) c w6.drew (H.out _ (below_end (below_of k6.out HDR.out))) (fun b hb => by have := hS b hb; show b < w6.heap.size; omega) HM.out).mono ?_)
  case run => go_simp
  rintro e w7 ⟨g7, rfl, G, hb⟩
  have C7 : Hid (Below w6.heap.size w6 w7) := HDR.out.trans (hb.mono HDR.out.size)
  have z7 : w6.heap.size ≤ w7.heap.size := C7.out.size
  obtain ⟨oA7, oB7, oC7, oD7, nA7, kA7, nB7, kB7, nC7, kC7, nD7, kD7, e0, e1, e2, e3, e4, e5, _, _, _, _⟩ := house_shape G
  have GC7 : Hid (Lay.At (fun b => w6.heap.size ≤ b ∧ b < w7.heap.size) w7 ((now, last, T, Bs, Ba, Do) : DRunHouse) (cs [.int .i64 now, .int .i64 last, .slice oA7 nA7 kA7, .slice oB7 nB7 kB7, .slice oC7 nC7 kC7, .slice oD7 nD7 kD7])) := Lay.ext G (house_ext e0 e1 e2 e3 e4 e5)
  rw [e0, e1, e2, e3, e4, e5]
  clear e0 e1 e2 e3 e4 e5 G hb
  refine ⟨_, rfl, regrown_of_below C7.out, ?_⟩
  refine ⟨by kernel_rfl, ?_⟩
  simp only [List.drop_succ_cons, List.drop_zero, Act.put, List.setIfInBounds_toArray, List.set_cons_zero, List.set_cons_succ]
  have GX : Hid (Lay.At (fun b => w3.heap.size ≤ b ∧ b < w4.heap.size) w7 ((now, last, T, Bs, Ba, Do) : DRunHouse) (cs [.int .i64 now, .int .i64 last, .slice oA4 nA4 kA4, .slice oB4 nB4 kB4, .slice oC4 nC4 kC4, .slice oD4 nD4 kD4])) := Lay.same (Own.on_at ON4.out) (Same.of_below (C5.out.trans ((C6.out.trans (C7.out.mono z6)).mono (by omega))) (fun b hb => hb.2))
  go_wp2_with fail
  refine (eqRunHouse_any _ _ (now, last, T, Bs, Ba, Do) (cs [.int .i64 now, .int .i64 last, .slice oA4 nA4 kA4, .slice oB4 nB4 kB4, .slice oC4 nC4 kC4, .slice oD4 nD4 kD4]) (cs [.int .i64 now, .int .i64 last, .slice oA7 nA7 kA7, .slice oB7 nB7 kB7, .slice oC7 nC7 kC7, .slice oD7 nD7 kD7]) w7 GX.out GC7.out (fun b hb => by omega) (fun b hb => hb.2)).mono ?_; rintro e w8 ⟨rfl, hb⟩
  have C8 : Hid (Below w6.heap.size w6 w8) := C7.out.trans (hb.mono z7)
  clear hb GC7
  have k8 : Hid (Below (w.heap.size + 1) (w.alloc (.cells #[c 0, c 1, c 2, c 3, c 4, c 5] 29)) w8) := below_of k6.out C8.out
  have s8 : w.heap.size + 1 ≤ w8.heap.size := by have := k8.out.size; simpa using this
  have z8 := C8.out.size
  have C48 : Hid (Below w4.heap.size w4 w8) := C5.out.trans ((C6.out.trans (C8.out.mono z6)).mono (by omega))
  have C58 : Hid (Below w5.heap.size w5 w8) := C6.out.trans (C8.out.mono z6)
  have ON8 : Hid (Own.On (fun b => w3.heap.size ≤ b ∧ b < w4.heap.size) w8 ((now, last, T, Bs, Ba, Do) : DRunHouse) (cs [.int .i64 now, .int .i64 last, .slice oA4 nA4 kA4, .slice oB4 nB4 kB4, .slice oC4 nC4 kC4, .slice oD4 nD4 kD4])) := Own.on_same ON4.out (Same.of_below C48.out (fun b hb => hb.2))
  have X8 : Hid (w8.heap[w4.heap.size]? = some (.cells #[.int .i64 now, .int .i64 last, .slice oA4 nA4 kA4, .slice oB4 nB4 kB4, .slice oC4 nC4 kC4, .slice oD4 nD4 kD4] 38 (0, 0))) := (C8.out.block _ (by omega)).trans X6.out
  have G8 : Hid (OnL (fun b => W4.heap.size ≤ b ∧ b < w5.heap.size) w8 L g0) := G5.out.same (fun b hb => C58.out.block b hb.2)
  have U8 : Hid (AtL (fun b => w2.heap.size ≤ b ∧ b < w3.heap.size) w8 L u0) := U5.out.same (Same.of_below C58.out (fun b hb => by omega))
  have j0 := (cell_row X8.out 0 _ rfl).1
  have j1 := (cell_row X8.out 1 _ rfl).1
  have j2 := (cell_row X8.out 2 _ rfl).1
  have j3 := (cell_row X8.out 3 _ rfl).1
  have j4 := (cell_row X8.out 4 _ rfl).1
  have j5 := (cell_row X8.out 5 _ rfl).1
  clear GX C7 C6 C8 U5 G5 X5 X6
  go_wp2_with fail
  refine (markRunHouse_any _ (now, last, T, Bs, Ba, Do) (cs [.int .i64 now, .int .i64 last, .slice oA4 nA4 kA4, .slice oB4 nB4 kB4, .slice oC4 nC4 kC4, .slice oD4 nD4 kD4]) 1 w8 ON8.out (fun b hb => by omega) (by omega) (by have := HCH.out; omega)).mono ?_; rintro e w9 ⟨rfl, _, bu9⟩
  have z9 := bu9.size
  have G9 : Hid (OnL (fun b => W4.heap.size ≤ b ∧ b < w5.heap.size) w9 L g0) := G8.out.same (fun b hb => bu9.block b (by omega) (by omega))
  have U9 : Hid (AtL (fun b => w2.heap.size ≤ b ∧ b < w3.heap.size) w9 L u0) := U8.out.same (fun b hb => bu9.block b (by omega) (by omega))
  have k9 : Hid (Below (w.heap.size + 1) (w.alloc (.cells #[c 0, c 1, c 2, c 3, c 4, c 5] 29)) w9) := k8.out.trans (bu9.below (B := w.heap.size + 1) (fun b hb => by omega) (by omega))
  have s9 : w.heap.size + 1 ≤ w9.heap.size := by have := k9.out.size; simpa using this
  clear bu9 G8 U8 X8 ON8 ON4 j0 j1 j2 j3 j4 j5
  obtain ⟨m9, em9⟩ : ∃ m : Int, m = 1 + (cntH (now, last, T, Bs, Ba, Do) : Int) := ⟨_, rfl⟩
  have dk : decide (m9 < 0) = false := by rw [em9]; simp; omega
  rw [← em9]
  clear em9
  go_wp2_with fail
  refine (eqStringS_any _ _ L g0 u0 w9 G9.out.at_ U9.out (fun b hb => by omega) (fun b hb => by omega)).mono ?_; rintro e w10 ⟨rfl, hb10⟩
  have z10 := hb10.size
  have G10 : Hid (OnL (fun b => W4.heap.size ≤ b ∧ b < w5.heap.size) w10 L g0) := G9.out.same (fun b hb => hb10.block b (by omega))
  have U10 : Hid (AtL (fun b => w2.heap.size ≤ b ∧ b < w3.heap.size) w10 L u0) := U9.out.same (Same.of_below hb10 (fun b hb => by omega))
  have k10 : Hid (Below (w.heap.size + 1) (w.alloc (.cells #[c 0, c 1, c 2, c 3, c 4, c 5] 29)) w10) := below_of k9.out hb10
  have s10 : w.heap.size + 1 ≤ w10.heap.size := by have := k10.out.size; simpa using this
  clear hb10 G9 U9 dk
  go_wp2_with fail
  refine (markStringS_any _ L g0 1 w10 G10.out (fun b hb => by omega) (by omega) (by have := HCL.out; omega)).mono ?_; rintro e w11 ⟨rfl, m11, bu11⟩
  have z11 := bu11.size
  have M11 : Hid (AtL (fun b => W4.heap.size ≤ b ∧ b < w5.heap.size) w11 (mkL 1 L) g0) := m11.at_
  have U11 : Hid (AtL (fun b => w2.heap.size ≤ b ∧ b < w3.heap.size) w11 L u0) := U10.out.same (fun b hb => bu11.block b (by omega) (by omega))
  have k11 : Hid (Below (w.heap.size + 1) (w.alloc (.cells #[c 0, c 1, c 2, c 3, c 4, c 5] 29)) w11) := k10.out.trans (bu11.below (B := w.heap.size + 1) (fun b hb => by omega) (by omega))
  have s11 : w.heap.size + 1 ≤ w11.heap.size := by have := k11.out.size; simpa using this
  clear m11 bu11 G10 U10
  have HE : Hid (∀ u, Below w11.heap.size w11 u → Calls Tryz.prog 12 #[g0, .int .i64 1] u fun e w' => e = .returned (.int .i64 (1 + (cntL L : Int))) ∧ Below u.heap.size u w') := fun u hu => heldStringS_any _ L g0 1 u (M11.out.same (Same.of_below hu (fun b hb => by omega))) (fun b hb => by have := hu.size; omega) (by omega) (by have := HCL.out; omega)
  have hcl : (cntL L : Int) ≤ 8192 := by have := HCL.out; omega
  go_wp2_with fail
  refine (HE.out w11 (Below.refl _ _)).mono ?_; rintro e w12 ⟨rfl, hb12⟩
  have C12 : Hid (Below w11.heap.size w11 w12) := hb12
  have z12 := hb12.size
  have k12 : Hid (Below (w.heap.size + 1) (w.alloc (.cells #[c 0, c 1, c 2, c 3, c 4, c 5] 29)) w12) := below_of k11.out hb12
  have s12 : w.heap.size + 1 ≤ w12.heap.size := by have := k12.out.size; simpa using this
  clear hb12
  have a0 := box_at _ _ k12.out 0 (c 0) rfl
  have a1 := box_at _ _ k12.out 1 (c 1) rfl
  have a2 := box_at _ _ k12.out 2 (c 2) rfl
  have a3 := box_at _ _ k12.out 3 (c 3) rfl
  have a4 := box_at _ _ k12.out 4 (c 4) rfl
  have a5 := box_at _ _ k12.out 5 (c 5) rfl
  go_wp2_with fail
  refine (toRunHouse_any S (now, last, T, Bs, Ba, Do) c _ (H.out _ (below_end k12.out)) (fun b hb => by have := hS b hb; omega) HM.out).mono ?_
  rintro e w13 ⟨g13, rfl, G, hb⟩
  clear a0 a1 a2 a3 a4 a5
  have k13 : Hid (Below (w.heap.size + 1) (w.alloc (.cells #[c 0, c 1, c 2, c 3, c 4, c 5] 29)) w13) := below_of k12.out hb
  have s13 : w.heap.size + 1 ≤ w13.heap.size := by have := k13.out.size; simpa using this
  have z13 : w12.heap.size ≤ w13.heap.size := hb.size
  obtain ⟨oA13, oB13, oC13, oD13, nA13, kA13, nB13, kB13, nC13, kC13, nD13, kD13, e0, e1, e2, e3, e4, e5, LA, LB, LC, LD⟩ := house_shape G
  have GC13 : Hid (Lay.At (fun b => w12.heap.size ≤ b ∧ b < w13.heap.size) w13 ((now, last, T, Bs, Ba, Do) : DRunHouse) (cs [.int .i64 now, .int .i64 last, .slice oA13 nA13 kA13, .slice oB13 nB13 kB13, .slice oC13 nC13 kC13, .slice oD13 nD13 kD13])) := Lay.ext G (house_ext e0 e1 e2 e3 e4 e5)
  rw [e0, e1, e2, e3, e4, e5]
  have LA13 : Hid (AtL (fun b => w12.heap.size ≤ b ∧ b < w13.heap.size) w13 T (.slice oA13 nA13 kA13)) := LA
  have LB13 : Hid (AtL (fun b => w12.heap.size ≤ b ∧ b < w13.heap.size) w13 Bs (.slice oB13 nB13 kB13)) := LB
  have LC13 : Hid (AtL (fun b => w12.heap.size ≤ b ∧ b < w13.heap.size) w13 Ba (.slice oC13 nC13 kC13)) := LC
  have LD13 : Hid (AtL (fun b => w12.heap.size ≤ b ∧ b < w13.heap.size) w13 Do (.slice oD13 nD13 kD13)) := LD
  have ZZ : Hid (Below w12.heap.size w12 w13) := hb
  clear e0 e1 e2 e3 e4 e5 LA LB LC LD G hb
  have C13 : Hid (Below w11.heap.size w11 w13) := C12.out.trans (ZZ.out.mono z12)
  go_wp2_with fail
  refine (PP.out _ _ _ _ _ _ _ _ _ _ _ _ _ w13 LA13.out LB13.out LC13.out LD13.out (fun b hb => hb.2)).mono ?_; rintro e w14 ⟨h0, rfl, a14, hb14⟩
  have z14 := hb14.size
  have A14 : Hid (AtL (fun b => w13.heap.size ≤ b ∧ b < w14.heap.size) w14 L h0) := flatS.row_at a14 (fun g hg => World.ownsRow.lt a14 g hg) (fun y hy => HZ.out y hy)
  have C14 : Hid (Below w11.heap.size w11 w14) := C13.out.trans (hb14.mono (by omega))
  have U14 : Hid (AtL (fun b => w2.heap.size ≤ b ∧ b < w3.heap.size) w14 L u0) := U11.out.same (Same.of_below C14.out (fun b hb => by omega))
  clear a14 hb14 LA13 LB13 LC13 LD13 GC13
  go_wp2_with fail
  refine (eqStringS_any _ _ L h0 u0 w14 A14.out U14.out (fun b hb => hb.2) (fun b hb => by omega)).mono ?_; rintro e w15 ⟨rfl, hb15⟩
  have C15 : Hid (Below w11.heap.size w11 w15) := C14.out.trans (hb15.mono (by omega))
  clear hb15
  go_wp2_with fail
  refine (HE.out w15 C15.out).mono ?_; rintro e w16 ⟨rfl, hb16⟩
  have B16 : Hid (Below w11.heap.size w11 w16) := C15.out.trans (hb16.mono C15.out.size)
  clear hb16
  go_wp2_with fail
  go_ret
  exact ⟨rfl, below_end (below_of k11.out B16.out)⟩
end Go.Proofs.YtigkkelaadbhcabGreat

namespace Go.Proofs.YtigkkelaadbhcabGreat
open Go.RowKit Go.Sort
def cmpI (a b : Int) : Int := if a < b then -1 else if b < a then 1 else 0
theorem cmpI_ge (a b : Int) : decide (0 ≤ cmpI a b) = !decide (a < b) := by
  unfold cmpI
  by_cases h : a < b
  · rw [if_pos h]; simp [h]
  · rw [if_neg h]; split <;> simp [h]
theorem isNaN_any (a : Int) (w : World) : Calls Tryz.prog 140 #[.int .i64 a] w fun e w' => e = .returned (.bool false) ∧ w' = w := by
  have h0 : (a == a) = true := by simp
  go_enter Tryz.func140, Tryz.ntmps140
  go_wp2
  go_ret
  exact ⟨by simp, rfl⟩
set_option maxRecDepth 100000 in
set_option maxHeartbeats 4000000 in
theorem cmpN_any (a b : Int) (w : World) : Calls Tryz.prog 110 #[.int .i64 a, .int .i64 b] w fun e w' => e = .returned (.int .i64 (cmpI a b)) ∧ w' = w := by
  by_cases h1 : a < b
  · have d1 : decide (a < b) = true := by simpa using h1
    rw [show cmpI a b = -1 from if_pos h1]
    go_enter Tryz.func110, Tryz.ntmps110
    go_wp2_with (go_at_call 140; refine (isNaN_any _ _).mono ?_; rintro e w1 ⟨rfl, rfl⟩)
    go_ret
    exact ⟨rfl, rfl⟩
  · have d1 : decide (a < b) = false := by simpa using h1
    by_cases h2 : b < a
    · have d2 : decide (b < a) = true := by simpa using h2
      rw [show cmpI a b = 1 from by unfold cmpI; rw [if_neg h1, if_pos h2]]
      go_enter Tryz.func110, Tryz.ntmps110
      go_wp2_with (go_at_call 140; refine (isNaN_any _ _).mono ?_; rintro e w1 ⟨rfl, rfl⟩)
      go_ret
      exact ⟨rfl, rfl⟩
    · have d2 : decide (b < a) = false := by simpa using h2
      rw [show cmpI a b = 0 from by unfold cmpI; rw [if_neg h1, if_neg h2]]
      go_enter Tryz.func110, Tryz.ntmps110
      go_wp2_with (go_at_call 140; refine (isNaN_any _ _).mono ?_; rintro e w1 ⟨rfl, rfl⟩)
      go_ret
      exact ⟨rfl, rfl⟩
end Go.Proofs.YtigkkelaadbhcabGreat
