/-
  Several texts in one.
-/
import Derived.Test.YtobchllaopdchacGreatM26
import Derived.Test.YtobchllaopdchacGreatM4
import Derived.Test.YtobchllaopdchacGreatM2
import Derived.Laws.BitsAllLaws
import Derived.Test.YtobchllaopdchacGreatM19
import Derived.Laws.EntriesVeiled
namespace Go.Proofs.YtobchllaopdchacGreat
open Go.RowKit
theorem idx_at {T : List ByteArray} (nd : T.Nodup) {x : ByteArray} (hx : x ∈ T) : ∃ t : Nat, idxI T (fun f => eqB f x) = (t : Int) ∧ ∃ ht : t < T.length, T[t] = x := by
  obtain ⟨t, ht, rfl⟩ := List.getElem_of_mem hx
  refine ⟨t, idx_yes ht (eqB_refl _) fun j hj hjt => ?_, ht, rfl⟩
  cases e : eqB T[j] T[t]
  · rfl
  · rw [eqB_iff] at e
    exact absurd e (List.pairwise_iff_getElem.1 nd j t hj ht hjt)
set_option maxRecDepth 100000 in
set_option maxHeartbeats 8000000 in
theorem bits_any (S : Nat → Prop) (v va : Value) (l T : List ByteArray) (w : World) (h : AtL S w l v) (hT : AtL S w T va) (n8 : T.length ≤ 8) (nd : T.Nodup) (nl : l.Nodup) (sub : ∀ x ∈ l, x ∈ T) :
    Calls Tryz.prog 174 #[v, va] w fun e w' => e = .returned (.int .u32 (hasM T l : Nat)) ∧ w' = w := by
  obtain ⟨oa, cap, rfl, hn, hc⟩ := h
  obtain ⟨n, en⟩ : ∃ n, l.length = n := ⟨_, rfl⟩
  have EN : Hid (l.length ≤ n ∧ n ≤ l.length) := ⟨by omega, by omega⟩
  rw [en] at hn
  rw [en]
  unfold maxLen at hn
  have HC : Hid _ := hc
  have HI : Hid (∀ x, Calls Tryz.prog 199 #[va, .string x] w fun e w' => e = .returned (.int .i64 (idxI T (fun f => eqB f x))) ∧ w' = w) := fun x => index_any S va T x w hT
  obtain ⟨R, hR⟩ : ∃ R : Int, R = (hasM T l : Nat) := ⟨_, rfl⟩
  have HR : Hid (R = (hasM T l : Nat)) := hR
  rw [← hR]
  have ND : Hid T.Nodup := nd
  have NL : Hid l.Nodup := nl
  have SUB : Hid (∀ x ∈ l, x ∈ T) := sub
  have N8 : Hid (T.length ≤ 8) := n8
  clear hc hT hR en nd nl sub n8
  go_enter Tryz.func174, Tryz.ntmps174
  go_wp2
  go_loop [5, 10] (fun s i => ∃ (k : Nat) (m : Nat), k ≤ n ∧ i = .int .i64 k ∧ s = .int .u32 m ∧ m < 256 ∧ Hid (m = hasM T (l.take k))) (fun _ i => n - (intOf i).toNat)
  case atStart => exact ⟨0, 0, Nat.zero_le _, rfl, rfl, by omega, by show _ = _; rw [List.take_zero, hasM_nil]⟩
  case round =>
    obtain ⟨k, m, hk, rfl, rfl, hm, hsum⟩ := hrel
    by_cases hlt : k < n
    · have hkl : k < l.length := by have := EN.out; omega
      obtain ⟨b, off, rfl, _, cc, hcell, hat⟩ := HC.out k hkl
      rw [width_str] at hcell
      have hcell := hcell 0 (by omega)
      rw [Nat.mul_one, Nat.add_zero] at hcell
      rw [at_str] at hat
      rw [hat.1] at hcell
      obtain ⟨x, ex⟩ : ∃ x, l[k] = x := ⟨_, rfl⟩
      rw [ex] at hcell
      obtain ⟨t, hti, htl, htx⟩ := idx_at ND.out (SUB.out l[k] (List.getElem_mem hkl))
      have hnx : Hid (hasM T (l.take (k + 1)) = m + 2 ^ t ∧ hasM T (l.take (k + 1)) < 256) := by
        refine ⟨?_, hasM_lt N8.out _⟩
        rw [List.take_succ_eq_append_getElem hkl, ← htx, hasM_snoc ND.out htl, hsum.out]
        rw [htx]
        intro hmem
        obtain ⟨j, hj, e⟩ := List.getElem_of_mem hmem
        rw [List.length_take] at hj
        rw [List.getElem_take] at e
        exact absurd e (List.pairwise_iff_getElem.1 NL.out j k (by omega) hkl (by omega))
      rw [ex] at hti
      have HX : Hid (Calls Tryz.prog 199 #[va, .string x] w fun e w' => e = .returned (.int .i64 (t : Int)) ∧ w' = w) := by
        have := HI.out x; rw [hti] at this; exact this
      have ht8 : t < 8 := by have := N8.out; omega
      clear hti htx htl hat ex
      have h8 : t = 0 ∨ t = 1 ∨ t = 2 ∨ t = 3 ∨ t = 4 ∨ t = 5 ∨ t = 6 ∨ t = 7 := by omega
      rcases h8 with rfl | rfl | rfl | rfl | rfl | rfl | rfl | rfl
      all_goals
        obtain ⟨hnb, hnc⟩ := hnx.out
        rw [hnb] at hnc
        have HNB : Hid _ := hnb
        simp only [Nat.reducePow] at hnc
        clear hnb hnx
        go_wp2_with fail
        refine Calls.mono HX.out ?_
        rintro e w1 ⟨rfl, rfl⟩
        go_wp2_with fail
        go_round
        case rel => exact ⟨k + 1, hasM T (l.take (k + 1)), by omega, by go_num, by rw [HNB.out]; go_num, hasM_lt N8.out _, rfl⟩
        case measure => simp [intOf]; omega
    · go_wp2
      go_ret
      have : l.take k = l := List.take_of_length_le (by have := EN.out; omega)
      rw [HR.out, hsum.out, this]
      exact ⟨rfl, rfl⟩
end Go.Proofs.YtobchllaopdchacGreat

namespace Go.Proofs.YtobchllaopdchacGreat
open Go.RowKit Go.Sort
def eG (p : Nat × Nat × Bool) (j : Nat) : Value := cs [.int .u32 p.1, .int .u32 p.2.1, .bool p.2.2] j
theorem infG : (Tryz.prog.info? 215).map (fun i => (i.zero, i.size, i.bytes)) = some (some (.agg #[.int .u32 0, .int .u32 0, .bool false]), 3, 12) := by kernel_rfl
theorem elG : ElT Tryz.prog 211 215 3 12 := by
  obtain ⟨i0, hi, hz0, hz1, hz2⟩ := info_parts infG
  exact ⟨by kernel_rfl, ⟨i0, _, hi, hz0, hz1, hz2, rfl⟩, by decide⟩
structure Lv (B : Nat) (w : World) (g : Nat) (v : Value) (L : List (Nat × Nat × Bool)) (fr : Nat) : Prop where
  row : Row w B 215 3 eG v L
  box : w.heap[g]? = some (.cells #[v, .int .u32 fr] 213 (0, 0))
  low : B ≤ g
def lvS (g : Nat) (v : Value) (k : Nat) : Prop := k = g ∨ v.ownBlock = some k
section
variable {B g : Nat} {w w' : World} {v : Value} {L : List (Nat × Nat × Bool)} {fr : Nat}
theorem Lv.lt (h : Lv B w g v L fr) : g < w.heap.size := (Array.getElem?_eq_some_iff.1 h.box).1
theorem Lv.below (h : Lv B w g v L fr) (hb : Below w.heap.size w w') : Lv B w' g v L fr := ⟨Row.below h.row hb, (hb.block g h.lt).trans h.box, h.low⟩
theorem Lv.but {S : Nat → Prop} (h : Lv B w g v L fr) (hb : But S w w') (hS : ∀ k, lvS g v k → ¬ S k) : Lv B w' g v L fr :=
  ⟨Row.block h.row fun k hk => hb.block k (World.ownsRow.lt h.row k hk).2 (hS k (.inr hk)), (hb.block g h.lt (hS g (.inl rfl))).trans h.box, h.low⟩
theorem Lv.set_low (h : Lv B w g v L fr) : ∀ k, lvS g v k → B ≤ k := fun k hk => by
  rcases hk with rfl | hk
  · exact h.low
  · exact (World.ownsRow.lt h.row k hk).1
theorem Lv.apart (h : Lv B w g v L fr) : v.ownBlock ≠ some g := fun e => by
  obtain ⟨c, hc⟩ := Row.typed h.row g e
  rw [h.box] at hc
  injection hc with h1
  injection h1 with _ h2
  revert h2
  decide
theorem Lv.cell (h : Lv B w g v L fr) {a : Nat} (ha : a < L.length) : ∃ r cap, v = .slice (some ⟨r, 0, none⟩) L.length cap ∧ L.length ≤ cap ∧ r ≠ g ∧ r < w.heap.size ∧ w.cell? ⟨r, a * 3, none⟩ = some (.int .u32 L[a].1) ∧ w.cell? ⟨r, a * 3 + 1, none⟩ = some (.int .u32 L[a].2.1) ∧ w.cell? ⟨r, a * 3 + 2, none⟩ = some (.bool L[a].2.2) ∧ w.frozen? ⟨r, a * 3 + 2, none⟩ = false := by
  obtain ⟨r, cap, hv, hb, hr, hc⟩ := Row.cell h.row ha
  have h0 := (hc 0 (by omega)).1
  rw [Nat.add_zero] at h0
  refine ⟨r, cap, hv, ?_, fun e => h.apart (by rw [hv, e]; rfl), hr, h0, (hc 1 (by omega)).1, (hc 2 (by omega)).1, (hc 2 (by omega)).2⟩
  rcases h.row.2 with ⟨h1, h2⟩ | ⟨g', cap', cur', h1, _, _, hle, _⟩
  · omega
  · rw [hv] at h1; cases h1; exact hle
end
def goB (p : Nat × Nat × Bool) (fr : Nat) : Bool := !p.2.2 && decide (p.2.1 &&& (4294967295 - (fr + p.1)) = 0)
set_option maxRecDepth 100000 in
set_option maxHeartbeats 8000000 in
theorem canGo_any (B g : Nat) (v : Value) (L : List (Nat × Nat × Bool)) (fr a : Nat) (w : World) (h : Lv B w g v L fr) (ha : a < L.length) (h0 : L[a].1 < 256) (h1 : L[a].2.1 < 256) (hf : fr < 256) :
    Calls Tryz.prog 200 #[.pointer (some ⟨g, 0, none⟩), .int .i64 a] w fun e w' => e = .returned (.bool (goB L[a] fr)) ∧ Below w.heap.size w w' := by
  obtain ⟨r, cap, rfl, hcap, hrg, hr, c0, c1, c2, _⟩ := h.cell ha
  have hlen := Row.len h.row
  have hg := h.lt
  obtain ⟨y0, _⟩ := cell_row h.box 0 _ rfl
  obtain ⟨y1, _⟩ := cell_row h.box 1 _ rfl
  obtain ⟨n, en⟩ : ∃ n, L.length = n := ⟨_, rfl⟩
  obtain ⟨⟨hs, nd, gn⟩, ep⟩ : ∃ p, L[a] = p := ⟨_, rfl⟩
  rw [ep] at c0 c1 c2 h0 h1
  rw [en] at ha hcap hlen y0
  rw [ep]
  simp only at c0 c1 c2 h0 h1
  unfold maxLen at hlen
  clear h en ep
  obtain ⟨X, EX, BX, RX, -⟩ := box_new w #[.int .u32 hs, .int .u32 nd, .bool gn] 215
  go_enter Tryz.func200, Tryz.ntmps200
  go_upto_region 2 with fail
  rw [← EX.out]
  have q1 := fun d os => cell_regrown ((BX.out.cell (p := ⟨g, 1, none⟩) hg).trans y1) d os
  have k0 := fun d os => cell_regrown (cell_row RX.out 0 _ rfl).1 d os
  have k1 := fun d os => cell_regrown (cell_row RX.out 1 _ rfl).1 d os
  have k2 := fun d os => cell_regrown (cell_row RX.out 2 _ rfl).1 d os
  have hbits : bits .andNot .u32 (nd : Int) ((fr : Int) + (hs : Int)) = ((nd &&& (4294967295 - (fr + hs)) : Nat) : Int) := by
    have := u32_andNot_nat nd (fr + hs) (by omega) (by omega)
    rw [← this]; simp
  clear y0 y1 c0 c1 c2
  cases gn
  · go_wp2_with fail
    refine wp_region_quiet_below (by kernel_rfl) (by kernel_rfl) ?_
    repeat (first | go_big_quiet_step (fail) | quiet_step (fail))
    refine wpQuiet_nil ?_
    intro _ hw'
    obtain ⟨⟨dq, osq⟩, hw''⟩ := hw'
    subst hw''
    go_wp2_with fail
    go_ret
    refine ⟨?_, BX.out.trans ((below_regrown _ dq osq).mono BX.out.size)⟩
    show Ending.returned (.bool (((nd &&& (4294967295 - (fr + hs)) : Nat) : Int) == 0)) = Ending.returned (.bool (goB (hs, nd, false) fr))
    unfold goB
    simp only [Bool.not_false, Bool.true_and]
    generalize nd &&& (4294967295 - (fr + hs)) = x
    rw [show ((x : Int) == 0) = decide (x = 0) by rw [Bool.eq_iff_iff, beq_iff_eq, decide_eq_true_iff]; omega]
  · go_wp2_with fail
    refine wp_region_quiet_below (by kernel_rfl) (by kernel_rfl) ?_
    repeat (first | go_big_quiet_step (fail) | quiet_step (fail))
    refine wpQuiet_nil ?_
    intro _ hw'
    obtain ⟨⟨dq, osq⟩, hw''⟩ := hw'
    subst hw''
    go_wp2_with fail
    go_ret
    exact ⟨rfl, BX.out.trans ((below_regrown _ dq osq).mono BX.out.size)⟩
set_option maxRecDepth 100000 in
set_option maxHeartbeats 8000000 in
theorem letGo_any (B g : Nat) (v : Value) (L : List (Nat × Nat × Bool)) (fr a : Nat) (w : World) (h : Lv B w g v L fr) (ha : a < L.length) (h0 : L[a].1 < 256) (hf : fr < 256) :
    Calls Tryz.prog 177 #[.pointer (some ⟨g, 0, none⟩), .int .i64 a] w fun e w' => e = .returned (.tuple #[]) ∧ Lv B w' g v (L.set a (L[a].1, L[a].2.1, true)) (fr + L[a].1) ∧ But (lvS g v) w w' := by
  have H := h
  obtain ⟨r, cap, rfl, hcap, hrg, hr, c0, c1, c2, z2⟩ := h.cell ha
  have hlen := Row.len h.row
  have hg := h.lt
  obtain ⟨hs, ehs⟩ : ∃ p, L[a].1 = p := ⟨_, rfl⟩
  obtain ⟨Y, hY⟩ : ∃ Y, Y = w.setCell ⟨r, a * 3 + 2, none⟩ (.bool true) := ⟨_, rfl⟩
  have EY : Hid (Y = w.setCell ⟨r, a * 3 + 2, none⟩ (.bool true)) := hY
  have BY : Hid (But (lvS g (.slice (some ⟨r, 0, none⟩) L.length cap)) w Y) := by rw [hY]; exact (But.refl _ _).set (.inr rfl) _ _
  have LY : Hid (Lv B Y g (.slice (some ⟨r, 0, none⟩) L.length cap) (L.set a (hs, L[a].2.1, true)) fr) := by
    obtain ⟨p1, p2⟩ := Row.put H.row ha (j := 2) (by omega) (.bool true) (hs, L[a].2.1, true) (fun q hq => by
      rcases (show q = 0 ∨ q = 1 ∨ q = 2 by omega) with rfl | rfl | rfl
      · rw [← ehs]; rfl
      · rfl
      · rfl)
    rw [hY]
    exact ⟨p1, (p2.block g hg (fun e => by cases e; exact hrg rfl)).trans H.box, H.low⟩
  obtain ⟨y0, _⟩ := cell_row h.box 0 _ rfl
  obtain ⟨n, en⟩ : ∃ n, L.length = n := ⟨_, rfl⟩
  have hln : (L.set a (hs, L[a].2.1, true)).length = L.length := List.length_set
  obtain ⟨Z, hZ⟩ : ∃ Z, Z = L.set a (hs, L[a].2.1, true) := ⟨_, rfl⟩
  have eZ0 : ∃ hz : a < Z.length, Z[a] = (hs, L[a].2.1, true) := ⟨by rw [hZ, hln]; exact ha, by simp [hZ]⟩
  rw [← hZ] at LY hln
  rw [ehs] at c0 h0
  rw [ehs]
  rw [← hZ]
  rw [en] at hcap hlen y0 hln LY BY
  rw [en]
  rw [en] at ha
  unfold maxLen at hlen
  clear h H hY c0 c1 hZ
  obtain ⟨haZ, eZ⟩ := eZ0
  go_enter Tryz.func177, Tryz.ntmps177
  go_upto_region 1 with fail
  rw [← EY.out]
  clear y0 c2 z2
  obtain ⟨r', cap', e', hcap', hrg', hr', d0, _, _, _⟩ := LY.out.cell haZ
  cases e'
  simp only [eZ] at d0
  obtain ⟨y0, _⟩ := cell_row LY.out.box 0 _ rfl
  obtain ⟨y1, _⟩ := cell_row LY.out.box 1 _ rfl
  have hgY := LY.out.lt
  have q0 := fun d os => cell_regrown y0 d os
  have q1 := fun d os => cell_regrown y1 d os
  have q2 := fun d os => cell_regrown d0 d os
  clear y0 y1 d0 en ehs
  go_wp2_with fail
  refine wp_region_head_tail 13 (by kernel_rfl) (by kernel_rfl) ?_
  simp only [List.take_succ_cons, List.take_zero, List.drop_succ_cons, List.drop_zero]
  repeat (first | go_big_quiet_step (fail) | quiet_step (fail))
  refine wpQuiet_nil ?_
  intro _ hw'
  obtain ⟨⟨dq, osq⟩, hw''⟩ := hw'
  subst hw''
  have HBU : Hid (Below Y.heap.size Y (grow (redrawn Y dq) osq)) := below_regrown Y dq osq
  generalize grow (redrawn Y dq) osq = X at HBU ⊢
  have LX := LY.out.below HBU.out
  have hgX := LX.lt
  obtain ⟨x1, f1⟩ := cell_row LX.box 1 _ rfl
  have FIN : Hid (Lv B (X.setCell ⟨g, 1, none⟩ (.int .u32 ((fr : Int) + (hs : Int)))) g (.slice (some ⟨r, 0, none⟩) Z.length cap) Z (fr + hs)) := by
    refine ⟨Row.block LX.row fun k hk => ?_, ?_, LX.low⟩
    · exact Below.heap_setCell _ _ _ _ (fun e => LX.apart (by rw [hk]; exact congrArg some e))
    · have := set_row LX.box 1 (.int .u32 ((fr : Int) + (hs : Int)))
      rw [this]; rfl
  have BF : Hid (But (lvS g (.slice (some ⟨r, 0, none⟩) Z.length cap)) w (X.setCell ⟨g, 1, none⟩ (.int .u32 ((fr : Int) + (hs : Int))))) := (BY.out.trans (But.of_below HBU.out)).set (.inl rfl) _ _
  clear LX
  go_wp2_with fail
  go_end0
  exact ⟨rfl, FIN.out, BF.out⟩
end Go.Proofs.YtobchllaopdchacGreat

namespace Go.Proofs.YtobchllaopdchacGreat
open Go.RowKit
theorem go_can {T : List ByteArray} {Bs : List DShareBatch} (h : BokP (T, Bs)) {gone : List ByteArray} {q : Nat} (hq : q < Bs.length) : goB (hasM T Bs[q].2.1, hasM T Bs[q].2.2, hasB gone Bs[q].1) (freM T Bs gone) = (!(hasB gone Bs[q].1) && canB Bs q gone) := by
  unfold goB
  cases e : hasB gone Bs[q].1
  · simp only [Bool.not_false, Bool.true_and]
    rw [Bool.eq_iff_iff, decide_eq_true_iff]
    exact can_same h hq e
  · rfl
theorem Lv.gone {T : List ByteArray} {Bs : List DShareBatch} (h : BokP (T, Bs)) {B g : Nat} {w : World} {v : Value} {gone : List ByteArray} {q : Nat} (hq : q < Bs.length) (hg : hasB gone Bs[q].1 = false) (hl : Lv B w g v ((lvL T Bs gone).set q (hasM T Bs[q].2.1, hasM T Bs[q].2.2, true)) (freM T Bs gone + hasM T Bs[q].2.1)) : Lv B w g v (lvL T Bs (gone ++ [Bs[q].1])) (freM T Bs (gone ++ [Bs[q].1])) := by
  rw [go_list h hq, go_free h hq hg] at hl
  exact hl
end Go.Proofs.YtobchllaopdchacGreat

namespace Go.Proofs.YtobchllaopdchacGreat
open Go.RowKit
def gnS (Bs : List DShareBatch) : Nat → List ByteArray
  | 0 => []
  | k + 1 => gnS Bs k ++ [(btN Bs (nxtI Bs (gnS Bs k)).toNat).1]
def Vd (Bs : List DShareBatch) (k : Nat) : Prop := ∀ j, j < k → ¬ nxtI Bs (gnS Bs j) < 0
def allG (Bs : List DShareBatch) (g : List ByteArray) : Bool := !(Bs.any fun f => !(hasB g f.1))
theorem allG_iff {Bs : List DShareBatch} {g : List ByteArray} : allG Bs g = true ↔ ∀ x ∈ Bs.map (·.1), x ∈ g := by
  unfold allG
  rw [Bool.not_eq_true', List.any_eq_false]
  constructor
  · intro h x hx
    obtain ⟨f, hf, rfl⟩ := List.mem_map.1 hx
    have := h f hf
    simp only [Bool.not_eq_true', Bool.not_eq_false] at this
    exact (hasB_iff _ _).1 (by simpa using this)
  · intro h f hf
    rw [(hasB_iff _ _).2 (h f.1 (List.mem_map.2 ⟨f, hf, rfl⟩))]
    simp
theorem nxt_free {Bs : List DShareBatch} {g : List ByteArray} (h : ¬ nxtI Bs g < 0) : ∃ q : Nat, nxtI Bs g = (q : Int) ∧ ∃ hq : q < Bs.length, hasB g Bs[q].1 = false ∧ canB Bs q g = true := by
  unfold nxtI idxI at h ⊢
  cases e : (List.range Bs.length).findIdx? (freeB Bs g) with
  | none => rw [e] at h; simp at h
  | some i =>
    obtain ⟨hi, h1, _⟩ := List.findIdx?_eq_some_iff_getElem.1 e
    have hi' : i < Bs.length := by simpa using hi
    rw [List.getElem_range] at h1
    unfold freeB at h1
    rw [btN_at hi', Bool.and_eq_true, Bool.not_eq_true'] at h1
    exact ⟨i, rfl, hi', h1⟩
theorem gn_len (Bs : List DShareBatch) : ∀ k, (gnS Bs k).length = k
  | 0 => rfl
  | k + 1 => by rw [gnS, List.length_append, gn_len Bs k]; rfl
theorem Vd.down {Bs : List DShareBatch} {k : Nat} (h : Vd Bs (k + 1)) : Vd Bs k := fun j hj => h j (by omega)
theorem Vd.up {Bs : List DShareBatch} {k : Nat} (h : Vd Bs k) (hn : ¬ nxtI Bs (gnS Bs k) < 0) : Vd Bs (k + 1) := fun j hj => by
  by_cases e : j = k
  · subst e; exact hn
  · exact h j (by omega)
section
variable {T : List ByteArray} {Bs : List DShareBatch}
theorem names_nodup (h : BokP (T, Bs)) : (Bs.map (·.1)).Nodup := by
  refine List.pairwise_iff_getElem.2 fun i j hi hj hij e => ?_
  rw [List.getElem_map, List.getElem_map] at e
  have := bok_names h (by simpa using hi) (by simpa using hj) e
  omega
theorem gn_sub (h : BokP (T, Bs)) : ∀ {k : Nat}, Vd Bs k → (gnS Bs k).Nodup ∧ ∀ x ∈ gnS Bs k, x ∈ Bs.map (·.1)
  | 0, _ => ⟨List.nodup_nil, fun x hx => by cases hx⟩
  | k + 1, hv => by
    obtain ⟨h1, h2⟩ := gn_sub h hv.down
    obtain ⟨q, eq, hq, hg, _⟩ := nxt_free (hv k (by omega))
    rw [gnS, eq, Int.toNat_natCast, btN_at hq]
    constructor
    · refine List.nodup_append.2 ⟨h1, by simp, fun a ha b hb e => ?_⟩
      rw [List.mem_singleton] at hb
      rw [e, hb] at ha
      rw [(hasB_iff _ _).2 ha] at hg
      cases hg
    · intro x hx
      rcases List.mem_append.1 hx with hx | hx
      · exact h2 x hx
      · rw [List.mem_singleton] at hx
        rw [hx]
        exact List.mem_map.2 ⟨_, List.getElem_mem hq, rfl⟩
theorem vd_le (h : BokP (T, Bs)) {k : Nat} (hv : Vd Bs k) : k ≤ Bs.length := by
  obtain ⟨h1, h2⟩ := gn_sub h hv
  have := h1.length_le_of_subset h2
  rw [gn_len, List.length_map] at this
  exact this
theorem all_when (h : BokP (T, Bs)) {k : Nat} (hv : Vd Bs k) : allG Bs (gnS Bs k) = decide (k = Bs.length) := by
  obtain ⟨h1, h2⟩ := gn_sub h hv
  have hle := vd_le h hv
  rw [Bool.eq_iff_iff, allG_iff, decide_eq_true_iff]
  constructor
  · intro ha
    have := (names_nodup h).length_le_of_subset ha
    rw [gn_len, List.length_map] at this
    omega
  · intro e x hx
    refine Classical.byContradiction fun hn => ?_
    have nd : (x :: gnS Bs k).Nodup := List.nodup_cons.2 ⟨hn, h1⟩
    have := nd.length_le_of_subset (l₂ := Bs.map (·.1)) (fun y hy => by
      rcases List.mem_cons.1 hy with rfl | hy
      · exact hx
      · exact h2 y hy)
    rw [List.length_cons, gn_len, List.length_map] at this
    omega
theorem ord_at : ∀ {k : Nat}, Vd Bs k → k ≤ Bs.length → ordF Bs Bs.length [] = ordF Bs (Bs.length - k) (gnS Bs k)
  | 0, _, _ => rfl
  | k + 1, hv, hk => by
    rw [ord_at hv.down (by omega), show Bs.length - k = (Bs.length - (k + 1)) + 1 by omega, ordF, if_neg (hv k (by omega))]
    rfl
theorem ord_end (hb : bokB (T, Bs) = true) {k : Nat} (hv : Vd Bs k) (hs : nxtI Bs (gnS Bs k) < 0 ∨ k = Bs.length) : ordS (T, Bs) = if k = Bs.length then (gnS Bs k, true) else ([], false) := by
  have h := bok_iff.1 hb
  have hle := vd_le h hv
  unfold ordS
  rw [if_pos hb]
  show ordF Bs Bs.length [] = _
  rw [ord_at hv hle]
  by_cases e : k = Bs.length
  · rw [if_pos e, show Bs.length - k = 0 by omega]; rfl
  · rw [if_neg e, show Bs.length - k = (Bs.length - k - 1) + 1 by omega, ordF, if_pos (hs.resolve_right e)]
theorem gn_short (h : BokP (T, Bs)) {k : Nat} (hv : Vd Bs k) : ∀ x ∈ gnS Bs k, x.size ≤ 8 := fun x hx => by
  obtain ⟨f, hf, rfl⟩ := List.mem_map.1 ((gn_sub h hv).2 x hx)
  obtain ⟨i, hi, rfl⟩ := List.getElem_of_mem hf
  have := (h.row i hi).bat
  unfold batB at this
  simp only [Bool.and_eq_true] at this
  have := this.1.1.1
  unfold nameB at this
  rw [Bool.and_eq_true, decide_eq_true_iff] at this
  exact this.1.2
end
end Go.Proofs.YtobchllaopdchacGreat

namespace Go.Proofs.YtobchllaopdchacGreat
open Go.RowKit Go.Sort
set_option maxRecDepth 100000 in
set_option maxHeartbeats 8000000 in
theorem first_any {T : List ByteArray} {Bs : List DShareBatch} (hok : BokP (T, Bs)) (B g : Nat) (v : Value) (gone : List ByteArray) (w : World) (h : Lv B w g v (lvL T Bs gone) (freM T Bs gone)) :
    Calls Tryz.prog 176 #[.pointer (some ⟨g, 0, none⟩)] w fun e w' => ((nxtI Bs gone < 0 ∧ e = .returned (.tuple #[.int .i64 0, .bool false])) ∨ (¬ nxtI Bs gone < 0 ∧ e = .returned (.tuple #[.int .i64 (nxtI Bs gone), .bool true]))) ∧ Below w.heap.size w w' := by
  obtain ⟨ov, kv, hv⟩ := Row.form h.row
  rw [lv_len] at hv
  obtain ⟨n, en⟩ : ∃ n, Bs.length = n := ⟨_, rfl⟩
  have EN : Hid (Bs.length ≤ n ∧ n ≤ Bs.length) := ⟨by omega, by omega⟩
  have hn5 : n ≤ 5 := by have := hok.len; simp only at this; omega
  rw [en] at hv
  subst hv
  obtain ⟨y0, _⟩ := cell_row h.box 0 _ rfl
  have N8 := (bok_things hok).1
  have HL : Hid (Lv B w g (.slice ov n kv) (lvL T Bs gone) (freM T Bs gone)) := h
  have CAN : Hid (∀ q (hq : q < Bs.length) u, Below w.heap.size w u → Calls Tryz.prog 200 #[.pointer (some ⟨g, 0, none⟩), .int .i64 q] u fun e w' => e = .returned (.bool (freeB Bs gone q)) ∧ Below u.heap.size u w') := fun q hq u hu => by
    have eL := lv_at T gone hq
    have := canGo_any _ g _ _ _ q u (HL.out.below hu) (by rw [lv_len]; exact hq) (by rw [eL]; exact hasM_lt N8 _) (by rw [eL]; exact hasM_lt N8 _) (freM_lt N8 _ _)
    rw [eL, go_can hok hq] at this
    rw [show freeB Bs gone q = (!(hasB gone Bs[q].1) && canB Bs q gone) by unfold freeB; rw [btN_at hq]]
    exact this
  have OK : Hid _ := hok
  clear h en hok
  go_enter Tryz.func176, Tryz.ntmps176
  go_wp2_with fail
  go_loopw [10] (fun i wr => ∃ k : Nat, k ≤ n ∧ i = .int .i64 k ∧ Hid (∀ j, j < k → freeB Bs gone j = false) ∧ Hid (Below w.heap.size w wr)) (fun i _ => n - (intOf i).toNat)
  case atStart => exact ⟨0, Nat.zero_le _, rfl, fun _ h => by omega, Below.refl _ _⟩
  case round =>
    obtain ⟨k, hk, rfl, hno, hbel⟩ := hrel
    by_cases hlt : k < n
    case neg =>
      go_wp2_with fail
      have e1 : nxtI Bs gone = -1 := nxt_no fun j hj => hno.out j (by have := EN.out; omega)
      exact bodyPost_ret (v := .tuple #[.int .i64 0, .bool false]) (by simp [results, Tryz.results176, go_sem]) rfl ⟨.inl ⟨by rw [e1]; omega, rfl⟩, hbel.out⟩
    have hkb : k < Bs.length := by have := EN.out; omega
    cases hf : freeB Bs gone k
    · have C := CAN.out k hkb wr hbel.out
      rw [hf] at C
      have HC : Hid _ := C
      clear C
      go_wp2_with fail
      refine Calls.mono HC.out ?_
      rintro e w1 ⟨rfl, hb1⟩
      go_wp2_with fail
      go_roundw
      case rel => exact ⟨k + 1, by omega, by go_num, fun j hj => by
        by_cases e : j = k
        · subst e; exact hf
        · exact hno.out j (by omega), hbel.out.trans (hb1.mono hbel.out.size)⟩
      case measure => simp [intOf]; omega
    · have C := CAN.out k hkb wr hbel.out
      rw [hf] at C
      have HC : Hid _ := C
      clear C
      go_wp2_with fail
      refine Calls.mono HC.out ?_
      rintro e w1 ⟨rfl, hb1⟩
      go_wp2_with fail
      have e1 : nxtI Bs gone = (k : Int) := nxt_yes hkb hf hno.out
      exact bodyPost_ret (v := .tuple #[.int .i64 k, .bool true]) (by simp [results, Tryz.results176, go_sem]) rfl ⟨.inr ⟨by rw [e1]; omega, by rw [e1]⟩, hbel.out.trans (hb1.mono hbel.out.size)⟩
set_option maxRecDepth 100000 in
set_option maxHeartbeats 4000000 in
theorem there_any (x y : Nat) (b : Bool) (w : World) : Calls Tryz.prog 180 #[.agg #[.int .u32 x, .int .u32 y, .bool b]] w fun e w' => e = .returned (.bool (!b)) ∧ Below w.heap.size w w' := by
  cases b
  · go_enter Tryz.func180, Tryz.ntmps180
    go_wp2
    go_ret
    exact ⟨rfl, (Below.refl _ _).alloc (Nat.le_refl _) _⟩
  · go_enter Tryz.func180, Tryz.ntmps180
    go_wp2
    go_ret
    exact ⟨rfl, (Below.refl _ _).alloc (Nat.le_refl _) _⟩
set_option maxRecDepth 100000 in
set_option maxHeartbeats 4000000 in
theorem thereIdx_any (B : Nat) (v : Value) (L : List (Nat × Nat × Bool)) (w : World) (h : Row w B 215 3 eG v L) :
    Calls Tryz.prog 201 #[v, .func (.func 180) #[] #[]] w fun e w' => e = .returned (.int .i64 (idxI L (fun p => !p.2.2))) ∧ Below w.heap.size w w' := by
  have hlen := Row.len h
  have HR : Hid (Row w B 215 3 eG v L) := h
  obtain ⟨ov, kv, hv⟩ := Row.form h
  obtain ⟨n, en⟩ : ∃ n, L.length = n := ⟨_, rfl⟩
  have EN : Hid (L.length ≤ n ∧ n ≤ L.length) := ⟨by omega, by omega⟩
  rw [en] at hv hlen
  unfold maxLen at hlen
  rw [hv] at HR
  rw [hv]
  clear h hv en
  go_enter Tryz.func201, Tryz.ntmps201
  go_wp2_with fail
  go_loopw [8] (fun i wr => ∃ k : Nat, k ≤ n ∧ i = .int .i64 k ∧ Hid (∀ j (hj : j < L.length), j < k → (!L[j].2.2) = false) ∧ Hid (Below w.heap.size w wr)) (fun i _ => n - (intOf i).toNat)
  case atStart => exact ⟨0, Nat.zero_le _, rfl, fun _ _ h => by omega, Below.refl _ _⟩
  case round =>
    obtain ⟨k, hk, rfl, hno, hbel⟩ := hrel
    by_cases hlt : k < n
    case neg =>
      go_wp2_with fail
      go_ret
      rw [idx_no (fun j hj => hno.out j hj (by have := EN.out; omega))]
      exact ⟨rfl, hbel.out⟩
    have hkL : k < L.length := by have := EN.out; omega
    obtain ⟨r, cap, e', _, _, hc⟩ := Row.cell (Row.below HR.out hbel.out) hkL
    have hov : ov = some ⟨r, 0, none⟩ := by injection e'
    subst hov
    obtain ⟨⟨x, y, b⟩, ep⟩ : ∃ p, L[k] = p := ⟨_, rfl⟩
    have c0 := (hc 0 (by omega)).1
    have c1 := (hc 1 (by omega)).1
    have c2 := (hc 2 (by omega)).1
    rw [ep] at c0 c1 c2
    rw [Nat.add_zero] at c0
    have c0' : wr.cell? ⟨r, k * 3, none⟩ = some (.int .u32 x) := c0
    have c1' : wr.cell? ⟨r, k * 3 + 1, none⟩ = some (.int .u32 y) := c1
    have c2' : wr.cell? ⟨r, k * 3 + 2, none⟩ = some (.bool b) := c2
    have EP : Hid ((!L[k].2.2) = !b) := by show _ = _; rw [ep]
    clear c0 c1 c2 hc ep e'
    go_wp2_with fail
    refine (there_any x y b wr).mono ?_
    rintro e w1 ⟨rfl, hb1⟩
    clear c0' c1' c2'
    cases b
    · go_wp2_with fail
      go_ret
      rw [idx_yes (k := k) hkL EP.out hno.out]
      exact ⟨rfl, hbel.out.trans (hb1.mono hbel.out.size)⟩
    · go_wp2_with fail
      go_roundw
      case rel => exact ⟨k + 1, by omega, by go_num, fun j hj hjk => by
        by_cases e : j = k
        · subst e; exact EP.out
        · exact hno.out j hj (by omega), hbel.out.trans (hb1.mono hbel.out.size)⟩
      case measure => simp [intOf]; omega
theorem idx_anyG (l : List (Nat × Nat × Bool)) (p : Nat × Nat × Bool → Bool) : decide (0 ≤ idxI l p) = l.any p := by
  unfold idxI
  cases e : l.findIdx? p with
  | none =>
    rw [List.findIdx?_eq_none_iff] at e
    have : l.any p = false := List.any_eq_false.2 (fun x hx => by rw [e x hx]; simp)
    rw [this]; decide
  | some i =>
    obtain ⟨hi, h1, _⟩ := List.findIdx?_eq_some_iff_getElem.1 e
    rw [List.any_eq_true.2 ⟨_, List.getElem_mem hi, h1⟩]
    simp
theorem all_lv (T : List ByteArray) (Bs : List DShareBatch) (gone : List ByteArray) : (!((lvL T Bs gone).any fun p => !p.2.2)) = allG Bs gone := by
  unfold lvL allG
  rw [List.any_map]
  rfl
set_option maxRecDepth 100000 in
set_option maxHeartbeats 4000000 in
theorem allGone_any (T : List ByteArray) (Bs : List DShareBatch) (B g : Nat) (v : Value) (gone : List ByteArray) (fr : Nat) (w : World) (h : Lv B w g v (lvL T Bs gone) fr) :
    Calls Tryz.prog 141 #[.pointer (some ⟨g, 0, none⟩)] w fun e w' => e = .returned (.bool (allG Bs gone)) ∧ Below w.heap.size w w' := by
  rw [← all_lv T Bs gone, ← idx_anyG]
  obtain ⟨X, hX⟩ : ∃ X, X = idxI (lvL T Bs gone) (fun p => !p.2.2) := ⟨_, rfl⟩
  have HI : Hid (Calls Tryz.prog 201 #[v, .func (.func 180) #[] #[]] w fun e w' => e = .returned (.int .i64 X) ∧ Below w.heap.size w w') := by
    rw [hX]; exact thereIdx_any B v _ w h.row
  rw [← hX]
  clear hX
  have HC : Hid (Calls Tryz.prog 179 #[v, .func (.func 180) #[] #[]] w fun e w' => e = .returned (.bool (decide (0 ≤ X))) ∧ Below w.heap.size w w') := by
    show Calls _ _ _ _ _
    go_enter Tryz.func179, Tryz.ntmps179
    go_wp2_with fail
    refine Calls.mono HI.out ?_
    rintro e w1 ⟨rfl, hb1⟩
    go_wp2_with fail
    go_ret
    exact ⟨rfl, hb1⟩
  obtain ⟨ov, kv, hv⟩ := Row.form h.row
  obtain ⟨n, en⟩ : ∃ n, (lvL T Bs gone).length = n := ⟨_, rfl⟩
  rw [en] at hv
  subst hv
  obtain ⟨y0, _⟩ := cell_row h.box 0 _ rfl
  clear h en HI
  go_enter Tryz.func141, Tryz.ntmps141
  go_wp2_with fail
  refine Calls.mono HC.out ?_
  rintro e w1 ⟨rfl, hb1⟩
  go_wp2_with fail
  go_ret
  exact ⟨rfl, hb1⟩
set_option maxRecDepth 100000 in
set_option maxHeartbeats 4000000 in
theorem inTurn_any (p : Value) (hp : ∃ a, p = .pointer (some a)) (w : World) : Calls Tryz.prog 139 #[p] w fun e w' => e = .returned (.func (.func 175) #[] #[.pointer (some ⟨w.heap.size, 0, none⟩)]) ∧ w' = w.alloc (.cells #[p] 172) := by
  obtain ⟨a, rfl⟩ := hp
  have hmf : ∀ (fn : Fn) (first cap : Array Value) (w : World), (Instr.makeFunc fn first cap).run Tryz.prog w = .ok (.func fn first cap) w := fun _ _ _ _ => rfl
  go_enter Tryz.func139, Tryz.ntmps139
  go_wp2
  go_ret
  exact ⟨rfl, rfl⟩
end Go.Proofs.YtobchllaopdchacGreat
