/-
  A contract of the program's lines of a plant, cut into words.
-/
import Derived.Test.YtbdhlcfcmennjabDoorGd
namespace Go.Proofs.YtbdhlcfcmennjabDoor
open Go.RowKit

def wS (s : ByteArray) : List ByteArray := [tx [115, 116, 117, 102, 102], s]
def wF (f : ByteArray × ByteArray) : List ByteArray := [tx [102, 111, 101], f.1, f.2]
def wV (v : ByteArray × ByteArray × ByteArray × ByteArray) : List ByteArray := [tx [118, 97, 108, 118, 101], v.1, v.2.1, v.2.2.1, v.2.2.2]
def accL (a : List (List ByteArray)) (g : Nat → List ByteArray) (n : Nat) : List (List ByteArray) := a ++ (List.range n).map g
theorem accL_zero (a : List (List ByteArray)) (g : Nat → List ByteArray) : accL a g 0 = a := by simp [accL]
theorem accL_succ (a : List (List ByteArray)) (g : Nat → List ByteArray) (n : Nat) : accL a g (n + 1) = accL a g n ++ [g n] := by simp [accL, List.range_succ]
theorem accL_len (a : List (List ByteArray)) (g : Nat → List ByteArray) (n : Nat) : (accL a g n).length = a.length + n := by simp [accL]
def PD.r1 (D : PD) (n : Nat) : List (List ByteArray) := accL [] (fun i => wS (D.fs i)) n
def PD.r2 (D : PD) (n : Nat) : List (List ByteArray) := accL (D.r1 D.ns) (fun i => wF (D.ff i)) n
def PD.r3 (D : PD) (n : Nat) : List (List ByteArray) := accL (D.r2 D.nf) (fun i => wP (D.fp i)) n
def PD.r4 (D : PD) (n : Nat) : List (List ByteArray) := accL (D.r3 D.np) (fun i => wV (D.fv i)) n
theorem PD.r1_len (D : PD) (n : Nat) : (D.r1 n).length = n := by simp [PD.r1, accL_len]
theorem PD.r2_len (D : PD) (n : Nat) : (D.r2 n).length = D.ns + n := by simp [PD.r2, accL_len, PD.r1_len]
theorem PD.r3_len (D : PD) (n : Nat) : (D.r3 n).length = D.ns + D.nf + n := by simp [PD.r3, accL_len, PD.r2_len]
theorem PD.r4_len (D : PD) (n : Nat) : (D.r4 n).length = D.ns + D.nf + D.np + n := by simp [PD.r4, accL_len, PD.r3_len]

theorem RowAt.below {w w' : World} {x : Value} {ws : List ByteArray} (h : RowAt w x ws) (hb : Below w.heap.size w w') : RowAt w' x ws := by
  obtain ⟨b, hv, hh⟩ := h
  exact ⟨b, hv, (hb.block b (Array.getElem?_eq_some_iff.1 hh).1).trans hh⟩
theorem own_below {w w' : World} {B s n : Nat} {e : TypeId} {v : Value} {xs : List Value} (h : w.ownsRow B e s v n xs) (hb : Below w.heap.size w w') : w'.ownsRow B e s v n xs := by
  refine ⟨h.1, ?_⟩
  rcases h.2 with hn | ⟨g, cap, cur, hv, hB, hg, rest⟩
  · exact .inl hn
  · exact .inr ⟨g, cap, cur, hv, hB, (hb.block g (Array.getElem?_eq_some_iff.1 hg).1).trans hg, rest⟩
theorem RowAt.grown {w w' : World} {x v : Value} {ws : List ByteArray} {B n : Nat} {cs : List Value} (h : RowAt w x ws) (ho : w.ownsRow B 22 1 v n cs) (hg : w.grownBy w' v.ownBlock) : RowAt w' x ws := by
  obtain ⟨b, hv, hh⟩ := h
  refine ⟨b, hv, (hg.block b (Array.getElem?_eq_some_iff.1 hh).1 fun e => ?_).trans hh⟩
  rcases ho.2 with ⟨rfl, _⟩ | ⟨g, cap, cur, rfl, _, hgg, _⟩
  · cases e
  · simp only [Value.ownBlock, Option.some.injEq] at e
    subst e
    rw [hgg] at hh
    simp at hh

/-- Rows of texts, each in a block of its own. -/
def RowsAt (w : World) (cs : List Value) (L : List (List ByteArray)) : Prop := ∀ (j : Nat) (ws : List ByteArray), L[j]? = some ws → ∃ x, cs[j]? = some x ∧ RowAt w x ws
theorem RowsAt.below {w w' : World} {cs : List Value} {L : List (List ByteArray)} (h : RowsAt w cs L) (hb : Below w.heap.size w w') : RowsAt w' cs L := fun j ws hj => by
  obtain ⟨x, hx, hr⟩ := h j ws hj
  exact ⟨x, hx, hr.below hb⟩
theorem RowsAt.step {w w' : World} {v x : Value} {B : Nat} {cs : List Value} {L : List (List ByteArray)} {ws : List ByteArray} (h : RowsAt w cs L) (ho : w.ownsRow B 22 1 v L.length cs) (hx : RowAt w x ws) (hg : w.grownBy w' v.ownBlock) : RowsAt w' (cs ++ [x]) (L ++ [ws]) := by
  intro j ws' hj
  have hl : cs.length = L.length := by simpa using ho.1
  by_cases hlt : j < L.length
  · rw [List.getElem?_append_left hlt] at hj
    obtain ⟨y, hy, hr⟩ := h j ws' hj
    exact ⟨y, by rw [List.getElem?_append_left (by omega)]; exact hy, hr.grown ho hg⟩
  · have hlt2 : j < (L ++ [ws]).length := (List.getElem?_eq_some_iff.1 hj).1
    have e : j = L.length := by simp at hlt2; omega
    subst e
    simp at hj
    subst hj
    exact ⟨x, by rw [← hl]; simp, hx.grown ho hg⟩
theorem row_new (W : World) (g : Nat) (hg : g = W.heap.size) (ws : List ByteArray) (o : Obj) : RowAt ((W.alloc (.cells (ws.map Value.string).toArray 9)).alloc o) (.slice (some ⟨g, 0, none⟩) ws.length ws.length) ws :=
  ⟨g, rfl, by subst hg; exact (heap_alloc_old _ _ (by simp)).trans (heap_alloc_new W _)⟩
theorem one_cell (W : World) (x : Value) (t : TypeId) (g : Nat) (hg : g = W.heap.size) : ∀ (j : Nat) u, [x][j]? = some u → (W.alloc (.cells #[x] t)).cell? ((⟨g, 0, none⟩ : Addr).add j) = some u := fun j u hj => by
  match j, hj with
  | 0, hj => simp at hj; subst hj; subst hg; exact new_cell W #[x] t 0 x rfl

theorem underLL : Tryd.prog.underlying 58 = some (.slice 22) := by kernel_rfl
theorem infoL : (Tryd.prog.info? 22).map (fun i => (i.zero, i.size, i.bytes)) = some (some (.slice none 0 0), 1, 24) := by kernel_rfl

set_option maxRecDepth 100000 in
set_option maxHeartbeats 8000000 in
theorem lines_any (B : Nat) (v0 v1 v2 v3 : Value) (D : PD) (w : World) (h : PAt B w v0 v1 v2 v3 D) (hB : B ≤ w.heap.size) (hN : D.Nm) (hT : Tb w) :
    Calls Tryd.prog 20 #[.agg #[v0, v1, v2, v3]] w fun e w' => ∃ v cs, e = .returned v ∧ w'.ownsRow (w.heap.size + 1) 22 1 v (D.r4 D.nv).length cs ∧ RowsAt w' cs (D.r4 D.nv) ∧ Below w.heap.size w w' := by
  obtain ⟨hs, hf, hp, hv⟩ := h
  obtain ⟨o0, c0, rfl, hn0, hc0⟩ := hs
  obtain ⟨o1, c1, rfl, hn1, hc1⟩ := hf
  obtain ⟨o2, c2, rfl, hn2, hc2⟩ := hp
  obtain ⟨o3, c3, rfl, hn3, hc3⟩ := hv
  have HC0 : Hid _ := hc0
  have HC1 : Hid _ := hc1
  have HC2 : Hid _ := hc2
  have HC3 : Hid _ := hc3
  have HN : Hid D.Nm := hN
  have HT : Hid (Tb w) := hT
  have m0 := hN.ns
  have m1 := hN.nf
  have m2 := hN.np
  have m3 := hN.nv
  clear hc0 hc1 hc2 hc3 hn0 hn1 hn2 hn3 hN hT
  obtain ⟨i0, hi, hz0, hz1, hz2⟩ := info_parts infoL
  go_enter Tryd.func20, Tryd.ntmps20
  go_wp2_with fail
  go_loopw [3, 15] (fun out i wr => ∃ (k : Nat) (cs : List Value), k ≤ D.ns ∧ i = .int .i64 k ∧ Hid (wr.ownsRow (w.heap.size + 1) 22 1 out (D.r1 k).length cs) ∧ Hid (RowsAt wr cs (D.r1 k)) ∧ Hid (Below (w.heap.size + 1) (w.alloc (.cells #[.slice o0 D.ns c0, .slice o1 D.nf c1, .slice o2 D.np c2, .slice o3 D.nv c3] 34)) wr)) (fun _ i _ => D.ns - (intOf i).toNat)
  case atStart => exact ⟨0, [], Nat.zero_le _, rfl, by rw [PD.r1, accL_zero]; exact World.ownsRow_nil _ _ _ _, by rw [PD.r1, accL_zero]; intro j ws hj; simp at hj, Below.refl _ _⟩
  case round =>
    obtain ⟨k, cs, hk, rfl, hown, hrows, hbel⟩ := hrel
    have b0 := box_in hbel.out 0 _ rfl
    have b1 := box_in hbel.out 1 _ rfl
    have b2 := box_in hbel.out 2 _ rfl
    have b3 := box_in hbel.out 3 _ rfl
    simp only [List.getElem_toArray, List.getElem_cons_zero, List.getElem_cons_succ] at b0 b1 b2 b3
    have hsz : w.heap.size + 1 ≤ wr.heap.size := by have := hbel.out.size; simpa using this
    have hL : (D.r1 k).length ≤ 52 := by rw [PD.r1_len]; omega
    by_cases hlt : k < D.ns
    · obtain ⟨b, off, rfl, hbB, hcell⟩ := HC0.out k hlt
      have e0 : wr.cell? ⟨b, off + k, none⟩ = some (.string (D.fs k)) := old_in hbel.out (by omega) (by simpa [cS] using hcell 0 (by omega))
      go_wp2_with (first | (at_builtin; refine wpList_append_own _ rfl _ _ 58 rfl (w.heap.size + 1) 22 i0 (.slice none 0 0) 1 24 underLL hi hz0 hz1 hz2 rfl (by decide) _ _ _ rfl ((hown.out.alloc _).alloc _) ⟨wr.heap.size + 1, 0, none⟩ 1 1 [.slice (some ⟨wr.heap.size, 0, none⟩) 2 2] rfl rfl (one_cell _ _ _ _ (by simp)) (fun x hx => by simp at hx; subst hx; rfl) (by unfold maxLen; omega) (by omega) (by simp; omega) ?_; intro v' w3 hown' hgrow3 hnil3))
      have hR : RowsAt w3 (cs ++ [.slice (some ⟨wr.heap.size, 0, none⟩) 2 2]) (D.r1 (k + 1)) := by
        have := RowsAt.step (hrows.out.below (((Below.refl wr.heap.size wr).alloc (Nat.le_refl _) _).alloc (by simp) _)) ((hown.out.alloc _).alloc _) (row_new wr _ rfl (wS (D.fs k)) _) hgrow3
        rw [PD.r1, accL_succ]; exact this
      have hO : w3.ownsRow (w.heap.size + 1) 22 1 v' (D.r1 (k + 1)).length (cs ++ [.slice (some ⟨wr.heap.size, 0, none⟩) 2 2]) := by
        rw [PD.r1, accL_succ, List.length_append]; exact hown'
      have hW3 : Below (w.heap.size + 1) (w.alloc (.cells #[.slice (some ⟨b, off, none⟩) D.ns c0, .slice o1 D.nf c1, .slice o2 D.np c2, .slice o3 D.nv c3] 34)) w3 := (hbel.out.alloc (by omega) _ |>.alloc (by simp; omega) _).grown hgrow3 (by simp; omega) (fun q hq => (hown.out.lt q hq).1)
      go_roundw
      case rel => exact ⟨k + 1, _, by omega, by go_num, hO, hR, hW3⟩
      case measure => simp [intOf]; omega
    · have hkn : k = D.ns := by omega
      subst hkn
      go_wp2_with fail
      go_loopw [3, 28] (fun out i wr => ∃ (k : Nat) (cs : List Value), k ≤ D.nf ∧ i = .int .i64 k ∧ Hid (wr.ownsRow (w.heap.size + 1) 22 1 out (D.r2 k).length cs) ∧ Hid (RowsAt wr cs (D.r2 k)) ∧ Hid (Below (w.heap.size + 1) (w.alloc (.cells #[.slice o0 D.ns c0, .slice o1 D.nf c1, .slice o2 D.np c2, .slice o3 D.nv c3] 34)) wr)) (fun _ i _ => D.nf - (intOf i).toNat)
      case atStart => exact ⟨0, cs, Nat.zero_le _, rfl, by rw [PD.r2, accL_zero]; exact hown, by rw [PD.r2, accL_zero]; exact hrows, hbel⟩
      case round =>
        obtain ⟨k, cs, hk, rfl, hown, hrows, hbel⟩ := hrel
        have b0 := box_in hbel.out 0 _ rfl
        have b1 := box_in hbel.out 1 _ rfl
        have b2 := box_in hbel.out 2 _ rfl
        have b3 := box_in hbel.out 3 _ rfl
        simp only [List.getElem_toArray, List.getElem_cons_zero, List.getElem_cons_succ] at b0 b1 b2 b3
        have hsz : w.heap.size + 1 ≤ wr.heap.size := by have := hbel.out.size; simpa using this
        have hL : (D.r2 k).length ≤ 52 := by rw [PD.r2_len]; omega
        by_cases hlt : k < D.nf
        · obtain ⟨b, off, rfl, hbB, hcell⟩ := HC1.out k hlt
          have e0 : wr.cell? ⟨b, off + k * 2, none⟩ = some (.string (D.ff k).1) := old_in hbel.out (by omega) (hcell 0 (by omega))
          have e1 : wr.cell? ⟨b, off + k * 2 + 1, none⟩ = some (.string (D.ff k).2) := old_in hbel.out (by omega) (hcell 1 (by omega))
          go_wp2_with (first | (at_builtin; refine wpList_append_own _ rfl _ _ 58 rfl (w.heap.size + 1) 22 i0 (.slice none 0 0) 1 24 underLL hi hz0 hz1 hz2 rfl (by decide) _ _ _ rfl (((hown.out.alloc _).alloc _).alloc _) ⟨wr.heap.size + 1 + 1, 0, none⟩ 1 1 [.slice (some ⟨wr.heap.size + 1, 0, none⟩) 3 3] rfl rfl (one_cell _ _ _ _ (by simp)) (fun x hx => by simp at hx; subst hx; rfl) (by unfold maxLen; omega) (by omega) (by simp; omega) ?_; intro v' w3 hown' hgrow3 hnil3))
          have hR : RowsAt w3 (cs ++ [.slice (some ⟨wr.heap.size + 1, 0, none⟩) 3 3]) (D.r2 (k + 1)) := by
            have := RowsAt.step (hrows.out.below ((((Below.refl wr.heap.size wr).alloc (Nat.le_refl _) _).alloc (by simp) _).alloc (by simp; omega) _)) (((hown.out.alloc _).alloc _).alloc _) (row_new (wr.alloc _) (wr.heap.size + 1) (by simp) (wF (D.ff k)) _) hgrow3
            rw [PD.r2, accL_succ]; exact this
          have hO : w3.ownsRow (w.heap.size + 1) 22 1 v' (D.r2 (k + 1)).length (cs ++ [.slice (some ⟨wr.heap.size + 1, 0, none⟩) 3 3]) := by
            rw [PD.r2, accL_succ, List.length_append]; exact hown'
          have hW3 : Below (w.heap.size + 1) (w.alloc (.cells #[.slice o0 D.ns c0, .slice (some ⟨b, off, none⟩) D.nf c1, .slice o2 D.np c2, .slice o3 D.nv c3] 34)) w3 := (((hbel.out.alloc (by omega) _).alloc (by simp; omega) _).alloc (by simp; omega) _).grown hgrow3 (by simp; omega) (fun q hq => (hown.out.lt q hq).1)
          go_roundw
          case rel => exact ⟨k + 1, _, by omega, by go_num, hO, hR, hW3⟩
          case measure => simp [intOf]; omega
        · have hkn : k = D.nf := by omega
          subst hkn
          go_wp2_with fail
          go_loopw [3, 44] (fun out i wr => ∃ (k : Nat) (cs : List Value), k ≤ D.np ∧ i = .int .i64 k ∧ Hid (wr.ownsRow (w.heap.size + 1) 22 1 out (D.r3 k).length cs) ∧ Hid (RowsAt wr cs (D.r3 k)) ∧ Hid (Below (w.heap.size + 1) (w.alloc (.cells #[.slice o0 D.ns c0, .slice o1 D.nf c1, .slice o2 D.np c2, .slice o3 D.nv c3] 34)) wr)) (fun _ i _ => D.np - (intOf i).toNat)
          case atStart => exact ⟨0, cs, Nat.zero_le _, rfl, by rw [PD.r3, accL_zero]; exact hown, by rw [PD.r3, accL_zero]; exact hrows, hbel⟩
          case round =>
            obtain ⟨k, cs, hk, rfl, hown, hrows, hbel⟩ := hrel
            have b0 := box_in hbel.out 0 _ rfl
            have b1 := box_in hbel.out 1 _ rfl
            have b2 := box_in hbel.out 2 _ rfl
            have b3 := box_in hbel.out 3 _ rfl
            simp only [List.getElem_toArray, List.getElem_cons_zero, List.getElem_cons_succ] at b0 b1 b2 b3
            have hsz : w.heap.size + 1 ≤ wr.heap.size := by have := hbel.out.size; simpa using this
            have hL : (D.r3 k).length ≤ 52 := by rw [PD.r3_len]; omega
            by_cases hlt : k < D.np
            · obtain ⟨b, off, rfl, hbB, hcell⟩ := HC2.out k hlt
              have e0 : wr.cell? ⟨b, off + k * 3, none⟩ = some (.string (D.fp k).1) := old_in hbel.out (by omega) (hcell 0 (by omega))
              have e1 : wr.cell? ⟨b, off + k * 3 + 1, none⟩ = some (.int .i64 (D.fp k).2.1) := old_in hbel.out (by omega) (hcell 1 (by omega))
              have e2 : wr.cell? ⟨b, off + k * 3 + 2, none⟩ = some (.string (D.fp k).2.2) := old_in hbel.out (by omega) (hcell 2 (by omega))
              obtain ⟨_, z1, z2, _⟩ := HN.out.p k hlt
              have hb1 : Hid (Below wr.heap.size wr (wr.alloc (.cells #[.string (D.fp k).1, .int .i64 (D.fp k).2.1, .string (D.fp k).2.2] 46))) := (Below.refl _ _).alloc (Nat.le_refl _) _
              go_wp2_with fail
              refine (line_any (D.fp k) _ z1 z2 ((HT.out.kept (below_end hbel.out)).kept hb1.out)).mono ?_; rintro e w2 ⟨x, rfl, hx, hb2⟩
              have hB2 : Hid (Below wr.heap.size wr w2) := hb1.out.trans (hb2.mono (by simp))
              have hown2 : Hid (w2.ownsRow (w.heap.size + 1) 22 1 _ (D.r3 k).length cs) := own_below hown.out hB2.out
              have hs2 := hB2.out.size
              obtain ⟨bx, rfl, hbx⟩ := hx
              have HX : Hid (RowAt w2 (.slice (some ⟨bx, 0, none⟩) (wP (D.fp k)).length (wP (D.fp k)).length) (wP (D.fp k))) := ⟨bx, rfl, hbx⟩
              clear hbx hb2
              go_wp2_with (first | (at_builtin; refine wpList_append_own _ rfl _ _ 58 rfl (w.heap.size + 1) 22 i0 (.slice none 0 0) 1 24 underLL hi hz0 hz1 hz2 rfl (by decide) _ _ _ rfl (hown2.out.alloc _) ⟨w2.heap.size, 0, none⟩ 1 1 [.slice (some ⟨bx, 0, none⟩) (wP (D.fp k)).length (wP (D.fp k)).length] rfl rfl (one_cell _ _ _ _ (by simp)) (fun x hx => by simp at hx; subst hx; rfl) (by unfold maxLen; omega) (by omega) (by simp; omega) ?_; intro v' w3 hown' hgrow3 hnil3))
              have hR : RowsAt w3 (cs ++ [.slice (some ⟨bx, 0, none⟩) (wP (D.fp k)).length (wP (D.fp k)).length]) (D.r3 (k + 1)) := by
                have := RowsAt.step ((hrows.out.below hB2.out).below ((Below.refl w2.heap.size w2).alloc (Nat.le_refl _) _)) (hown2.out.alloc _) (HX.out.below ((Below.refl w2.heap.size w2).alloc (Nat.le_refl _) _)) hgrow3
                rw [PD.r3, accL_succ]; exact this
              have hO : w3.ownsRow (w.heap.size + 1) 22 1 v' (D.r3 (k + 1)).length (cs ++ [.slice (some ⟨bx, 0, none⟩) (wP (D.fp k)).length (wP (D.fp k)).length]) := by
                rw [PD.r3, accL_succ, List.length_append]; exact hown'
              have hW3 : Below (w.heap.size + 1) (w.alloc (.cells #[.slice o0 D.ns c0, .slice o1 D.nf c1, .slice (some ⟨b, off, none⟩) D.np c2, .slice o3 D.nv c3] 34)) w3 := ((below_of hbel.out hB2.out).alloc (by omega) _).grown hgrow3 (by simp; omega) (fun q hq => (hown.out.lt q hq).1)
              go_roundw
              case rel => exact ⟨k + 1, _, by omega, by go_num, hO, hR, hW3⟩
              case measure => simp [intOf]; omega
            · have hkn : k = D.np := by omega
              subst hkn
              go_wp2_with fail
              go_loopw [3, 57] (fun out i wr => ∃ (k : Nat) (cs : List Value), k ≤ D.nv ∧ i = .int .i64 k ∧ Hid (wr.ownsRow (w.heap.size + 1) 22 1 out (D.r4 k).length cs) ∧ Hid (RowsAt wr cs (D.r4 k)) ∧ Hid (Below (w.heap.size + 1) (w.alloc (.cells #[.slice o0 D.ns c0, .slice o1 D.nf c1, .slice o2 D.np c2, .slice o3 D.nv c3] 34)) wr)) (fun _ i _ => D.nv - (intOf i).toNat)
              case atStart => exact ⟨0, cs, Nat.zero_le _, rfl, by rw [PD.r4, accL_zero]; exact hown, by rw [PD.r4, accL_zero]; exact hrows, hbel⟩
              case round =>
                obtain ⟨k, cs, hk, rfl, hown, hrows, hbel⟩ := hrel
                have b0 := box_in hbel.out 0 _ rfl
                have b1 := box_in hbel.out 1 _ rfl
                have b2 := box_in hbel.out 2 _ rfl
                have b3 := box_in hbel.out 3 _ rfl
                simp only [List.getElem_toArray, List.getElem_cons_zero, List.getElem_cons_succ] at b0 b1 b2 b3
                have hsz : w.heap.size + 1 ≤ wr.heap.size := by have := hbel.out.size; simpa using this
                have hL : (D.r4 k).length ≤ 52 := by rw [PD.r4_len]; omega
                by_cases hlt : k < D.nv
                · obtain ⟨b, off, rfl, hbB, hcell⟩ := HC3.out k hlt
                  have e0 : wr.cell? ⟨b, off + k * 4, none⟩ = some (.string (D.fv k).1) := old_in hbel.out (by omega) (hcell 0 (by omega))
                  have e1 : wr.cell? ⟨b, off + k * 4 + 1, none⟩ = some (.string (D.fv k).2.1) := old_in hbel.out (by omega) (hcell 1 (by omega))
                  have e2 : wr.cell? ⟨b, off + k * 4 + 2, none⟩ = some (.string (D.fv k).2.2.1) := old_in hbel.out (by omega) (hcell 2 (by omega))
                  have e3 : wr.cell? ⟨b, off + k * 4 + 3, none⟩ = some (.string (D.fv k).2.2.2) := old_in hbel.out (by omega) (hcell 3 (by omega))
                  go_wp2_with (first | (at_builtin; refine wpList_append_own _ rfl _ _ 58 rfl (w.heap.size + 1) 22 i0 (.slice none 0 0) 1 24 underLL hi hz0 hz1 hz2 rfl (by decide) _ _ _ rfl (((hown.out.alloc _).alloc _).alloc _) ⟨wr.heap.size + 1 + 1, 0, none⟩ 1 1 [.slice (some ⟨wr.heap.size + 1, 0, none⟩) 5 5] rfl rfl (one_cell _ _ _ _ (by simp)) (fun x hx => by simp at hx; subst hx; rfl) (by unfold maxLen; omega) (by omega) (by simp; omega) ?_; intro v' w3 hown' hgrow3 hnil3))
                  have hR : RowsAt w3 (cs ++ [.slice (some ⟨wr.heap.size + 1, 0, none⟩) 5 5]) (D.r4 (k + 1)) := by
                    have := RowsAt.step (hrows.out.below ((((Below.refl wr.heap.size wr).alloc (Nat.le_refl _) _).alloc (by simp) _).alloc (by simp; omega) _)) (((hown.out.alloc _).alloc _).alloc _) (row_new (wr.alloc _) (wr.heap.size + 1) (by simp) (wV (D.fv k)) _) hgrow3
                    rw [PD.r4, accL_succ]; exact this
                  have hO : w3.ownsRow (w.heap.size + 1) 22 1 v' (D.r4 (k + 1)).length (cs ++ [.slice (some ⟨wr.heap.size + 1, 0, none⟩) 5 5]) := by
                    rw [PD.r4, accL_succ, List.length_append]; exact hown'
                  have hW3 : Below (w.heap.size + 1) (w.alloc (.cells #[.slice o0 D.ns c0, .slice o1 D.nf c1, .slice o2 D.np c2, .slice (some ⟨b, off, none⟩) D.nv c3] 34)) w3 := (((hbel.out.alloc (by omega) _).alloc (by simp; omega) _).alloc (by simp; omega) _).grown hgrow3 (by simp; omega) (fun q hq => (hown.out.lt q hq).1)
                  go_roundw
                  case rel => exact ⟨k + 1, _, by omega, by go_num, hO, hR, hW3⟩
                  case measure => simp [intOf]; omega
                · have hkn : k = D.nv := by omega
                  subst hkn
                  go_wp2_with fail
                  go_ret
                  exact ⟨_, cs, rfl, hown.out, hrows.out, below_end hbel.out⟩

end Go.Proofs.YtbdhlcfcmennjabDoor
