/-
  The contract of the drawing of amounts and how much of them: whatever the code, few amounts, small ones, in memory of the call's own.
-/
import Derived.Test.YtkmgogfgdpldbabDb
import Derived.Test.YtkmgogfgdpldbabHj
namespace Go.Proofs.Ytkmgogfgdpldbab
open Go.RowKit

/-- Amounts as they are drawn. -/
def Drawn (A : List Int) : Prop := A.length ≤ 20 ∧ ∀ x ∈ A, -1 ≤ x ∧ x ≤ 1001
theorem Drawn.push {A : List Int} {x : Int} (h : Drawn A) (hl : A.length + 1 ≤ 20) (hx : -1 ≤ x ∧ x ≤ 1001) : Drawn (A ++ [x]) :=
  ⟨by rw [List.length_append]; exact hl, fun y hy => by
    rcases List.mem_append.1 hy with hy | hy
    · exact h.2 y hy
    · rw [List.mem_singleton.1 hy]; exact hx⟩
/-- The reader and the amounts so far. -/
structure Dw (w0 w : World) (ob : Option Addr) (n cb : Nat) (p : Int) (f : Nat → Int) (v : Value) (A : List Int) : Prop where
  kp : Kp w0.heap.size w0 w ob n cb p f
  oi : OI w (w0.heap.size + 1) v A
  dr : Drawn A
theorem Dw.alloc {w0 w : World} {ob : Option Addr} {n cb : Nat} {p : Int} {f : Nat → Int} {v : Value} {A : List Int} (h : Dw w0 w ob n cb p f v A) (o : Obj) : Dw w0 (w.alloc o) ob n cb p f v A :=
  ⟨h.kp.alloc o, h.oi.alloc o, h.dr⟩
theorem Dw.drew {w0 w : World} {ob : Option Addr} {n cb : Nat} {p : Int} {f : Nat → Int} {v : Value} {A : List Int} (h : Dw w0 w ob n cb p f v A) : Dw w0 w.drew ob n cb p f v A :=
  ⟨⟨⟨h.kp.rd.at_, h.kp.rd.le, h.kp.rd.p0, h.kp.rd.p1, h.kp.rd.fb, h.kp.rd.ce⟩, h.kp.bel.drew⟩, h.oi.drew, h.dr⟩
theorem Dw.next {w0 w w' : World} {ob : Option Addr} {n cb : Nat} {p q : Int} {f : Nat → Int} {v : Value} {A : List Int} (h : Dw w0 w ob n cb p f v A) (hk : Kp w0.heap.size w0 w' ob n cb q f) (ho : ∀ b, b ≠ w0.heap.size → w'.heap[b]? = w.heap[b]?) : Dw w0 w' ob n cb q f v A :=
  ⟨hk, oi_keep h.oi (fun k hk => ho k (by have := (h.oi.lt k hk).1; omega)), h.dr⟩
theorem Dw.push {w0 w w' : World} {ob : Option Addr} {n cb : Nat} {p : Int} {f : Nat → Int} {v v' : Value} {A : List Int} {x : Int} (h : Dw w0 w ob n cb p f v A) (hown : w'.ownsRow (w0.heap.size + 1) 3 1 v' (A.length + 1) (A.map (Value.int .i64) ++ [.int .i64 x])) (hg : w.grownBy w' v.ownBlock) (hl : A.length + 1 ≤ 20) (hx : -1 ≤ x ∧ x ≤ 1001) : Dw w0 w' ob n cb p f v' (A ++ [x]) :=
  ⟨h.kp.grown hg (fun k hk => (h.oi.lt k hk).1), oi_push hown, h.dr.push hl hx⟩
theorem Dw.le {w0 w : World} {ob : Option Addr} {n cb : Nat} {p : Int} {f : Nat → Int} {v : Value} {A : List Int} (h : Dw w0 w ob n cb p f v A) : w0.heap.size + 1 ≤ w.heap.size := h.kp.lt

theorem pick_dw (w0 w : World) (ob : Option Addr) (n cb : Nat) (p m : Int) (f : Nat → Int) (v : Value) (A : List Int) (h : Dw w0 w ob n cb p f v A) (hp : p ≤ 200) (hm : 1 ≤ m) (hm2 : m ≤ 1000) :
    Calls Try.prog 14 #[.pointer (some ⟨w0.heap.size, 0, none⟩), .int .i64 m] w fun e w' => ∃ x, e = .returned (.int .i64 x) ∧ 0 ≤ x ∧ x < m ∧ Hid (Dw w0 w' ob n cb (p + 1) f v A) ∧ Hid (∀ b, b ≠ w0.heap.size → w'.heap[b]? = w.heap[b]?) ∧ w'.heap.size = w.heap.size := by
  refine (pick_kp _ w0 w ob n cb p m f h.kp hp hm hm2).mono ?_
  rintro e w' ⟨x, rfl, h0, h1, hk, ho, hs⟩
  exact ⟨x, rfl, h0, h1, h.next hk.out ho.out, ho, hs⟩

/-- How long a list is. -/
def lenV : Value → Nat
  | .slice _ n _ => n
  | _ => 0
theorem oi_form {w : World} {B : Nat} {v : Value} {l : List Int} (h : OI w B v l) : ∃ o c, v = .slice o l.length c := by
  rcases h.2 with ⟨e, hn⟩ | ⟨g, cap, cur, e, _⟩
  · exact ⟨none, 0, by rw [e, hn]⟩
  · exact ⟨_, _, e⟩
theorem oi_len {w : World} {B : Nat} {v : Value} {l : List Int} (h : OI w B v l) : lenV v = l.length := by
  obtain ⟨o, c, rfl⟩ := oi_form h; rfl

set_option maxRecDepth 100000 in
set_option maxHeartbeats 8000000 in
theorem drawS_any (ob : Option Addr) (n cb : Nat) (f : Nat → Int) (w : World) (hn : n ≤ maxLen) (hnc : n ≤ cb) (fb : ∀ i, 0 ≤ f i ∧ f i ≤ 255)
    (ce : ∀ i, i < n → ∃ b off, ob = some ⟨b, off, none⟩ ∧ b < w.heap.size ∧ w.cell? ⟨b, off + i, none⟩ = some (.int .u8 (f i))) :
    Calls Try.prog 5 #[.slice ob n cb] w fun e w' => ∃ r A N, e = .returned (.tuple #[r, .int .i64 N]) ∧ OI w' w.heap.size r A ∧ Drawn A ∧ -1 ≤ N ∧ N ≤ 1000 ∧ Below w.heap.size w w' := by
  obtain ⟨i0, hi0, hz0, hz1, hz2⟩ := info_parts infoN'
  have HOP : Hid (1 ≤ n → ∃ a, ob = some a) := fun h => by obtain ⟨b, off, h1, _⟩ := ce 0 (by omega); exact ⟨_, h1⟩
  have HFB : Hid _ := fb
  have HCE : Hid _ := ce
  clear ce fb
  have FIN : Hid (∀ (W : World) (m : Nat) (p : Int) (v : Value) (A : List Int), Dw w W ob m cb p f v A → OI W w.heap.size v A ∧ Below w.heap.size w W) := fun W m p v A h => ⟨by
    refine ⟨h.oi.1, ?_⟩
    rcases h.oi.2 with hn | ⟨g, cap, cur, hv, hb, rest⟩
    · exact Or.inl hn
    · exact Or.inr ⟨g, cap, cur, hv, by omega, rest⟩, h.kp.bel⟩
  go_enter Try.func5, Try.ntmps5
  go_wp2_with fail
  refine (open_any ob n cb w hn hnc HOP.out).mono ?_
  rintro e w1 ⟨n', hn1, hn2, rfl, rfl⟩
  have hrd : Rd w.heap.size (w.alloc (.cells #[.slice ob n' cb, .int .i64 0] 48)) ob n' cb 0 f := by
    refine ⟨heap_alloc_new w _, hn1, by omega, by omega, HFB.out, fun i hi => ?_⟩
    obtain ⟨b, off, h1, h2, h3⟩ := HCE.out i (by omega)
    exact ⟨b, off, h1, h2, (World.cell?_of_block (w := w) (a := ⟨b, off + i, none⟩) (Below.heap_alloc w _ b h2)).trans h3⟩
  have hb1 : Below w.heap.size w (w.alloc (.cells #[.slice ob n' cb, .int .i64 0] 48)) := (Below.refl _ _).alloc (Nat.le_refl _) _
  have K0 : Kp w.heap.size w (w.alloc (.cells #[.slice ob n' cb, .int .i64 0] 48)) ob n' cb 0 f := ⟨hrd, hb1⟩
  have D0 : Hid (Dw w ((w.alloc (.cells #[.slice ob n' cb, .int .i64 0] 48)).alloc (.cells #[] 3)) ob n' cb 0 f (.slice (some ⟨w.heap.size + 1, 0, none⟩) 0 0) []) := by
    refine ⟨K0.alloc _, ?_, by simp, by simp⟩
    have := World.ownsRow_made (e := 3) (size := 1) (base := w.heap.size + 1) (w.alloc (.cells #[.slice ob n' cb, .int .i64 0] 48)) #[] 0 (by simp) (Nat.zero_le _) rfl
    simp at this
    exact this
  clear hrd hb1 K0 hn2 hn hnc
  go_wp2_with fail
  refine (pick_dw w _ ob n' cb 0 7 f _ [] D0.out (by omega) (by omega) (by omega)).mono ?_
  rintro e w4 ⟨x, rfl, hx0, hx1, D1, h4, z4⟩
  clear h4 z4
  obtain ⟨k0, rfl⟩ := Int.eq_ofNat_of_zero_le hx0
  clear D0
  go_wp2_with fail
  go_loopw [5, 6, 7] (fun o s c wr => ∃ (k : Nat) (A : List Int) (p sm : Int), c = .int .i64 k ∧ k ≤ 6 ∧ s = .int .i64 sm ∧ 0 ≤ sm ∧ sm + 22 * k ≤ 132 ∧ A.length + k ≤ 6 ∧ p + 2 * k ≤ 100 ∧ Hid (Dw w wr ob n' cb p f o A)) (fun _ _ c _ => (intOf c).toNat)
  case atStart => exact ⟨k0, [], 0 + 1, 0, rfl, by omega, rfl, by omega, by omega, by simp; omega, by omega, D1⟩
  case round =>
    clear D1
    obtain ⟨k, A, p, sm, rfl, hk, rfl, hs0, hs1, hAl, hp, DR⟩ := hrel
    by_cases hpos : 0 < k
    · go_wp2_with fail
      refine (pick_dw w _ ob n' cb p 12 f _ A DR.out (by omega) (by omega) (by omega)).mono ?_
      rintro e w5 ⟨x, rfl, hx0, hx1, D5, h5, z5⟩
      clear h5 z5
      go_wp2_with fail
      refine (pick_dw w _ ob n' cb (p + 1) 3 f _ A D5.out (by omega) (by omega) (by omega)).mono ?_
      rintro e w6 ⟨y, rfl, hy0, hy1, D6, h6, z6⟩
      clear h6 z6
      have hxy0 : 0 ≤ x * y := Int.mul_nonneg hx0 hy0
      have hxy1 : x * y ≤ 11 * 2 := Int.mul_le_mul (by omega) (by omega) hy0 (by omega)
      have hsz := D6.out.le
      clear D5 DR
      go_wp2_with (first
        | (at_builtin; refine wpList_append_own_at _ rfl _ _ 23 rfl (w.heap.size + 1) 3 i0 (.int .i64 0) 1 8 underN' hi0 hz0 hz1 hz2 rfl (by decide) _ _ _ rfl (D6.out.oi.alloc _) ⟨w6.heap.size, 0, none⟩ 1 1 [.int .i64 (x * y)] rfl rfl (cell_one_new _ _ _) (fun x hx => by simp at hx; subst hx; rfl) (by unfold maxLen; omega) (by omega) (by first | omega | (simp; omega)) ?_; intro v7 w7 hown7 hgrow7 hnil7 hat7))
      have D7 : Hid (Dw w w7 ob n' cb (p + 1 + 1) f v7 (A ++ [x * y])) := (D6.out.alloc _).push hown7 hgrow7 (by omega) ⟨by omega, by omega⟩
      clear hown7 hgrow7 hnil7 hat7 D6
      go_roundw
      case rel =>
        have RR : ∃ (k' : Nat) (A' : List Int) (p' sm' : Int), Value.int .i64 ((k : Int) - 1) = .int .i64 (k' : Int) ∧ k' ≤ 6 ∧ Value.int .i64 (sm + x * y) = .int .i64 sm' ∧ 0 ≤ sm' ∧ sm' + 22 * k' ≤ 132 ∧ A'.length + k' ≤ 6 ∧ p' + 2 * k' ≤ 100 ∧ Hid (Dw w w7 ob n' cb p' f v7 A') :=
          ⟨k - 1, A ++ [x * y], p + 1 + 1, sm + x * y, dec_k hpos, by omega, rfl, by omega, by omega, by rw [List.length_append]; simp; omega, by omega, D7⟩
        first
          | exact RR
          | ((repeat apply Exists.intro); exact ⟨RR, rfl⟩)
      case measure => simp [intOf]; omega
    · have hk0 : k = 0 := by omega
      subst hk0
      go_wp2_with fail
      refine (pick_dw w _ ob n' cb p 16 f _ A DR.out (by omega) (by omega) (by omega)).mono ?_
      rintro e w5 ⟨x, rfl, hx0, hx1, D5, h5, z5⟩
      clear DR h5 z5
      by_cases e0 : x = 0
      · subst e0
        go_wp2_with fail
        refine (pick_dw w _ ob n' cb (p + 1) 3 f _ A (D5.out.alloc _) (by omega) (by omega) (by omega)).mono ?_
        rintro e w6 ⟨y, rfl, hy0, hy1, D6, h6, z6⟩
        have L6 : Hid (w6.heap[w5.heap.size]? = some (.cells #[.int .i64 (-1), .int .i64 1000, .int .i64 1001] 3 (0, 0))) := (h6.out _ (by have := D5.out.le; omega)).trans (heap_alloc_new w5 _)
        have hsz := D6.out.le
        clear h6 z6 D5
        rcases (show y = 0 ∨ y = 1 ∨ y = 2 by omega) with rfl | rfl | rfl
        · have cy : w6.cell? ⟨w5.heap.size, 0, none⟩ = some (.int .i64 (-1)) := (cell_row L6.out 0 _ rfl).1
          go_wp2_with (first
            | (at_builtin; refine wpList_append_own_at _ rfl _ _ 23 rfl (w.heap.size + 1) 3 i0 (.int .i64 0) 1 8 underN' hi0 hz0 hz1 hz2 rfl (by decide) _ _ _ rfl (D6.out.oi.alloc _) ⟨w6.heap.size, 0, none⟩ 1 1 [.int .i64 (-1)] rfl rfl (cell_one_new _ _ _) (fun x hx => by simp at hx; subst hx; rfl) (by unfold maxLen; omega) (by omega) (by first | omega | (simp; omega)) ?_; intro v8 w8 hown8 hgrow8 hnil8 hat8)
            | (go_at_call 14; have D8 : Hid (Dw w w8 ob n' cb (p + 1 + 1) f v8 (A ++ [-1])) := (D6.out.alloc _).push hown8 hgrow8 (by omega) ⟨by omega, by omega⟩; refine (pick_dw w _ ob n' cb (p + 1 + 1) (sm + 1) f _ (A ++ [-1]) D8.out (by omega) (by omega) (by omega)).mono ?_; rintro e wl ⟨yl, rfl, hl0, hl1, DL, hl, zl⟩; clear hl zl))
          have HF := FIN.out _ _ _ _ _ DL.out
          go_ret2
          exact ⟨_, _, yl, rfl, HF.1, DL.out.dr, by omega, by omega, HF.2⟩
        · have cy : w6.cell? ⟨w5.heap.size, 1, none⟩ = some (.int .i64 (1000)) := (cell_row L6.out 1 _ rfl).1
          go_wp2_with (first
            | (at_builtin; refine wpList_append_own_at _ rfl _ _ 23 rfl (w.heap.size + 1) 3 i0 (.int .i64 0) 1 8 underN' hi0 hz0 hz1 hz2 rfl (by decide) _ _ _ rfl (D6.out.oi.alloc _) ⟨w6.heap.size, 0, none⟩ 1 1 [.int .i64 (1000)] rfl rfl (cell_one_new _ _ _) (fun x hx => by simp at hx; subst hx; rfl) (by unfold maxLen; omega) (by omega) (by first | omega | (simp; omega)) ?_; intro v8 w8 hown8 hgrow8 hnil8 hat8)
            | (go_at_call 14; have D8 : Hid (Dw w w8 ob n' cb (p + 1 + 1) f v8 (A ++ [1000])) := (D6.out.alloc _).push hown8 hgrow8 (by omega) ⟨by omega, by omega⟩; refine (pick_dw w _ ob n' cb (p + 1 + 1) (sm + 1) f _ (A ++ [1000]) D8.out (by omega) (by omega) (by omega)).mono ?_; rintro e wl ⟨yl, rfl, hl0, hl1, DL, hl, zl⟩; clear hl zl))
          have HF := FIN.out _ _ _ _ _ DL.out
          go_ret2
          exact ⟨_, _, yl, rfl, HF.1, DL.out.dr, by omega, by omega, HF.2⟩
        · have cy : w6.cell? ⟨w5.heap.size, 2, none⟩ = some (.int .i64 (1001)) := (cell_row L6.out 2 _ rfl).1
          go_wp2_with (first
            | (at_builtin; refine wpList_append_own_at _ rfl _ _ 23 rfl (w.heap.size + 1) 3 i0 (.int .i64 0) 1 8 underN' hi0 hz0 hz1 hz2 rfl (by decide) _ _ _ rfl (D6.out.oi.alloc _) ⟨w6.heap.size, 0, none⟩ 1 1 [.int .i64 (1001)] rfl rfl (cell_one_new _ _ _) (fun x hx => by simp at hx; subst hx; rfl) (by unfold maxLen; omega) (by omega) (by first | omega | (simp; omega)) ?_; intro v8 w8 hown8 hgrow8 hnil8 hat8)
            | (go_at_call 14; have D8 : Hid (Dw w w8 ob n' cb (p + 1 + 1) f v8 (A ++ [1001])) := (D6.out.alloc _).push hown8 hgrow8 (by omega) ⟨by omega, by omega⟩; refine (pick_dw w _ ob n' cb (p + 1 + 1) (sm + 1) f _ (A ++ [1001]) D8.out (by omega) (by omega) (by omega)).mono ?_; rintro e wl ⟨yl, rfl, hl0, hl1, DL, hl, zl⟩; clear hl zl))
          have HF := FIN.out _ _ _ _ _ DL.out
          go_ret2
          exact ⟨_, _, yl, rfl, HF.1, DL.out.dr, by omega, by omega, HF.2⟩
      · have n0 : (x == 0) = false := by simp [e0]
        by_cases e1 : x = 1
        · subst e1
          go_wp2_with fail
          refine (pick_dw w _ ob n' cb (p + 1) 2 f _ A D5.out (by omega) (by omega) (by omega)).mono ?_
          rintro e w6 ⟨y, rfl, hy0, hy1, D6, h6, z6⟩
          clear h6 z6 D5
          go_wp2_with fail
          go_loopw [5] (fun o wr => ∃ A' : List Int, A'.length ≤ 17 ∧ Hid (Dw w wr ob n' cb (p + 1 + 1) f o A')) (fun o _ => 17 - lenV o)
          case atStart => exact ⟨A, by omega, D6⟩
          case round =>
            clear D6
            rename_i wr0
            obtain ⟨A', hA', DW⟩ := hrel
            obtain ⟨oo, co, eo⟩ := oi_form DW.out.oi
            subst eo
            have hsz := DW.out.le
            by_cases hlt : (A'.length : Int) < 16 + y
            · have dlt : decide ((A'.length : Int) < 16 + y) = true := decide_eq_true hlt
              go_wp2_with (first
                | (at_builtin; refine wpList_append_own_at _ rfl _ _ 23 rfl (w.heap.size + 1) 3 i0 (.int .i64 0) 1 8 underN' hi0 hz0 hz1 hz2 rfl (by decide) _ _ _ rfl (DW.out.oi.alloc _) ⟨wr.heap.size, 0, none⟩ 1 1 [.int .i64 (1)] rfl rfl (cell_one_new _ _ _) (fun x hx => by simp at hx; subst hx; rfl) (by unfold maxLen; omega) (by omega) (by first | omega | (simp; omega)) ?_; intro v8 w8 hown8 hgrow8 hnil8 hat8))
              have D8 : Hid (Dw w w8 ob n' cb (p + 1 + 1) f v8 (A' ++ [1])) := (DW.out.alloc _).push hown8 hgrow8 (by omega) ⟨by omega, by omega⟩
              have hl8 : lenV v8 = A'.length + 1 := by rw [oi_len D8.out.oi]; simp
              clear hown8 hgrow8 hnil8 hat8
              go_roundw
              case rel => exact ⟨A' ++ [1], by rw [List.length_append]; simp; omega, D8⟩
              case measure => rw [hl8]; simp only [lenV]; omega
            · have dlt : decide ((A'.length : Int) < 16 + y) = false := decide_eq_false hlt
              go_wp2_with fail
              refine (pick_dw w _ ob n' cb (p + 1 + 1) (sm + 1) f _ A' DW.out (by omega) (by omega) (by omega)).mono ?_
              rintro e wl ⟨yl, rfl, hl0, hl1, DL, hl, zl⟩
              clear hl zl
              have HF := FIN.out _ _ _ _ _ DL.out
              go_wp2_with fail
              go_ret2
              exact ⟨_, _, yl, rfl, HF.1, DL.out.dr, by omega, by omega, HF.2⟩
        · have n1 : (x == 1) = false := by simp [e1]
          by_cases e2 : x = 2
          · subst e2
            go_wp2_with fail
            refine wp_region_moves 10 [0, 1, 2, 5] (by kernel_rfl) (by kernel_rfl) ?_
            simp only [List.filterMap_cons, List.filterMap_nil, List.getElem?_cons_succ, List.getElem?_cons_zero, mvs, mvOf, Act.put]
            refine takeH (f := 5) (i := 3) (.int .i64 (sm + 1)) rfl (by kernel_rfl) rfl ?run3 ?_
            case run3 =>
              intro W
              go_simp
              exact wrap_i64 _ (by omega) (by omega)
            refine twoH (f := 4) 4 6 (by kernel_rfl) ⟨by decide, by decide⟩ ?brA ?brB
            case brA =>
              refine stepH_value (.slice (some ⟨w5.heap.size, 0, none⟩) 3 3) (w5.drew.alloc (.cells #[.int .i64 (-1), .int .i64 sm, .int .i64 (sm + 1)] 3)) rfl rfl ?run4 ⟨trivial, ?_⟩
              case run4 => go_simp
              refine callH (f := 3) (i := 6) ⟨rfl, by decide⟩ (by kernel_rfl) rfl ?run6 ((pick_dw w (w5.drew.alloc (.cells #[.int .i64 (-1), .int .i64 sm, .int .i64 (sm + 1)] 3)) ob n' cb (p + 1) 3 f _ A (D5.out.drew.alloc _) (by omega) (by omega) (by omega)).mono ?_)
              case run6 => go_simp
              rintro e w6 ⟨y, rfl, hy0, hy1, DL, h6, z6⟩
              have L6 : Hid (w6.heap[w5.heap.size]? = some (.cells #[.int .i64 (-1), .int .i64 sm, .int .i64 (sm + 1)] 3 (0, 0))) := (h6.out _ (by have := D5.out.le; omega)).trans (heap_alloc_new w5.drew _)
              clear h6 z6
              have HF := FIN.out _ _ _ _ _ DL.out
              refine ⟨_, rfl, trivial, ?_⟩
              refine takeH (f := 2) (i := 9) u5 rfl (by kernel_rfl) rfl ?run9 ?_
              case run9 => intro W; go_simp
              rcases (show y = 0 ∨ y = 1 ∨ y = 2 by omega) with rfl | rfl | rfl
              · have cy : w6.cell? ⟨w5.heap.size, 0, none⟩ = some (.int .i64 (-1)) := (cell_row L6.out 0 _ rfl).1
                refine oneH (f := 1) (i := 7) (.pointer (some ⟨w5.heap.size, 0, none⟩)) (w6) ⟨rfl, by decide⟩ (by kernel_rfl) rfl ?run7 trivial ?_
                case run7 => go_simp
                refine oneH (f := 0) (i := 8) (.int .i64 (-1)) (w6) ⟨rfl, by decide⟩ (by kernel_rfl) rfl ?run8 trivial ?_
                case run8 => go_simp
                refine ⟨by kernel_rfl, ?_⟩
                simp only [List.drop_succ_cons, List.drop_zero, Act.put, List.setIfInBounds_toArray]
                go_wp2_with fail
                go_ret2
                exact ⟨_, _, -1, rfl, HF.1, DL.out.dr, by omega, by omega, HF.2⟩
              · have cy : w6.cell? ⟨w5.heap.size, 1, none⟩ = some (.int .i64 (sm)) := (cell_row L6.out 1 _ rfl).1
                refine oneH (f := 1) (i := 7) (.pointer (some ⟨w5.heap.size, 1, none⟩)) (w6) ⟨rfl, by decide⟩ (by kernel_rfl) rfl ?run7 trivial ?_
                case run7 => go_simp
                refine oneH (f := 0) (i := 8) (.int .i64 (sm)) (w6) ⟨rfl, by decide⟩ (by kernel_rfl) rfl ?run8 trivial ?_
                case run8 => go_simp
                refine ⟨by kernel_rfl, ?_⟩
                simp only [List.drop_succ_cons, List.drop_zero, Act.put, List.setIfInBounds_toArray]
                go_wp2_with fail
                go_ret2
                exact ⟨_, _, sm, rfl, HF.1, DL.out.dr, by omega, by omega, HF.2⟩
              · have cy : w6.cell? ⟨w5.heap.size, 2, none⟩ = some (.int .i64 (sm + 1)) := (cell_row L6.out 2 _ rfl).1
                refine oneH (f := 1) (i := 7) (.pointer (some ⟨w5.heap.size, 2, none⟩)) (w6) ⟨rfl, by decide⟩ (by kernel_rfl) rfl ?run7 trivial ?_
                case run7 => go_simp
                refine oneH (f := 0) (i := 8) (.int .i64 (sm + 1)) (w6) ⟨rfl, by decide⟩ (by kernel_rfl) rfl ?run8 trivial ?_
                case run8 => go_simp
                refine ⟨by kernel_rfl, ?_⟩
                simp only [List.drop_succ_cons, List.drop_zero, Act.put, List.setIfInBounds_toArray]
                go_wp2_with fail
                go_ret2
                exact ⟨_, _, sm + 1, rfl, HF.1, DL.out.dr, by omega, by omega, HF.2⟩
            case brB =>
              refine stepH_call rfl rfl ?run6 ((pick_dw w w5.drew ob n' cb (p + 1) 3 f _ A D5.out.drew (by omega) (by omega) (by omega)).mono ?_)
              case run6 => go_simp
              rintro e w6 ⟨y, rfl, hy0, hy1, D6, h6, z6⟩
              clear h6 z6
              have DL : Hid (Dw w (w6.alloc (.cells #[.int .i64 (-1), .int .i64 sm, .int .i64 (sm + 1)] 3)) ob n' cb (p + 1 + 1) f _ A) := D6.out.alloc _
              have L6 : Hid ((w6.alloc (.cells #[.int .i64 (-1), .int .i64 sm, .int .i64 (sm + 1)] 3)).heap[w6.heap.size]? = some (.cells #[.int .i64 (-1), .int .i64 sm, .int .i64 (sm + 1)] 3 (0, 0))) := heap_alloc_new w6 _
              have HF := FIN.out _ _ _ _ _ DL.out
              refine ⟨_, rfl, trivial, ?_⟩
              refine takeH (f := 3) (i := 9) u5 rfl (by kernel_rfl) rfl ?run9 ?_
              case run9 => intro W; go_simp
              refine oneH (f := 2) (i := 4) (.slice (some ⟨w6.heap.size, 0, none⟩) 3 3) (w6.alloc (.cells #[.int .i64 (-1), .int .i64 sm, .int .i64 (sm + 1)] 3)) ⟨rfl, by decide⟩ (by kernel_rfl) rfl ?run4 trivial ?_
              case run4 => go_simp
              generalize w6.alloc (.cells #[.int .i64 (-1), .int .i64 sm, .int .i64 (sm + 1)] 3) = w8 at DL L6 HF ⊢
              rcases (show y = 0 ∨ y = 1 ∨ y = 2 by omega) with rfl | rfl | rfl
              · have cy : w8.cell? ⟨w6.heap.size, 0, none⟩ = some (.int .i64 (-1)) := (cell_row L6.out 0 _ rfl).1
                refine oneH (f := 1) (i := 7) (.pointer (some ⟨w6.heap.size, 0, none⟩)) (w8) ⟨rfl, by decide⟩ (by kernel_rfl) rfl ?run7 trivial ?_
                case run7 => go_simp
                refine oneH (f := 0) (i := 8) (.int .i64 (-1)) (w8) ⟨rfl, by decide⟩ (by kernel_rfl) rfl ?run8 trivial ?_
                case run8 => go_simp
                refine ⟨by kernel_rfl, ?_⟩
                simp only [List.drop_succ_cons, List.drop_zero, Act.put, List.setIfInBounds_toArray]
                go_wp2_with fail
                go_ret2
                exact ⟨_, _, -1, rfl, HF.1, DL.out.dr, by omega, by omega, HF.2⟩
              · have cy : w8.cell? ⟨w6.heap.size, 1, none⟩ = some (.int .i64 (sm)) := (cell_row L6.out 1 _ rfl).1
                refine oneH (f := 1) (i := 7) (.pointer (some ⟨w6.heap.size, 1, none⟩)) (w8) ⟨rfl, by decide⟩ (by kernel_rfl) rfl ?run7 trivial ?_
                case run7 => go_simp
                refine oneH (f := 0) (i := 8) (.int .i64 (sm)) (w8) ⟨rfl, by decide⟩ (by kernel_rfl) rfl ?run8 trivial ?_
                case run8 => go_simp
                refine ⟨by kernel_rfl, ?_⟩
                simp only [List.drop_succ_cons, List.drop_zero, Act.put, List.setIfInBounds_toArray]
                go_wp2_with fail
                go_ret2
                exact ⟨_, _, sm, rfl, HF.1, DL.out.dr, by omega, by omega, HF.2⟩
              · have cy : w8.cell? ⟨w6.heap.size, 2, none⟩ = some (.int .i64 (sm + 1)) := (cell_row L6.out 2 _ rfl).1
                refine oneH (f := 1) (i := 7) (.pointer (some ⟨w6.heap.size, 2, none⟩)) (w8) ⟨rfl, by decide⟩ (by kernel_rfl) rfl ?run7 trivial ?_
                case run7 => go_simp
                refine oneH (f := 0) (i := 8) (.int .i64 (sm + 1)) (w8) ⟨rfl, by decide⟩ (by kernel_rfl) rfl ?run8 trivial ?_
                case run8 => go_simp
                refine ⟨by kernel_rfl, ?_⟩
                simp only [List.drop_succ_cons, List.drop_zero, Act.put, List.setIfInBounds_toArray]
                go_wp2_with fail
                go_ret2
                exact ⟨_, _, sm + 1, rfl, HF.1, DL.out.dr, by omega, by omega, HF.2⟩
          · have n2 : (x == 2) = false := by simp [e2]
            go_wp2_with fail
            refine (pick_dw w _ ob n' cb (p + 1) (sm + 1) f _ (A) D5.out (by omega) (by omega) (by omega)).mono ?_
            rintro e wl ⟨yl, rfl, hl0, hl1, DL, hl, zl⟩
            clear hl zl
            have HF := FIN.out _ _ _ _ _ DL.out
            go_wp2_with fail
            go_ret2
            exact ⟨_, _, yl, rfl, HF.1, DL.out.dr, by omega, by omega, HF.2⟩

end Go.Proofs.Ytkmgogfgdpldbab
