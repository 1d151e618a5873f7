/-
  A contract of the model's CtlPlaceAsks.
-/
import Derived.Test.YtndacfockllehaaGreatM37
import Derived.Test.YtndacfockllehaaGreatM33
import Derived.Test.YtndacfockllehaaGreatM34
import Derived.Deep.Cut
namespace Go.Proofs.YtndacfockllehaaGreat
open Go.RowKit

/-- What is asked of stations to clean places, or for a permit to work on them. -/
def PaIs (D : PD) (num kind : Int) (l : List ByteArray) (q : List DCtlAsk) : Prop := (D.V ∧ itsP D l ∧ (kind = 2 ∨ kind = 3) → q = askL D (atD D num kind l) (stL true D)) ∧ (¬ (D.V ∧ itsP D l ∧ (kind = 2 ∨ kind = 3)) → q = [])
theorem rows_ne {w : World} {base e size k base' e' size' k' : Nat} {v v' : Value} {xs xs' : List Value} (h : w.ownsRow base e size v k xs) (h' : w.ownsRow base' e' size' v' k' xs') (ht : ¬ e = e') (g : Nat) (hg : v.ownBlock = some g) : v'.ownBlock ≠ some g := fun eq => by
  rcases h'.2 with ⟨rfl, _⟩ | ⟨g', cap, cur, rfl, _, hgg, _⟩
  · cases eq
  · cases eq
    exact row_ne h hgg ht hg
theorem insO_any (base : Nat) (l : List ByteArray) (x : ByteArray) (v : Value) (w : World) (h : w.ownsRow base 9 1 v l.length (l.map .string)) (hl : l.length ≤ 1048576) (hbase : base ≤ w.heap.size) :
    Calls Tryz.prog 53 #[v, .string x] w fun e w' => ∃ v', e = .returned v' ∧ w'.ownsRow base 9 1 v' (insR l x).length ((insR l x).map .string) ∧ Below w.heap.size w w' := by
  rcases h.2 with ⟨rfl, hn⟩ | ⟨g, cap, cur, rfl, _⟩
  · obtain rfl : l = [] := List.eq_nil_of_length_eq_zero hn
    exact (insN_any x w).mono (fun e w' ⟨g, cap, he, hr, hb⟩ => ⟨_, he, Go.Joins.ownsRow_le hr hbase, hb⟩)
  · exact (insS_any base g cap l x w h hl hbase).mono (fun e w' ⟨g, cap, he, hr, hb⟩ => ⟨_, he, hr, hb⟩)
theorem at_at {S : Nat → Prop} {w : World} {D : PD} {num kind : Int} {l : List ByteArray} {vu vs : Value} (hn : OkI num) (hk : OkI kind) (hu : AtL S w (useL l) vu) (hs : AtL S w (insA (besL D l)) vs) : Lay.At S w (atD D num kind l) (cs [.int .i64 num, .int .i64 kind, .slice none 0 0, vu, .slice none 0 0, vs]) :=
  at_DClaimWant.2 ⟨⟨rfl, hn⟩, ⟨rfl, hk⟩, ⟨none, 0, rfl, ⟨Nat.zero_le _, Nat.le_refl 0, fun _ => rfl⟩, fun _ hi => absurd hi (Nat.not_lt_zero _)⟩, hu, ⟨none, 0, rfl, ⟨Nat.zero_le _, Nat.le_refl 0, fun _ => rfl⟩, fun _ hi => absurd hi (Nat.not_lt_zero _)⟩, hs⟩
theorem okI3 : OkI 3 := ⟨by decide, by decide⟩
theorem okI0 : OkI 0 := ⟨by decide, by decide⟩
theorem made_on {S : Nat → Prop} {w : World} {g : Nat} : OnL S w ([] : List DCtlAsk) (.slice (some ⟨g, 0, none⟩) 0 0) := ⟨some ⟨g, 0, none⟩, 0, rfl, ⟨Nat.zero_le _, Nat.le_refl 0, fun h => nomatch h⟩, .inl rfl⟩
theorem nil_onS {S : Nat → Prop} {w : World} : OnL S w ([] : List ByteArray) (.slice none 0 0) := ⟨none, 0, rfl, ⟨Nat.zero_le _, Nat.le_refl 0, fun _ => rfl⟩, .inl rfl⟩

set_option maxRecDepth 100000 in
set_option maxHeartbeats 32000000 in
theorem placeAsksS_any (B : Nat) (S : Nat → Prop) (v0 v1 v2 v3 : Value) (D : PD) (num kind : Int) (l : List ByteArray) (v : Value) (w : World) (h : PAt B w v0 v1 v2 v3 D) (hB : B ≤ w.heap.size) (hz : D.Sz) (hl : AtL S w l v) (hS : ∀ b, S b → b < w.heap.size) (hn : OkI num) (hk : OkI kind) (hsl : D.V → (stL true D).length ≤ 1048576) :
    Calls Tryz.prog 23 #[.agg #[v0, v1, v2, v3], .int .i64 num, .int .i64 kind, v] w fun e w' => ∃ r q, e = .returned r ∧ PaIs D num kind l q ∧ OnL (fun b => w.heap.size ≤ b ∧ b < w'.heap.size) w' q r ∧ Below w.heap.size w w' := by
  obtain ⟨o1, c1, e1, hx⟩ := id hl
  clear hx
  subst e1
  have HL : Hid (∀ w', Below w.heap.size w w' → AtL S w' l (.slice o1 l.length c1)) := fun w' hb => hl.same (Same.of_below hb hS)
  clear hl
  obtain ⟨n, en⟩ : ∃ n, l.length = n := ⟨_, rfl⟩
  rw [en] at HL
  rw [en]
  have EN : Hid (l.length = n) := en
  clear en
  have H : Hid (∀ w', Below w.heap.size w w' → PAt B w' v0 v1 v2 v3 D) := fun w' hb => h.kept hb hB
  clear h
  obtain ⟨W, hW⟩ : ∃ W, W = w.alloc (.cells #[v0, v1, v2, v3] 40) := ⟨_, rfl⟩
  have HW : Hid (W = w.alloc (.cells #[v0, v1, v2, v3] 40)) := hW
  have BW : Hid (Below w.heap.size w W) := by rw [hW]; exact (Below.refl _ _).alloc (Nat.le_refl _) _
  have sW : W.heap.size = w.heap.size + 1 := by rw [hW]; simp
  have X0 : Hid (W.heap[w.heap.size]? = some (.cells #[v0, v1, v2, v3] 40 (0, 0))) := by rw [hW]; exact heap_alloc_new w _
  clear hW
  have y0 := (cell_row X0.out 0 (v0) rfl).1
  have y1 := (cell_row X0.out 1 (v1) rfl).1
  have y2 := (cell_row X0.out 2 (v2) rfl).1
  have y3 := (cell_row X0.out 3 (v3) rfl).1
  go_enter Tryz.func23, Tryz.ntmps23
  go_upto_region 1 with fail
  rw [← HW.out]
  clear HW
  go_wp2_with fail
  refine (validS_any B _ _ _ _ D W (H.out W BW.out) (by have := BW.out.size; omega) hz).mono ?_
  rintro e w1 ⟨b, rfl, is, hb1⟩
  have IS : Hid _ := is
  have B1 : Hid (Below w.heap.size w w1) := BW.out.trans (hb1.mono BW.out.size)
  have X1 : Hid (w1.heap[w.heap.size]? = some (.cells #[v0, v1, v2, v3] 40 (0, 0))) := box_stable hb1 X0.out
  have s1 : w.heap.size + 1 ≤ w1.heap.size := by have := hb1.size; omega
  clear is hb1 y0 y1 y2 y3 X0 BW
  have y0 := (cell_row X1.out 0 (v0) rfl).1
  have y1 := (cell_row X1.out 1 (v1) rfl).1
  have y2 := (cell_row X1.out 2 (v2) rfl).1
  have y3 := (cell_row X1.out 3 (v3) rfl).1
  cases b
  · go_wp2_with fail
    go_ret
    exact ⟨_, [], rfl, ⟨fun h => absurd (IS.out.2 h.1) (by decide), fun _ => rfl⟩, made_on, B1.out.alloc (by omega) _⟩
  have HV : Hid D.V := IS.out.1 rfl
  go_wp2_with fail
  refine (itsS_any B S _ _ _ _ D l _ w1 (H.out w1 B1.out) (by have := B1.out.size; omega) (by have := HL.out w1 B1.out; rw [← EN.out] at this ⊢; exact this) (fun b hb => by have := hS b hb; omega)).mono ?_
  rintro e w2 ⟨b, rfl, is, hb2⟩
  have IT : Hid _ := is
  have B2 : Hid (Below w.heap.size w w2) := B1.out.trans (hb2.mono B1.out.size)
  have X2 : Hid (w2.heap[w.heap.size]? = some (.cells #[v0, v1, v2, v3] 40 (0, 0))) := box_stable hb2 X1.out
  have s2 : w.heap.size + 1 ≤ w2.heap.size := by have := hb2.size; omega
  clear is hb2 y0 y1 y2 y3 X1
  cases b
  · go_wp2_with fail
    go_ret
    exact ⟨_, [], rfl, ⟨fun h => absurd (IT.out.2 h.2.1) (by decide), fun _ => rfl⟩, made_on, B2.out.alloc (by omega) _⟩
  have HI : Hid (itsP D l) := IT.out.1 rfl
  by_cases hkd : kind = 2 ∨ kind = 3
  case neg =>
    have hk2 : ¬ kind = 2 := fun e => hkd (.inl e)
    have hk3 : ¬ kind = 3 := fun e => hkd (.inr e)
    have g2 : (kind != 2) = true := by simpa using hk2
    have g3 : (kind != 3) = true := by simpa using hk3
    have g2' : decide (kind = 2) = false := by simpa using hk2
    have g3' : decide (kind = 3) = false := by simpa using hk3
    go_wp2_with fail
    go_ret
    exact ⟨_, [], rfl, ⟨fun h => absurd h.2.2 hkd, fun _ => rfl⟩, made_on, B2.out.alloc (by omega) _⟩
  have HKD : Hid (kind = 2 ∨ kind = 3) := hkd
  rcases hkd with hk2 | hk2
  · have g2 : (kind != 2) = false := by rw [hk2]; rfl
    have g2' : decide (kind = 2) = true := by simpa using hk2
    clear hk2
    have hnv : D.nv ≤ 18 := HV.out.2.2.1
    have hn8 : n ≤ 8 := by have := HI.out.2.1; rw [EN.out] at this; exact this
    go_upto_region 4 with fail
    obtain ⟨gx, hgx⟩ : ∃ g, g = w2.heap.size := ⟨_, rfl⟩
    obtain ⟨U, hU⟩ : ∃ V, V = w2.alloc (.cells #[.int .i64 num, .int .i64 kind, .slice none 0 0, .slice none 0 0, .slice none 0 0, .slice none 0 0] 68) := ⟨_, rfl⟩
    have G1 : Hid (U.heap[gx]? = some (.cells #[.int .i64 num, .int .i64 kind, .slice none 0 0, .slice none 0 0, .slice none 0 0, .slice none 0 0] 68 (0, 0))) := by rw [hgx, hU]; exact heap_alloc_new w2 _
    have BU : Hid (Below w.heap.size w U) := by rw [hU]; exact B2.out.alloc (by omega) _
    have X3 : Hid (U.heap[w.heap.size]? = some (.cells #[v0, v1, v2, v3] 40 (0, 0))) := by rw [hU]; exact (Below.heap_alloc _ _ _ (by omega)).trans X2.out
    have sU : U.heap.size = gx + 1 := by rw [hU, hgx]; simp
    rw [← hU, ← hgx]
    rw [← hgx] at s2
    clear X2 B2 hgx hU
    go_wp2_with fail
    go_loopw [10] (fun i wr => ∃ (k : Nat) (ou : Option Addr) (ku : Nat) (os : Option Addr) (ks : Nat), k ≤ n ∧ i = .int .i64 k ∧ Hid (wr.ownsRow U.heap.size 95 3 (.slice ou k ku) k (enc 3 eU (useL (l.take k)))) ∧ Hid (wr.ownsRow U.heap.size 9 1 (.slice os (insA (besL D (l.take k))).length ks) (insA (besL D (l.take k))).length ((insA (besL D (l.take k))).map .string)) ∧ Hid (wr.heap[gx]? = some (.cells #[.int .i64 num, .int .i64 kind, .slice none 0 0, .slice ou k ku, .slice none 0 0, .slice os (insA (besL D (l.take k))).length ks] 68 (0, 0))) ∧ Hid (But (fun b => b = gx) U wr)) (fun i _ => n - (intOf i).toNat)
    case atStart => exact ⟨0, none, 0, none, 0, Nat.zero_le _, rfl, World.ownsRow_nil _ _ _ _, World.ownsRow_nil _ _ _ _, G1.out, But.refl _ _⟩
    case round =>
      obtain ⟨k, ou, ku, os, ks, hk1, rfl, hO, hR, hG, hN⟩ := hrel
      have hNs := hN.out.size
      have bwr : Hid (Below w.heap.size w wr) := BU.out.trans (hN.out.below (B := w.heap.size) (fun b hb => by omega) (by omega))
      have hA : Hid (wr.heap[w.heap.size]? = some (.cells #[v0, v1, v2, v3] 40 (0, 0))) := (hN.out.block w.heap.size (by omega) (by omega)).trans X3.out
      by_cases hlt : k < n
      · obtain ⟨oa, cp, ev, _, hc⟩ := HL.out wr bwr.out
        obtain ⟨b, off, eo, hbS, cc, hcell, hat⟩ := hc k (by rw [EN.out]; exact hlt)
        have eo1 : o1 = some ⟨b, off, none⟩ := by injection ev with h1 _ _; exact h1.trans eo
        subst eo1
        clear ev eo hc
        rw [width_str] at hcell
        have e0 : wr.cell? ⟨b, off + k, none⟩ = some (cc 0) := by have := hcell 0 (by omega); simpa using this
        rw [at_str] at hat
        have htk : Hid (l.take (k + 1) = l.take k ++ [l[k]'(by rw [EN.out]; exact hlt)]) := by
          show _ = _
          rw [List.take_add_one, List.getElem?_eq_getElem (by rw [EN.out]; exact hlt)]; rfl
        obtain ⟨y, ey⟩ : ∃ y, l[k]'(by rw [EN.out]; exact hlt) = y := ⟨_, rfl⟩
        rw [ey] at hat htk
        clear ey hcell
        rw [hat.1] at e0
        clear hat
        have hbs := hS b hbS
        have hk8 : (insA (besL D (l.take k))).length ≤ 144 := by
          have a1 := insA_len (besL D (l.take k))
          have a2 := besL_len D (l.take k)
          have a3 : (l.take k).length * D.nv ≤ 8 * 18 := Nat.mul_le_mul (by rw [List.length_take]; omega) hnv
          omega
        have yx := (cell_row hG.out 3 (.slice ou k ku) rfl).1
        go_upto_region 7 with fail
        have q_e0 := fun d os => cell_regrown e0 d os
        have q_yx := fun d os => cell_regrown yx d os
        have hdr : Hid (Below wr.heap.size wr wr.drew) := (Below.refl _ _).drew
        refine wp_region_mix 8 [0, 1, 2, 3, 4, 5] (by kernel_rfl) (by kernel_rfl) ?_
        simp only [List.filterMap_cons, List.filterMap_nil, List.getElem?_cons_succ, List.getElem?_cons_zero]
        repeat (first | go_big_quiet_step (fail) | quiet_step (fail))
        refine wpQuiet_nil ?_
        clear yx q_yx q_e0
        obtain ⟨wd, hwd⟩ : ∃ V, V = wr.drew := ⟨_, rfl⟩
        have BD : Hid (Below wr.heap.size wr wd) := by rw [hwd]; exact hdr.out
        rw [← hwd]
        clear hwd
        have sd := BD.out.size
        obtain ⟨ua, hua⟩ : ∃ V, V = wd.alloc (.cells #[.string y, .int .i64 3, .int .i64 0] 95) := ⟨_, rfl⟩
        have HUA : Hid (ua = wd.alloc (.cells #[.string y, .int .i64 3, .int .i64 0] 95)) := hua
        have sua : ua.heap.size ≤ wd.heap.size + 1 ∧ wd.heap.size + 1 ≤ ua.heap.size := by rw [hua]; simp
        have BA : Hid (Below wr.heap.size wr ua) := by rw [hua]; exact BD.out.alloc sd _
        have HSRC : Hid (Src ua (.slice (some ⟨wd.heap.size, 0, none⟩) 1 1) 1 3 (#[.string y, .int .i64 3, .int .i64 0] : Array Value).toList) := by
          have h1 : ua.ownsRow 0 95 3 (.slice (some ⟨wd.heap.size, 0, none⟩) 1 1) 1 (#[.string y, .int .i64 3, .int .i64 0] : Array Value).toList := by
            rw [hua]; exact own_built (Nat.zero_le _) (by unfold maxLen; omega) rfl
          exact own_src h1
        have HOWN : Hid (ua.ownsRow U.heap.size 95 3 (.slice ou k ku) k (enc 3 eU (useL (l.take k)))) := row_stable BA.out hO.out
        have HSH : Hid (ua.ownsRow U.heap.size 9 1 (.slice os (insA (besL D (l.take k))).length ks) (insA (besL D (l.take k))).length ((insA (besL D (l.take k))).map .string)) := row_stable BA.out hR.out
        have HONE : Hid (∀ z ∈ (#[.string y, .int .i64 3, .int .i64 0] : Array Value).toList, z.oneCell' = true) := by intro z hz; simp at hz; rcases hz with rfl | rfl | rfl <;> rfl
        clear hua
        refine anyC_step (f := 1) [6] (by kernel_rfl) (by simp) (one_list ⟨by decide, _, rfl, rfl, .agg #[.string y, .int .i64 3, .int .i64 0], wd, ?runa, regrown_of_below BD.out, ?_⟩)
        case runa => go_simp
        refine anyC_step (f := 0) [7] (by kernel_rfl) (by simp) (one_list ⟨by decide, _, rfl, rfl, .slice (some ⟨wd.heap.size, 0, none⟩) 1 1, wd.alloc (.cells #[.string y, .int .i64 3, .int .i64 0] 95), ?runb, regrown_of_below (by have := BA.out; rw [HUA.out] at this; exact this), ?_⟩)
        case runb => go_simp
        refine ⟨by kernel_rfl, ?_⟩
        simp only [List.drop_succ_cons, List.drop_zero]
        rw [← HUA.out]
        go_upto_region 8 with (first
          | (at_builtin; refine wpList_app elU rfl _ _ rfl rfl rfl HOWN.out HSRC.out HONE.out (by unfold maxLen; omega) (by omega) (by omega) ?_; intro v' u8 hown hgr hbk; obtain ⟨ov', kv', rfl⟩ := ownsRow_shape hown; have hg8 : u8.heap[gx]? = some (.cells #[.int .i64 num, .int .i64 kind, .slice none 0 0, .slice ou k ku, .slice none 0 0, .slice os (insA (besL D (l.take k))).length ks] 68 (0, 0)) := (hgr.block gx (by omega) (fun e => by have := (World.ownsRow.lt HOWN.out gx e.symm).1; omega)).trans ((BA.out.block gx (by omega)).trans hG.out); obtain ⟨zc8, zf8⟩ := cell_row hg8 3 (.slice ou k ku) rfl))
        have SET := set_row hg8 3 (.slice ov' (k + 1) kv')
        have RN : Hid ((u8.setCell ⟨gx, 3, none⟩ (.slice ov' (k + 1) kv')).ownsRow U.heap.size 95 3 (.slice ov' (k + 1) kv') (k + 1) (enc 3 eU (useL (l.take (k + 1))))) := by
          show World.ownsRow _ _ _ _ _ _ _
          rw [htk.out, useL_snoc, enc_append]
          exact ownsRow_kept hown (fun g hg => Below.heap_setCell _ _ _ _ (by have := (World.ownsRow.lt hown g hg).1; show g ≠ gx; omega))
        have SN : Hid ((u8.setCell ⟨gx, 3, none⟩ (.slice ov' (k + 1) kv')).ownsRow U.heap.size 9 1 (.slice os (insA (besL D (l.take k))).length ks) (insA (besL D (l.take k))).length ((insA (besL D (l.take k))).map .string)) := ownsRow_kept HSH.out (fun g hg => (Below.heap_setCell _ _ _ _ (by have := (World.ownsRow.lt HSH.out g hg).1; show g ≠ gx; omega)).trans (hgr.block g (World.ownsRow.lt HSH.out g hg).2 (fun e => rows_ne HSH.out HOWN.out (by decide) g hg e.symm)))
        have GN : Hid ((u8.setCell ⟨gx, 3, none⟩ (.slice ov' (k + 1) kv')).heap[gx]? = some (.cells #[.int .i64 num, .int .i64 kind, .slice none 0 0, .slice ov' (k + 1) kv', .slice none 0 0, .slice os (insA (besL D (l.take k))).length ks] 68 (0, 0))) := SET
        have NN : Hid (But (fun b => b = gx) U (u8.setCell ⟨gx, 3, none⟩ (.slice ov' (k + 1) kv'))) := hN.out.round BA.out hgr (fun q hq => (World.ownsRow.lt HOWN.out q hq).1) 3 _
        clear zc8 zf8 SET
        generalize (u8.setCell ⟨gx, 3, none⟩ (.slice ov' (k + 1) kv')) = U7 at RN SN GN NN ⊢
        clear hown hgr hbk hg8 HOWN HSH HSRC HONE HUA BA BD hO hR hG sua sd hdr e0
        have h7s := NN.out.size
        have b7 : Hid (Below w.heap.size w U7) := BU.out.trans (NN.out.below (B := w.heap.size) (fun b hb => by omega) (by omega))
        have hA7 : Hid (U7.heap[w.heap.size]? = some (.cells #[v0, v1, v2, v3] 40 (0, 0))) := (NN.out.block w.heap.size (by omega) (by omega)).trans X3.out
        have e0 : U7.cell? ⟨b, off + k, none⟩ = some (.string y) := by
          obtain ⟨oa, cp, ev, _, hc⟩ := HL.out U7 b7.out
          obtain ⟨b2, off2, eo, _, cc, hcell, hat⟩ := hc k (by rw [EN.out]; exact hlt)
          cases eo
          cases ev
          rw [width_str] at hcell
          have h0 := hcell 0 (by omega)
          rw [at_str] at hat
          rw [Nat.mul_one, Nat.add_zero, hat.1] at h0
          rw [h0]
          have := htk.out
          rw [List.take_add_one, List.getElem?_eq_getElem (by rw [EN.out]; exact hlt)] at this
          have := List.append_cancel_left this
          simp at this
          rw [this]
        have y0 := (cell_row hA7.out 0 (v0) rfl).1
        have y1 := (cell_row hA7.out 1 (v1) rfl).1
        have y2 := (cell_row hA7.out 2 (v2) rfl).1
        have y3 := (cell_row hA7.out 3 (v3) rfl).1
        have q_e0 := fun d os => cell_regrown e0 d os
        have q_y0 := fun d os => cell_regrown y0 d os
        have q_y1 := fun d os => cell_regrown y1 d os
        have q_y2 := fun d os => cell_regrown y2 d os
        have q_y3 := fun d os => cell_regrown y3 d os
        refine wp_region_mix 5 [0, 1, 2, 3, 4] (by kernel_rfl) (by kernel_rfl) ?_
        simp only [List.filterMap_cons, List.filterMap_nil, List.getElem?_cons_succ, List.getElem?_cons_zero]
        repeat (first | go_big_quiet_step (fail) | quiet_step (fail))
        refine wpQuiet_nil ?_
        refine ⟨by kernel_rfl, ?_⟩
        simp only [List.drop_succ_cons, List.drop_zero]
        clear e0 q_e0 y0 q_y0 y1 q_y1 y2 q_y2 y3 q_y3
        obtain ⟨U8, hU8⟩ : ∃ V, V = U7.drew := ⟨_, rfl⟩
        have B78 : Hid (Below U7.heap.size U7 U8) := by rw [hU8]; exact (Below.refl _ _).drew
        rw [← hU8]
        clear hU8
        have s78 := B78.out.size
        have b8 : Hid (Below w.heap.size w U8) := b7.out.trans (B78.out.mono b7.out.size)
        go_wp2_with (first
          | (go_at_call 56; refine (l4Beside_any B _ _ _ _ D.nv D.fv y U8 (H.out U8 b8.out).v (Nat.le_trans hB b8.out.size) (by omega)).mono ?_; rintro e w8 ⟨lv, rfl, hlv, hb9⟩))
        have s9 := hb9.size
        obtain ⟨ol, kl, rfl⟩ := ownsRow_shape hlv
        obtain ⟨bl, ebl⟩ : ∃ z, z = besN D.fv y D.nv := ⟨_, rfl⟩
        have hbm : bl.length ≤ 18 := by rw [ebl]; have := bes_len D y; omega
        have EB : Hid (bl = besN D.fv y D.nv) := ebl
        rw [← ebl] at hlv ⊢
        clear ebl
        obtain ⟨m, em⟩ : ∃ z, bl.length = z := ⟨_, rfl⟩
        have EM : Hid (bl.length = m) := em
        rw [em] at hlv hbm ⊢
        clear em
        have HLV : Hid (Row w8 U8.heap.size 9 1 eS (.slice ol m kl) bl) := by show World.ownsRow _ _ _ _ _ _ _; rw [enc_S, EM.out]; exact hlv
        clear hlv
        have B79 : Hid (Below U7.heap.size U7 w8) := B78.out.trans (hb9.mono s78)
        have RN8 : Hid (w8.ownsRow U.heap.size 95 3 (.slice ov' (k + 1) kv') (k + 1) (enc 3 eU (useL (l.take (k + 1))))) := row_stable B79.out RN.out
        have SN8 : Hid (w8.ownsRow U.heap.size 9 1 (.slice os (insA (besL D (l.take k))).length ks) (insA (besL D (l.take k))).length ((insA (besL D (l.take k))).map .string)) := row_stable B79.out SN.out
        have GN8 : Hid (w8.heap[gx]? = some (.cells #[.int .i64 num, .int .i64 kind, .slice none 0 0, .slice ov' (k + 1) kv', .slice none 0 0, .slice os (insA (besL D (l.take k))).length ks] 68 (0, 0))) := box_stable B79.out GN.out
        have NN8 : Hid (But (fun b => b = gx) U w8) := NN.out.trans (But.of_below B79.out)
        clear RN SN GN NN hb9 B78 b8 b7 hA7
        obtain ⟨qf, HQ⟩ : ∃ f : Nat → List ByteArray, Hid (∀ j, f j = insA (besL D (l.take k) ++ bl.take j)) := ⟨fun j => insA (besL D (l.take k) ++ bl.take j), fun _ => rfl⟩
        have SN9 : Hid (w8.ownsRow U.heap.size 9 1 (.slice os (qf 0).length ks) (qf 0).length ((qf 0).map .string)) := by show World.ownsRow _ _ _ _ _ _ _; rw [HQ.out, List.take_zero, List.append_nil]; exact SN8.out
        have GN9 : Hid (w8.heap[gx]? = some (.cells #[.int .i64 num, .int .i64 kind, .slice none 0 0, .slice ov' (k + 1) kv', .slice none 0 0, .slice os (qf 0).length ks] 68 (0, 0))) := by show _ = _; rw [HQ.out, List.take_zero, List.append_nil]; exact GN8.out
        go_wp2_with fail
        go_loopw [12] (fun i wz => ∃ (j : Nat) (oz : Option Addr) (kz : Nat), j ≤ m ∧ i = .int .i64 j ∧ Hid (wz.ownsRow U.heap.size 9 1 (.slice oz (qf j).length kz) (qf j).length ((qf j).map .string)) ∧ Hid (wz.heap[gx]? = some (.cells #[.int .i64 num, .int .i64 kind, .slice none 0 0, .slice ov' (k + 1) kv', .slice none 0 0, .slice oz (qf j).length kz] 68 (0, 0))) ∧ Hid (But (fun b => b = gx) w8 wz)) (fun i _ => m - (intOf i).toNat)
        case atStart => exact ⟨0, os, ks, Nat.zero_le _, rfl, SN9.out, GN9.out, But.refl _ _⟩
        case round =>
          obtain ⟨j, oz, kz, hj, rfl, hZ, hGz, hNz⟩ := hrel
          have hzs := hNz.out.size
          by_cases hjt : j < m
          · have HLr : Row wr U8.heap.size 9 1 eS (.slice ol m kl) bl := ownsRow_kept HLV.out (fun g hg => hNz.out.block g (World.ownsRow.lt HLV.out g hg).2 (by have := (World.ownsRow.lt HLV.out g hg).1; omega))
            obtain ⟨sg, sc, ev, hsg, hsl2, hcell⟩ := Row.cell HLr (i := j) (by rw [EM.out]; exact hjt)
            have eo : ol = some ⟨sg, 0, none⟩ := by injection ev
            subst eo
            clear ev
            have es := (hcell 0 (by omega)).1
            obtain ⟨x, ex⟩ : ∃ x, bl[j]'(by rw [EM.out]; exact hjt) = x := ⟨_, rfl⟩
            have hbk2 : Hid (bl.take (j + 1) = bl.take j ++ [x]) := by
              show _ = _
              rw [List.take_add_one, List.getElem?_eq_getElem (by rw [EM.out]; exact hjt), ex]; rfl
            rw [ex, Nat.mul_one, Nat.add_zero] at es
            clear hcell ex
            have hq8 : (qf j).length ≤ 1048576 := by
              rw [HQ.out]
              have a1 := insA_len (besL D (l.take k) ++ bl.take j)
              have a2 := besL_len D (l.take k)
              have a3 : (l.take k).length * D.nv ≤ 8 * 18 := Nat.mul_le_mul (by rw [List.length_take]; omega) hnv
              rw [List.length_append, List.length_take (l := bl)] at a1
              omega
            have yz := (cell_row hGz.out 5 (.slice oz (qf j).length kz) rfl).1
            go_upto_region 12 with fail
            have q_es := fun d os => cell_regrown es d os
            have q_yz := fun d os => cell_regrown yz d os
            refine wp_region_mix 6 [0, 1, 2, 3, 4, 5] (by kernel_rfl) (by kernel_rfl) ?_
            simp only [List.filterMap_cons, List.filterMap_nil, List.getElem?_cons_succ, List.getElem?_cons_zero]
            repeat (first | go_big_quiet_step (fail) | quiet_step (fail))
            refine wpQuiet_nil ?_
            refine ⟨by kernel_rfl, ?_⟩
            simp only [List.drop_succ_cons, List.drop_zero]
            clear es yz q_es q_yz
            obtain ⟨Z, hZ9⟩ : ∃ V, V = wr.drew := ⟨_, rfl⟩
            have BZ : Hid (Below wr.heap.size wr Z) := by rw [hZ9]; exact (Below.refl _ _).drew
            rw [← hZ9]
            clear hZ9
            have sZ := BZ.out.size
            go_wp2_with (first
              | (go_at_call 53; refine (insO_any U.heap.size (qf j) x _ Z (row_stable BZ.out hZ.out) hq8 (by omega)).mono ?_; rintro e z9 ⟨zv, rfl, hzv, hbz⟩; obtain ⟨oz', kz', rfl⟩ := ownsRow_shape hzv; have hgz : z9.heap[gx]? = some (.cells #[.int .i64 num, .int .i64 kind, .slice none 0 0, .slice ov' (k + 1) kv', .slice none 0 0, .slice oz (qf j).length kz] 68 (0, 0)) := box_stable hbz (box_stable BZ.out hGz.out); obtain ⟨zc9, zf9⟩ := cell_row hgz 5 (.slice oz (qf j).length kz) rfl))
            have SET := set_row hgz 5 (.slice oz' (insR (qf j) x).length kz')
            have EQ : Hid (qf (j + 1) = insR (qf j) x) := by show _ = _; rw [HQ.out, HQ.out, hbk2.out, ← List.append_assoc, insA_snoc]
            have RZ : Hid ((z9.setCell ⟨gx, 5, none⟩ (.slice oz' (insR (qf j) x).length kz')).ownsRow U.heap.size 9 1 (.slice oz' (qf (j + 1)).length kz') (qf (j + 1)).length ((qf (j + 1)).map .string)) := by
              show World.ownsRow _ _ _ _ _ _ _
              rw [EQ.out]
              exact ownsRow_kept hzv (fun g hg => Below.heap_setCell _ _ _ _ (by have := (World.ownsRow.lt hzv g hg).1; show g ≠ gx; omega))
            have GZ : Hid ((z9.setCell ⟨gx, 5, none⟩ (.slice oz' (insR (qf j) x).length kz')).heap[gx]? = some (.cells #[.int .i64 num, .int .i64 kind, .slice none 0 0, .slice ov' (k + 1) kv', .slice none 0 0, (.slice oz' (qf (j + 1)).length kz')] 68 (0, 0))) := by show _ = _; rw [EQ.out]; exact SET
            have NZ : Hid (But (fun b => b = gx) w8 (z9.setCell ⟨gx, 5, none⟩ (.slice oz' (insR (qf j) x).length kz'))) := ((hNz.out.trans (But.of_below BZ.out)).trans (But.of_below hbz)).set rfl 5 _
            go_roundw
            case rel => exact ⟨j + 1, oz', kz', by omega, by go_num, RZ.out, GZ.out, NZ.out⟩
            case measure => simp [intOf]; omega
          · have hjm : j = m := by omega
            have EF : Hid (insA (besL D (l.take (k + 1))) = qf j) := by show _ = _; rw [HQ.out, htk.out, besL_snoc, ← EB.out, show bl.take j = bl from List.take_of_length_le (by rw [EM.out, hjm]; exact Nat.le_refl _)]
            have RF : Hid (wr.ownsRow U.heap.size 9 1 (.slice oz (insA (besL D (l.take (k + 1)))).length kz) (insA (besL D (l.take (k + 1)))).length ((insA (besL D (l.take (k + 1)))).map .string)) := by show World.ownsRow _ _ _ _ _ _ _; rw [EF.out]; exact hZ.out
            have GF : Hid (wr.heap[gx]? = some (.cells #[.int .i64 num, .int .i64 kind, .slice none 0 0, .slice ov' (k + 1) kv', .slice none 0 0, .slice oz (insA (besL D (l.take (k + 1)))).length kz] 68 (0, 0))) := by show _ = _; rw [EF.out]; exact hGz.out
            have UF : Hid (wr.ownsRow U.heap.size 95 3 (.slice ov' (k + 1) kv') (k + 1) (enc 3 eU (useL (l.take (k + 1))))) := ownsRow_kept RN8.out (fun g hg => hNz.out.block g (World.ownsRow.lt RN8.out g hg).2 (by have := (World.ownsRow.lt RN8.out g hg).1; omega))
            have NF : Hid (But (fun b => b = gx) U wr) := NN8.out.trans hNz.out
            go_wp2_with fail
            go_roundw
            case rel => exact ⟨k + 1, ov', kv', oz, kz, by omega, by go_num, UF.out, RF.out, GF.out, NF.out⟩
            case measure => simp [intOf]; omega
      · have hkn : k = n := by omega
        subst hkn
        have ETL : Hid (l.take k = l) := List.take_of_length_le (by rw [EN.out]; exact Nat.le_refl _)
        rw [ETL.out] at hO hR hG
        have y0 := (cell_row hA.out 0 (v0) rfl).1
        have y1 := (cell_row hA.out 1 (v1) rfl).1
        have y2 := (cell_row hA.out 2 (v2) rfl).1
        have y3 := (cell_row hA.out 3 (v3) rfl).1
        have d0 := (cell_row hG.out 0 (.int .i64 num) rfl).1
        have d1 := (cell_row hG.out 1 (.int .i64 kind) rfl).1
        have d2 := (cell_row hG.out 2 (.slice none 0 0) rfl).1
        have d3 := (cell_row hG.out 3 (.slice ou k ku) rfl).1
        have d4 := (cell_row hG.out 4 (.slice none 0 0) rfl).1
        have d5 := (cell_row hG.out 5 (.slice os (insA (besL D l)).length ks) rfl).1
        have UA : Hid (AtL (fun b => b < wr.heap.size) wr (useL l) (.slice ou k ku)) := (onU_row (B := U.heap.size) (t := 95) (S := fun b => b < wr.heap.size) (l := useL l) (v := .slice ou k ku) (by show World.ownsRow _ _ _ _ _ _ _; rw [show (useL l).length = k by rw [useL, List.length_map, EN.out]]; exact hO.out) (fun g hg => (World.ownsRow.lt hO.out g hg).2) (fun x hx => by
            obtain ⟨y, hy, rfl⟩ := List.mem_map.1 hx
            exact ⟨by have := its_size HV.out HI.out hy; show y.size ≤ maxLen; unfold maxLen; omega, okI3, okI0⟩)).at_
        have SA : Hid (AtL (fun b => b < wr.heap.size) wr (insA (besL D l)) (.slice os (insA (besL D l)).length ks)) := (onS_row (B := U.heap.size) (t := 9) (S := fun b => b < wr.heap.size) (l := insA (besL D l)) (v := .slice os (insA (besL D l)).length ks) (by show World.ownsRow _ _ _ _ _ _ _; rw [enc_S]; exact hR.out) (fun g hg => (World.ownsRow.lt hR.out g hg).2) (fun x hx => by have := sh_size HV.out hx; show x.size ≤ maxLen; unfold maxLen; omega)).at_
        have HC : Hid (Calls Tryz.prog 54 #[.agg #[v0, v1, v2, v3], .agg #[.int .i64 num, .int .i64 kind, .slice none 0 0, .slice ou k ku, .slice none 0 0, .slice os (insA (besL D l)).length ks]] wr fun e w' => ∃ v, e = .returned v ∧ OnL (fun b => wr.heap.size ≤ b ∧ b < w'.heap.size) w' (askL D (atD D num kind l) (stL true D)) v ∧ Below wr.heap.size wr w') := asksS_any B (fun b => b < wr.heap.size) v0 v1 v2 v3 D (atD D num kind l) (cs [.int .i64 num, .int .i64 kind, .slice none 0 0, .slice ou k ku, .slice none 0 0, .slice os (insA (besL D l)).length ks]) wr (H.out wr bwr.out) (Nat.le_trans hB bwr.out.size) hz HV.out (at_at hn hk UA.out SA.out) (fun b hb => hb) (at_in HI.out) (tot4 (at_tot HV.out HI.out)) (hsl HV.out)
        go_wp2_with fail
        refine (HC.out).mono ?_
        rintro e wf ⟨rv, rfl, hon, hbf⟩
        go_wp2_with fail
        go_ret
        exact ⟨_, _, rfl, ⟨fun _ => rfl, fun h => absurd ⟨HV.out, HI.out, HKD.out⟩ h⟩, hon.up (fun b hb => ⟨Nat.le_trans bwr.out.size hb.1, hb.2⟩), bwr.out.trans (hbf.mono bwr.out.size)⟩
  · have g2 : (kind != 2) = true := by rw [hk2]; rfl
    have g3 : (kind != 3) = false := by rw [hk2]; rfl
    have g2' : decide (kind = 2) = false := by rw [hk2]; rfl
    have g3' : decide (kind = 3) = true := by simpa using hk2
    clear hk2
    have hnv : D.nv ≤ 18 := HV.out.2.2.1
    have hn8 : n ≤ 8 := by have := HI.out.2.1; rw [EN.out] at this; exact this
    go_upto_region 4 with fail
    obtain ⟨gx, hgx⟩ : ∃ g, g = w2.heap.size := ⟨_, rfl⟩
    obtain ⟨U, hU⟩ : ∃ V, V = w2.alloc (.cells #[.int .i64 num, .int .i64 kind, .slice none 0 0, .slice none 0 0, .slice none 0 0, .slice none 0 0] 68) := ⟨_, rfl⟩
    have G1 : Hid (U.heap[gx]? = some (.cells #[.int .i64 num, .int .i64 kind, .slice none 0 0, .slice none 0 0, .slice none 0 0, .slice none 0 0] 68 (0, 0))) := by rw [hgx, hU]; exact heap_alloc_new w2 _
    have BU : Hid (Below w.heap.size w U) := by rw [hU]; exact B2.out.alloc (by omega) _
    have X3 : Hid (U.heap[w.heap.size]? = some (.cells #[v0, v1, v2, v3] 40 (0, 0))) := by rw [hU]; exact (Below.heap_alloc _ _ _ (by omega)).trans X2.out
    have sU : U.heap.size = gx + 1 := by rw [hU, hgx]; simp
    rw [← hU, ← hgx]
    rw [← hgx] at s2
    clear X2 B2 hgx hU
    go_wp2_with fail
    go_loopw [10] (fun i wr => ∃ (k : Nat) (ou : Option Addr) (ku : Nat) (os : Option Addr) (ks : Nat), k ≤ n ∧ i = .int .i64 k ∧ Hid (wr.ownsRow U.heap.size 95 3 (.slice ou k ku) k (enc 3 eU (useL (l.take k)))) ∧ Hid (wr.ownsRow U.heap.size 9 1 (.slice os (insA (besL D (l.take k))).length ks) (insA (besL D (l.take k))).length ((insA (besL D (l.take k))).map .string)) ∧ Hid (wr.heap[gx]? = some (.cells #[.int .i64 num, .int .i64 kind, .slice none 0 0, .slice ou k ku, .slice none 0 0, .slice os (insA (besL D (l.take k))).length ks] 68 (0, 0))) ∧ Hid (But (fun b => b = gx) U wr)) (fun i _ => n - (intOf i).toNat)
    case atStart => exact ⟨0, none, 0, none, 0, Nat.zero_le _, rfl, World.ownsRow_nil _ _ _ _, World.ownsRow_nil _ _ _ _, G1.out, But.refl _ _⟩
    case round =>
      obtain ⟨k, ou, ku, os, ks, hk1, rfl, hO, hR, hG, hN⟩ := hrel
      have hNs := hN.out.size
      have bwr : Hid (Below w.heap.size w wr) := BU.out.trans (hN.out.below (B := w.heap.size) (fun b hb => by omega) (by omega))
      have hA : Hid (wr.heap[w.heap.size]? = some (.cells #[v0, v1, v2, v3] 40 (0, 0))) := (hN.out.block w.heap.size (by omega) (by omega)).trans X3.out
      by_cases hlt : k < n
      · obtain ⟨oa, cp, ev, _, hc⟩ := HL.out wr bwr.out
        obtain ⟨b, off, eo, hbS, cc, hcell, hat⟩ := hc k (by rw [EN.out]; exact hlt)
        have eo1 : o1 = some ⟨b, off, none⟩ := by injection ev with h1 _ _; exact h1.trans eo
        subst eo1
        clear ev eo hc
        rw [width_str] at hcell
        have e0 : wr.cell? ⟨b, off + k, none⟩ = some (cc 0) := by have := hcell 0 (by omega); simpa using this
        rw [at_str] at hat
        have htk : Hid (l.take (k + 1) = l.take k ++ [l[k]'(by rw [EN.out]; exact hlt)]) := by
          show _ = _
          rw [List.take_add_one, List.getElem?_eq_getElem (by rw [EN.out]; exact hlt)]; rfl
        obtain ⟨y, ey⟩ : ∃ y, l[k]'(by rw [EN.out]; exact hlt) = y := ⟨_, rfl⟩
        rw [ey] at hat htk
        clear ey hcell
        rw [hat.1] at e0
        clear hat
        have hbs := hS b hbS
        have hk8 : (insA (besL D (l.take k))).length ≤ 144 := by
          have a1 := insA_len (besL D (l.take k))
          have a2 := besL_len D (l.take k)
          have a3 : (l.take k).length * D.nv ≤ 8 * 18 := Nat.mul_le_mul (by rw [List.length_take]; omega) hnv
          omega
        have yx := (cell_row hG.out 3 (.slice ou k ku) rfl).1
        go_upto_region 7 with fail
        have q_e0 := fun d os => cell_regrown e0 d os
        have q_yx := fun d os => cell_regrown yx d os
        have hdr : Hid (Below wr.heap.size wr wr.drew) := (Below.refl _ _).drew
        refine wp_region_mix 8 [0, 1, 2, 3, 4, 5] (by kernel_rfl) (by kernel_rfl) ?_
        simp only [List.filterMap_cons, List.filterMap_nil, List.getElem?_cons_succ, List.getElem?_cons_zero]
        repeat (first | go_big_quiet_step (fail) | quiet_step (fail))
        refine wpQuiet_nil ?_
        clear yx q_yx q_e0
        obtain ⟨wd, hwd⟩ : ∃ V, V = wr.drew := ⟨_, rfl⟩
        have BD : Hid (Below wr.heap.size wr wd) := by rw [hwd]; exact hdr.out
        rw [← hwd]
        clear hwd
        have sd := BD.out.size
        obtain ⟨ua, hua⟩ : ∃ V, V = wd.alloc (.cells #[.string y, .int .i64 3, .int .i64 0] 95) := ⟨_, rfl⟩
        have HUA : Hid (ua = wd.alloc (.cells #[.string y, .int .i64 3, .int .i64 0] 95)) := hua
        have sua : ua.heap.size ≤ wd.heap.size + 1 ∧ wd.heap.size + 1 ≤ ua.heap.size := by rw [hua]; simp
        have BA : Hid (Below wr.heap.size wr ua) := by rw [hua]; exact BD.out.alloc sd _
        have HSRC : Hid (Src ua (.slice (some ⟨wd.heap.size, 0, none⟩) 1 1) 1 3 (#[.string y, .int .i64 3, .int .i64 0] : Array Value).toList) := by
          have h1 : ua.ownsRow 0 95 3 (.slice (some ⟨wd.heap.size, 0, none⟩) 1 1) 1 (#[.string y, .int .i64 3, .int .i64 0] : Array Value).toList := by
            rw [hua]; exact own_built (Nat.zero_le _) (by unfold maxLen; omega) rfl
          exact own_src h1
        have HOWN : Hid (ua.ownsRow U.heap.size 95 3 (.slice ou k ku) k (enc 3 eU (useL (l.take k)))) := row_stable BA.out hO.out
        have HSH : Hid (ua.ownsRow U.heap.size 9 1 (.slice os (insA (besL D (l.take k))).length ks) (insA (besL D (l.take k))).length ((insA (besL D (l.take k))).map .string)) := row_stable BA.out hR.out
        have HONE : Hid (∀ z ∈ (#[.string y, .int .i64 3, .int .i64 0] : Array Value).toList, z.oneCell' = true) := by intro z hz; simp at hz; rcases hz with rfl | rfl | rfl <;> rfl
        clear hua
        refine anyC_step (f := 1) [6] (by kernel_rfl) (by simp) (one_list ⟨by decide, _, rfl, rfl, .agg #[.string y, .int .i64 3, .int .i64 0], wd, ?runa, regrown_of_below BD.out, ?_⟩)
        case runa => go_simp
        refine anyC_step (f := 0) [7] (by kernel_rfl) (by simp) (one_list ⟨by decide, _, rfl, rfl, .slice (some ⟨wd.heap.size, 0, none⟩) 1 1, wd.alloc (.cells #[.string y, .int .i64 3, .int .i64 0] 95), ?runb, regrown_of_below (by have := BA.out; rw [HUA.out] at this; exact this), ?_⟩)
        case runb => go_simp
        refine ⟨by kernel_rfl, ?_⟩
        simp only [List.drop_succ_cons, List.drop_zero]
        rw [← HUA.out]
        go_upto_region 8 with (first
          | (at_builtin; refine wpList_app elU rfl _ _ rfl rfl rfl HOWN.out HSRC.out HONE.out (by unfold maxLen; omega) (by omega) (by omega) ?_; intro v' u8 hown hgr hbk; obtain ⟨ov', kv', rfl⟩ := ownsRow_shape hown; have hg8 : u8.heap[gx]? = some (.cells #[.int .i64 num, .int .i64 kind, .slice none 0 0, .slice ou k ku, .slice none 0 0, .slice os (insA (besL D (l.take k))).length ks] 68 (0, 0)) := (hgr.block gx (by omega) (fun e => by have := (World.ownsRow.lt HOWN.out gx e.symm).1; omega)).trans ((BA.out.block gx (by omega)).trans hG.out); obtain ⟨zc8, zf8⟩ := cell_row hg8 3 (.slice ou k ku) rfl))
        have SET := set_row hg8 3 (.slice ov' (k + 1) kv')
        have RN : Hid ((u8.setCell ⟨gx, 3, none⟩ (.slice ov' (k + 1) kv')).ownsRow U.heap.size 95 3 (.slice ov' (k + 1) kv') (k + 1) (enc 3 eU (useL (l.take (k + 1))))) := by
          show World.ownsRow _ _ _ _ _ _ _
          rw [htk.out, useL_snoc, enc_append]
          exact ownsRow_kept hown (fun g hg => Below.heap_setCell _ _ _ _ (by have := (World.ownsRow.lt hown g hg).1; show g ≠ gx; omega))
        have SN : Hid ((u8.setCell ⟨gx, 3, none⟩ (.slice ov' (k + 1) kv')).ownsRow U.heap.size 9 1 (.slice os (insA (besL D (l.take k))).length ks) (insA (besL D (l.take k))).length ((insA (besL D (l.take k))).map .string)) := ownsRow_kept HSH.out (fun g hg => (Below.heap_setCell _ _ _ _ (by have := (World.ownsRow.lt HSH.out g hg).1; show g ≠ gx; omega)).trans (hgr.block g (World.ownsRow.lt HSH.out g hg).2 (fun e => rows_ne HSH.out HOWN.out (by decide) g hg e.symm)))
        have GN : Hid ((u8.setCell ⟨gx, 3, none⟩ (.slice ov' (k + 1) kv')).heap[gx]? = some (.cells #[.int .i64 num, .int .i64 kind, .slice none 0 0, .slice ov' (k + 1) kv', .slice none 0 0, .slice os (insA (besL D (l.take k))).length ks] 68 (0, 0))) := SET
        have NN : Hid (But (fun b => b = gx) U (u8.setCell ⟨gx, 3, none⟩ (.slice ov' (k + 1) kv'))) := hN.out.round BA.out hgr (fun q hq => (World.ownsRow.lt HOWN.out q hq).1) 3 _
        clear zc8 zf8 SET
        generalize (u8.setCell ⟨gx, 3, none⟩ (.slice ov' (k + 1) kv')) = U7 at RN SN GN NN ⊢
        clear hown hgr hbk hg8 HOWN HSH HSRC HONE HUA BA BD hO hR hG sua sd hdr e0
        have h7s := NN.out.size
        have b7 : Hid (Below w.heap.size w U7) := BU.out.trans (NN.out.below (B := w.heap.size) (fun b hb => by omega) (by omega))
        have hA7 : Hid (U7.heap[w.heap.size]? = some (.cells #[v0, v1, v2, v3] 40 (0, 0))) := (NN.out.block w.heap.size (by omega) (by omega)).trans X3.out
        have e0 : U7.cell? ⟨b, off + k, none⟩ = some (.string y) := by
          obtain ⟨oa, cp, ev, _, hc⟩ := HL.out U7 b7.out
          obtain ⟨b2, off2, eo, _, cc, hcell, hat⟩ := hc k (by rw [EN.out]; exact hlt)
          cases eo
          cases ev
          rw [width_str] at hcell
          have h0 := hcell 0 (by omega)
          rw [at_str] at hat
          rw [Nat.mul_one, Nat.add_zero, hat.1] at h0
          rw [h0]
          have := htk.out
          rw [List.take_add_one, List.getElem?_eq_getElem (by rw [EN.out]; exact hlt)] at this
          have := List.append_cancel_left this
          simp at this
          rw [this]
        have y0 := (cell_row hA7.out 0 (v0) rfl).1
        have y1 := (cell_row hA7.out 1 (v1) rfl).1
        have y2 := (cell_row hA7.out 2 (v2) rfl).1
        have y3 := (cell_row hA7.out 3 (v3) rfl).1
        have q_e0 := fun d os => cell_regrown e0 d os
        have q_y0 := fun d os => cell_regrown y0 d os
        have q_y1 := fun d os => cell_regrown y1 d os
        have q_y2 := fun d os => cell_regrown y2 d os
        have q_y3 := fun d os => cell_regrown y3 d os
        refine wp_region_mix 5 [0, 1, 2, 3, 4] (by kernel_rfl) (by kernel_rfl) ?_
        simp only [List.filterMap_cons, List.filterMap_nil, List.getElem?_cons_succ, List.getElem?_cons_zero]
        repeat (first | go_big_quiet_step (fail) | quiet_step (fail))
        refine wpQuiet_nil ?_
        refine ⟨by kernel_rfl, ?_⟩
        simp only [List.drop_succ_cons, List.drop_zero]
        clear e0 q_e0 y0 q_y0 y1 q_y1 y2 q_y2 y3 q_y3
        obtain ⟨U8, hU8⟩ : ∃ V, V = U7.drew := ⟨_, rfl⟩
        have B78 : Hid (Below U7.heap.size U7 U8) := by rw [hU8]; exact (Below.refl _ _).drew
        rw [← hU8]
        clear hU8
        have s78 := B78.out.size
        have b8 : Hid (Below w.heap.size w U8) := b7.out.trans (B78.out.mono b7.out.size)
        go_wp2_with (first
          | (go_at_call 56; refine (l4Beside_any B _ _ _ _ D.nv D.fv y U8 (H.out U8 b8.out).v (Nat.le_trans hB b8.out.size) (by omega)).mono ?_; rintro e w8 ⟨lv, rfl, hlv, hb9⟩))
        have s9 := hb9.size
        obtain ⟨ol, kl, rfl⟩ := ownsRow_shape hlv
        obtain ⟨bl, ebl⟩ : ∃ z, z = besN D.fv y D.nv := ⟨_, rfl⟩
        have hbm : bl.length ≤ 18 := by rw [ebl]; have := bes_len D y; omega
        have EB : Hid (bl = besN D.fv y D.nv) := ebl
        rw [← ebl] at hlv ⊢
        clear ebl
        obtain ⟨m, em⟩ : ∃ z, bl.length = z := ⟨_, rfl⟩
        have EM : Hid (bl.length = m) := em
        rw [em] at hlv hbm ⊢
        clear em
        have HLV : Hid (Row w8 U8.heap.size 9 1 eS (.slice ol m kl) bl) := by show World.ownsRow _ _ _ _ _ _ _; rw [enc_S, EM.out]; exact hlv
        clear hlv
        have B79 : Hid (Below U7.heap.size U7 w8) := B78.out.trans (hb9.mono s78)
        have RN8 : Hid (w8.ownsRow U.heap.size 95 3 (.slice ov' (k + 1) kv') (k + 1) (enc 3 eU (useL (l.take (k + 1))))) := row_stable B79.out RN.out
        have SN8 : Hid (w8.ownsRow U.heap.size 9 1 (.slice os (insA (besL D (l.take k))).length ks) (insA (besL D (l.take k))).length ((insA (besL D (l.take k))).map .string)) := row_stable B79.out SN.out
        have GN8 : Hid (w8.heap[gx]? = some (.cells #[.int .i64 num, .int .i64 kind, .slice none 0 0, .slice ov' (k + 1) kv', .slice none 0 0, .slice os (insA (besL D (l.take k))).length ks] 68 (0, 0))) := box_stable B79.out GN.out
        have NN8 : Hid (But (fun b => b = gx) U w8) := NN.out.trans (But.of_below B79.out)
        clear RN SN GN NN hb9 B78 b8 b7 hA7
        obtain ⟨qf, HQ⟩ : ∃ f : Nat → List ByteArray, Hid (∀ j, f j = insA (besL D (l.take k) ++ bl.take j)) := ⟨fun j => insA (besL D (l.take k) ++ bl.take j), fun _ => rfl⟩
        have SN9 : Hid (w8.ownsRow U.heap.size 9 1 (.slice os (qf 0).length ks) (qf 0).length ((qf 0).map .string)) := by show World.ownsRow _ _ _ _ _ _ _; rw [HQ.out, List.take_zero, List.append_nil]; exact SN8.out
        have GN9 : Hid (w8.heap[gx]? = some (.cells #[.int .i64 num, .int .i64 kind, .slice none 0 0, .slice ov' (k + 1) kv', .slice none 0 0, .slice os (qf 0).length ks] 68 (0, 0))) := by show _ = _; rw [HQ.out, List.take_zero, List.append_nil]; exact GN8.out
        go_wp2_with fail
        go_loopw [12] (fun i wz => ∃ (j : Nat) (oz : Option Addr) (kz : Nat), j ≤ m ∧ i = .int .i64 j ∧ Hid (wz.ownsRow U.heap.size 9 1 (.slice oz (qf j).length kz) (qf j).length ((qf j).map .string)) ∧ Hid (wz.heap[gx]? = some (.cells #[.int .i64 num, .int .i64 kind, .slice none 0 0, .slice ov' (k + 1) kv', .slice none 0 0, .slice oz (qf j).length kz] 68 (0, 0))) ∧ Hid (But (fun b => b = gx) w8 wz)) (fun i _ => m - (intOf i).toNat)
        case atStart => exact ⟨0, os, ks, Nat.zero_le _, rfl, SN9.out, GN9.out, But.refl _ _⟩
        case round =>
          obtain ⟨j, oz, kz, hj, rfl, hZ, hGz, hNz⟩ := hrel
          have hzs := hNz.out.size
          by_cases hjt : j < m
          · have HLr : Row wr U8.heap.size 9 1 eS (.slice ol m kl) bl := ownsRow_kept HLV.out (fun g hg => hNz.out.block g (World.ownsRow.lt HLV.out g hg).2 (by have := (World.ownsRow.lt HLV.out g hg).1; omega))
            obtain ⟨sg, sc, ev, hsg, hsl2, hcell⟩ := Row.cell HLr (i := j) (by rw [EM.out]; exact hjt)
            have eo : ol = some ⟨sg, 0, none⟩ := by injection ev
            subst eo
            clear ev
            have es := (hcell 0 (by omega)).1
            obtain ⟨x, ex⟩ : ∃ x, bl[j]'(by rw [EM.out]; exact hjt) = x := ⟨_, rfl⟩
            have hbk2 : Hid (bl.take (j + 1) = bl.take j ++ [x]) := by
              show _ = _
              rw [List.take_add_one, List.getElem?_eq_getElem (by rw [EM.out]; exact hjt), ex]; rfl
            rw [ex, Nat.mul_one, Nat.add_zero] at es
            clear hcell ex
            have hq8 : (qf j).length ≤ 1048576 := by
              rw [HQ.out]
              have a1 := insA_len (besL D (l.take k) ++ bl.take j)
              have a2 := besL_len D (l.take k)
              have a3 : (l.take k).length * D.nv ≤ 8 * 18 := Nat.mul_le_mul (by rw [List.length_take]; omega) hnv
              rw [List.length_append, List.length_take (l := bl)] at a1
              omega
            have yz := (cell_row hGz.out 5 (.slice oz (qf j).length kz) rfl).1
            go_upto_region 12 with fail
            have q_es := fun d os => cell_regrown es d os
            have q_yz := fun d os => cell_regrown yz d os
            refine wp_region_mix 6 [0, 1, 2, 3, 4, 5] (by kernel_rfl) (by kernel_rfl) ?_
            simp only [List.filterMap_cons, List.filterMap_nil, List.getElem?_cons_succ, List.getElem?_cons_zero]
            repeat (first | go_big_quiet_step (fail) | quiet_step (fail))
            refine wpQuiet_nil ?_
            refine ⟨by kernel_rfl, ?_⟩
            simp only [List.drop_succ_cons, List.drop_zero]
            clear es yz q_es q_yz
            obtain ⟨Z, hZ9⟩ : ∃ V, V = wr.drew := ⟨_, rfl⟩
            have BZ : Hid (Below wr.heap.size wr Z) := by rw [hZ9]; exact (Below.refl _ _).drew
            rw [← hZ9]
            clear hZ9
            have sZ := BZ.out.size
            go_wp2_with (first
              | (go_at_call 53; refine (insO_any U.heap.size (qf j) x _ Z (row_stable BZ.out hZ.out) hq8 (by omega)).mono ?_; rintro e z9 ⟨zv, rfl, hzv, hbz⟩; obtain ⟨oz', kz', rfl⟩ := ownsRow_shape hzv; have hgz : z9.heap[gx]? = some (.cells #[.int .i64 num, .int .i64 kind, .slice none 0 0, .slice ov' (k + 1) kv', .slice none 0 0, .slice oz (qf j).length kz] 68 (0, 0)) := box_stable hbz (box_stable BZ.out hGz.out); obtain ⟨zc9, zf9⟩ := cell_row hgz 5 (.slice oz (qf j).length kz) rfl))
            have SET := set_row hgz 5 (.slice oz' (insR (qf j) x).length kz')
            have EQ : Hid (qf (j + 1) = insR (qf j) x) := by show _ = _; rw [HQ.out, HQ.out, hbk2.out, ← List.append_assoc, insA_snoc]
            have RZ : Hid ((z9.setCell ⟨gx, 5, none⟩ (.slice oz' (insR (qf j) x).length kz')).ownsRow U.heap.size 9 1 (.slice oz' (qf (j + 1)).length kz') (qf (j + 1)).length ((qf (j + 1)).map .string)) := by
              show World.ownsRow _ _ _ _ _ _ _
              rw [EQ.out]
              exact ownsRow_kept hzv (fun g hg => Below.heap_setCell _ _ _ _ (by have := (World.ownsRow.lt hzv g hg).1; show g ≠ gx; omega))
            have GZ : Hid ((z9.setCell ⟨gx, 5, none⟩ (.slice oz' (insR (qf j) x).length kz')).heap[gx]? = some (.cells #[.int .i64 num, .int .i64 kind, .slice none 0 0, .slice ov' (k + 1) kv', .slice none 0 0, (.slice oz' (qf (j + 1)).length kz')] 68 (0, 0))) := by show _ = _; rw [EQ.out]; exact SET
            have NZ : Hid (But (fun b => b = gx) w8 (z9.setCell ⟨gx, 5, none⟩ (.slice oz' (insR (qf j) x).length kz'))) := ((hNz.out.trans (But.of_below BZ.out)).trans (But.of_below hbz)).set rfl 5 _
            go_roundw
            case rel => exact ⟨j + 1, oz', kz', by omega, by go_num, RZ.out, GZ.out, NZ.out⟩
            case measure => simp [intOf]; omega
          · have hjm : j = m := by omega
            have EF : Hid (insA (besL D (l.take (k + 1))) = qf j) := by show _ = _; rw [HQ.out, htk.out, besL_snoc, ← EB.out, show bl.take j = bl from List.take_of_length_le (by rw [EM.out, hjm]; exact Nat.le_refl _)]
            have RF : Hid (wr.ownsRow U.heap.size 9 1 (.slice oz (insA (besL D (l.take (k + 1)))).length kz) (insA (besL D (l.take (k + 1)))).length ((insA (besL D (l.take (k + 1)))).map .string)) := by show World.ownsRow _ _ _ _ _ _ _; rw [EF.out]; exact hZ.out
            have GF : Hid (wr.heap[gx]? = some (.cells #[.int .i64 num, .int .i64 kind, .slice none 0 0, .slice ov' (k + 1) kv', .slice none 0 0, .slice oz (insA (besL D (l.take (k + 1)))).length kz] 68 (0, 0))) := by show _ = _; rw [EF.out]; exact hGz.out
            have UF : Hid (wr.ownsRow U.heap.size 95 3 (.slice ov' (k + 1) kv') (k + 1) (enc 3 eU (useL (l.take (k + 1))))) := ownsRow_kept RN8.out (fun g hg => hNz.out.block g (World.ownsRow.lt RN8.out g hg).2 (by have := (World.ownsRow.lt RN8.out g hg).1; omega))
            have NF : Hid (But (fun b => b = gx) U wr) := NN8.out.trans hNz.out
            go_wp2_with fail
            go_roundw
            case rel => exact ⟨k + 1, ov', kv', oz, kz, by omega, by go_num, UF.out, RF.out, GF.out, NF.out⟩
            case measure => simp [intOf]; omega
      · have hkn : k = n := by omega
        subst hkn
        have ETL : Hid (l.take k = l) := List.take_of_length_le (by rw [EN.out]; exact Nat.le_refl _)
        rw [ETL.out] at hO hR hG
        have y0 := (cell_row hA.out 0 (v0) rfl).1
        have y1 := (cell_row hA.out 1 (v1) rfl).1
        have y2 := (cell_row hA.out 2 (v2) rfl).1
        have y3 := (cell_row hA.out 3 (v3) rfl).1
        have d0 := (cell_row hG.out 0 (.int .i64 num) rfl).1
        have d1 := (cell_row hG.out 1 (.int .i64 kind) rfl).1
        have d2 := (cell_row hG.out 2 (.slice none 0 0) rfl).1
        have d3 := (cell_row hG.out 3 (.slice ou k ku) rfl).1
        have d4 := (cell_row hG.out 4 (.slice none 0 0) rfl).1
        have d5 := (cell_row hG.out 5 (.slice os (insA (besL D l)).length ks) rfl).1
        have UA : Hid (AtL (fun b => b < wr.heap.size) wr (useL l) (.slice ou k ku)) := (onU_row (B := U.heap.size) (t := 95) (S := fun b => b < wr.heap.size) (l := useL l) (v := .slice ou k ku) (by show World.ownsRow _ _ _ _ _ _ _; rw [show (useL l).length = k by rw [useL, List.length_map, EN.out]]; exact hO.out) (fun g hg => (World.ownsRow.lt hO.out g hg).2) (fun x hx => by
            obtain ⟨y, hy, rfl⟩ := List.mem_map.1 hx
            exact ⟨by have := its_size HV.out HI.out hy; show y.size ≤ maxLen; unfold maxLen; omega, okI3, okI0⟩)).at_
        have SA : Hid (AtL (fun b => b < wr.heap.size) wr (insA (besL D l)) (.slice os (insA (besL D l)).length ks)) := (onS_row (B := U.heap.size) (t := 9) (S := fun b => b < wr.heap.size) (l := insA (besL D l)) (v := .slice os (insA (besL D l)).length ks) (by show World.ownsRow _ _ _ _ _ _ _; rw [enc_S]; exact hR.out) (fun g hg => (World.ownsRow.lt hR.out g hg).2) (fun x hx => by have := sh_size HV.out hx; show x.size ≤ maxLen; unfold maxLen; omega)).at_
        have HC : Hid (Calls Tryz.prog 54 #[.agg #[v0, v1, v2, v3], .agg #[.int .i64 num, .int .i64 kind, .slice none 0 0, .slice ou k ku, .slice none 0 0, .slice os (insA (besL D l)).length ks]] wr fun e w' => ∃ v, e = .returned v ∧ OnL (fun b => wr.heap.size ≤ b ∧ b < w'.heap.size) w' (askL D (atD D num kind l) (stL true D)) v ∧ Below wr.heap.size wr w') := asksS_any B (fun b => b < wr.heap.size) v0 v1 v2 v3 D (atD D num kind l) (cs [.int .i64 num, .int .i64 kind, .slice none 0 0, .slice ou k ku, .slice none 0 0, .slice os (insA (besL D l)).length ks]) wr (H.out wr bwr.out) (Nat.le_trans hB bwr.out.size) hz HV.out (at_at hn hk UA.out SA.out) (fun b hb => hb) (at_in HI.out) (tot4 (at_tot HV.out HI.out)) (hsl HV.out)
        go_wp2_with fail
        refine (HC.out).mono ?_
        rintro e wf ⟨rv, rfl, hon, hbf⟩
        go_wp2_with fail
        go_ret
        exact ⟨_, _, rfl, ⟨fun _ => rfl, fun h => absurd ⟨HV.out, HI.out, HKD.out⟩ h⟩, hon.up (fun b hb => ⟨Nat.le_trans bwr.out.size hb.1, hb.2⟩), bwr.out.trans (hbf.mono bwr.out.size)⟩

end Go.Proofs.YtndacfockllehaaGreat
