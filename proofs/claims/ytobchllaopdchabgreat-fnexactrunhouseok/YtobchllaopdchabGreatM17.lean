/-
  Several texts in one.
-/
import Derived.Test.YtobchllaopdchabGreatM16
import Derived.Test.YtobchllaopdchabGreatShelf
import Derived.Sort.OwnSorted
import Derived.Test.YtobchllaopdchabGreatM7
import Derived.Test.YtobchllaopdchabGreatM2
namespace Go.Proofs.YtobchllaopdchabGreat
open Go.RowKit
def byL (b : ByteArray) : List UInt8 := b.data.toList
def unL (l : List UInt8) : ByteArray := ⟨l.toArray⟩
theorem un_by (b : ByteArray) : unL (byL b) = b := rfl
theorem by_un (l : List UInt8) : byL (unL l) = l := by simp [byL, unL]
def sortL (L : List ByteArray) : List ByteArray := ((L.map byL).mergeSort fun x y => decide (x ≤ y)).map unL
theorem sort_len (L : List ByteArray) : (sortL L).length = L.length := by simp [sortL]
theorem sort_mem (L : List ByteArray) (y : ByteArray) : y ∈ sortL L ↔ y ∈ L := by
  unfold sortL
  rw [List.mem_map]
  constructor
  · rintro ⟨l, hl, rfl⟩
    obtain ⟨b, hb, rfl⟩ := List.mem_map.1 ((List.mergeSort_perm _ _).mem_iff.1 hl)
    rw [un_by]; exact hb
  · intro hy
    exact ⟨byL y, (List.mergeSort_perm _ _).mem_iff.2 (List.mem_map.2 ⟨y, hy, rfl⟩), un_by y⟩
theorem sort_perm (L : List ByteArray) : (sortL L).Perm L := by
  have h := (List.mergeSort_perm (L.map byL) fun x y => decide (x ≤ y)).map unL
  rw [List.map_map] at h
  have e : L.map (unL ∘ byL) = L := by
    rw [show unL ∘ byL = id from rfl, List.map_id]
  rw [e] at h
  exact h
theorem sort_asc {L : List ByteArray} (h : L.Nodup) : AscL (sortL L) := by
  have h1 : ((L.map byL).mergeSort fun x y => decide (x ≤ y)).Pairwise fun a b => decide (a ≤ b) = true :=
    List.pairwise_mergeSort (fun a b c h1 h2 => by simp at *; exact List.le_trans h1 h2) (fun a b => by simp; exact List.le_total a b) _
  have h2 : ((L.map byL).mergeSort fun x y => decide (x ≤ y)).Nodup := (List.mergeSort_perm _ _).nodup_iff.2 (by
    refine List.pairwise_map.2 (h.imp fun {a b} hab e => hab ?_)
    rw [← un_by a, ← un_by b, e])
  unfold AscL sortL
  refine List.pairwise_map.2 ((h1.and h2).imp fun {a b} hab => ?_)
  rw [ltB_iff, ByteArray.toList_eq, ByteArray.toList_eq]
  show byL (unL a) < byL (unL b)
  rw [by_un, by_un]
  rcases List.le_iff_lt_or_eq.1 (of_decide_eq_true hab.1) with h | h
  · exact h
  · exact absurd h hab.2
open Go.Sort in
theorem sort_any (base : Nat) (v : Value) (L : List ByteArray) (w : World) (h : w.ownsRow base 9 1 v L.length (L.map .string)) (hl : L.length ≤ 1048576) (hbase : base ≤ w.heap.size) :
    Calls Tryz.prog 60 #[v] w fun e w' => e = .returned (.tuple #[]) ∧ w'.ownsRow base 9 1 v (sortL L).length ((sortL L).map .string) ∧ Below base w w' := by
  by_cases hne : 0 < L.length
  case neg =>
    obtain rfl : L = [] := List.eq_nil_of_length_eq_zero (by omega)
    rcases h.2 with ⟨rfl, _⟩ | ⟨g, cap, cur, rfl, hb, hg, hc, hm', hs, ht⟩
    all_goals
      refine (Tryz.slices_Sort_string_none _ _ w).mono ?_
      rintro e w' ⟨rfl, rfl⟩
      exact ⟨rfl, by simpa [sortL] using h, Below.refl _ _⟩
  rcases h.2 with ⟨_, e⟩ | ⟨g, cap, cur, rfl, hb, hg, hc, hm', hs, ht⟩
  · omega
  · have hss : (L.map byL).length = L.length := by simp
    have henc : L.map Value.string = (L.map byL).map encStr := by
      rw [List.map_map]
      apply List.map_congr_left
      intro b _
      rfl
    have hH : Sort.Holds encStr w g 0 (L.map byL).toArray := holds_of_block hg (by rw [hss, ← henc, ← ht, Nat.mul_one])
    have C := Tryz.slices_Sort_string g 0 cap (L.map byL) w hH (Array.getElem?_eq_some_iff.1 hg).1 (by rw [hss]; omega)
    rw [hss] at C
    refine C.mono ?_
    rintro e w' ⟨rfl, n, os, rfl⟩
    refine ⟨rfl, ?_, ?_⟩
    · have := ownsRow_sorted (w := w) (base := base) (g := g) (cap := cap) (n := n) (e := 9) (os := os) (cur := cur) (ss := L.map byL) (ts := (L.map byL).mergeSort fun x y => decide (x ≤ y)) (by simp) hb hg (by rw [hss]; exact hc) hm' hs
      rw [hss] at this
      have e1 : ((L.map byL).mergeSort fun x y => decide (x ≤ y)).map encStr = (sortL L).map Value.string := by
        unfold sortL
        rw [List.map_map]
        rfl
      rw [e1] at this
      rw [sort_len]; exact this
    · exact (Below.refl base w).grown (grownBy_sorted _) hbase (fun q hq => by cases hq; exact hb)
theorem encS_map : ∀ L : List ByteArray, enc 1 eS L = L.map Value.string
  | [] => rfl
  | a :: l => by rw [enc_cons, encS_map l]; rfl
theorem sortR_any (base : Nat) (v : Value) (L : List ByteArray) (w : World) (h : Row w base 9 1 eS v L) (hl : L.length ≤ 1048576) (hbase : base ≤ w.heap.size) :
    Calls Tryz.prog 60 #[v] w fun e w' => e = .returned (.tuple #[]) ∧ Row w' base 9 1 eS v (sortL L) ∧ Below base w w' := by
  have h' : w.ownsRow base 9 1 v L.length (L.map .string) := by have := h; unfold Row at this; rw [encS_map] at this; exact this
  refine (sort_any base v L w h' hl hbase).mono ?_
  rintro e w' ⟨he, hr, hb⟩
  exact ⟨he, by unfold Row; rw [encS_map]; exact hr, hb⟩
end Go.Proofs.YtobchllaopdchabGreat

namespace Go.Proofs.YtobchllaopdchabGreat
open Go.RowKit
set_option maxRecDepth 100000 in
set_option maxHeartbeats 8000000 in
theorem thing_any (S : Nat → Prop) (sl : List DRunSlot) (nm at_ : ByteArray) (si st : Int) (o1 o2 : Option Addr) (n1 k1 n2 k2 : Nat) (x : ByteArray) (w : World) (h : AtL S w sl (.slice o2 n2 k2)) (hS : ∀ b, S b → b < w.heap.size) :
    Calls Tryz.prog 117 #[.agg #[.string nm, .slice o1 n1 k1, .slice o2 n2 k2, .string at_, .int .i64 si, .int .i64 st], .string x] w fun e w' => e = .returned (.string (thT sl x)) ∧ Below w.heap.size w w' := by
  have en : sl.length = n2 := by obtain ⟨_, _, e, _⟩ := h; cases e; rfl
  have hmx : n2 ≤ 9223372036854775807 := by obtain ⟨_, _, e, hf, _⟩ := id h; cases e; have := hf.1; unfold maxLen at this; omega
  have EN : Hid (sl.length ≤ n2 ∧ n2 ≤ sl.length) := ⟨by omega, by omega⟩
  obtain ⟨W, hW⟩ : ∃ W, W = w.alloc (.cells #[.string nm, .slice o1 n1 k1, .slice o2 n2 k2, .string at_, .int .i64 si, .int .i64 st] 50) := ⟨_, rfl⟩
  have EW : Hid (W = w.alloc (.cells #[.string nm, .slice o1 n1 k1, .slice o2 n2 k2, .string at_, .int .i64 si, .int .i64 st] 50)) := hW
  have BW : Hid (Below w.heap.size w W) := by rw [hW]; exact (Below.refl _ _).alloc (Nat.le_refl _) _
  have Y0 : Hid (W.cell? ⟨w.heap.size, 2, none⟩ = some (.slice o2 n2 k2)) := by rw [hW]; exact box_at _ _ (Below.refl _ _) 2 _ rfl
  have sW : w.heap.size + 1 ≤ W.heap.size := by rw [hW]; simp
  have HA : Hid (AtL S W sl (.slice o2 n2 k2)) := by rw [hW]; exact h.same (Same.of_below ((Below.refl _ _).alloc (Nat.le_refl _) _) hS)
  clear hW en h
  go_enter Tryz.func117, Tryz.ntmps117
  go_wp2_with fail
  rw [← EW.out]
  go_loop [5] (fun i => ∃ q : Nat, q ≤ n2 ∧ i = .int .i64 q ∧ Hid (∀ j (hj : j < sl.length), j < q → eqB sl[j].1 x = false)) (fun i => n2 - (intOf i).toNat)
  case atStart => exact ⟨0, Nat.zero_le _, rfl, fun _ _ h => by omega⟩
  case round =>
    obtain ⟨q, hq, rfl, hall⟩ := hrel
    have y0 := Y0.out
    by_cases hlt : q < n2
    case neg =>
      go_wp2_with fail
      go_ret
      rw [thT_none (fun j hj => hall.out j hj (by have := EN.out; omega))]
      exact ⟨rfl, BW.out⟩
    have hqb : q < sl.length := by have := EN.out; omega
    obtain ⟨oa, cap, ev, hn, hc⟩ := id HA.out
    obtain ⟨b, off, eo, hbS, cc, hcell, hat⟩ := hc q hqb
    clear hc hn
    obtain rfl : o2 = some ⟨b, off, none⟩ := by cases ev; exact eo
    clear ev eo
    rw [width_DRunSlot] at hcell
    rw [at_DRunSlot] at hat
    have e0 : W.cell? ⟨b, off + q * 2, none⟩ = some (.string sl[q].1) := (by have hq := hcell 0 (by omega); first | exact hq | simpa using hq : W.cell? ⟨b, off + q * 2, none⟩ = some (cc 0)).trans (by rw [hat.1.1])
    have e1 : W.cell? ⟨b, off + q * 2 + 1, none⟩ = some (.string sl[q].2) := (hcell 1 (by omega)).trans (by rw [hat.2.1])
    clear hcell hat
    have HIT : Hid (eqB sl[q].1 x = true → thT sl x = sl[q].2) := fun e => thT_hit hqb hall.out e
    obtain ⟨f, ef⟩ : ∃ f, sl[q] = f := ⟨_, rfl⟩
    rw [ef] at e0 e1 HIT
    cases c0 : (f.1.toList == x.toList)
    · have hp : eqB sl[q].1 x = false := by rw [ef]; simp [eqB, c0]
      go_wp2_with fail
      go_round
      case rel => exact ⟨q + 1, by omega, by go_num, fun j hj hjq => by
        by_cases e : j = q
        · subst e; exact hp
        · exact hall.out j hj (by omega)⟩
      case measure => simp [intOf]; omega
    · have hp : eqB f.1 x = true := by simp [eqB, c0]
      go_wp2_with fail
      go_ret
      rw [HIT.out hp]
      exact ⟨rfl, BW.out⟩
set_option maxRecDepth 100000 in
set_option maxHeartbeats 8000000 in
theorem thingsX_any (S : Nat → Prop) (sl : List DRunSlot) (nm at_ : ByteArray) (si st : Int) (o1 o2 : Option Addr) (n1 k1 n2 k2 : Nat) (l : List ByteArray) (vb : Value) (w : World) (h : AtL S w sl (.slice o2 n2 k2)) (hS : ∀ b, S b → b < w.heap.size) (hb : RdB w vb l) (hl : l.length ≤ 1000000) :
    Calls Tryz.prog 79 #[.agg #[.string nm, .slice o1 n1 k1, .slice o2 n2 k2, .string at_, .int .i64 si, .int .i64 st], vb] w fun e w' => ∃ g cap, e = .returned (.slice (some ⟨g, 0, none⟩) (thL sl l).length cap) ∧ w'.ownsRow w.heap.size 9 1 (.slice (some ⟨g, 0, none⟩) (thL sl l).length cap) (thL sl l).length ((thL sl l).map .string) ∧ Below w.heap.size w w' := by
  obtain ⟨ob, cb, rfl, hc⟩ := hb
  have HC : Hid _ := hc
  have HA : Hid _ := h.ups hS
  have HS : Hid _ := lt_up hS
  obtain ⟨n, en⟩ : ∃ n, l.length = n := ⟨_, rfl⟩
  have EN : Hid (l.length = n) := en
  rw [en]
  rw [en] at hl
  clear hc h hS en
  obtain ⟨W, EW, BW, RW, sW⟩ := box_new w #[.string nm, .slice o1 n1 k1, .slice o2 n2 k2, .string at_, .int .i64 si, .int .i64 st] 50
  have BOX : Hid (∀ u, Below W.heap.size W u → u.heap[w.heap.size]? = some (.cells #[.string nm, .slice o1 n1 k1, .slice o2 n2 k2, .string at_, .int .i64 si, .int .i64 st] 50 (0, 0)) ∧ Below w.heap.size w u) := fun u hu => ⟨(hu.block _ (by omega)).trans RW.out, BW.out.trans (hu.mono (by omega))⟩
  go_enter Tryz.func79, Tryz.ntmps79
  go_upto_region 1 with fail
  rw [← EW.out]
  go_wp2_with fail
  go_loopw [5, 6] (fun av i wr => ∃ (k m g cap : Nat), k ≤ n ∧ i = .int .i64 k ∧ av = .slice (some ⟨g, 0, none⟩) m cap ∧ m ≤ k ∧ Hid ((thL sl (l.take k)).length = m) ∧ Hid (wr.ownsRow w.heap.size 9 1 (.slice (some ⟨g, 0, none⟩) (thL sl (l.take k)).length cap) (thL sl (l.take k)).length ((thL sl (l.take k)).map .string)) ∧ Hid (Below W.heap.size W wr)) (fun _ i _ => n - (intOf i).toNat)
  case atStart => exact ⟨0, 0, W.heap.size, 0, Nat.zero_le _, rfl, rfl, Nat.le_refl _, rfl, own_nil (by omega), (Below.refl _ _).alloc (Nat.le_refl _) _⟩
  case round =>
    obtain ⟨k, m, g, cap, hk, rfl, rfl, hmk, hlen, hown, hbel⟩ := hrel
    obtain ⟨hbox, hbw⟩ := BOX.out wr hbel.out
    by_cases hlt : k < n
    · obtain ⟨gb, rfl, hgb, hcell⟩ := HC.out k (by rw [EN.out]; exact hlt)
      have e0 : wr.cell? ⟨gb, k, none⟩ = some (.string (nthB l k)) := (hbw.cell hgb).trans hcell
      have hs := hbel.out.size
      have NEXT : Hid (thL sl (l.take (k + 1)) = insR (thL sl (l.take k)) (thT sl (nthB l k))) := thL_take sl l (by rw [EN.out]; exact hlt)
      clear hcell hgb
      have HBW : Hid (Below w.heap.size w wr) := hbw
      clear hbw
      have HDR : Hid (Below wr.heap.size wr wr.drew) := (Below.refl _ _).drew
      have q0 := fun d os => cell_regrown (cell_row hbox 0 (.string nm) rfl).1 d os
      have q1 := fun d os => cell_regrown (cell_row hbox 1 (.slice o1 n1 k1) rfl).1 d os
      have q2 := fun d os => cell_regrown (cell_row hbox 2 (.slice o2 n2 k2) rfl).1 d os
      have q3 := fun d os => cell_regrown (cell_row hbox 3 (.string at_) rfl).1 d os
      have q4 := fun d os => cell_regrown (cell_row hbox 4 (.int .i64 si) rfl).1 d os
      have q5 := fun d os => cell_regrown (cell_row hbox 5 (.int .i64 st) rfl).1 d os
      have qe := fun d os => cell_regrown e0 d os
      clear hbox e0
      go_upto_region 5 with fail
      refine wp_region_mix 7 [0, 1, 2, 3, 4, 5] (by kernel_rfl) (by kernel_rfl) ?_
      simp only [List.filterMap_cons, List.filterMap_nil, List.getElem?_cons_succ, List.getElem?_cons_zero]
      repeat (first | go_big_quiet_step (fail) | quiet_step (fail))
      refine wpQuiet_nil ?_
      clear q0 q1 q2 q3 q4 q5 qe
      have bdr : Hid (Below w.heap.size w wr.drew) := HBW.out.trans (HDR.out.mono HBW.out.size)
      refine call1 (md := .any) (f := 0) (i := 6) (dc := 20) (fn := 117) ⟨rfl, rfl, rfl, by decide⟩ (by kernel_rfl) ?run ((thing_any S sl nm at_ si st o1 o2 n1 k1 n2 k2 (nthB l k) wr.drew (HA.out _ bdr.out) (HS.out _ bdr.out)).mono ?_)
      case run => go_simp
      rintro e u ⟨rfl, hb1⟩
      have B1 : Hid (Below wr.heap.size wr u) := HDR.out.trans (hb1.mono HDR.out.size)
      have O1 : Hid (u.ownsRow w.heap.size 9 1 (.slice (some ⟨g, 0, none⟩) (thL sl (l.take k)).length cap) (thL sl (l.take k)).length ((thL sl (l.take k)).map .string)) := own_belowR hown.out B1.out
      refine ⟨_, rfl, regrown_of_below B1.out, ?_⟩
      clear hb1
      refine ⟨by kernel_rfl, ?_⟩
      simp only [List.drop_succ_cons, List.drop_zero, Act.put, List.setIfInBounds_toArray, List.set_cons_zero, List.set_cons_succ]
      have s1 := B1.out.size
      have CI : Hid (Calls Tryz.prog 116 #[.slice (some ⟨g, 0, none⟩) m cap, .string (thT sl (nthB l k))] u fun e w' => ∃ g' cap', e = .returned (.slice (some ⟨g', 0, none⟩) (thL sl (l.take (k + 1))).length cap') ∧ w'.ownsRow w.heap.size 9 1 (.slice (some ⟨g', 0, none⟩) (thL sl (l.take (k + 1))).length cap') (thL sl (l.take (k + 1))).length ((thL sl (l.take (k + 1))).map .string) ∧ Below u.heap.size u w') := by
        rw [NEXT.out]
        have := insX_any w.heap.size g cap (thL sl (l.take k)) (thT sl (nthB l k)) u O1.out (by rw [hlen.out]; omega) (by have := HBW.out.size; omega)
        rw [hlen.out] at this
        exact this
      have HL : Hid ((thL sl (l.take (k + 1))).length ≤ m + 1) := by rw [NEXT.out, ← hlen.out]; exact insR_len _ _
      go_wp2_with fail
      refine CI.out.mono ?_; rintro e u2 ⟨g', cap', rfl, hown', hbu⟩
      obtain ⟨l', hl'⟩ : ∃ l', (thL sl (l.take (k + 1))).length = l' := ⟨_, rfl⟩
      have HL' : Hid ((thL sl (l.take (k + 1))).length = l') := hl'
      have hll : l' ≤ m + 1 := by have := HL.out; omega
      have HOW : Hid (u2.ownsRow w.heap.size 9 1 (.slice (some ⟨g', 0, none⟩) (thL sl (l.take (k + 1))).length cap') (thL sl (l.take (k + 1))).length ((thL sl (l.take (k + 1))).map .string)) := hown'
      have HB : Hid (Below W.heap.size W u2) := hbel.out.trans ((B1.out.trans (hbu.mono s1)).mono hs)
      rw [hl']
      clear hl' hown' hbu
      go_wp2_with fail
      go_roundw
      case rel => exact ⟨k + 1, l', g', cap', by omega, by go_num, rfl, by omega, HL'.out, HOW.out, HB.out⟩
      case measure => simp [intOf]; omega
    · have hkn : k = n := by omega
      subst hkn
      have et : l.take k = l := by rw [← EN.out]; exact List.take_length
      rw [et] at hlen hown
      go_wp2_with fail
      go_ret
      exact ⟨g, cap, by rw [hlen.out]; rfl, hown.out, hbw⟩
end Go.Proofs.YtobchllaopdchabGreat

namespace Go.Proofs.YtobchllaopdchabGreat
open Go.RowKit Go.Sort
noncomputable def tgL (b : DRunBatch) (x : ByteArray) : List ByteArray := if runB b = true then thL b.2.2.1 (sltF 12 b.2.1 x) else []
set_option maxRecDepth 100000 in
set_option maxHeartbeats 8000000 in
theorem thgX_any (S : Nat → Prop) (nm : ByteArray) (r : List DRecPhase) (sl : List DRunSlot) (at_ : ByteArray) (si st : Int) (o1 o2 : Option Addr) (n1 k1 n2 k2 : Nat) (x : ByteArray) (w : World) (hn : nm.size ≤ maxLen) (hr : AtL S w r (.slice o1 n1 k1)) (h : AtL S w sl (.slice o2 n2 k2)) (hS : ∀ b, S b → b < w.heap.size) :
    Calls Tryz.prog 41 #[.agg #[.string nm, .slice o1 n1 k1, .slice o2 n2 k2, .string at_, .int .i64 si, .int .i64 st], .string x] w fun e w' => ∃ q, e = .returned q ∧ w'.ownsRow w.heap.size 9 1 q (tgL (nm, r, sl, at_, si, st) x).length ((tgL (nm, r, sl, at_, si, st) x).map .string) ∧ Below w.heap.size w w' := by
  have HN : Hid (nm.size ≤ maxLen) := hn
  obtain ⟨G, hG⟩ : ∃ G, G = tgL (nm, r, sl, at_, si, st) x := ⟨_, rfl⟩
  rw [← hG]
  have TG : Hid (G = if runB (nm, r, sl, at_, si, st) = true then thL sl (sltF 12 r x) else []) := hG
  clear hG
  obtain ⟨W, EW, BW, RW, sW⟩ := box_new w #[.string nm, .slice o1 n1 k1, .slice o2 n2 k2, .string at_, .int .i64 si, .int .i64 st] 50
  have BOX : Hid (∀ u, Below W.heap.size W u → u.heap[w.heap.size]? = some (.cells #[.string nm, .slice o1 n1 k1, .slice o2 n2 k2, .string at_, .int .i64 si, .int .i64 st] 50 (0, 0)) ∧ Below w.heap.size w u) := fun u hu => ⟨(hu.block _ (by omega)).trans RW.out, BW.out.trans (hu.mono (by omega))⟩
  have HR : Hid _ := hr.ups hS
  have HA : Hid _ := h.ups hS
  have HS : Hid _ := lt_up hS
  clear h hr hS hn
  have h0 := fun u (hu : Below W.heap.size W u) => cell_row (BOX.out u hu).1
  have Y : Hid (∀ u, Below W.heap.size W u → u.cell? ⟨w.heap.size, 0, none⟩ = some (.string nm) ∧ u.cell? ⟨w.heap.size, 1, none⟩ = some (.slice o1 n1 k1) ∧ u.cell? ⟨w.heap.size, 2, none⟩ = some (.slice o2 n2 k2) ∧ u.cell? ⟨w.heap.size, 3, none⟩ = some (.string at_) ∧ u.cell? ⟨w.heap.size, 4, none⟩ = some (.int .i64 si) ∧ u.cell? ⟨w.heap.size, 5, none⟩ = some (.int .i64 st)) := fun u hu =>
    ⟨(h0 u hu 0 _ rfl).1, (h0 u hu 1 _ rfl).1, (h0 u hu 2 _ rfl).1, (h0 u hu 3 _ rfl).1, (h0 u hu 4 _ rfl).1, (h0 u hu 5 _ rfl).1⟩
  clear h0
  obtain ⟨y0, y1, y2, y3, y4, y5⟩ := Y.out W (Below.refl _ _)
  have BWW := BW.out
  have szW := BWW.size
  go_enter Tryz.func41, Tryz.ntmps41
  go_upto_region 1 with fail
  rw [← EW.out]
  go_wp2_with fail
  refine (runX_any S nm r sl at_ si st o1 o2 n1 k1 n2 k2 W HN.out (HR.out _ BW.out) (HA.out _ BW.out) (HS.out _ BW.out)).mono ?_; rintro e w1 ⟨rfl, hb1⟩
  have B1 : Hid (Below W.heap.size W w1) := hb1
  have BW1 : Hid (Below w.heap.size w w1) := (BOX.out w1 hb1).2
  clear y0 y1 y2 y3 y4 y5 hb1
  obtain ⟨y0, y1, y2, y3, y4, y5⟩ := Y.out w1 B1.out
  cases c : runB (nm, r, sl, at_, si, st)
  · rw [c] at TG
    obtain rfl : G = [] := TG.out
    clear y0 y1 y2 y3 y4 y5 szW BWW
    go_wp2_with fail
    go_ret
    have sz := BW1.out.size
    exact ⟨_, rfl, own_nil sz, BW1.out.alloc sz _⟩
  rw [c, if_pos rfl] at TG
  have HP := run_rec c
  have hR : RecP r := HP.1
  obtain ⟨L, hL⟩ : ∃ L, L = sltF 12 r x := ⟨_, rfl⟩
  have hll : L.length ≤ 8192 := by rw [hL]; exact slt_small r (by omega) _
  have HLL : Hid (L.length ≤ 8192) := hll
  have CS : Hid (∀ u, Below w.heap.size w u → Calls Tryz.prog 78 #[.slice o1 n1 k1, .string x] u fun e w' => ∃ q, e = .returned q ∧ w'.ownsRow u.heap.size 9 1 q L.length (L.map .string) ∧ Below u.heap.size u w') := fun u hu => by
    rw [hL]; exact sltX_any S r hR 12 _ _ u (Nat.le_refl _) (HR.out u hu) (HS.out u hu) (fun k hk => by have := hR.1; omega)
  rw [← hL] at TG
  have hG : G = thL sl L := TG.out
  subst hG
  have HDR : Hid (Below w1.heap.size w1 w1.drew) := (Below.refl _ _).drew
  have q0 := fun d os => cell_regrown y0 d os
  have q1 := fun d os => cell_regrown y1 d os
  have q2 := fun d os => cell_regrown y2 d os
  have q3 := fun d os => cell_regrown y3 d os
  have q4 := fun d os => cell_regrown y4 d os
  have q5 := fun d os => cell_regrown y5 d os
  clear hL HP hR hll TG y0 y1 y2 y3 y4 y5 szW BWW
  go_wp2_with fail
  refine wp_region_mix 5 [0, 1, 2, 3] (by kernel_rfl) (by kernel_rfl) ?_
  simp only [List.filterMap_cons, List.filterMap_nil, List.getElem?_cons_succ, List.getElem?_cons_zero]
  repeat (first | go_big_quiet_step (fail) | quiet_step (fail))
  refine wpQuiet_nil ?_
  clear q0 q1 q2 q3 q4 q5
  have bdr : Hid (Below w.heap.size w w1.drew) := BW1.out.trans (HDR.out.mono BW1.out.size)
  refine call1 (md := .any) (f := 0) (i := 4) (dc := 13) (fn := 78) ⟨rfl, rfl, rfl, by decide⟩ (by kernel_rfl) ?run ((CS.out w1.drew bdr.out).mono ?_)
  case run => go_simp
  rintro e u ⟨q, rfl, hq, hb1⟩
  have C1 : Hid (Below w1.heap.size w1 u) := HDR.out.trans (hb1.mono HDR.out.size)
  have BU : Hid (Below w.heap.size w u) := BW1.out.trans (C1.out.mono BW1.out.size)
  have RD : Hid (RdB u q L) := RdB.of hq
  refine ⟨_, rfl, regrown_of_below C1.out, ?_⟩
  clear hb1 hq
  refine ⟨by kernel_rfl, ?_⟩
  simp only [List.drop_succ_cons, List.drop_zero, Act.put, List.setIfInBounds_toArray, List.set_cons_zero, List.set_cons_succ]
  have s1 := BU.out.size
  go_wp2_with fail
  refine (thingsX_any S sl nm at_ si st o1 o2 n1 k1 n2 k2 L q u (HA.out _ BU.out) (HS.out _ BU.out) RD.out (by have := HLL.out; omega)).mono ?_; rintro e u2 ⟨g, cap, rfl, ho, hb2⟩
  have HO : Hid _ := ho
  have HB : Hid (Below w.heap.size w u2) := BU.out.trans (hb2.mono s1)
  clear ho hb2
  go_wp2_with fail
  go_ret
  exact ⟨_, rfl, own_leR HO.out s1, HB.out⟩
end Go.Proofs.YtobchllaopdchabGreat

namespace Go.Proofs.YtobchllaopdchabGreat
open Go.Sort
section
variable {P : Program} {md : Region.Mode} {ops : Array Oper} {C : World → Prop} {n : Nat} {L : Array Bool → Act → World → Prop}
def valH (o : Oper) : Bool := match o.op with
  | .pick _ _ _ => true
  | .nilCheck _ => true
  | _ => valB o
theorem nil_run {ρ : Operand → Value} {o : Oper} {x : Operand} (h : o.op = .nilCheck x) (w w' : World) (m : Next) (hr : (execOp ρ o).run P w = .ok m w') : ∃ u, m = .value u := by
  unfold execOp at hr
  rw [h] at hr
  simp only [] at hr
  split at hr
  · simp [runtimePanic] at hr
  · simp [runtimePanic] at hr
  · simp [runtimePanic] at hr
  · split at hr
    · simp [runtimePanic] at hr
    · simp only [Sem.run_bind] at hr
      generalize Sem.run P program w = r0 at hr
      cases r0 with
      | halt x w1 => simp [Result.andThen] at hr
      | ok p0 w0 =>
        simp only [Result.andThen] at hr
        generalize Sem.run P (nilAhead _ _ _ _) w0 = r1 at hr
        cases r1 with
        | halt x w1 => simp at hr
        | ok b w1 =>
          simp only [] at hr
          split at hr
          · simp [unsupported] at hr
          · simp at hr
            exact ⟨_, hr.1.symm⟩
    · simp only [Sem.run_pure] at hr; cases hr; exact ⟨_, rfl⟩
  · simp only [Sem.run_pure] at hr; cases hr; exact ⟨_, rfl⟩
theorem pick_run {ρ : Operand → Value} {o : Oper} {c x y : Operand} (h : o.op = .pick c x y) (w w' : World) (m : Next) (hr : (execOp ρ o).run P w = .ok m w') : ∃ u, m = .value u := by
  unfold execOp at hr
  rw [h] at hr
  have hr' : Sem.run P (do let b ← asBool (ρ c); pure (Next.value (if b = true then ρ x else ρ y))) w = .ok m w' := hr
  simp only [Sem.run_bind, Sem.run_pure] at hr'
  generalize Sem.run P (asBool (ρ c)) w = r at hr'
  cases r with
  | halt x w1 => simp [Result.andThen] at hr'
  | ok b w1 => simp only [Result.andThen] at hr'; cases hr'; exact ⟨_, rfl⟩
theorem valH_only {o : Oper} (h : valH o = true) (ρ : Operand → Value) (w : World) (f : FuncId) (args : Array Value) (w' : World) : (execOp ρ o).run P w ≠ .ok (.enter f args) w' := by
  unfold valH at h
  split at h
  · rename_i heq
    intro e
    obtain ⟨u, hu⟩ := pick_run heq w w' _ e
    cases hu
  · rename_i heq
    intro e
    obtain ⟨u, hu⟩ := nil_run heq w w' _ e
    cases hu
  · exact val_only h ρ w f args w'
theorem valH_skip {o : Oper} (h : valH o = true) (ρ : Operand → Value) (w w' : World) : (execOp ρ o).run P w ≠ .ok .skip w' := by
  unfold valH at h
  split at h
  · rename_i heq
    intro e
    obtain ⟨u, hu⟩ := pick_run heq w w' _ e
    cases hu
  · rename_i heq
    intro e
    obtain ⟨u, hu⟩ := nil_run heq w w' _ e
    cases hu
  · exact val_skip h ρ w w'
theorem valH_of_quiet {o : Oper} (h : valH o = true) {a : Act} {v : Value} (hq : ∀ w, C w → o.quietAt P a C w v) : ∀ w, C w → (execOp a.eval o).run P w = .ok (.value v) w := by
  intro w hw
  have h1 := hq w hw
  unfold Oper.quietAt at h1
  have h2 := valH_only (P := P) h a.eval w
  have h3 := valH_skip (P := P) h a.eval w
  generalize (execOp a.eval o).run P w = r at *
  cases r with
  | halt x w' => simp only [Oper.quietUpon] at h1
  | ok m w' =>
    cases m with
    | value u => simp only [Oper.quietUpon] at h1; rw [h1.1, h1.2]
    | skip => exact absurd rfl (h3 w')
    | enter f args => exact absurd rfl (h2 f args w')
    | _ => simp only [Oper.quietUpon] at h1
def stepH (P : Program) (ops : Array Oper) (i : Nat) (K : Act → World → Prop) (a : Act) (w : World) : Prop :=
  ∃ o, ops[i]? = some o ∧
    ((Region.wanted o (yielded ops a.tmps) = true ∧ ∃ u w', (execOp a.eval o).run P w = .ok (.value u) w' ∧ K (a.put o.dst u) w') ∨
     (Region.wanted o (yielded ops a.tmps) = true ∧ ∃ f args, (execOp a.eval o).run P w = .ok (.enter f args) w ∧ Calls P f args w (fun e w'' => ∃ u, e = .returned u ∧ K (a.put o.dst u) w'')) ∨
     (Region.wanted o (yielded ops a.tmps) = false ∧ K (a.put o.dst undef) w) ∨
     (Region.wanted o (yielded ops a.tmps) = true ∧ ∃ w', (execOp a.eval o).run P w = .ok .skip w' ∧ K (a.put o.dst undef) w'))
theorem stepH.mono {i : Nat} {K K' : Act → World → Prop} {a : Act} {w : World} (h : stepH P ops i K a w) (hk : ∀ a w, K a w → K' a w) : stepH P ops i K' a w := by
  obtain ⟨o, ho, h⟩ := h
  refine ⟨o, ho, ?_⟩
  rcases h with ⟨hg, u, w', hr, h⟩ | ⟨hg, f, args, hr, h⟩ | ⟨hg, h⟩ | ⟨hg, w', hr, h⟩
  · exact .inl ⟨hg, u, w', hr, hk _ _ h⟩
  · exact .inr (.inl ⟨hg, f, args, hr, h.mono fun e w'' ⟨u, he, h⟩ => ⟨u, he, hk _ _ h⟩⟩)
  · exact .inr (.inr (.inl ⟨hg, hk _ _ h⟩))
  · exact .inr (.inr (.inr ⟨hg, w', hr, hk _ _ h⟩))
def anyH (P : Program) (md : Region.Mode) (ops : Array Oper) (C : World → Prop) (n : Nat) (L : Array Bool → Act → World → Prop) : Nat → Array Bool → Act → World → Prop
  | 0, listed, a, w => L listed a w
  | f + 1, listed, a, w => Region.ready md ops listed ≠ [] ∧ ∀ i ∈ Region.ready md ops listed, i < n ∧ stepH P ops i (fun a' w' => C w' ∧ anyH P md ops C n L f (listed.setIfInBounds i true) a' w') a w
theorem any_of_H {Q : Exit → Act → World → Prop} {g : Nat} (hL : ∀ listed a w, L listed a w → wpAny P md ops Q g listed a w) :
    ∀ (f : Nat) (listed : Array Bool) (a : Act) (w : World), anyH P md ops C n L f listed a w → wpAny P md ops Q (f + g) listed a w
  | 0, listed, a, w, h => by rw [Nat.zero_add]; exact hL _ _ _ h
  | f + 1, listed, a, w, h => by
    rw [show f + 1 + g = (f + g) + 1 by omega]
    refine ⟨fun h0 => absurd h0 h.1, fun i hi => ?_⟩
    obtain ⟨o, ho, h'⟩ := (h.2 i hi).2
    rcases h' with ⟨hg, u, w', hr, _, hk⟩ | ⟨hg, fn, args, hr, hk⟩ | ⟨hg, _, hk⟩ | ⟨hg, w', hr, _, hk⟩
    · unfold wpOp
      simp only [ho, hg, if_true]
      refine .inl ?_
      unfold Oper.wp
      rw [hr]
      exact any_of_H hL f _ _ _ hk
    · unfold wpOp
      simp only [ho, hg, if_true]
      refine .inl ?_
      unfold Oper.wp
      rw [hr]
      exact hk.mono fun e w'' ⟨u, he, _, hk'⟩ => by subst he; exact any_of_H hL f _ _ _ hk'
    · unfold wpOp
      simp only [ho, hg]
      exact any_of_H hL f _ _ _ hk
    · unfold wpOp
      simp only [ho, hg, if_true]
      refine .inl ?_
      unfold Oper.wp
      rw [hr]
      exact any_of_H hL f _ _ _ hk
def waitB (md : Region.Mode) (ops : Array Oper) (n : Nat) (done : Array Bool) : Bool :=
  (List.range n).all fun i => done.getD i false || (List.range (n + 1)).any fun j => decide (i < j) && Region.waitsFor md ops j i
theorem tail_waitsH {done listed : Array Bool} (hs : waitB md ops n done = true) (hc : Region.chainB md ops n = true) (hn : n < ops.size) (inv : HeadInv md ops n listed) (hd : ∀ k, done.getD k false = true → listed.getD k false = true) :
    ∀ (d i : Nat), n - i = d → i < n → listed.getD i true = false → ∀ t, n ≤ t → t ∉ Region.ready md ops listed := by
  intro d
  induction d using Nat.strongRecOn with
  | _ d ih =>
    intro i hdi hi hun t ht hr
    obtain ⟨_, ot, hot, hall⟩ := mem_ready.1 hr
    have htlt : t < ops.size := (Array.getElem?_eq_some_iff.1 hot).1
    by_cases htn : t = n
    · subst htn
      have h1 := List.all_eq_true.1 hs i (List.mem_range.2 hi)
      rw [Bool.or_eq_true] at h1
      rcases h1 with h1 | h1
      · have := hd i h1
        rw [getD_both hun] at this
        cases this
      obtain ⟨j, hj, hj2⟩ := List.any_eq_true.1 h1
      simp only [Bool.and_eq_true, decide_eq_true_eq] at hj2
      obtain ⟨oj, hoj, e, he, hb, hon⟩ := Region.waitsFor_spec hj2.2
      have hjle : j ≤ t := by have := List.mem_range.1 hj; omega
      by_cases hjt : j = t
      · subst hjt
        have : oj = ot := Option.some.inj (hoj.symm.trans hot)
        subst this
        have h2 := hall e he hb
        rw [hon, getD_both hun] at h2
        cases h2
      · cases hl : listed.getD j false with
        | true =>
          have h2 := inv.closed j oj hoj hl e he hb
          rw [hon, getD_both hun] at h2
          cases h2
        | false =>
          have hjs : j < listed.size := by rw [inv.size]; omega
          exact ih (t - j) (by omega) j rfl (by omega) (getD_in hjs hl) t (Nat.le_refl _) hr
    · have h1 := List.all_eq_true.1 hc t (List.mem_range.2 htlt)
      simp only [Bool.or_eq_true, decide_eq_true_eq] at h1
      rcases h1 with h1 | h1
      · omega
      · obtain ⟨o', ho', e, he, hb, hon⟩ := Region.waitsFor_spec h1
        have : o' = ot := Option.some.inj (ho'.symm.trans hot)
        subst this
        have h2 := hall e he hb
        rw [hon, getD_both (inv.tail (t - 1) (by omega) (by omega))] at h2
        cases h2
theorem anyH_first {done : Array Bool} {i : Nat} {oi : Oper} {v : Value} (hi : ops[i]? = some oi) (hsel : Region.noSelect ops = true) (hs : waitB md ops n done = true) (hc : Region.chainB md ops n = true) (hn : n < ops.size) (hin : i < n)
    (hdone : ∀ listed a w, L listed a w → ∀ j ∈ Region.ready md ops listed, n ≤ j) :
    ∀ (f : Nat) (listed : Array Bool) (a : Act) (w : World), C w → HeadInv md ops n listed → (∀ k, done.getD k false = true → listed.getD k false = true) →
      (∀ j oj, ops[j]? = some oj → j ≠ i → listed.getD j true = false → (∀ e ∈ oj.after, Region.binds md e = true → e.on ≠ i) → oi.apart ops oj = true) →
      i ∈ Region.ready md ops listed → ((Region.wanted oi (yielded ops a.tmps) = true ∧ ∀ w, C w → (execOp a.eval oi).run P w = .ok (.value v) w) ∨ (Region.wanted oi (yielded ops a.tmps) = false ∧ v = undef)) →
      anyH P md ops C n L f (listed.setIfInBounds i true) (a.put oi.dst v) w → anyH P md ops C n L (f + 1) listed a w := by
  intro f
  have self : ∀ (listed : Array Bool) (a : Act) (w : World) (f : Nat), C w → ((Region.wanted oi (yielded ops a.tmps) = true ∧ ∀ w, C w → (execOp a.eval oi).run P w = .ok (.value v) w) ∨ (Region.wanted oi (yielded ops a.tmps) = false ∧ v = undef)) →
      anyH P md ops C n L f (listed.setIfInBounds i true) (a.put oi.dst v) w → stepH P ops i (fun a' w' => C w' ∧ anyH P md ops C n L f (listed.setIfInBounds i true) a' w') a w := by
    intro listed a w f hw hy H
    rcases hy with ⟨hg, hy⟩ | ⟨hg, hy⟩
    · exact ⟨oi, hi, .inl ⟨hg, v, w, hy w hw, hw, H⟩⟩
    · rw [hy] at H
      exact ⟨oi, hi, .inr (.inr (.inl ⟨hg, hw, H⟩))⟩
  induction f with
  | zero =>
    intro listed a w hw inv hd _ hr hy H
    refine ⟨(fun h => by rw [h] at hr; cases hr), fun j hj => ?_⟩
    by_cases hji : j = i
    · subst hji; exact ⟨hin, self _ _ _ _ hw hy H⟩
    · have h1 := hdone _ _ _ H j (ready_mono hj hji)
      exact absurd hj (tail_waitsH hs hc hn inv hd _ i rfl hin (mem_ready.1 hr).1 j h1)
  | succ f ih =>
    intro listed a w hw inv hd hfree hr hy H
    refine ⟨(fun h => by rw [h] at hr; cases hr), fun j hj => ?_⟩
    by_cases hji : j = i
    · subst hji; exact ⟨hin, self _ _ _ _ hw hy H⟩
    · obtain ⟨hjn, hstep⟩ := H.2 j (ready_mono hj hji)
      obtain ⟨hjun, oj, hoj, hall⟩ := mem_ready.1 hj
      have hiun := (mem_ready.1 hr).1
      have hnot : ∀ e ∈ oj.after, Region.binds md e = true → e.on ≠ i := fun e he hb heq => by
        have h1 := hall e he hb
        rw [heq, getD_both hiun] at h1
        cases h1
      obtain ⟨h1, h2, h3⟩ := Oper.apart_spec (hfree j oj hoj hji hjun hnot)
      have hex : execOp (a.put oi.dst v).eval oj = execOp a.eval oj := execOp_put (ops := ops) oj (fun cs b => Region.noSelect_spec hsel j oj cs b hoj) a oi.dst v h1
      have hwj : Region.wanted oj (yielded ops (a.put oi.dst v).tmps) = Region.wanted oj (yielded ops a.tmps) := wanted_put oj a oi.dst v h1
      have next : ∀ u w', C w' → anyH P md ops C n L f ((listed.setIfInBounds i true).setIfInBounds j true) ((a.put oi.dst v).put oj.dst u) w' → anyH P md ops C n L (f + 1) (listed.setIfInBounds j true) (a.put oj.dst u) w' := by
        intro u w' hC' hrest
        refine ih (listed.setIfInBounds j true) (a.put oj.dst u) w' hC' (inv.set hj hjn) (fun k hk => getD_set_true (hd k hk)) ?_ (ready_mono hr (Ne.symm hji)) ?_ ?_
        · intro k ok hk hki hun hno
          refine hfree k ok hk hki ?_ hno
          by_cases hjk : j = k
          · subst hjk; exact hjun
          · rw [getD_set_ne true hjk] at hun; exact hun
        · rw [wanted_put oi a oj.dst u h3, execOp_put (ops := ops) oi (fun cs b => Region.noSelect_spec hsel i oi cs b hi) a oj.dst u h3]
          exact hy
        · rw [Array.setIfInBounds_comm _ _ hji, ← Act.put_comm a v u h2]
          exact hrest
      refine ⟨hjn, ?_⟩
      obtain ⟨oj', hoj', hstep⟩ := hstep
      obtain rfl := Option.some.inj (hoj.symm.trans hoj')
      refine ⟨oj, hoj, ?_⟩
      rw [hwj, hex] at hstep
      rcases hstep with ⟨hgj, u, w', hrun, hC', hrest⟩ | ⟨hgj, fn, args, hrun, hrest⟩ | ⟨hgj, hC', hrest⟩ | ⟨hgj, w', hrun, hC', hrest⟩
      · exact .inl ⟨hgj, u, w', hrun, hC', next u w' hC' hrest⟩
      · exact .inr (.inl ⟨hgj, fn, args, hrun, hrest.mono fun e w'' ⟨u, he, hC', hk⟩ => ⟨u, he, hC', next u w'' hC' hk⟩⟩)
      · exact .inr (.inr (.inl ⟨hgj, hC', next undef w hC' hrest⟩))
      · exact .inr (.inr (.inr ⟨hgj, w', hrun, hC', next undef w' hC' hrest⟩))
def mixH (md : Region.Mode) (ops : Array Oper) (n : Nat) : List Nat → Array Bool → Bool
  | [], _ => true
  | k :: ks, listed => (Region.ready md ops listed).contains k && Region.free md ops listed k && decide (k < n) && (match ops[k]? with | some o => valH o | none => false) && mixH md ops n ks (listed.setIfInBounds k true)
theorem anyH_lex {done : Array Bool} (hsel : Region.noSelect ops = true) (hs : waitB md ops n done = true) (hc : Region.chainB md ops n = true) (hn : n < ops.size) (hdone : ∀ listed a w, L listed a w → ∀ j ∈ Region.ready md ops listed, n ≤ j) (g : Nat) (w : World) (hw : C w) :
    ∀ (ks : List Nat) (os : List Oper) (listed : Array Bool) (a : Act), os.map some = ks.map (ops[·]?) → HeadInv md ops n listed → (∀ k, done.getD k false = true → listed.getD k false = true) → mixH md ops n ks listed = true →
      wpQuiet P ops C (fun a' => anyH P md ops C n L g (listAll ks listed) a' w) os a → anyH P md ops C n L (ks.length + g) listed a w
  | [], os, listed, a, he, _, _, _, h => by
    have : os = [] := by first | exact he | (simp; done) | simpa using he
    subst this
    rw [List.length_nil, Nat.zero_add]; exact h
  | k :: ks, os, listed, a, he, inv, hd, hB, h => by
    match os, he with
    | o :: os, he =>
      simp only [List.map_cons, List.cons.injEq] at he
      obtain ⟨ho, he⟩ := he
      simp only [mixH, ← ho, Bool.and_eq_true, decide_eq_true_eq] at hB
      obtain ⟨⟨⟨⟨hr, hf⟩, hk⟩, hv⟩, hB'⟩ := hB
      have hr' : k ∈ Region.ready md ops listed := by first | exact hr | (simp; done) | simpa using hr
      rw [List.length_cons, show ks.length + 1 + g = (ks.length + g) + 1 by omega]
      simp only [wpQuiet] at h
      cases hwt : Region.wanted o (yielded ops a.tmps)
      · simp only [hwt] at h
        exact anyH_first ho.symm hsel hs hc hn hk hdone _ listed a w hw inv hd (Region.free_spec ho.symm hf) hr' (.inr ⟨hwt, rfl⟩)
          (anyH_lex hsel hs hc hn hdone g w hw ks os _ _ he (inv.set hr' hk) (fun k hk => getD_set_true (hd k hk)) hB' h)
      · simp only [hwt, if_true] at h
        obtain ⟨v, hq, hnext⟩ := h
        exact anyH_first ho.symm hsel hs hc hn hk hdone _ listed a w hw inv hd (Region.free_spec ho.symm hf) hr' (.inl ⟨hwt, valH_of_quiet hv hq⟩)
          (anyH_lex hsel hs hc hn hdone g w hw ks os _ _ he (inv.set hr' hk) (fun k hk => getD_set_true (hd k hk)) hB' hnext)
theorem mixH_ops {l : List Oper} {n : Nat} : ∀ (ks : List Nat) (listed : Array Bool), mixH md l.toArray n ks listed = true → (ks.filterMap fun k => l[k]?).map some = ks.map (l.toArray[·]?)
  | [], _, _ => rfl
  | k :: ks, listed, h => by
    simp only [mixH, Bool.and_eq_true] at h
    obtain ⟨⟨_, hv⟩, h'⟩ := h
    have ih := mixH_ops ks _ h'
    cases ho : l[k]? with
    | none => simp [ho] at hv
    | some o =>
      rw [List.filterMap_cons]
      simp only [ho, List.map_cons, ih]
      simp [ho]
theorem oneH {f : Nat} {listed : Array Bool} {i : Nat} {oc : Oper} {a : Act} {w : World} (u : Value) (w' : World)
    (hc : ops[i]? = some oc ∧ i < n) (r0 : Region.ready md ops listed = [i]) (hw : Region.wanted oc (yielded ops a.tmps) = true)
    (run : (execOp a.eval oc).run P w = .ok (.value u) w') (hC : C w') (h : anyH P md ops C n L f (listed.setIfInBounds i true) (a.put oc.dst u) w') : anyH P md ops C n L (f + 1) listed a w := by
  refine ⟨by rw [r0]; simp, fun j hj => ?_⟩
  rw [r0] at hj
  obtain rfl := List.mem_singleton.1 hj
  exact ⟨hc.2, oc, hc.1, .inl ⟨hw, u, w', run, hC, h⟩⟩
end
end Go.Proofs.YtobchllaopdchabGreat

namespace Go.Proofs.YtobchllaopdchabGreat
open Go.Sort
section
variable {P : Program}
def invB (ops : Array Oper) (n : Nat) (listed : Array Bool) : Bool :=
  listed.size == ops.size &&
  (List.range ops.size).all (fun j => !listed.getD j false || (match ops[j]? with | some o => o.after.all (fun e => !Region.binds .any e || listed.getD e.on false) | none => true)) &&
  (List.range ops.size).all (fun t => decide (t < n) || !listed.getD t true)
theorem inv_of {ops : Array Oper} {n : Nat} {listed : Array Bool} (h : invB ops n listed = true) : HeadInv .any ops n listed := by
  simp only [invB, Bool.and_eq_true, beq_iff_eq, List.all_eq_true, List.mem_range] at h
  obtain ⟨⟨h1, h2⟩, h3⟩ := h
  refine ⟨h1, fun j oj hj hl e he hb => ?_, fun t ht hts => ?_⟩
  · have hjs : j < ops.size := (Array.getElem?_eq_some_iff.1 hj).1
    have h4 := h2 j hjs
    rw [hl, hj] at h4
    simp only [Bool.not_true, Bool.false_or] at h4
    have h5 := (Array.all_eq_true'.1 h4) e he
    rw [hb] at h5
    simpa using h5
  · have h4 := h3 t hts
    simp only [Bool.or_eq_true, decide_eq_true_eq, Bool.not_eq_true'] at h4
    rcases h4 with h4 | h4
    · omega
    · exact h4
variable {ops : Array Oper} {C : World → Prop} {n : Nat} {L : Array Bool → Act → World → Prop}
theorem stepH_value {i : Nat} {K : Act → World → Prop} {oc : Oper} {a : Act} {w : World} (u : Value) (w' : World) (hc : ops[i]? = some oc) (hw : Region.wanted oc (yielded ops a.tmps) = true) (run : (execOp a.eval oc).run P w = .ok (.value u) w') (hk : K (a.put oc.dst u) w') : stepH P ops i K a w :=
  ⟨oc, hc, .inl ⟨hw, u, w', run, hk⟩⟩
theorem stepH_call {i : Nat} {K : Act → World → Prop} {oc : Oper} {a : Act} {w : World} {fn : FuncId} {args : Array Value} (hc : ops[i]? = some oc) (hw : Region.wanted oc (yielded ops a.tmps) = true) (run : (execOp a.eval oc).run P w = .ok (.enter fn args) w) (con : Calls P fn args w fun e w' => ∃ v, e = .returned v ∧ K (a.put oc.dst v) w') : stepH P ops i K a w :=
  ⟨oc, hc, .inr (.inl ⟨hw, fn, args, run, con⟩)⟩
end
end Go.Proofs.YtobchllaopdchabGreat
