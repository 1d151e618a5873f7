/-
  Several texts in one.
-/
import Derived.Test.YtobchllaopdchaaM19
import Derived.Test.YtobchllaopdchaaHm
import Derived.Test.YtobchllaopdchaaHi
namespace Go.Proofs.Ytobchllaopdchaa
open Go.RowKit
set_option maxRecDepth 100000 in
set_option maxHeartbeats 8000000 in
theorem thing_any (S : Nat → Prop) (sl : List DRunSlot) (nm at_ : ByteArray) (si st : Int) (o1 o2 : Option Addr) (n1 k1 n2 k2 : Nat) (x : ByteArray) (w : World) (h : AtL S w sl (.slice o2 n2 k2)) (hS : ∀ b, S b → b < w.heap.size) :
    Calls Try.prog 38 #[.agg #[.string nm, .slice o1 n1 k1, .slice o2 n2 k2, .string at_, .int .i64 si, .int .i64 st], .string x] w fun e w' => e = .returned (.string (thT sl x)) ∧ Below w.heap.size w w' := by
  have en : sl.length = n2 := by obtain ⟨_, _, e, _⟩ := h; cases e; rfl
  have hmx : n2 ≤ 9223372036854775807 := by obtain ⟨_, _, e, hf, _⟩ := id h; cases e; have := hf.1; unfold maxLen at this; omega
  have EN : Hid (sl.length ≤ n2 ∧ n2 ≤ sl.length) := ⟨by omega, by omega⟩
  obtain ⟨W, hW⟩ : ∃ W, W = w.alloc (.cells #[.string nm, .slice o1 n1 k1, .slice o2 n2 k2, .string at_, .int .i64 si, .int .i64 st] 32) := ⟨_, rfl⟩
  have EW : Hid (W = w.alloc (.cells #[.string nm, .slice o1 n1 k1, .slice o2 n2 k2, .string at_, .int .i64 si, .int .i64 st] 32)) := hW
  have BW : Hid (Below w.heap.size w W) := by rw [hW]; exact (Below.refl _ _).alloc (Nat.le_refl _) _
  have Y0 : Hid (W.cell? ⟨w.heap.size, 2, none⟩ = some (.slice o2 n2 k2)) := by rw [hW]; exact box_at _ _ (Below.refl _ _) 2 _ rfl
  have sW : w.heap.size + 1 ≤ W.heap.size := by rw [hW]; simp
  have HA : Hid (AtL S W sl (.slice o2 n2 k2)) := by rw [hW]; exact h.same (Same.of_below ((Below.refl _ _).alloc (Nat.le_refl _) _) hS)
  clear hW en h
  go_enter Try.func38, Try.ntmps38
  go_wp2_with fail
  rw [← EW.out]
  go_loop [5] (fun i => ∃ q : Nat, q ≤ n2 ∧ i = .int .i64 q ∧ Hid (∀ j (hj : j < sl.length), j < q → eqB sl[j].1 x = false)) (fun i => n2 - (intOf i).toNat)
  case atStart => exact ⟨0, Nat.zero_le _, rfl, fun _ _ h => by omega⟩
  case round =>
    obtain ⟨q, hq, rfl, hall⟩ := hrel
    have y0 := Y0.out
    by_cases hlt : q < n2
    case neg =>
      go_wp2_with fail
      go_ret
      rw [thT_none (fun j hj => hall.out j hj (by have := EN.out; omega))]
      exact ⟨rfl, BW.out⟩
    have hqb : q < sl.length := by have := EN.out; omega
    obtain ⟨oa, cap, ev, hn, hc⟩ := id HA.out
    obtain ⟨b, off, eo, hbS, cc, hcell, hat⟩ := hc q hqb
    clear hc hn
    obtain rfl : o2 = some ⟨b, off, none⟩ := by cases ev; exact eo
    clear ev eo
    rw [width_DRunSlot] at hcell
    rw [at_DRunSlot] at hat
    have e0 : W.cell? ⟨b, off + q * 2, none⟩ = some (.string sl[q].1) := (hcell 0 (by omega) : W.cell? ⟨b, off + q * 2, none⟩ = some (cc 0)).trans (by rw [hat.1.1])
    have e1 : W.cell? ⟨b, off + q * 2 + 1, none⟩ = some (.string sl[q].2) := (hcell 1 (by omega)).trans (by rw [hat.2.1])
    clear hcell hat
    have HIT : Hid (eqB sl[q].1 x = true → thT sl x = sl[q].2) := fun e => thT_hit hqb hall.out e
    obtain ⟨f, ef⟩ : ∃ f, sl[q] = f := ⟨_, rfl⟩
    rw [ef] at e0 e1 HIT
    cases c0 : (f.1.toList == x.toList)
    · have hp : eqB sl[q].1 x = false := by rw [ef]; simp [eqB, c0]
      go_wp2_with fail
      go_round
      case rel => exact ⟨q + 1, by omega, by go_num, fun j hj hjq => by
        by_cases e : j = q
        · subst e; exact hp
        · exact hall.out j hj (by omega)⟩
      case measure => simp [intOf]; omega
    · have hp : eqB f.1 x = true := by simp [eqB, c0]
      go_wp2_with fail
      go_ret
      rw [HIT.out hp]
      exact ⟨rfl, BW.out⟩
set_option maxRecDepth 100000 in
set_option maxHeartbeats 8000000 in
theorem thingsX_any (S : Nat → Prop) (sl : List DRunSlot) (nm at_ : ByteArray) (si st : Int) (o1 o2 : Option Addr) (n1 k1 n2 k2 : Nat) (l : List ByteArray) (vb : Value) (w : World) (h : AtL S w sl (.slice o2 n2 k2)) (hS : ∀ b, S b → b < w.heap.size) (hb : RdB w vb l) (hl : l.length ≤ 1000000) :
    Calls Try.prog 16 #[.agg #[.string nm, .slice o1 n1 k1, .slice o2 n2 k2, .string at_, .int .i64 si, .int .i64 st], vb] w fun e w' => ∃ g cap, e = .returned (.slice (some ⟨g, 0, none⟩) (thL sl l).length cap) ∧ w'.ownsRow w.heap.size 9 1 (.slice (some ⟨g, 0, none⟩) (thL sl l).length cap) (thL sl l).length ((thL sl l).map .string) ∧ Below w.heap.size w w' := by
  obtain ⟨ob, cb, rfl, hc⟩ := hb
  have HC : Hid _ := hc
  have HA : Hid _ := h.ups hS
  have HS : Hid _ := lt_up hS
  obtain ⟨n, en⟩ : ∃ n, l.length = n := ⟨_, rfl⟩
  have EN : Hid (l.length = n) := en
  rw [en]
  rw [en] at hl
  clear hc h hS en
  obtain ⟨W, EW, BW, RW, sW⟩ := box_new w #[.string nm, .slice o1 n1 k1, .slice o2 n2 k2, .string at_, .int .i64 si, .int .i64 st] 32
  have BOX : Hid (∀ u, Below W.heap.size W u → u.heap[w.heap.size]? = some (.cells #[.string nm, .slice o1 n1 k1, .slice o2 n2 k2, .string at_, .int .i64 si, .int .i64 st] 32 (0, 0)) ∧ Below w.heap.size w u) := fun u hu => ⟨(hu.block _ (by omega)).trans RW.out, BW.out.trans (hu.mono (by omega))⟩
  go_enter Try.func16, Try.ntmps16
  go_upto_region 1 with fail
  rw [← EW.out]
  go_wp2_with fail
  go_loopw [5, 6] (fun av i wr => ∃ (k m g cap : Nat), k ≤ n ∧ i = .int .i64 k ∧ av = .slice (some ⟨g, 0, none⟩) m cap ∧ m ≤ k ∧ Hid ((thL sl (l.take k)).length = m) ∧ Hid (wr.ownsRow w.heap.size 9 1 (.slice (some ⟨g, 0, none⟩) (thL sl (l.take k)).length cap) (thL sl (l.take k)).length ((thL sl (l.take k)).map .string)) ∧ Hid (Below W.heap.size W wr)) (fun _ i _ => n - (intOf i).toNat)
  case atStart => exact ⟨0, 0, W.heap.size, 0, Nat.zero_le _, rfl, rfl, Nat.le_refl _, rfl, own_nil (by omega), (Below.refl _ _).alloc (Nat.le_refl _) _⟩
  case round =>
    obtain ⟨k, m, g, cap, hk, rfl, rfl, hmk, hlen, hown, hbel⟩ := hrel
    obtain ⟨hbox, hbw⟩ := BOX.out wr hbel.out
    by_cases hlt : k < n
    · obtain ⟨gb, rfl, hgb, hcell⟩ := HC.out k (by rw [EN.out]; exact hlt)
      have e0 : wr.cell? ⟨gb, k, none⟩ = some (.string (nthB l k)) := (hbw.cell hgb).trans hcell
      have hs := hbel.out.size
      have NEXT : Hid (thL sl (l.take (k + 1)) = insR (thL sl (l.take k)) (thT sl (nthB l k))) := thL_take sl l (by rw [EN.out]; exact hlt)
      clear hcell hgb
      have HBW : Hid (Below w.heap.size w wr) := hbw
      clear hbw
      have HDR : Hid (Below wr.heap.size wr wr.drew) := (Below.refl _ _).drew
      have q0 := fun d os => cell_regrown (cell_row hbox 0 (.string nm) rfl).1 d os
      have q1 := fun d os => cell_regrown (cell_row hbox 1 (.slice o1 n1 k1) rfl).1 d os
      have q2 := fun d os => cell_regrown (cell_row hbox 2 (.slice o2 n2 k2) rfl).1 d os
      have q3 := fun d os => cell_regrown (cell_row hbox 3 (.string at_) rfl).1 d os
      have q4 := fun d os => cell_regrown (cell_row hbox 4 (.int .i64 si) rfl).1 d os
      have q5 := fun d os => cell_regrown (cell_row hbox 5 (.int .i64 st) rfl).1 d os
      have qe := fun d os => cell_regrown e0 d os
      clear hbox e0
      go_upto_region 5 with fail
      refine wp_region_mix 7 [0, 1, 2, 3, 4, 5] (by kernel_rfl) (by kernel_rfl) ?_
      simp only [List.filterMap_cons, List.filterMap_nil, List.getElem?_cons_succ, List.getElem?_cons_zero]
      repeat (first | go_big_quiet_step (fail) | quiet_step (fail))
      refine wpQuiet_nil ?_
      clear q0 q1 q2 q3 q4 q5 qe
      have bdr : Hid (Below w.heap.size w wr.drew) := HBW.out.trans (HDR.out.mono HBW.out.size)
      refine call1 (md := .any) (f := 0) (i := 6) (dc := 20) (fn := 38) ⟨rfl, rfl, rfl, by decide⟩ (by kernel_rfl) ?run ((thing_any S sl nm at_ si st o1 o2 n1 k1 n2 k2 (nthB l k) wr.drew (HA.out _ bdr.out) (HS.out _ bdr.out)).mono ?_)
      case run => go_simp
      rintro e u ⟨rfl, hb1⟩
      have B1 : Hid (Below wr.heap.size wr u) := HDR.out.trans (hb1.mono HDR.out.size)
      have O1 : Hid (u.ownsRow w.heap.size 9 1 (.slice (some ⟨g, 0, none⟩) (thL sl (l.take k)).length cap) (thL sl (l.take k)).length ((thL sl (l.take k)).map .string)) := own_belowR hown.out B1.out
      refine ⟨_, rfl, regrown_of_below B1.out, ?_⟩
      clear hb1
      refine ⟨by kernel_rfl, ?_⟩
      simp only [List.drop_succ_cons, List.drop_zero, Act.put, List.setIfInBounds_toArray, List.set_cons_zero, List.set_cons_succ]
      have s1 := B1.out.size
      have CI : Hid (Calls Try.prog 37 #[.slice (some ⟨g, 0, none⟩) m cap, .string (thT sl (nthB l k))] u fun e w' => ∃ g' cap', e = .returned (.slice (some ⟨g', 0, none⟩) (thL sl (l.take (k + 1))).length cap') ∧ w'.ownsRow w.heap.size 9 1 (.slice (some ⟨g', 0, none⟩) (thL sl (l.take (k + 1))).length cap') (thL sl (l.take (k + 1))).length ((thL sl (l.take (k + 1))).map .string) ∧ Below u.heap.size u w') := by
        rw [NEXT.out]
        have := insX_any w.heap.size g cap (thL sl (l.take k)) (thT sl (nthB l k)) u O1.out (by rw [hlen.out]; omega) (by have := HBW.out.size; omega)
        rw [hlen.out] at this
        exact this
      have HL : Hid ((thL sl (l.take (k + 1))).length ≤ m + 1) := by rw [NEXT.out, ← hlen.out]; exact insR_len _ _
      go_wp2_with fail
      refine CI.out.mono ?_; rintro e u2 ⟨g', cap', rfl, hown', hbu⟩
      obtain ⟨l', hl'⟩ : ∃ l', (thL sl (l.take (k + 1))).length = l' := ⟨_, rfl⟩
      have HL' : Hid ((thL sl (l.take (k + 1))).length = l') := hl'
      have hll : l' ≤ m + 1 := by have := HL.out; omega
      have HOW : Hid (u2.ownsRow w.heap.size 9 1 (.slice (some ⟨g', 0, none⟩) (thL sl (l.take (k + 1))).length cap') (thL sl (l.take (k + 1))).length ((thL sl (l.take (k + 1))).map .string)) := hown'
      have HB : Hid (Below W.heap.size W u2) := hbel.out.trans ((B1.out.trans (hbu.mono s1)).mono hs)
      rw [hl']
      clear hl' hown' hbu
      go_wp2_with fail
      go_roundw
      case rel => exact ⟨k + 1, l', g', cap', by omega, by go_num, rfl, by omega, HL'.out, HOW.out, HB.out⟩
      case measure => simp [intOf]; omega
    · have hkn : k = n := by omega
      subst hkn
      have et : l.take k = l := by rw [← EN.out]; exact List.take_length
      rw [et] at hlen hown
      go_wp2_with fail
      go_ret
      exact ⟨g, cap, by rw [hlen.out]; rfl, hown.out, hbw⟩
end Go.Proofs.Ytobchllaopdchaa

namespace Go.Proofs.Ytobchllaopdchaa
open Go.Sort
section
variable {P : Program} {md : Region.Mode} {ops : Array Oper} {C : World → Prop} {n : Nat} {L : Array Bool → Act → World → Prop}
def stepH (P : Program) (ops : Array Oper) (i : Nat) (K : Act → World → Prop) (a : Act) (w : World) : Prop :=
  ∃ o, ops[i]? = some o ∧
    ((Region.wanted o (yielded ops a.tmps) = true ∧ ∃ u w', (execOp a.eval o).run P w = .ok (.value u) w' ∧ K (a.put o.dst u) w') ∨
     (Region.wanted o (yielded ops a.tmps) = true ∧ ∃ f args, (execOp a.eval o).run P w = .ok (.enter f args) w ∧ Calls P f args w (fun e w'' => ∃ u, e = .returned u ∧ K (a.put o.dst u) w'')) ∨
     (Region.wanted o (yielded ops a.tmps) = false ∧ K (a.put o.dst undef) w) ∨
     (Region.wanted o (yielded ops a.tmps) = true ∧ ∃ w', (execOp a.eval o).run P w = .ok .skip w' ∧ K (a.put o.dst undef) w'))
theorem stepH.mono {i : Nat} {K K' : Act → World → Prop} {a : Act} {w : World} (h : stepH P ops i K a w) (hk : ∀ a w, K a w → K' a w) : stepH P ops i K' a w := by
  obtain ⟨o, ho, h⟩ := h
  refine ⟨o, ho, ?_⟩
  rcases h with ⟨hg, u, w', hr, h⟩ | ⟨hg, f, args, hr, h⟩ | ⟨hg, h⟩ | ⟨hg, w', hr, h⟩
  · exact .inl ⟨hg, u, w', hr, hk _ _ h⟩
  · exact .inr (.inl ⟨hg, f, args, hr, h.mono fun e w'' ⟨u, he, h⟩ => ⟨u, he, hk _ _ h⟩⟩)
  · exact .inr (.inr (.inl ⟨hg, hk _ _ h⟩))
  · exact .inr (.inr (.inr ⟨hg, w', hr, hk _ _ h⟩))
end
end Go.Proofs.Ytobchllaopdchaa

namespace Go.Proofs.Ytobchllaopdchaa
open Go.Sort
section
variable {P : Program}
def invB (ops : Array Oper) (n : Nat) (listed : Array Bool) : Bool :=
  listed.size == ops.size &&
  (List.range ops.size).all (fun j => !listed.getD j false || (match ops[j]? with | some o => o.after.all (fun e => !Region.binds .any e || listed.getD e.on false) | none => true)) &&
  (List.range ops.size).all (fun t => decide (t < n) || !listed.getD t true)
theorem inv_of {ops : Array Oper} {n : Nat} {listed : Array Bool} (h : invB ops n listed = true) : HeadInv .any ops n listed := by
  simp only [invB, Bool.and_eq_true, beq_iff_eq, List.all_eq_true, List.mem_range] at h
  obtain ⟨⟨h1, h2⟩, h3⟩ := h
  refine ⟨h1, fun j oj hj hl e he hb => ?_, fun t ht hts => ?_⟩
  · have hjs : j < ops.size := (Array.getElem?_eq_some_iff.1 hj).1
    have h4 := h2 j hjs
    rw [hl, hj] at h4
    simp only [Bool.not_true, Bool.false_or] at h4
    have h5 := (Array.all_eq_true'.1 h4) e he
    rw [hb] at h5
    simpa using h5
  · have h4 := h3 t hts
    simp only [Bool.or_eq_true, decide_eq_true_eq, Bool.not_eq_true'] at h4
    rcases h4 with h4 | h4
    · omega
    · exact h4
variable {ops : Array Oper} {C : World → Prop} {n : Nat} {L : Array Bool → Act → World → Prop}
end
end Go.Proofs.Ytobchllaopdchaa

namespace Go.Proofs.Ytobchllaopdchaa
open Go.RowKit Go.Sort
section
variable {P : Program} {md : Region.Mode} {ops : Array Oper} {C : World → Prop} {n : Nat} {L : Array Bool → Act → World → Prop}
def lexB (l : List Oper) (n : Nat) (ks : List Nat) (listed : Array Bool) : Bool :=
  Region.noSelect l.toArray && decide (n < l.length) && Region.sinkB .any l.toArray n && Region.chainB .any l.toArray n && invB l.toArray n listed && mixB .any l.toArray n ks listed
theorem lexT {Q : Exit → Act → World → Prop} {l : List Oper} {listed : Array Bool} {a : Act} {w : World} (g : Nat) (ks : List Nat) (hB : lexB l n ks listed = true) (hw : C w)
    (h : wpQuiet P l.toArray C (fun a' => anyC P .any l.toArray C n (tailC P Q l n) g (listAll ks listed) a' w) (ks.filterMap fun k => l[k]?) a) : anyC P .any l.toArray C n (tailC P Q l n) (ks.length + g) listed a w := by
  simp only [lexB, Bool.and_eq_true, decide_eq_true_eq] at hB
  obtain ⟨⟨⟨⟨⟨hsel, hn⟩, hs⟩, hc⟩, hi⟩, hm⟩ := hB
  exact anyC_lex hsel hs hc (by simpa using hn) (fun listed a w hL => seqB_ready hL.1) g w hw ks _ listed a (mix_ops ks _ hm) (inv_of hi) hm h
end
end Go.Proofs.Ytobchllaopdchaa
