/-
  Several texts in one.
-/
import Derived.Test.YtaejlcanccfmmaaGreatDoorM19
import Derived.Test.YtaejlcanccfmmaaGreatDoorM5
import Derived.Test.YtaejlcanccfmmaaGreatDoorM12
namespace Go.Proofs.YtaejlcanccfmmaaGreatDoor
open Go.RowKit Go.Sort
def takB (Bs : List DShareBatch) (a : Nat) (th : List ByteArray) : Bool := (List.range Bs.length).any fun j => !(j == a) && shareB (btN Bs j).2.1 th
set_option maxRecDepth 100000 in
set_option maxHeartbeats 16000000 in
theorem takZ_any (S : Nat → Prop) (Bs : List DShareBatch) (o0 oa : Option Addr) (n0 k0 nb kb : Nat) (SN : Nat → Prop) (th : List ByteArray) (on : Option Addr) (nn kn a : Nat) (w : World) (h1 : AtL S w Bs (.slice oa nb kb)) (hS : ∀ b, S b → b < w.heap.size) (hN : AtL SN w th (.slice on nn kn)) (hSN : ∀ b, SN b → b < w.heap.size) (ha : a < Bs.length) :
    Calls Tryz.prog 101 #[.agg #[.slice o0 n0 k0, .slice oa nb kb], .int .i64 a, .slice on nn kn] w fun e w' => e = .returned (.bool (takB Bs a th)) ∧ Below w.heap.size w w' := by
  have HN : Hid _ := hN.ups hSN
  have HSN : Hid _ := lt_up hSN
  have enb : Bs.length = nb := by obtain ⟨_, _, e, _⟩ := h1; cases e; rfl
  have hmx : nb ≤ 9223372036854775807 := by obtain ⟨_, _, e, hf, _⟩ := id h1; cases e; have := hf.1; unfold maxLen at this; omega
  have ENB : Hid (Bs.length ≤ nb ∧ nb ≤ Bs.length) := ⟨by omega, by omega⟩
  have H1 : Hid _ := h1.ups hS
  have HS : Hid _ := lt_up hS
  obtain ⟨W, hW⟩ : ∃ W, W = w.alloc (.cells #[.slice o0 n0 k0, .slice oa nb kb] 26) := ⟨_, rfl⟩
  have EW : Hid (W = w.alloc (.cells #[.slice o0 n0 k0, .slice oa nb kb] 26)) := hW
  have BW : Hid (Below w.heap.size w W) := by rw [hW]; exact (Below.refl _ _).alloc (Nat.le_refl _) _
  have RW : Hid (W.heap[w.heap.size]? = some (.cells #[.slice o0 n0 k0, .slice oa nb kb] 26 (0, 0))) := by rw [hW]; exact heap_alloc_new w _
  have sW : w.heap.size + 1 ≤ W.heap.size := by rw [hW]; simp
  have han : a < nb := by omega
  clear hW enb h1 hN ha
  have BOX : Hid (∀ u, Below W.heap.size W u → u.heap[w.heap.size]? = some (.cells #[.slice o0 n0 k0, .slice oa nb kb] 26 (0, 0)) ∧ Below w.heap.size w u) := fun u hu => ⟨(hu.block _ (by omega)).trans RW.out, BW.out.trans (hu.mono (by omega))⟩
  go_enter Tryz.func101, Tryz.ntmps101
  go_wp2_with fail
  rw [← EW.out]
  go_loopw [7] (fun i wr => ∃ q : Nat, q ≤ nb ∧ i = .int .i64 q ∧ Hid (∀ j, j < q → (!(j == a) && shareB (btN Bs j).2.1 th) = false) ∧ Hid (Below W.heap.size W wr)) (fun i _ => nb - (intOf i).toNat)
  case atStart => exact ⟨0, Nat.zero_le _, rfl, fun _ h => by omega, Below.refl _ _⟩
  case round =>
    obtain ⟨q, hq, rfl, hall, hbel⟩ := hrel
    have HB := hbel.out
    have bwr := (BOX.out wr HB).2
    have hsz := HB.size
    have y0 := (cell_row (BOX.out wr HB).1 0 (.slice o0 n0 k0) rfl).1
    have y1 := (cell_row (BOX.out wr HB).1 1 (.slice oa nb kb) rfl).1
    by_cases hlt : q < nb
    case neg =>
      have hno : takB Bs a th = false := by
        unfold takB
        rw [List.any_eq_false]
        intro j hj
        have h1 := hall.out j (by have := ENB.out; have := List.mem_range.1 hj; omega)
        rw [h1]
        simp
      go_wp2_with fail
      go_ret
      rw [hno]
      exact ⟨rfl, bwr⟩
    have hqb : q < Bs.length := by have := ENB.out; omega
    obtain ⟨bb, off, o1, n1, k1, o2, n2, k2, rfl, hbS, e0, e1, e2, a1, a2, z0⟩ := bat_at (H1.out wr bwr) q hqb
    rw [← btN_at hqb] at a1
    have CS : Hid (Calls Tryz.prog 36 #[.slice o1 n1 k1, .slice on nn kn] wr fun e w' => e = .returned (.bool (shareB (btN Bs q).2.1 th)) ∧ Below wr.heap.size wr w') := shareZ_any (fun b => S b ∨ SN b) _ _ _ _ wr (AtL.up a1 (fun b hb => Or.inl hb)) (AtL.up (HN.out wr bwr) (fun b hb => Or.inr hb)) (fun b hb => hb.elim (HS.out wr bwr b) (HSN.out wr bwr b))
    clear e0 e2 a1 a2 z0 hbS
    by_cases hqa : q = a
    · have hqn : ((q : Int) != (a : Int)) = false := by simp [hqa]
      have hw0 : Hid ((!(q == a) && shareB (btN Bs q).2.1 th) = false) := by show _ = _; simp [hqa]
      clear hqa CS
      go_wp2_with fail
      go_roundw
      case rel => exact ⟨q + 1, by omega, by go_num, fun j hj => by
        by_cases e : j = q
        · subst e; exact hw0.out
        · exact hall.out j (by omega), hbel⟩
      case measure => simp [intOf]; omega
    have hqn : ((q : Int) != (a : Int)) = true := by simp; omega
    have hqa' : (q == a) = false := by simpa using hqa
    have HQ : Hid ((q == a) = false) := hqa'
    clear hqa hqa'
    go_wp2_with fail
    refine CS.out.mono ?_; rintro e u ⟨rfl, hbu⟩
    have BU : Hid (Below W.heap.size W u) := HB.trans (hbu.mono hsz)
    clear hbu CS y0 y1 e1
    cases c1 : shareB (btN Bs q).2.1 th
    case false =>
      go_wp2_with fail
      go_roundw
      case rel => exact ⟨q + 1, by omega, by go_num, fun j hj => by
        by_cases e : j = q
        · subst e; rw [c1]; simp
        · exact hall.out j (by omega), BU⟩
      case measure => simp [intOf]; omega
    have hyes : takB Bs a th = true := by
      unfold takB
      rw [List.any_eq_true]
      exact ⟨q, List.mem_range.2 hqb, by rw [HQ.out, c1]; rfl⟩
    have BUW : Hid (Below w.heap.size w u) := (BOX.out u BU.out).2
    go_wp2_with fail
    go_ret
    rw [hyes]
    exact ⟨rfl, BUW.out⟩
end Go.Proofs.YtaejlcanccfmmaaGreatDoor

namespace Go.Proofs.YtaejlcanccfmmaaGreatDoor
open Go.RowKit
open Go.Sort in
set_option maxRecDepth 100000 in
set_option maxHeartbeats 4000000 in
theorem insZ_any (base g cap : Nat) (l : List ByteArray) (x : ByteArray) (w : World) (h : w.ownsRow base 9 1 (.slice (some ⟨g, 0, none⟩) l.length cap) l.length (l.map .string)) (hl : l.length ≤ 1048576) (hbase : base ≤ w.heap.size) :
    Calls Tryz.prog 102 #[.slice (some ⟨g, 0, none⟩) l.length cap, .string x] w fun e w' => ∃ g' cap', e = .returned (.slice (some ⟨g', 0, none⟩) (insR l x).length cap') ∧ w'.ownsRow base 9 1 (.slice (some ⟨g', 0, none⟩) (insR l x).length cap') (insR l x).length ((insR l x).map .string) ∧ Below w.heap.size w w' := by
  have HO : Hid _ := h
  obtain ⟨hcap, hc⟩ := own_cells h
  have HC : Hid (∀ i, i < l.length → w.cell? ⟨g, i, none⟩ = some (.string (nthB l i))) := hc
  clear h hc
  generalize hn : l.length = n at *
  have HN : Hid (l.length = n) := hn
  clear hn
  go_enter Tryz.func102, Tryz.ntmps102
  go_wp2
  go_loop [5] (fun i => ∃ k : Nat, k ≤ n ∧ i = .int .i64 k ∧ Hid (∀ j, j < k → ltB (nthB l j) x = true)) (fun i => n - (intOf i).toNat)
  case atStart => exact ⟨0, Nat.zero_le _, rfl, fun _ h => by omega⟩
  case round =>
    obtain ⟨k, hk, rfl, hall⟩ := hrel
    have NEW : Hid ((k < n → ltB (nthB l k) x = false ∧ eqB (nthB l k) x = false) → insR l x = l.take k ++ [x] ++ l.drop k) := fun h => insR_new l k x (by rw [HN.out]; exact hk) hall.out (by rw [HN.out]; exact h)
    by_cases hlt : k < n
    · have e0 := HC.out k hlt
      cases h1 : Op.bytesLess (nthB l k).toList x.toList
      · cases h2 : ((nthB l k).toList == x.toList)
        · have E : Hid (insR l x = l.take k ++ [x] ++ l.drop k) := NEW.out (fun _ => ⟨h1, h2⟩)
          have hkc : (k : Int) ≤ (cap : Int) := by omega
          have hkn : (k : Int) ≤ (n : Int) := by omega
          go_wp2_with fail
          refine wp_region_mix 12 [1, 2, 3, 5, 8, 9, 10] (by kernel_rfl) (by kernel_rfl) ?_
          simp only [List.filterMap_cons, List.filterMap_nil, List.getElem?_cons_succ, List.getElem?_cons_zero]
          repeat (first | go_big_quiet_step (fail) | quiet_step (fail))
          refine wpQuiet_nil ?_
          refine ins3 (md := .any) (i0 := 0) (i1 := 4) (i2 := 6) (i3 := 7) (i4 := 11) (d0 := 33) (d1 := 37) (d2 := 39) (d3 := 40) (d4 := 44) (k1 := 36) (k2 := 43) (kx := 38) (X := .string x) (t := 23) (e := 9)
            ⟨_, _, _, _, _, ⟨rfl, rfl, rfl, by decide⟩, ⟨rfl, rfl, rfl, by decide⟩, ⟨rfl, rfl, rfl, by decide⟩, ⟨rfl, rfl, rfl, by decide⟩, ⟨rfl, rfl, rfl, by decide⟩, rfl, rfl, rfl, ?run0, ?run2, by decide, by decide, by kernel_rfl, by kernel_rfl, by kernel_rfl, by kernel_rfl, by kernel_rfl, by kernel_rfl, by kernel_rfl⟩
            elSX (W := w) ⟨by simp, by simp, by simp, by simp, by simp⟩ rfl rfl rfl (src_take HN.out hk HC.out) (src_drop HN.out hk hcap HC.out) rfl ?u1 ?u2 ?ux (by omega) (by unfold maxLen; omega) ?K
          case run0 => intro bb ww; go_simp
          case run2 =>
            intro bb hx ww
            have hx' : bb.tmps[38]?.getD undef = .string x := by simpa [Act.eval] using hx
            clear hx
            go_simp
          case u1 => intro v hv; obtain ⟨_, _, rfl⟩ := List.mem_map.1 hv; rfl
          case u2 => intro v hv; obtain ⟨_, _, rfl⟩ := List.mem_map.1 hv; rfl
          case ux => intro v hv; simp [Value.cells] at hv; subst hv; rfl
          case K =>
            intro r0 r1 r2 r3 r4 w4 hown hb4
            refine ⟨by kernel_rfl, ?_⟩
            simp only [List.drop_succ_cons, List.drop_zero]
            have hnk : k + 1 + (n - k) = (insR l x).length := by rw [E.out]; have := HN.out; simp; omega
            have hcs : (l.take k).map Value.string ++ (Value.string x).cells.toList ++ (l.drop k).map Value.string = (insR l x).map .string := by rw [E.out]; simp [Value.cells]
            rw [hnk, hcs] at hown
            have HOW : Hid (w4.ownsRow w.heap.size 9 1 r4 (insR l x).length ((insR l x).map .string)) := hown
            have HPOS : Hid (0 < (insR l x).length) := by show 0 < _; omega
            clear hown hcs hnk
            simp only [Act.put, List.setIfInBounds_toArray, List.set_cons_zero, List.set_cons_succ]
            go_wp2_with fail
            all_goals
              go_ret
              rcases HOW.out.2 with ⟨_, e⟩ | ⟨g', cap', cur, rfl, hbg, rest⟩
              · have := HPOS.out; omega
              · exact ⟨g', cap', rfl, ⟨HOW.out.1, .inr ⟨g', cap', cur, rfl, by omega, rest⟩⟩, hb4⟩
        · have E : Hid (insR l x = l) := insR_eq l k x (by rw [HN.out]; exact hlt) hall.out h2
          go_wp2_with fail
          go_ret
          rw [E.out, HN.out]
          exact ⟨g, cap, rfl, HO.out, Below.refl _ _⟩
      · go_wp2_with fail
        go_round
        case rel => exact ⟨k + 1, by omega, by go_num, fun j hj => by
          by_cases e : j = k
          · subst e; exact h1
          · exact hall.out j (by omega)⟩
        case measure => simp [intOf]; omega
    · have E : Hid (insR l x = l.take k ++ [x] ++ l.drop k) := NEW.out (fun h => absurd h hlt)
      have hkc : (k : Int) ≤ (cap : Int) := by omega
      have hkn : (k : Int) ≤ (n : Int) := by omega
      go_wp2_with fail
      refine wp_region_mix 12 [1, 2, 3, 5, 8, 9, 10] (by kernel_rfl) (by kernel_rfl) ?_
      simp only [List.filterMap_cons, List.filterMap_nil, List.getElem?_cons_succ, List.getElem?_cons_zero]
      repeat (first | go_big_quiet_step (fail) | quiet_step (fail))
      refine wpQuiet_nil ?_
      refine ins3 (md := .any) (i0 := 0) (i1 := 4) (i2 := 6) (i3 := 7) (i4 := 11) (d0 := 33) (d1 := 37) (d2 := 39) (d3 := 40) (d4 := 44) (k1 := 36) (k2 := 43) (kx := 38) (X := .string x) (t := 23) (e := 9)
        ⟨_, _, _, _, _, ⟨rfl, rfl, rfl, by decide⟩, ⟨rfl, rfl, rfl, by decide⟩, ⟨rfl, rfl, rfl, by decide⟩, ⟨rfl, rfl, rfl, by decide⟩, ⟨rfl, rfl, rfl, by decide⟩, rfl, rfl, rfl, ?run0, ?run2, by decide, by decide, by kernel_rfl, by kernel_rfl, by kernel_rfl, by kernel_rfl, by kernel_rfl, by kernel_rfl, by kernel_rfl⟩
        elSX (W := w) ⟨by simp, by simp, by simp, by simp, by simp⟩ rfl rfl rfl (src_take HN.out hk HC.out) (src_drop HN.out hk hcap HC.out) rfl ?u1 ?u2 ?ux (by omega) (by unfold maxLen; omega) ?K
      case run0 => intro bb ww; go_simp
      case run2 =>
        intro bb hx ww
        have hx' : bb.tmps[38]?.getD undef = .string x := by simpa [Act.eval] using hx
        clear hx
        go_simp
      case u1 => intro v hv; obtain ⟨_, _, rfl⟩ := List.mem_map.1 hv; rfl
      case u2 => intro v hv; obtain ⟨_, _, rfl⟩ := List.mem_map.1 hv; rfl
      case ux => intro v hv; simp [Value.cells] at hv; subst hv; rfl
      case K =>
        intro r0 r1 r2 r3 r4 w4 hown hb4
        refine ⟨by kernel_rfl, ?_⟩
        simp only [List.drop_succ_cons, List.drop_zero]
        have hnk : k + 1 + (n - k) = (insR l x).length := by rw [E.out]; have := HN.out; simp; omega
        have hcs : (l.take k).map Value.string ++ (Value.string x).cells.toList ++ (l.drop k).map Value.string = (insR l x).map .string := by rw [E.out]; simp [Value.cells]
        rw [hnk, hcs] at hown
        have HOW : Hid (w4.ownsRow w.heap.size 9 1 r4 (insR l x).length ((insR l x).map .string)) := hown
        have HPOS : Hid (0 < (insR l x).length) := by show 0 < _; omega
        clear hown hcs hnk
        simp only [Act.put, List.setIfInBounds_toArray, List.set_cons_zero, List.set_cons_succ]
        go_wp2_with fail
        all_goals
          go_ret
          rcases HOW.out.2 with ⟨_, e⟩ | ⟨g', cap', cur, rfl, hbg, rest⟩
          · have := HPOS.out; omega
          · exact ⟨g', cap', rfl, ⟨HOW.out.1, .inr ⟨g', cap', cur, rfl, by omega, rest⟩⟩, hb4⟩
end Go.Proofs.YtaejlcanccfmmaaGreatDoor

namespace Go.Proofs.YtaejlcanccfmmaaGreatDoor
open Go.RowKit Go.Sort
set_option maxRecDepth 100000 in
set_option maxHeartbeats 8000000 in
theorem safeZ_any (S : Nat → Prop) (T : List ByteArray) (Bs : List DShareBatch) (o0 oa : Option Addr) (n0 k0 nb kb : Nat) (w : World) (h0 : AtL S w T (.slice o0 n0 k0)) (h1 : AtL S w Bs (.slice oa nb kb)) (hS : ∀ b, S b → b < w.heap.size) :
    Calls Tryz.prog 103 #[.agg #[.slice o0 n0 k0, .slice oa nb kb]] w fun e w' => e = .returned (.bool (ordS (T, Bs)).2) ∧ Below w.heap.size w w' := by
  go_enter Tryz.func103, Tryz.ntmps103
  go_wp2_with fail
  refine (orderZ_any S T Bs _ _ _ _ _ _ _ (h0.same (Same.of_alloc w _ hS)) (h1.same (Same.of_alloc w _ hS)) (fun b hb => by have := hS b hb; simp; omega)).mono ?_; rintro e u ⟨q, rfl, _, hbu⟩
  go_wp2_with fail
  go_ret
  exact ⟨rfl, ((Below.refl _ _).alloc (Nat.le_refl _) _).trans (hbu.mono (by simp))⟩
end Go.Proofs.YtaejlcanccfmmaaGreatDoor

namespace Go.Proofs.YtaejlcanccfmmaaGreatDoor
open Go.RowKit Go.Sort
def insF (l th : List ByteArray) : List ByteArray := th.foldl insR l
theorem insR_memM : ∀ {l : List ByteArray} {x y : ByteArray}, y ∈ insR l x → y ∈ l ∨ y = x
  | [], x, y, h => by simp [insR] at h; exact Or.inr h
  | z :: l, x, y, h => by
    unfold insR at h
    cases h1 : ltB z x
    · rw [h1] at h
      cases h2 : eqB z x
      · rw [h2] at h
        rcases List.mem_cons.1 h with h | h
        · exact Or.inr h
        · exact Or.inl h
      · rw [h2] at h
        exact Or.inl h
    · rw [h1] at h
      rcases List.mem_cons.1 h with h | h
      · exact Or.inl (by rw [h]; exact List.mem_cons_self)
      · rcases insR_memM h with h | h
        · exact Or.inl (List.mem_cons_of_mem _ h)
        · exact Or.inr h
theorem insF_mem : ∀ {th l : List ByteArray} {y : ByteArray}, y ∈ insF l th → y ∈ l ∨ y ∈ th
  | [], _, _, h => Or.inl h
  | x :: th, l, y, h => by
    have h1 : y ∈ insF (insR l x) th := h
    rcases insF_mem h1 with h | h
    · rcases insR_memM h with h | h
      · exact Or.inl h
      · exact Or.inr (by rw [h]; exact List.mem_cons_self)
    · exact Or.inr (List.mem_cons_of_mem _ h)
theorem insF_len : ∀ (th l : List ByteArray), (insF l th).length ≤ l.length + th.length
  | [], _ => Nat.le_refl _
  | x :: th, l => by
    have h1 := insF_len th (insR l x)
    have h2 := insR_len l x
    have h3 : insF l (x :: th) = insF (insR l x) th := rfl
    rw [h3, List.length_cons]
    omega
theorem insF_next (l : List ByteArray) {th : List ByteArray} {k : Nat} (hk : k < th.length) : insF l (th.take (k + 1)) = insR (insF l (th.take k)) th[k] := by
  rw [List.take_add_one, List.getElem?_eq_getElem hk]
  show List.foldl insR l (th.take k ++ [th[k]]) = _
  rw [List.foldl_append]
  rfl
def askB (f : DShareBatch) (th : List ByteArray) : DShareBatch := (f.1, insF f.2.1 th, f.2.2)
noncomputable def askS (D : DShareBook) (x : ByteArray) (th : List ByteArray) : DShareBook × Int :=
  if bokB D = true then (if atZI D.2 x < 0 then (D, 3) else if subB (btN D.2 (atZI D.2 x).toNat).2.2 th = true then (if takB D.2 (atZI D.2 x).toNat th = true then (D, 5) else if (ordS D).2 = true ∧ (ordS (D.1, D.2.set (atZI D.2 x).toNat (askB (btN D.2 (atZI D.2 x).toNat) th))).2 = false then (D, 6) else ((D.1, D.2.set (atZI D.2 x).toNat (askB (btN D.2 (atZI D.2 x).toNat) th)), 0)) else (D, 2)) else (([], []), 1)
theorem bok_eight {D : DShareBook} (h : BokP D) {i : Nat} (hi : i < D.2.length) : D.2[i].2.1.length ≤ 8 ∧ D.2[i].2.2.length ≤ 8 := by
  have hb := (h.row i hi).bat
  unfold batB at hb
  simp only [Bool.and_eq_true] at hb
  have e1 := sub_lenM hb.1.2
  have e2 := sub_lenM hb.2
  have e3 := (bok_small h).2.1
  omega
theorem ask_small {D : DShareBook} (h : BokP D) {q : Nat} (hq : q < D.2.length) {th : List ByteArray} (hs : subB (btN D.2 q).2.2 th = true) : SmD (D.1, D.2.set q (askB (btN D.2 q) th)) := by
  have h1 := (bok_small h).1
  rw [btN_at hq] at hs ⊢
  have h2 := h1.2.2 _ (List.getElem_mem hq)
  have h3 := bok_eight h hq
  have h4 := sub_lenM hs
  have h5 := SmL.of_sub h2.2.2 hs (by omega)
  refine ⟨h1.1, sm_set h1.2 ⟨h2.1, ⟨?_, fun y hy => ?_⟩, h2.2.2⟩⟩
  · have := insF_len th D.2[q].2.1
    show (insF D.2[q].2.1 th).length ≤ 64
    omega
  · rcases insF_mem hy with hy | hy
    · exact h2.2.1.2 y hy
    · exact h5.2 y hy
theorem enc_SM (l : List ByteArray) : enc 1 eS l = l.map .string := by
  induction l with
  | nil => rfl
  | cons x l ih => rw [enc_cons, ih]; rfl
theorem BkO.set1 {B : Nat} {w : World} {g cap nb : Nat} {v0 : Value} {T : List ByteArray} {L : List HB} (h : BkO B w v0 (.slice (some ⟨g, 0, none⟩) nb cap) T L) (hl : L.length = nb) {q : Nat} (hq : q < L.length) {hv : Value} {hs : List ByteArray} (hh : Row w B 9 1 eS hv hs) (zh : ∀ s ∈ hs, s.size ≤ maxLen) (ho : ∃ b, hv.ownBlock = some b) :
    BkO B (w.setCell ⟨g, q * 3 + 1, none⟩ hv) v0 (.slice (some ⟨g, 0, none⟩) nb cap) T (L.set q (L[q].1, (hv, hs), L[q].2.2)) := by
  subst hl
  have h2 := (Row.put h.bs.ro hq (j := 1) (by omega) hv (L[q].1, (hv, hs), L[q].2.2) (fun j hj => by rcases (show j = 0 ∨ j = 1 ∨ j = 2 by omega) with rfl | rfl | rfl <;> rfl)).1
  have KP : ∀ (b : Nat) (c : Array Value), w.heap[b]? = some (.cells c 9 (0, 0)) → (w.setCell ⟨g, q * 3 + 1, none⟩ hv).heap[b]? = w.heap[b]? := fun b c hc => by
    have hb : b ≠ g := fun e => by
      obtain ⟨c', hc'⟩ := Row.typed h.bs.ro g rfl
      rw [← e, hc] at hc'
      injection hc' with h1
      injection h1 with _ h2
      revert h2
      decide
    exact Below.heap_setCell _ _ _ _ hb
  refine ⟨strRow_kept h.th KP, h.zt, ⟨h2, fun y hy => ?_⟩, fun y hy => ?_, fun e => ?_⟩
  · rcases List.mem_or_eq_of_mem_set hy with hy | rfl
    · exact (h.bs.el y hy).kept KP
    · exact ⟨strRow_kept hh KP, strRow_kept (h.bs.el _ (List.getElem_mem hq)).n KP, (h.bs.el _ (List.getElem_mem hq)).z, zh, (h.bs.el _ (List.getElem_mem hq)).zn⟩
  · rcases List.mem_or_eq_of_mem_set hy with hy | rfl
    · exact h.nh y hy
    · exact ho
  · have := congrArg List.length e
    rw [List.length_set, List.length_nil] at this
    omega
end Go.Proofs.YtaejlcanccfmmaaGreatDoor
