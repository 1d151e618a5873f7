/-
  The program's stuffs of some lots, each once; whether some lots and others have foes among them.
-/
import Derived.Test.YthleodbbppgadaaGreatIf
namespace Go.Proofs.YthleodbbppgadaaGreat
open Go.RowKit

section
variable {α : Type} {l : List α} {p : α → Bool}
theorem idx_spec (h : 0 ≤ idxI l p) : ∃ i, ∃ hi : i < l.length, idxI l p = (i : Int) ∧ p l[i] = true ∧ l.find? p = some l[i] := by
  unfold idxI at h ⊢
  cases e : l.findIdx? p with
  | none => rw [e] at h; simp at h
  | some i =>
    obtain ⟨h1, h2, h3⟩ := List.findIdx?_eq_some_iff_getElem.1 e
    refine ⟨i, h1, rfl, h2, ?_⟩
    exact find_yes h1 h2 (fun j hj hji => by simpa using h3 j hji)
theorem idx_neg (h : ¬ 0 ≤ idxI l p) : idxI l p = -1 ∧ l.find? p = none := by
  unfold idxI at h ⊢
  cases e : l.findIdx? p with
  | none =>
    refine ⟨rfl, ?_⟩
    rw [List.findIdx?_eq_none_iff] at e
    rw [List.find?_eq_none]
    exact fun x hx => by simp [e x hx]
  | some i => rw [e] at h; simp at h
end
/-- Where a lot stands; the stuffs of some lots, each once, one lot further. -/
def lotI (lots : List DStuffLot) (x : ByteArray) : Int := idxI lots (fun p : DStuffLot => eqB p.1 x)
def addS (lots : List DStuffLot) (acc : List ByteArray) (x : ByteArray) : List ByteArray :=
  cond (decide (0 ≤ lotI lots x) && !hasB acc (stuffOf lots x)) (acc ++ [stuffOf lots x]) acc
def stuffsK (lots : List DStuffLot) (l : List ByteArray) (k : Nat) : List ByteArray := (l.take k).foldl (addS lots) []
def stuffsL (lots : List DStuffLot) (l : List ByteArray) : List ByteArray := stuffsK lots l l.length
theorem stuffsK_succ (lots : List DStuffLot) (l : List ByteArray) (k : Nat) (h : k < l.length) : stuffsK lots l (k + 1) = addS lots (stuffsK lots l k) l[k] := by
  simp only [stuffsK]
  rw [List.take_add_one, List.getElem?_eq_getElem h, List.foldl_append]
  rfl
theorem addS_len (lots : List DStuffLot) (acc : List ByteArray) (x : ByteArray) : (addS lots acc x).length ≤ acc.length + 1 := by
  unfold addS
  cases decide (0 ≤ lotI lots x) && !hasB acc (stuffOf lots x) <;> simp
theorem stuffsK_len (lots : List DStuffLot) (l : List ByteArray) : ∀ k, k ≤ l.length → (stuffsK lots l k).length ≤ k
  | 0, _ => by simp [stuffsK]
  | k + 1, h => by
    rw [stuffsK_succ lots l k (by omega)]
    have := stuffsK_len lots l k (by omega)
    have := addS_len lots (stuffsK lots l k) l[k]
    omega
theorem stuff_idx {lots : List DStuffLot} {x : ByteArray} (h : 0 ≤ lotI lots x) : ∃ i, ∃ hi : i < lots.length, lotI lots x = (i : Int) ∧ stuffOf lots x = lots[i].2 := by
  obtain ⟨i, hi, h1, _, h3⟩ := idx_spec h
  exact ⟨i, hi, h1, by unfold stuffOf; rw [h3]⟩
theorem stuff_neg {lots : List DStuffLot} {x : ByteArray} (h : ¬ 0 ≤ lotI lots x) : stuffOf lots x = ⟨#[]⟩ := by
  unfold stuffOf; rw [(idx_neg h).2]
theorem stuffsK_mem (lots : List DStuffLot) (l : List ByteArray) (y : ByteArray) : ∀ k, k ≤ l.length → (y ∈ stuffsK lots l k ↔ ∃ j, ∃ hj : j < l.length, j < k ∧ 0 ≤ lotI lots l[j] ∧ y = stuffOf lots l[j])
  | 0, _ => by simp [stuffsK]
  | k + 1, h => by
    have ih := stuffsK_mem lots l y k (by omega)
    rw [stuffsK_succ lots l k (by omega)]
    have hs : (∃ j, ∃ hj : j < l.length, j < k + 1 ∧ 0 ≤ lotI lots l[j] ∧ y = stuffOf lots l[j]) ↔ y ∈ stuffsK lots l k ∨ (0 ≤ lotI lots l[k] ∧ y = stuffOf lots l[k]) := by
      rw [ih]
      constructor
      · rintro ⟨j, hj, h1, h2⟩
        by_cases e : j = k
        · subst e; exact Or.inr h2
        · exact Or.inl ⟨j, hj, by omega, h2⟩
      · rintro (⟨j, hj, h1, h2⟩ | h2)
        · exact ⟨j, hj, by omega, h2⟩
        · exact ⟨k, by omega, by omega, h2⟩
    rw [hs]
    unfold addS
    cases hc : decide (0 ≤ lotI lots l[k]) && !hasB (stuffsK lots l k) (stuffOf lots l[k])
    · simp only [cond_false]
      rw [Bool.and_eq_false_iff] at hc
      constructor
      · exact Or.inl
      · rintro (h1 | ⟨h1, rfl⟩)
        · exact h1
        · rcases hc with hc | hc
          · exact absurd h1 (of_decide_eq_false hc)
          · rw [Bool.not_eq_false'] at hc
            obtain ⟨z, hz, hp⟩ := List.any_eq_true.1 hc
            rw [eqB_iff] at hp
            rw [← hp]; exact hz
    · simp only [cond_true]
      rw [Bool.and_eq_true, decide_eq_true_iff] at hc
      rw [List.mem_append, List.mem_singleton]
      constructor
      · rintro (h1 | h1)
        · exact Or.inl h1
        · exact Or.inr ⟨hc.1, h1⟩
      · rintro (h1 | ⟨_, h1⟩)
        · exact Or.inl h1
        · exact Or.inr h1
theorem at_lots {S : Nat → Prop} {w : World} {lots : List DStuffLot} {v : Value} (h : AtL S w lots v) (i : Nat) (hi : i < lots.length) : lots[i].1.size ≤ maxLen ∧ lots[i].2.size ≤ maxLen := by
  obtain ⟨_, _, _, _, hc⟩ := h
  obtain ⟨_, _, _, _, _, _, hat⟩ := hc i hi
  rw [at_DStuffLot] at hat
  exact ⟨hat.1.2, hat.2.2⟩
theorem stuff_size {S : Nat → Prop} {w : World} {lots : List DStuffLot} {v : Value} (h : AtL S w lots v) (x : ByteArray) : (stuffOf lots x).size ≤ maxLen := by
  by_cases hx : 0 ≤ lotI lots x
  · obtain ⟨i, hi, _, h2⟩ := stuff_idx hx
    rw [h2]; exact (at_lots h i hi).2
  · rw [stuff_neg hx]; exact Nat.zero_le _
theorem stuffs_size {S : Nat → Prop} {w : World} {lots : List DStuffLot} {v : Value} (h : AtL S w lots v) (l : List ByteArray) (k : Nat) (hk : k ≤ l.length) : ∀ y ∈ stuffsK lots l k, y.size ≤ maxLen := fun y hy => by
  obtain ⟨j, hj, _, _, rfl⟩ := (stuffsK_mem lots l y k hk).1 hy
  exact stuff_size h _

theorem infoStr : (Tryz.prog.info? 9).map (fun i => (i.zero, i.size, i.bytes)) = some (some (.string ByteArray.empty), 1, 16) := by kernel_rfl
theorem underStrs : Tryz.prog.underlying 29 = some (.slice 9) := by kernel_rfl
theorem own_push {w : World} {B : Nat} {v : Value} {l : List ByteArray} {d : ByteArray} (h : w.ownsRow B 9 1 v (l.length + 1) (l.map .string ++ [.string d])) : w.ownsRow B 9 1 v (l ++ [d]).length ((l ++ [d]).map .string) := by
  rw [List.map_append, List.length_append]; exact h
theorem own_belowR {B : Nat} {w w' : World} {e size : Nat} {v : Value} {n : Nat} {xs : List Value} (h : w.ownsRow B e size v n xs) (hb : Below w.heap.size w w') : w'.ownsRow B e size v n xs := by
  refine ⟨h.1, ?_⟩
  rcases h.2 with hn | ⟨g, cap, cur, hv, hbg, hg, rest⟩
  · exact Or.inl hn
  · exact Or.inr ⟨g, cap, cur, hv, hbg, (hb.block g (Array.getElem?_eq_some_iff.1 hg).1).trans hg, rest⟩
theorem own_at {B : Nat} {w : World} {v : Value} {l : List ByteArray} (h : w.ownsRow B 9 1 v l.length (l.map .string)) (hm : l.length ≤ 1048576) (hz : ∀ x ∈ l, x.size ≤ maxLen) : AtL (fun b => B ≤ b ∧ b < w.heap.size) w l v := by
  rcases h.2 with ⟨rfl, hn⟩ | ⟨g, cap, cur, rfl, hb, hg, hc, hm', hs, ht⟩
  · exact ⟨none, 0, by rw [hn], ⟨by omega, by omega, fun _ => rfl⟩, fun i hi => by omega⟩
  · refine ⟨_, _, rfl, ⟨by unfold maxLen; omega, hc, fun h => nomatch h⟩, fun i hi => ⟨g, 0, rfl, ⟨hb, (Array.getElem?_eq_some_iff.1 hg).1⟩, cs [.string l[i]], fun j hj => ?_, ⟨rfl, hz _ (List.getElem_mem hi)⟩⟩⟩
    rw [width_str] at hj ⊢
    have ej : j = 0 := by omega
    subst ej
    have e1 : cur.toList[i]? = (l.map Value.string)[i]? := by
      rw [← ht, Nat.mul_one, List.getElem?_take_of_lt hi]
    have e2 : cur[0 + i * 1 + 0]? = some (.string l[i]) := by
      rw [Nat.zero_add, Nat.mul_one, Nat.add_zero, ← Array.getElem?_toList, e1]
      simp [hi]
    exact (cell_row hg _ _ e2).1

set_option maxRecDepth 100000 in
set_option maxHeartbeats 4000000 in
theorem stuffsI_any (S : Nat → Prop) (v0 v1 v2 v3 : Value) (lots : List DStuffLot) (l : List ByteArray) (v : Value) (w : World) (h1 : AtL S w lots v1) (h : AtL S w l v) (hS : ∀ b, S b → b < w.heap.size) (hm : l.length ≤ 1048576) :
    Calls Tryz.prog 147 #[.agg #[v0, v1, v2, v3], v] w fun e w' => ∃ r, e = .returned r ∧ AtL (fun b => w.heap.size ≤ b ∧ b < w'.heap.size) w' (stuffsL lots l) r ∧ Below w.heap.size w w' := by
  obtain ⟨i0, hi0, hz0, hz1, hz2⟩ := info_parts infoStr
  have H1 : Hid (AtL S w lots v1) := h1
  obtain ⟨o1, c1, hv1, hn1, hc1⟩ := h1
  rw [hv1] at H1
  subst hv1
  obtain ⟨oa, cap, rfl, hn, hc⟩ := h
  have HC : Hid _ := hc
  have HC1 : Hid _ := hc1
  clear hc hc1
  have HZ : Hid (∀ k, k ≤ l.length → ∀ y ∈ stuffsK lots l k, y.size ≤ maxLen) := fun k hk => stuffs_size H1.out l k hk
  have HZ1 : Hid (∀ x, (stuffOf lots x).size ≤ maxLen) := fun x => stuff_size H1.out x
  have HL : Hid (∀ k, k ≤ l.length → (stuffsK lots l k).length ≤ k) := stuffsK_len lots l
  obtain ⟨n1, en1⟩ : ∃ n, lots.length = n := ⟨_, rfl⟩
  rw [en1] at hn1 H1
  obtain ⟨n, en⟩ : ∃ n, l.length = n := ⟨_, rfl⟩
  rw [en] at hn hm
  rw [en, en1]
  have hsL : Hid (stuffsL lots l = stuffsK lots l n) := by show _ = _; rw [← en]; rfl
  rw [hsL.out]
  clear hsL
  unfold maxLen at hn hn1
  go_enter Tryz.func147, Tryz.ntmps147
  go_wp2
  go_loopw [5, 11] (fun r i wr => ∃ k : Nat, k ≤ n ∧ i = .int .i64 k ∧ Hid (wr.ownsRow (w.heap.size + 1) 9 1 r (stuffsK lots l k).length ((stuffsK lots l k).map .string)) ∧ Hid (Below (w.heap.size + 1) (w.alloc (.cells #[v0, .slice o1 n1 c1, v2, v3] 36)) wr)) (fun _ i _ => n - (intOf i).toNat)
  case atStart => exact ⟨0, Nat.zero_le _, rfl, by simpa [Hid, stuffsK] using World.ownsRow_nil _ (w.heap.size + 1) 9 1, Below.refl _ _⟩
  case round =>
    obtain ⟨k, hk, rfl, hown, hbel⟩ := hrel
    have hbw := below_end hbel.out
    have hsz : w.heap.size + 1 ≤ wr.heap.size := by have := hbel.out.size; simpa using this
    have hSr : ∀ b, S b → b < wr.heap.size := fun b hb => by have := hS b hb; omega
    have hlen := HL.out k (by omega)
    obtain ⟨acc, eacc⟩ : ∃ acc, stuffsK lots l k = acc := ⟨_, rfl⟩
    rw [eacc] at hown hlen
    by_cases hlt : k < n
    · have hzac : Hid (∀ y ∈ acc, y.size ≤ maxLen) := by show _; rw [← eacc]; exact HZ.out k (by omega)
      have hstep := stuffsK_succ lots l k (by omega)
      rw [eacc] at hstep
      have K1 : Hid (AtL S wr lots (.slice o1 n1 c1)) := H1.out.same (Same.of_below hbw hS)
      have x0 := box_at _ _ hbel.out 0 _ rfl
      have x1 := box_at _ _ hbel.out 1 _ rfl
      have x2 := box_at _ _ hbel.out 2 _ rfl
      have x3 := box_at _ _ hbel.out 3 _ rfl
      simp only [List.getElem_toArray, List.getElem_cons_zero, List.getElem_cons_succ] at x0 x1 x2 x3
      obtain ⟨b, off, rfl, hbS, ce, hcelle, hate⟩ := HC.out k (by omega)
      have hbb := hS b hbS
      rw [width_str] at hcelle
      have e0 : wr.cell? ⟨b, off + k, none⟩ = some (ce 0) := (hbw.cell (p := ⟨b, off + k, none⟩) (by show b < _; omega)).trans (by simpa using hcelle 0 (by omega))
      clear hcelle
      have hate := Lay.same hate (Same.of_below hbw hS)
      rw [at_str] at hate
      obtain ⟨ef, eef⟩ : ∃ f, l[k]'(by omega) = f := ⟨_, rfl⟩
      rw [eef] at hate
      obtain ⟨te0, ze0⟩ := hate
      rw [te0] at e0
      clear te0
      rw [eef] at hstep
      clear hbw
      have DONE_ : Hid (∀ (v' : Value) (w3 : World), addS lots acc ef = acc → w3.ownsRow (w.heap.size + 1) 9 1 v' acc.length (acc.map .string) → w3.ownsRow (w.heap.size + 1) 9 1 v' (stuffsK lots l (k + 1)).length ((stuffsK lots l (k + 1)).map .string)) := fun v' w3 e h => by rw [hstep, e]; exact h
      have PUSH_ : Hid (∀ (v' : Value) (w3 : World), addS lots acc ef = acc ++ [stuffOf lots ef] → w3.ownsRow (w.heap.size + 1) 9 1 v' (acc.length + 1) (acc.map .string ++ [.string (stuffOf lots ef)]) → w3.ownsRow (w.heap.size + 1) 9 1 v' (stuffsK lots l (k + 1)).length ((stuffsK lots l (k + 1)).map .string)) := fun v' w3 e h => by rw [hstep, e]; exact own_push h
      clear hstep eacc
      by_cases hix : 0 ≤ lotI lots ef
      · obtain ⟨i, hil, hidx, hsi⟩ := stuff_idx hix
        obtain ⟨bl, fl, e1', hblS, cl, hclc, hclat⟩ := HC1.out i hil
        subst e1'
        have hbl := hS bl hblS
        rw [width_DStuffLot] at hclc
        have g1 : wr.cell? ⟨bl, fl + i * 2 + 1, none⟩ = some (.string (stuffOf lots ef)) := by
          rw [at_DStuffLot] at hclat
          rw [hsi, ← hclat.2.1]
          exact ((below_end hbel.out).cell (p := ⟨bl, fl + i * 2 + 1, none⟩) (by show bl < _; omega)).trans (by simpa using hclc 1 (by omega))
        clear hclc hclat hsi
        have hi1 : i < n1 := by omega
        have hdi : decide (0 ≤ (i : Int)) = true := by simp
        have hzs := HZ1.out ef
        unfold maxLen at hzs
        cases hh : hasB acc (stuffOf lots ef)
        · have hadd : addS lots acc ef = acc ++ [stuffOf lots ef] := by unfold addS; rw [hh, decide_eq_true hix]; rfl
          have HIX : Hid _ := hix
          clear hix
          go_wp2_with fail
          refine (lotAtI_any S _ _ _ _ lots _ _ K1.out hSr).mono ?_
          rintro e w1 ⟨rfl, hb1⟩
          rw [show idxI lots (fun p : DStuffLot => eqB p.1 ef) = (i : Int) from hidx]
          have hs1 := hb1.size
          have y0 := (hb1.cell (p := ⟨w.heap.size, 0, none⟩) (by show w.heap.size < _; omega)).trans x0
          have y1 := (hb1.cell (p := ⟨w.heap.size, 1, none⟩) (by show w.heap.size < _; omega)).trans x1
          have y2 := (hb1.cell (p := ⟨w.heap.size, 2, none⟩) (by show w.heap.size < _; omega)).trans x2
          have y3 := (hb1.cell (p := ⟨w.heap.size, 3, none⟩) (by show w.heap.size < _; omega)).trans x3
          have g2 := (hb1.cell (p := ⟨bl, fl + i * 2 + 1, none⟩) (by show bl < _; omega)).trans g1
          have own1 : Hid (w1.ownsRow (w.heap.size + 1) 9 1 _ acc.length (acc.map .string)) := own_belowR hown.out hb1
          go_wp2_with fail
          refine (hasI_any _ _ acc (stuffOf lots ef) _ (own_at own1.out (by omega) hzac.out)).mono ?_
          rintro e w2 ⟨rfl, rfl⟩
          rw [hh]
          go_wp2_with (first
            | (at_builtin; refine wpList_append_own _ rfl _ _ 29 rfl (w.heap.size + 1) 9 i0 (.string ByteArray.empty) 1 16 underStrs hi0 hz0 hz1 hz2 rfl (by decide) _ _ _ rfl (own1.out.alloc _) ⟨w2.heap.size, 0, none⟩ 1 1 [.string (stuffOf lots ef)] rfl rfl (cell_one_new _ _ _) (fun x hx => by simp at hx; subst hx; rfl) (by unfold maxLen; omega) (by omega) (by simp; omega) ?_; intro v' w3 hown' hgrow3 hnil3))
          go_roundw
          case rel =>
            have RR : ∃ q' : Nat, q' ≤ n ∧ Value.int .i64 ((k : Int) + 1) = .int .i64 (q' : Int) ∧ Hid (w3.ownsRow (w.heap.size + 1) 9 1 v' (stuffsK lots l q').length ((stuffsK lots l q').map .string)) ∧ Hid (Below (w.heap.size + 1) _ w3) :=
              ⟨k + 1, by omega, by go_num, PUSH_.out v' w3 hadd hown', ((hbel.out.trans (hb1.mono hsz)).alloc (by omega) _).grown hgrow3 (by simp; omega) (fun p hp => (own1.out.lt p hp).1)⟩
            first
              | exact RR
              | ((repeat apply Exists.intro); exact ⟨RR, rfl⟩)
          case measure => simp [intOf]; omega
        · have hadd : addS lots acc ef = acc := by unfold addS; rw [hh, Bool.not_true, Bool.and_false]; rfl
          have HIX : Hid _ := hix
          clear hix
          go_wp2_with fail
          refine (lotAtI_any S _ _ _ _ lots _ _ K1.out hSr).mono ?_
          rintro e w1 ⟨rfl, hb1⟩
          rw [show idxI lots (fun p : DStuffLot => eqB p.1 ef) = (i : Int) from hidx]
          have hs1 := hb1.size
          have y0 := (hb1.cell (p := ⟨w.heap.size, 0, none⟩) (by show w.heap.size < _; omega)).trans x0
          have y1 := (hb1.cell (p := ⟨w.heap.size, 1, none⟩) (by show w.heap.size < _; omega)).trans x1
          have y2 := (hb1.cell (p := ⟨w.heap.size, 2, none⟩) (by show w.heap.size < _; omega)).trans x2
          have y3 := (hb1.cell (p := ⟨w.heap.size, 3, none⟩) (by show w.heap.size < _; omega)).trans x3
          have g2 := (hb1.cell (p := ⟨bl, fl + i * 2 + 1, none⟩) (by show bl < _; omega)).trans g1
          have own1 : Hid (w1.ownsRow (w.heap.size + 1) 9 1 _ acc.length (acc.map .string)) := own_belowR hown.out hb1
          go_wp2_with fail
          refine (hasI_any _ _ acc (stuffOf lots ef) _ (own_at own1.out (by omega) hzac.out)).mono ?_
          rintro e w2 ⟨rfl, rfl⟩
          rw [hh]
          go_wp2
          go_roundw
          case rel =>
            have RR : ∃ q' : Nat, q' ≤ n ∧ Value.int .i64 ((k : Int) + 1) = .int .i64 (q' : Int) ∧ Hid (w2.ownsRow (w.heap.size + 1) 9 1 _ (stuffsK lots l q').length ((stuffsK lots l q').map .string)) ∧ Hid (Below (w.heap.size + 1) _ w2) :=
              ⟨k + 1, by omega, by go_num, DONE_.out _ w2 hadd own1.out, hbel.out.trans (hb1.mono hsz)⟩
            first
              | exact RR
              | ((repeat apply Exists.intro); exact ⟨RR, rfl⟩)
          case measure => simp [intOf]; omega
      · have hadd : addS lots acc ef = acc := by unfold addS; rw [decide_eq_false hix]; rfl
        have hneg : lotI lots ef = -1 := (idx_neg hix).1
        have HIX : Hid _ := hix
        clear hix
        go_wp2_with fail
        refine (lotAtI_any S _ _ _ _ lots _ _ K1.out hSr).mono ?_
        rintro e w1 ⟨rfl, hb1⟩
        rw [show idxI lots (fun p : DStuffLot => eqB p.1 ef) = -1 from hneg]
        have own1 : Hid (w1.ownsRow (w.heap.size + 1) 9 1 _ acc.length (acc.map .string)) := own_belowR hown.out hb1
        go_wp2
        go_roundw
        case rel =>
          have RR : ∃ q' : Nat, q' ≤ n ∧ Value.int .i64 ((k : Int) + 1) = .int .i64 (q' : Int) ∧ Hid (w1.ownsRow (w.heap.size + 1) 9 1 _ (stuffsK lots l q').length ((stuffsK lots l q').map .string)) ∧ Hid (Below (w.heap.size + 1) _ w1) :=
            ⟨k + 1, by omega, by go_num, DONE_.out _ w1 hadd own1.out, hbel.out.trans (hb1.mono hsz)⟩
          first
            | exact RR
            | ((repeat apply Exists.intro); exact ⟨RR, rfl⟩)
        case measure => simp [intOf]; omega
    · go_wp2
      go_ret
      have hkn : k = n := by omega
      subst hkn
      rw [eacc]
      refine ⟨_, rfl, ?_, hbw⟩
      have hz' : ∀ y ∈ acc, y.size ≤ maxLen := by rw [← eacc]; exact HZ.out k (by omega)
      exact AtL.up (own_at hown.out (by omega) hz') (fun b hb => ⟨by omega, hb.2⟩)

end Go.Proofs.YthleodbbppgadaaGreat
