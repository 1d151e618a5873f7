/-
  Several texts in one.
-/
import Derived.Test.YtigkkelaadbhcabGreatM45
import Derived.Test.YtigkkelaadbhcabGreatM31
import Derived.Test.YtigkkelaadbhcabGreatM11
import Derived.Test.YtigkkelaadbhcabGreatM8
import Derived.Laws.BitsAllLaws
import Derived.Test.YtigkkelaadbhcabGreatM34
namespace Go.Proofs.YtigkkelaadbhcabGreat
open Go.RowKit
def msk : List ByteArray → (ByteArray → Bool) → Nat
  | [], _ => 0
  | y :: T, P => (if P y then 1 else 0) + 2 * msk T P
theorem msk_lt : ∀ (T : List ByteArray) (P : ByteArray → Bool), msk T P < 2 ^ T.length
  | [], _ => by simp [msk]
  | y :: T, P => by
    have := msk_lt T P
    rw [msk, List.length_cons, Nat.pow_succ]
    split <;> omega
theorem msk_congr : ∀ {T : List ByteArray} {P Q : ByteArray → Bool}, (∀ y ∈ T, P y = Q y) → msk T P = msk T Q
  | [], _, _, _ => rfl
  | y :: T, P, Q, h => by
    rw [msk, msk, h y (by simp), msk_congr (fun z hz => h z (by simp [hz]))]
theorem msk_or : ∀ {T : List ByteArray} {P Q : ByteArray → Bool}, (∀ y ∈ T, ¬ (P y = true ∧ Q y = true)) → msk T P + msk T Q = msk T (fun y => P y || Q y)
  | [], _, _, _ => rfl
  | y :: T, P, Q, h => by
    have ih := msk_or (T := T) (P := P) (Q := Q) (fun z hz => h z (by simp [hz]))
    have h0 := h y (by simp)
    rw [msk, msk, msk, ← ih]
    cases hp : P y <;> cases hq : Q y
    · simp; omega
    · simp; omega
    · simp; omega
    · exact absurd ⟨hp, hq⟩ h0
theorem msk_none {T : List ByteArray} {P : ByteArray → Bool} (h : ∀ y ∈ T, P y = false) : msk T P = 0 := by
  induction T with
  | nil => rfl
  | cons y T ih => rw [msk, h y (by simp), ih (fun z hz => h z (by simp [hz]))]; rfl
theorem msk_bit : ∀ {T : List ByteArray} (_ : T.Nodup) {t : Nat} (ht : t < T.length), msk T (fun y => eqB T[t] y) = 2 ^ t
  | [], _, t, ht => absurd ht (Nat.not_lt_zero _)
  | y :: T, nd, 0, _ => by
    obtain ⟨h1, _⟩ := List.nodup_cons.1 nd
    rw [msk, msk_none (fun z hz => ?_)]
    · simp [eqB_refl]
    · cases e : eqB (y :: T)[0] z
      · rfl
      · rw [eqB_iff] at e; exact absurd (show y ∈ T from (show y = z from e) ▸ hz) h1
  | y :: T, nd, t + 1, ht => by
    obtain ⟨h1, h2⟩ := List.nodup_cons.1 nd
    have ht' : t < T.length := by simpa using ht
    have ih := msk_bit h2 ht'
    have e0 : eqB (y :: T)[t + 1] y = false := by
      cases e : eqB (y :: T)[t + 1] y
      · rfl
      · rw [eqB_iff] at e; exact absurd (show y ∈ T from (show T[t] = y from e) ▸ List.getElem_mem ht') h1
    rw [msk, e0]
    have : msk T (fun y_1 => eqB (y :: T)[t + 1] y_1) = 2 ^ t := ih
    rw [this, Nat.pow_succ]
    simp; omega
theorem msk_test : ∀ (T : List ByteArray) (P : ByteArray → Bool) (i : Nat), (msk T P).testBit i = ((T[i]?).map P).getD false
  | [], P, i => by simp [msk]
  | y :: T, P, 0 => by
    rw [msk, Nat.testBit_zero]
    cases hp : P y <;> simp [hp]
  | y :: T, P, i + 1 => by
    rw [msk, Nat.testBit_succ]
    have : ((if P y = true then 1 else 0) + 2 * msk T P) / 2 = msk T P := by split <;> omega
    rw [this, msk_test T P i]
    simp
theorem msk_clear {T : List ByteArray} (hT : T.length ≤ 8) (P Q : ByteArray → Bool) : (msk T P &&& (4294967295 - msk T Q) = 0) ↔ ∀ y ∈ T, P y = true → Q y = true := by
  have hq : msk T Q < 2 ^ 32 := Nat.lt_of_lt_of_le (msk_lt T Q) (Nat.pow_le_pow_right (by omega) (by omega))
  have e : 4294967295 - msk T Q = 2 ^ 32 - (msk T Q + 1) := by omega
  rw [e]
  constructor
  · intro h y hy hP
    obtain ⟨i, hi, rfl⟩ := List.getElem_of_mem hy
    have := congrArg (fun n => n.testBit i) h
    simp only [Nat.testBit_and, Nat.testBit_two_pow_sub_succ hq, msk_test, Nat.zero_testBit, List.getElem?_eq_getElem hi, Option.map_some, Option.getD_some, hP, Bool.true_and] at this
    have hi8 : i < 32 := by omega
    simpa [hi8] using this
  · intro h
    apply Nat.eq_of_testBit_eq
    intro i
    rw [Nat.testBit_and, Nat.testBit_two_pow_sub_succ hq, msk_test, msk_test, Nat.zero_testBit]
    by_cases hi : i < T.length
    · rw [List.getElem?_eq_getElem hi]
      simp only [Option.map_some, Option.getD_some]
      cases hP : P T[i]
      · rfl
      · rw [h _ (List.getElem_mem hi) hP]; simp
    · rw [List.getElem?_eq_none (by omega)]; rfl
def hasM (T l : List ByteArray) : Nat := msk T (fun y => hasB l y)
theorem hasM_lt {T : List ByteArray} (hT : T.length ≤ 8) (l : List ByteArray) : hasM T l < 256 :=
  Nat.lt_of_lt_of_le (msk_lt T _) (show 2 ^ T.length ≤ 2 ^ 8 from Nat.pow_le_pow_right (by omega) hT)
theorem hasM_nil (T : List ByteArray) : hasM T [] = 0 := msk_none (fun _ _ => rfl)
theorem hasB_snoc (l : List ByteArray) (x y : ByteArray) : hasB (l ++ [x]) y = (hasB l y || eqB x y) := by
  simp [hasB, List.any_append]
theorem hasM_snoc {T l : List ByteArray} (nd : T.Nodup) {t : Nat} (ht : t < T.length) (hn : T[t] ∉ l) : hasM T (l ++ [T[t]]) = hasM T l + 2 ^ t := by
  rw [← msk_bit nd ht, hasM, hasM, msk_or]
  · exact msk_congr (fun y _ => hasB_snoc l _ y)
  · rintro y _ ⟨h1, h2⟩
    rw [eqB_iff] at h2
    exact hn (h2 ▸ (hasB_iff l y).1 h1)
def freP (Bs : List DShareBatch) (gone : List ByteArray) (y : ByteArray) : Bool := Bs.all fun f => hasB gone f.1 || !(hasB f.2.1 y)
theorem fre_iff {Bs : List DShareBatch} {gone : List ByteArray} {y : ByteArray} : freP Bs gone y = true ↔ ∀ i (hi : i < Bs.length), hasB gone Bs[i].1 = false → y ∉ Bs[i].2.1 := by
  unfold freP
  rw [List.all_eq_true]
  constructor
  · intro h i hi hg hy
    have := h _ (List.getElem_mem hi)
    rw [hg, (hasB_iff _ _).2 hy] at this
    cases this
  · intro h f hf
    obtain ⟨i, hi, rfl⟩ := List.getElem_of_mem hf
    cases hg : hasB gone Bs[i].1
    · have := h i hi hg
      cases e : hasB Bs[i].2.1 y
      · rfl
      · exact absurd ((hasB_iff _ _).1 e) this
    · rfl
def freM (T : List ByteArray) (Bs : List DShareBatch) (gone : List ByteArray) : Nat := msk T (freP Bs gone)
theorem freM_lt {T : List ByteArray} (hT : T.length ≤ 8) (Bs : List DShareBatch) (gone : List ByteArray) : freM T Bs gone < 256 :=
  Nat.lt_of_lt_of_le (msk_lt T _) (show 2 ^ T.length ≤ 2 ^ 8 from Nat.pow_le_pow_right (by omega) hT)
def lvL (T : List ByteArray) (Bs : List DShareBatch) (gone : List ByteArray) : List (Nat × Nat × Bool) := Bs.map fun f => (hasM T f.2.1, hasM T f.2.2, hasB gone f.1)
theorem lv_len (T : List ByteArray) (Bs : List DShareBatch) (gone : List ByteArray) : (lvL T Bs gone).length = Bs.length := by simp [lvL]
theorem lv_at (T : List ByteArray) {Bs : List DShareBatch} (gone : List ByteArray) {i : Nat} (hi : i < Bs.length) : (lvL T Bs gone)[i]'(by simp [lvL]; exact hi) = (hasM T Bs[i].2.1, hasM T Bs[i].2.2, hasB gone Bs[i].1) := by simp [lvL]
section
variable {T : List ByteArray} {Bs : List DShareBatch}
theorem bok_things (h : BokP (T, Bs)) : T.length ≤ 8 ∧ T.Nodup := by
  have h1 := h.things
  rw [ok_iff] at h1
  exact ⟨h1.1, asc_nodup fun i hi => by have := h1.2 i hi; rw [tst, Bool.and_eq_true] at this; exact this.2⟩
theorem bok_lists (h : BokP (T, Bs)) (i : Nat) (hi : i < Bs.length) : (Bs[i].2.1.Nodup ∧ ∀ x ∈ Bs[i].2.1, x ∈ T) ∧ (Bs[i].2.2.Nodup ∧ ∀ x ∈ Bs[i].2.2, x ∈ T) := by
  have := (h.row i hi).bat
  unfold batB at this
  simp only [Bool.and_eq_true] at this
  obtain ⟨n1, s1⟩ := sub_parts this.1.2
  obtain ⟨n2, s2⟩ := sub_parts this.2
  exact ⟨⟨n2, fun x hx => s1 x (s2 x hx)⟩, n1, s1⟩
theorem bok_names (h : BokP (T, Bs)) {i j : Nat} (hi : i < Bs.length) (hj : j < Bs.length) (e : Bs[i].1 = Bs[j].1) : i = j := by
  have asx : ∀ k (hk : k < Bs.length), asO (fun a b : DShareBatch => ltB a.1 b.1) (prevO Bs k) Bs[k] = true := fun k hk => by
    have := (h.row k hk).bat
    unfold batB at this
    simp only [Bool.and_eq_true] at this
    exact this.1.1.2
  have far := asc_far (R := fun a b : DShareBatch => ltB a.1 b.1) (fun h1 h2 => ltB_trans h1 h2) asx
  rcases Nat.lt_trichotomy i j with c | c | c
  · have := far j i hj c; rw [e, ltB_irrefl] at this; cases this
  · exact c
  · have := far i j hi c; rw [e, ltB_irrefl] at this; cases this
theorem bok_apart (h : BokP (T, Bs)) {i j : Nat} (hi : i < Bs.length) (hj : j < Bs.length) {y : ByteArray} (h1 : y ∈ Bs[i].2.1) (h2 : y ∈ Bs[j].2.1) : i = j := by
  rcases Nat.lt_trichotomy i j with c | c | c
  · have := (h.row j hj).sha i c; rw [(share_iff _ _).2 ⟨y, h2, h1⟩] at this; cases this
  · exact c
  · have := (h.row i hi).sha j c; rw [(share_iff _ _).2 ⟨y, h1, h2⟩] at this; cases this
theorem can_same (h : BokP (T, Bs)) {gone : List ByteArray} {a : Nat} (ha : a < Bs.length) (hg : hasB gone Bs[a].1 = false) : (hasM T Bs[a].2.2 &&& (4294967295 - (freM T Bs gone + hasM T Bs[a].2.1)) = 0) ↔ canB Bs a gone = true := by
  have hT := (bok_things h).1
  have dis : ∀ y ∈ T, ¬ (freP Bs gone y = true ∧ hasB Bs[a].2.1 y = true) := fun y _ ⟨h1, h2⟩ => fre_iff.1 h1 a ha hg ((hasB_iff _ _).1 h2)
  unfold freM hasM
  rw [msk_or dis, msk_clear hT]
  constructor
  · intro hall
    refine can_yes fun i hi => ?_
    unfold inWay
    rw [btN_at hi, btN_at ha]
    by_cases e : i = a
    · simp [e]
    · cases hgi : hasB gone Bs[i].1
      · cases es : shareB Bs[i].2.1 Bs[a].2.2
        · simp
        · obtain ⟨y, y1, y2⟩ := (share_iff _ _).1 es
          have := hall y ((bok_lists h a ha).2.2 y y2) ((hasB_iff _ _).2 y2)
          rw [Bool.or_eq_true] at this
          rcases this with hf | hf
          · exact absurd y1 (fre_iff.1 hf i hi hgi)
          · exact absurd (bok_apart h hi ha y1 ((hasB_iff _ _).1 hf)) e
      · simp
  · intro hc y _ hy
    rw [Bool.or_eq_true]
    by_cases hm : y ∈ Bs[a].2.1
    · exact .inr ((hasB_iff _ _).2 hm)
    · refine .inl (fre_iff.2 fun i hi hgi hyi => ?_)
      have hia : i ≠ a := fun e => hm (by subst e; exact hyi)
      have : inWay Bs a gone i = true := by
        unfold inWay
        rw [btN_at hi, btN_at ha, hgi, (share_iff _ _).2 ⟨y, hyi, (hasB_iff _ _).1 hy⟩]
        simp [hia]
      rw [can_no hi this] at hc
      cases hc
theorem go_free (h : BokP (T, Bs)) {gone : List ByteArray} {a : Nat} (ha : a < Bs.length) (hg : hasB gone Bs[a].1 = false) : freM T Bs gone + hasM T Bs[a].2.1 = freM T Bs (gone ++ [Bs[a].1]) := by
  have dis : ∀ y ∈ T, ¬ (freP Bs gone y = true ∧ hasB Bs[a].2.1 y = true) := fun y _ ⟨h1, h2⟩ => fre_iff.1 h1 a ha hg ((hasB_iff _ _).1 h2)
  unfold freM hasM
  rw [msk_or dis]
  refine msk_congr fun y _ => ?_
  rw [Bool.eq_iff_iff, Bool.or_eq_true, fre_iff, fre_iff, hasB_iff]
  constructor
  · rintro (h1 | h1) i hi hgi hy
    · rw [hasB_snoc, Bool.or_eq_false_iff] at hgi
      exact h1 i hi hgi.1 hy
    · have := bok_apart h hi ha hy h1
      subst this
      rw [hasB_snoc, eqB_refl, Bool.or_true] at hgi
      cases hgi
  · intro h1
    by_cases hm : y ∈ Bs[a].2.1
    · exact .inr hm
    · refine .inl fun i hi hgi hy => h1 i hi ?_ hy
      rw [hasB_snoc, hgi, Bool.false_or]
      cases e : eqB Bs[a].1 Bs[i].1
      · rfl
      · rw [eqB_iff] at e
        have := bok_names h ha hi e
        subst this
        exact absurd hy hm
theorem go_list (h : BokP (T, Bs)) {gone : List ByteArray} {a : Nat} (ha : a < Bs.length) : (lvL T Bs gone).set a (hasM T Bs[a].2.1, hasM T Bs[a].2.2, true) = lvL T Bs (gone ++ [Bs[a].1]) := by
  apply List.ext_getElem
  · simp [lvL]
  · intro i h1 h2
    have hi : i < Bs.length := by simpa [lvL] using h2
    rw [List.getElem_set]
    by_cases e : a = i
    · subst e
      rw [if_pos rfl, lv_at T _ hi, hasB_snoc, eqB_refl, Bool.or_true]
    · rw [if_neg e, lv_at T _ hi, lv_at T _ hi, hasB_snoc]
      have : eqB Bs[a].1 Bs[i].1 = false := by
        cases c : eqB Bs[a].1 Bs[i].1
        · rfl
        · rw [eqB_iff] at c; exact absurd (bok_names h ha hi c) e
      rw [this, Bool.or_false]
theorem free_next (h : BokP (T, Bs)) {k : Nat} (hk : k < Bs.length) : freM T (Bs.take (k + 1)) [] + hasM T Bs[k].2.1 = freM T (Bs.take k) [] := by
  have e0 : ∀ y, freP (Bs.take (k + 1)) [] y = (freP (Bs.take k) [] y && !(hasB Bs[k].2.1 y)) := fun y => by
    unfold freP
    rw [List.take_succ_eq_append_getElem hk, List.all_append]
    simp [hasB]
  have dis : ∀ y ∈ T, ¬ (freP (Bs.take (k + 1)) [] y = true ∧ hasB Bs[k].2.1 y = true) := fun y _ ⟨h1, h2⟩ => by
    rw [e0, h2] at h1; simp at h1
  unfold freM hasM
  rw [msk_or dis]
  refine msk_congr fun y _ => ?_
  rw [e0]
  cases hy : hasB Bs[k].2.1 y
  · simp
  · rw [Bool.or_true]
    refine (fre_iff.2 fun i hi _ hyi => ?_).symm
    rw [List.length_take] at hi
    rw [List.getElem_take] at hyi
    have := bok_apart h (by omega) hk hyi ((hasB_iff _ _).1 hy)
    omega
theorem free_none : freM T (Bs.take 0) [] = hasM T T := by
  unfold freM hasM
  refine msk_congr fun y hy => ?_
  rw [(hasB_iff _ _).2 hy]
  rfl
theorem lv_snoc (k : Nat) (hk : k < Bs.length) : lvL T (Bs.take (k + 1)) [] = lvL T (Bs.take k) [] ++ [(hasM T Bs[k].2.1, hasM T Bs[k].2.2, false)] := by
  unfold lvL
  rw [List.take_succ_eq_append_getElem hk, List.map_append]
  simp [hasB]
end
end Go.Proofs.YtigkkelaadbhcabGreat

namespace Go.Proofs.YtigkkelaadbhcabGreat
open Go.RowKit
theorem idx_at {T : List ByteArray} (nd : T.Nodup) {x : ByteArray} (hx : x ∈ T) : ∃ t : Nat, idxI T (fun f => eqB f x) = (t : Int) ∧ ∃ ht : t < T.length, T[t] = x := by
  obtain ⟨t, ht, rfl⟩ := List.getElem_of_mem hx
  refine ⟨t, idx_yes ht (eqB_refl _) fun j hj hjt => ?_, ht, rfl⟩
  cases e : eqB T[j] T[t]
  · rfl
  · rw [eqB_iff] at e
    exact absurd e (List.pairwise_iff_getElem.1 nd j t hj ht hjt)
set_option maxRecDepth 100000 in
set_option maxHeartbeats 8000000 in
theorem bits_any (S : Nat → Prop) (v va : Value) (l T : List ByteArray) (w : World) (h : AtL S w l v) (hT : AtL S w T va) (n8 : T.length ≤ 8) (nd : T.Nodup) (nl : l.Nodup) (sub : ∀ x ∈ l, x ∈ T) :
    Calls Tryz.prog 170 #[v, va] w fun e w' => e = .returned (.int .u32 (hasM T l : Nat)) ∧ w' = w := by
  obtain ⟨oa, cap, rfl, hn, hc⟩ := h
  obtain ⟨n, en⟩ : ∃ n, l.length = n := ⟨_, rfl⟩
  have EN : Hid (l.length ≤ n ∧ n ≤ l.length) := ⟨by omega, by omega⟩
  rw [en] at hn
  rw [en]
  unfold maxLen at hn
  have HC : Hid _ := hc
  have HI : Hid (∀ x, Calls Tryz.prog 198 #[va, .string x] w fun e w' => e = .returned (.int .i64 (idxI T (fun f => eqB f x))) ∧ w' = w) := fun x => index_any S va T x w hT
  obtain ⟨R, hR⟩ : ∃ R : Int, R = (hasM T l : Nat) := ⟨_, rfl⟩
  have HR : Hid (R = (hasM T l : Nat)) := hR
  rw [← hR]
  have ND : Hid T.Nodup := nd
  have NL : Hid l.Nodup := nl
  have SUB : Hid (∀ x ∈ l, x ∈ T) := sub
  have N8 : Hid (T.length ≤ 8) := n8
  clear hc hT hR en nd nl sub n8
  go_enter Tryz.func170, Tryz.ntmps170
  go_wp2
  go_loop [5, 10] (fun s i => ∃ (k : Nat) (m : Nat), k ≤ n ∧ i = .int .i64 k ∧ s = .int .u32 m ∧ m < 256 ∧ Hid (m = hasM T (l.take k))) (fun _ i => n - (intOf i).toNat)
  case atStart => exact ⟨0, 0, Nat.zero_le _, rfl, rfl, by omega, by show _ = _; rw [List.take_zero, hasM_nil]⟩
  case round =>
    obtain ⟨k, m, hk, rfl, rfl, hm, hsum⟩ := hrel
    by_cases hlt : k < n
    · have hkl : k < l.length := by have := EN.out; omega
      obtain ⟨b, off, rfl, _, cc, hcell, hat⟩ := HC.out k hkl
      rw [width_str] at hcell
      have hcell := hcell 0 (by omega)
      rw [Nat.mul_one, Nat.add_zero] at hcell
      rw [at_str] at hat
      rw [hat.1] at hcell
      obtain ⟨x, ex⟩ : ∃ x, l[k] = x := ⟨_, rfl⟩
      rw [ex] at hcell
      obtain ⟨t, hti, htl, htx⟩ := idx_at ND.out (SUB.out l[k] (List.getElem_mem hkl))
      have hnx : Hid (hasM T (l.take (k + 1)) = m + 2 ^ t ∧ hasM T (l.take (k + 1)) < 256) := by
        refine ⟨?_, hasM_lt N8.out _⟩
        rw [List.take_succ_eq_append_getElem hkl, ← htx, hasM_snoc ND.out htl, hsum.out]
        rw [htx]
        intro hmem
        obtain ⟨j, hj, e⟩ := List.getElem_of_mem hmem
        rw [List.length_take] at hj
        rw [List.getElem_take] at e
        exact absurd e (List.pairwise_iff_getElem.1 NL.out j k (by omega) hkl (by omega))
      rw [ex] at hti
      have HX : Hid (Calls Tryz.prog 198 #[va, .string x] w fun e w' => e = .returned (.int .i64 (t : Int)) ∧ w' = w) := by
        have := HI.out x; rw [hti] at this; exact this
      have ht8 : t < 8 := by have := N8.out; omega
      clear hti htx htl hat ex
      have h8 : t = 0 ∨ t = 1 ∨ t = 2 ∨ t = 3 ∨ t = 4 ∨ t = 5 ∨ t = 6 ∨ t = 7 := by omega
      rcases h8 with rfl | rfl | rfl | rfl | rfl | rfl | rfl | rfl
      all_goals
        obtain ⟨hnb, hnc⟩ := hnx.out
        rw [hnb] at hnc
        have HNB : Hid _ := hnb
        simp only [Nat.reducePow] at hnc
        clear hnb hnx
        go_wp2_with fail
        refine Calls.mono HX.out ?_
        rintro e w1 ⟨rfl, rfl⟩
        go_wp2_with fail
        go_round
        case rel => exact ⟨k + 1, hasM T (l.take (k + 1)), by omega, by go_num, by rw [HNB.out]; go_num, hasM_lt N8.out _, rfl⟩
        case measure => simp [intOf]; omega
    · go_wp2
      go_ret
      have : l.take k = l := List.take_of_length_le (by have := EN.out; omega)
      rw [HR.out, hsum.out, this]
      exact ⟨rfl, rfl⟩
end Go.Proofs.YtigkkelaadbhcabGreat

namespace Go.Proofs.YtigkkelaadbhcabGreat
open Go.RowKit Go.Sort
def eG (p : Nat × Nat × Bool) (j : Nat) : Value := cs [.int .u32 p.1, .int .u32 p.2.1, .bool p.2.2] j
theorem infG : (Tryz.prog.info? 212).map (fun i => (i.zero, i.size, i.bytes)) = some (some (.agg #[.int .u32 0, .int .u32 0, .bool false]), 3, 12) := by kernel_rfl
theorem elG : ElT Tryz.prog 208 212 3 12 := by
  obtain ⟨i0, hi, hz0, hz1, hz2⟩ := info_parts infG
  exact ⟨by kernel_rfl, ⟨i0, _, hi, hz0, hz1, hz2, rfl⟩, by decide⟩
structure Lv (B : Nat) (w : World) (g : Nat) (v : Value) (L : List (Nat × Nat × Bool)) (fr : Nat) : Prop where
  row : Row w B 212 3 eG v L
  box : w.heap[g]? = some (.cells #[v, .int .u32 fr] 210 (0, 0))
  low : B ≤ g
def lvS (g : Nat) (v : Value) (k : Nat) : Prop := k = g ∨ v.ownBlock = some k
section
variable {B g : Nat} {w w' : World} {v : Value} {L : List (Nat × Nat × Bool)} {fr : Nat}
theorem Lv.lt (h : Lv B w g v L fr) : g < w.heap.size := (Array.getElem?_eq_some_iff.1 h.box).1
theorem Lv.below (h : Lv B w g v L fr) (hb : Below w.heap.size w w') : Lv B w' g v L fr := ⟨Row.below h.row hb, (hb.block g h.lt).trans h.box, h.low⟩
theorem Lv.but {S : Nat → Prop} (h : Lv B w g v L fr) (hb : But S w w') (hS : ∀ k, lvS g v k → ¬ S k) : Lv B w' g v L fr :=
  ⟨Row.block h.row fun k hk => hb.block k (World.ownsRow.lt h.row k hk).2 (hS k (.inr hk)), (hb.block g h.lt (hS g (.inl rfl))).trans h.box, h.low⟩
theorem Lv.set_low (h : Lv B w g v L fr) : ∀ k, lvS g v k → B ≤ k := fun k hk => by
  rcases hk with rfl | hk
  · exact h.low
  · exact (World.ownsRow.lt h.row k hk).1
theorem Lv.apart (h : Lv B w g v L fr) : v.ownBlock ≠ some g := fun e => by
  obtain ⟨c, hc⟩ := Row.typed h.row g e
  rw [h.box] at hc
  injection hc with h1
  injection h1 with _ h2
  revert h2
  decide
theorem Lv.cell (h : Lv B w g v L fr) {a : Nat} (ha : a < L.length) : ∃ r cap, v = .slice (some ⟨r, 0, none⟩) L.length cap ∧ L.length ≤ cap ∧ r ≠ g ∧ r < w.heap.size ∧ w.cell? ⟨r, a * 3, none⟩ = some (.int .u32 L[a].1) ∧ w.cell? ⟨r, a * 3 + 1, none⟩ = some (.int .u32 L[a].2.1) ∧ w.cell? ⟨r, a * 3 + 2, none⟩ = some (.bool L[a].2.2) ∧ w.frozen? ⟨r, a * 3 + 2, none⟩ = false := by
  obtain ⟨r, cap, hv, hb, hr, hc⟩ := Row.cell h.row ha
  have h0 := (hc 0 (by omega)).1
  rw [Nat.add_zero] at h0
  refine ⟨r, cap, hv, ?_, fun e => h.apart (by rw [hv, e]; rfl), hr, h0, (hc 1 (by omega)).1, (hc 2 (by omega)).1, (hc 2 (by omega)).2⟩
  rcases h.row.2 with ⟨h1, h2⟩ | ⟨g', cap', cur', h1, _, _, hle, _⟩
  · omega
  · rw [hv] at h1; cases h1; exact hle
end
def goB (p : Nat × Nat × Bool) (fr : Nat) : Bool := !p.2.2 && decide (p.2.1 &&& (4294967295 - (fr + p.1)) = 0)
set_option maxRecDepth 100000 in
set_option maxHeartbeats 8000000 in
theorem canGo_any (B g : Nat) (v : Value) (L : List (Nat × Nat × Bool)) (fr a : Nat) (w : World) (h : Lv B w g v L fr) (ha : a < L.length) (h0 : L[a].1 < 256) (h1 : L[a].2.1 < 256) (hf : fr < 256) :
    Calls Tryz.prog 199 #[.pointer (some ⟨g, 0, none⟩), .int .i64 a] w fun e w' => e = .returned (.bool (goB L[a] fr)) ∧ Below w.heap.size w w' := by
  obtain ⟨r, cap, rfl, hcap, hrg, hr, c0, c1, c2, _⟩ := h.cell ha
  have hlen := Row.len h.row
  have hg := h.lt
  obtain ⟨y0, _⟩ := cell_row h.box 0 _ rfl
  obtain ⟨y1, _⟩ := cell_row h.box 1 _ rfl
  obtain ⟨n, en⟩ : ∃ n, L.length = n := ⟨_, rfl⟩
  obtain ⟨⟨hs, nd, gn⟩, ep⟩ : ∃ p, L[a] = p := ⟨_, rfl⟩
  rw [ep] at c0 c1 c2 h0 h1
  rw [en] at ha hcap hlen y0
  rw [ep]
  simp only at c0 c1 c2 h0 h1
  unfold maxLen at hlen
  clear h en ep
  obtain ⟨X, EX, BX, RX, -⟩ := box_new w #[.int .u32 hs, .int .u32 nd, .bool gn] 212
  go_enter Tryz.func199, Tryz.ntmps199
  go_upto_region 2 with fail
  rw [← EX.out]
  have q1 := fun d os => cell_regrown ((BX.out.cell (p := ⟨g, 1, none⟩) hg).trans y1) d os
  have k0 := fun d os => cell_regrown (cell_row RX.out 0 _ rfl).1 d os
  have k1 := fun d os => cell_regrown (cell_row RX.out 1 _ rfl).1 d os
  have k2 := fun d os => cell_regrown (cell_row RX.out 2 _ rfl).1 d os
  have hbits : bits .andNot .u32 (nd : Int) ((fr : Int) + (hs : Int)) = ((nd &&& (4294967295 - (fr + hs)) : Nat) : Int) := by
    have := u32_andNot_nat nd (fr + hs) (by omega) (by omega)
    rw [← this]; simp
  clear y0 y1 c0 c1 c2
  cases gn
  · go_wp2_with fail
    refine wp_region_quiet_below (by kernel_rfl) (by kernel_rfl) ?_
    repeat (first | go_big_quiet_step (fail) | quiet_step (fail))
    refine wpQuiet_nil ?_
    intro _ hw'
    obtain ⟨⟨dq, osq⟩, hw''⟩ := hw'
    subst hw''
    go_wp2_with fail
    go_ret
    refine ⟨?_, BX.out.trans ((below_regrown _ dq osq).mono BX.out.size)⟩
    show Ending.returned (.bool (((nd &&& (4294967295 - (fr + hs)) : Nat) : Int) == 0)) = Ending.returned (.bool (goB (hs, nd, false) fr))
    unfold goB
    simp only [Bool.not_false, Bool.true_and]
    generalize nd &&& (4294967295 - (fr + hs)) = x
    rw [show ((x : Int) == 0) = decide (x = 0) by rw [Bool.eq_iff_iff, beq_iff_eq, decide_eq_true_iff]; omega]
  · go_wp2_with fail
    refine wp_region_quiet_below (by kernel_rfl) (by kernel_rfl) ?_
    repeat (first | go_big_quiet_step (fail) | quiet_step (fail))
    refine wpQuiet_nil ?_
    intro _ hw'
    obtain ⟨⟨dq, osq⟩, hw''⟩ := hw'
    subst hw''
    go_wp2_with fail
    go_ret
    exact ⟨rfl, BX.out.trans ((below_regrown _ dq osq).mono BX.out.size)⟩
set_option maxRecDepth 100000 in
set_option maxHeartbeats 8000000 in
theorem letGo_any (B g : Nat) (v : Value) (L : List (Nat × Nat × Bool)) (fr a : Nat) (w : World) (h : Lv B w g v L fr) (ha : a < L.length) (h0 : L[a].1 < 256) (hf : fr < 256) :
    Calls Tryz.prog 173 #[.pointer (some ⟨g, 0, none⟩), .int .i64 a] w fun e w' => e = .returned (.tuple #[]) ∧ Lv B w' g v (L.set a (L[a].1, L[a].2.1, true)) (fr + L[a].1) ∧ But (lvS g v) w w' := by
  have H := h
  obtain ⟨r, cap, rfl, hcap, hrg, hr, c0, c1, c2, z2⟩ := h.cell ha
  have hlen := Row.len h.row
  have hg := h.lt
  obtain ⟨hs, ehs⟩ : ∃ p, L[a].1 = p := ⟨_, rfl⟩
  obtain ⟨Y, hY⟩ : ∃ Y, Y = w.setCell ⟨r, a * 3 + 2, none⟩ (.bool true) := ⟨_, rfl⟩
  have EY : Hid (Y = w.setCell ⟨r, a * 3 + 2, none⟩ (.bool true)) := hY
  have BY : Hid (But (lvS g (.slice (some ⟨r, 0, none⟩) L.length cap)) w Y) := by rw [hY]; exact (But.refl _ _).set (.inr rfl) _ _
  have LY : Hid (Lv B Y g (.slice (some ⟨r, 0, none⟩) L.length cap) (L.set a (hs, L[a].2.1, true)) fr) := by
    obtain ⟨p1, p2⟩ := Row.put H.row ha (j := 2) (by omega) (.bool true) (hs, L[a].2.1, true) (fun q hq => by
      rcases (show q = 0 ∨ q = 1 ∨ q = 2 by omega) with rfl | rfl | rfl
      · rw [← ehs]; rfl
      · rfl
      · rfl)
    rw [hY]
    exact ⟨p1, (p2.block g hg (fun e => by cases e; exact hrg rfl)).trans H.box, H.low⟩
  obtain ⟨y0, _⟩ := cell_row h.box 0 _ rfl
  obtain ⟨n, en⟩ : ∃ n, L.length = n := ⟨_, rfl⟩
  have hln : (L.set a (hs, L[a].2.1, true)).length = L.length := List.length_set
  obtain ⟨Z, hZ⟩ : ∃ Z, Z = L.set a (hs, L[a].2.1, true) := ⟨_, rfl⟩
  have eZ0 : ∃ hz : a < Z.length, Z[a] = (hs, L[a].2.1, true) := ⟨by rw [hZ, hln]; exact ha, by simp [hZ]⟩
  rw [← hZ] at LY hln
  rw [ehs] at c0 h0
  rw [ehs]
  rw [← hZ]
  rw [en] at hcap hlen y0 hln LY BY
  rw [en]
  rw [en] at ha
  unfold maxLen at hlen
  clear h H hY c0 c1 hZ
  obtain ⟨haZ, eZ⟩ := eZ0
  go_enter Tryz.func173, Tryz.ntmps173
  go_upto_region 1 with fail
  rw [← EY.out]
  clear y0 c2 z2
  obtain ⟨r', cap', e', hcap', hrg', hr', d0, _, _, _⟩ := LY.out.cell haZ
  cases e'
  simp only [eZ] at d0
  obtain ⟨y0, _⟩ := cell_row LY.out.box 0 _ rfl
  obtain ⟨y1, _⟩ := cell_row LY.out.box 1 _ rfl
  have hgY := LY.out.lt
  have q0 := fun d os => cell_regrown y0 d os
  have q1 := fun d os => cell_regrown y1 d os
  have q2 := fun d os => cell_regrown d0 d os
  clear y0 y1 d0 en ehs
  go_wp2_with fail
  refine wp_region_head_tail 13 (by kernel_rfl) (by kernel_rfl) ?_
  simp only [List.take_succ_cons, List.take_zero, List.drop_succ_cons, List.drop_zero]
  repeat (first | go_big_quiet_step (fail) | quiet_step (fail))
  refine wpQuiet_nil ?_
  intro _ hw'
  obtain ⟨⟨dq, osq⟩, hw''⟩ := hw'
  subst hw''
  have HBU : Hid (Below Y.heap.size Y (grow (redrawn Y dq) osq)) := below_regrown Y dq osq
  generalize grow (redrawn Y dq) osq = X at HBU ⊢
  have LX := LY.out.below HBU.out
  have hgX := LX.lt
  obtain ⟨x1, f1⟩ := cell_row LX.box 1 _ rfl
  have FIN : Hid (Lv B (X.setCell ⟨g, 1, none⟩ (.int .u32 ((fr : Int) + (hs : Int)))) g (.slice (some ⟨r, 0, none⟩) Z.length cap) Z (fr + hs)) := by
    refine ⟨Row.block LX.row fun k hk => ?_, ?_, LX.low⟩
    · exact Below.heap_setCell _ _ _ _ (fun e => LX.apart (by rw [hk]; exact congrArg some e))
    · have := set_row LX.box 1 (.int .u32 ((fr : Int) + (hs : Int)))
      rw [this]; rfl
  have BF : Hid (But (lvS g (.slice (some ⟨r, 0, none⟩) Z.length cap)) w (X.setCell ⟨g, 1, none⟩ (.int .u32 ((fr : Int) + (hs : Int))))) := (BY.out.trans (But.of_below HBU.out)).set (.inl rfl) _ _
  clear LX
  go_wp2_with fail
  go_end0
  exact ⟨rfl, FIN.out, BF.out⟩
end Go.Proofs.YtigkkelaadbhcabGreat

namespace Go.Proofs.YtigkkelaadbhcabGreat
open Go.RowKit
theorem go_can {T : List ByteArray} {Bs : List DShareBatch} (h : BokP (T, Bs)) {gone : List ByteArray} {q : Nat} (hq : q < Bs.length) : goB (hasM T Bs[q].2.1, hasM T Bs[q].2.2, hasB gone Bs[q].1) (freM T Bs gone) = (!(hasB gone Bs[q].1) && canB Bs q gone) := by
  unfold goB
  cases e : hasB gone Bs[q].1
  · simp only [Bool.not_false, Bool.true_and]
    rw [Bool.eq_iff_iff, decide_eq_true_iff]
    exact can_same h hq e
  · rfl
theorem Lv.gone {T : List ByteArray} {Bs : List DShareBatch} (h : BokP (T, Bs)) {B g : Nat} {w : World} {v : Value} {gone : List ByteArray} {q : Nat} (hq : q < Bs.length) (hg : hasB gone Bs[q].1 = false) (hl : Lv B w g v ((lvL T Bs gone).set q (hasM T Bs[q].2.1, hasM T Bs[q].2.2, true)) (freM T Bs gone + hasM T Bs[q].2.1)) : Lv B w g v (lvL T Bs (gone ++ [Bs[q].1])) (freM T Bs (gone ++ [Bs[q].1])) := by
  rw [go_list h hq, go_free h hq hg] at hl
  exact hl
end Go.Proofs.YtigkkelaadbhcabGreat

namespace Go.Proofs.YtigkkelaadbhcabGreat
open Go.RowKit
def gnS (Bs : List DShareBatch) : Nat → List ByteArray
  | 0 => []
  | k + 1 => gnS Bs k ++ [(btN Bs (nxtI Bs (gnS Bs k)).toNat).1]
def Vd (Bs : List DShareBatch) (k : Nat) : Prop := ∀ j, j < k → ¬ nxtI Bs (gnS Bs j) < 0
def allG (Bs : List DShareBatch) (g : List ByteArray) : Bool := !(Bs.any fun f => !(hasB g f.1))
theorem allG_iff {Bs : List DShareBatch} {g : List ByteArray} : allG Bs g = true ↔ ∀ x ∈ Bs.map (·.1), x ∈ g := by
  unfold allG
  rw [Bool.not_eq_true', List.any_eq_false]
  constructor
  · intro h x hx
    obtain ⟨f, hf, rfl⟩ := List.mem_map.1 hx
    have := h f hf
    simp only [Bool.not_eq_true', Bool.not_eq_false] at this
    exact (hasB_iff _ _).1 (by simpa using this)
  · intro h f hf
    rw [(hasB_iff _ _).2 (h f.1 (List.mem_map.2 ⟨f, hf, rfl⟩))]
    simp
theorem nxt_free {Bs : List DShareBatch} {g : List ByteArray} (h : ¬ nxtI Bs g < 0) : ∃ q : Nat, nxtI Bs g = (q : Int) ∧ ∃ hq : q < Bs.length, hasB g Bs[q].1 = false ∧ canB Bs q g = true := by
  unfold nxtI idxI at h ⊢
  cases e : (List.range Bs.length).findIdx? (freeB Bs g) with
  | none => rw [e] at h; simp at h
  | some i =>
    obtain ⟨hi, h1, _⟩ := List.findIdx?_eq_some_iff_getElem.1 e
    have hi' : i < Bs.length := by simpa using hi
    rw [List.getElem_range] at h1
    unfold freeB at h1
    rw [btN_at hi', Bool.and_eq_true, Bool.not_eq_true'] at h1
    exact ⟨i, rfl, hi', h1⟩
theorem gn_len (Bs : List DShareBatch) : ∀ k, (gnS Bs k).length = k
  | 0 => rfl
  | k + 1 => by rw [gnS, List.length_append, gn_len Bs k]; rfl
theorem Vd.down {Bs : List DShareBatch} {k : Nat} (h : Vd Bs (k + 1)) : Vd Bs k := fun j hj => h j (by omega)
theorem Vd.up {Bs : List DShareBatch} {k : Nat} (h : Vd Bs k) (hn : ¬ nxtI Bs (gnS Bs k) < 0) : Vd Bs (k + 1) := fun j hj => by
  by_cases e : j = k
  · subst e; exact hn
  · exact h j (by omega)
section
variable {T : List ByteArray} {Bs : List DShareBatch}
theorem names_nodup (h : BokP (T, Bs)) : (Bs.map (·.1)).Nodup := by
  refine List.pairwise_iff_getElem.2 fun i j hi hj hij e => ?_
  rw [List.getElem_map, List.getElem_map] at e
  have := bok_names h (by simpa using hi) (by simpa using hj) e
  omega
theorem gn_sub (h : BokP (T, Bs)) : ∀ {k : Nat}, Vd Bs k → (gnS Bs k).Nodup ∧ ∀ x ∈ gnS Bs k, x ∈ Bs.map (·.1)
  | 0, _ => ⟨List.nodup_nil, fun x hx => by cases hx⟩
  | k + 1, hv => by
    obtain ⟨h1, h2⟩ := gn_sub h hv.down
    obtain ⟨q, eq, hq, hg, _⟩ := nxt_free (hv k (by omega))
    rw [gnS, eq, Int.toNat_natCast, btN_at hq]
    constructor
    · refine List.nodup_append.2 ⟨h1, by simp, fun a ha b hb e => ?_⟩
      rw [List.mem_singleton] at hb
      rw [e, hb] at ha
      rw [(hasB_iff _ _).2 ha] at hg
      cases hg
    · intro x hx
      rcases List.mem_append.1 hx with hx | hx
      · exact h2 x hx
      · rw [List.mem_singleton] at hx
        rw [hx]
        exact List.mem_map.2 ⟨_, List.getElem_mem hq, rfl⟩
theorem vd_le (h : BokP (T, Bs)) {k : Nat} (hv : Vd Bs k) : k ≤ Bs.length := by
  obtain ⟨h1, h2⟩ := gn_sub h hv
  have := h1.length_le_of_subset h2
  rw [gn_len, List.length_map] at this
  exact this
theorem all_when (h : BokP (T, Bs)) {k : Nat} (hv : Vd Bs k) : allG Bs (gnS Bs k) = decide (k = Bs.length) := by
  obtain ⟨h1, h2⟩ := gn_sub h hv
  have hle := vd_le h hv
  rw [Bool.eq_iff_iff, allG_iff, decide_eq_true_iff]
  constructor
  · intro ha
    have := (names_nodup h).length_le_of_subset ha
    rw [gn_len, List.length_map] at this
    omega
  · intro e x hx
    refine Classical.byContradiction fun hn => ?_
    have nd : (x :: gnS Bs k).Nodup := List.nodup_cons.2 ⟨hn, h1⟩
    have := nd.length_le_of_subset (l₂ := Bs.map (·.1)) (fun y hy => by
      rcases List.mem_cons.1 hy with rfl | hy
      · exact hx
      · exact h2 y hy)
    rw [List.length_cons, gn_len, List.length_map] at this
    omega
theorem ord_at : ∀ {k : Nat}, Vd Bs k → k ≤ Bs.length → ordF Bs Bs.length [] = ordF Bs (Bs.length - k) (gnS Bs k)
  | 0, _, _ => rfl
  | k + 1, hv, hk => by
    rw [ord_at hv.down (by omega), show Bs.length - k = (Bs.length - (k + 1)) + 1 by omega, ordF, if_neg (hv k (by omega))]
    rfl
theorem ord_end (hb : bokB (T, Bs) = true) {k : Nat} (hv : Vd Bs k) (hs : nxtI Bs (gnS Bs k) < 0 ∨ k = Bs.length) : ordS (T, Bs) = if k = Bs.length then (gnS Bs k, true) else ([], false) := by
  have h := bok_iff.1 hb
  have hle := vd_le h hv
  unfold ordS
  rw [if_pos hb]
  show ordF Bs Bs.length [] = _
  rw [ord_at hv hle]
  by_cases e : k = Bs.length
  · rw [if_pos e, show Bs.length - k = 0 by omega]; rfl
  · rw [if_neg e, show Bs.length - k = (Bs.length - k - 1) + 1 by omega, ordF, if_pos (hs.resolve_right e)]
theorem gn_short (h : BokP (T, Bs)) {k : Nat} (hv : Vd Bs k) : ∀ x ∈ gnS Bs k, x.size ≤ 8 := fun x hx => by
  obtain ⟨f, hf, rfl⟩ := List.mem_map.1 ((gn_sub h hv).2 x hx)
  obtain ⟨i, hi, rfl⟩ := List.getElem_of_mem hf
  have := (h.row i hi).bat
  unfold batB at this
  simp only [Bool.and_eq_true] at this
  have := this.1.1.1
  unfold nameB at this
  rw [Bool.and_eq_true, decide_eq_true_iff] at this
  exact this.1.2
end
end Go.Proofs.YtigkkelaadbhcabGreat
