/-
  Several texts in one.
-/
import Derived.Test.YtaejlcanccfmmaaGreatDoorM9
import Derived.Test.YtaejlcanccfmmaaGreatDoorLy
namespace Go.Proofs.YtaejlcanccfmmaaGreatDoor
open Go.RowKit
def msk : List ByteArray → (ByteArray → Bool) → Nat
  | [], _ => 0
  | y :: T, P => (if P y then 1 else 0) + 2 * msk T P
theorem msk_lt : ∀ (T : List ByteArray) (P : ByteArray → Bool), msk T P < 2 ^ T.length
  | [], _ => by simp [msk]
  | y :: T, P => by
    have := msk_lt T P
    rw [msk, List.length_cons, Nat.pow_succ]
    split <;> omega
theorem msk_congr : ∀ {T : List ByteArray} {P Q : ByteArray → Bool}, (∀ y ∈ T, P y = Q y) → msk T P = msk T Q
  | [], _, _, _ => rfl
  | y :: T, P, Q, h => by
    rw [msk, msk, h y (by simp), msk_congr (fun z hz => h z (by simp [hz]))]
theorem msk_or : ∀ {T : List ByteArray} {P Q : ByteArray → Bool}, (∀ y ∈ T, ¬ (P y = true ∧ Q y = true)) → msk T P + msk T Q = msk T (fun y => P y || Q y)
  | [], _, _, _ => rfl
  | y :: T, P, Q, h => by
    have ih := msk_or (T := T) (P := P) (Q := Q) (fun z hz => h z (by simp [hz]))
    have h0 := h y (by simp)
    rw [msk, msk, msk, ← ih]
    cases hp : P y <;> cases hq : Q y
    · simp; omega
    · simp; omega
    · simp; omega
    · exact absurd ⟨hp, hq⟩ h0
theorem msk_none {T : List ByteArray} {P : ByteArray → Bool} (h : ∀ y ∈ T, P y = false) : msk T P = 0 := by
  induction T with
  | nil => rfl
  | cons y T ih => rw [msk, h y (by simp), ih (fun z hz => h z (by simp [hz]))]; rfl
theorem msk_bit : ∀ {T : List ByteArray} (_ : T.Nodup) {t : Nat} (ht : t < T.length), msk T (fun y => eqB T[t] y) = 2 ^ t
  | [], _, t, ht => absurd ht (Nat.not_lt_zero _)
  | y :: T, nd, 0, _ => by
    obtain ⟨h1, _⟩ := List.nodup_cons.1 nd
    rw [msk, msk_none (fun z hz => ?_)]
    · simp [eqB_refl]
    · cases e : eqB (y :: T)[0] z
      · rfl
      · rw [eqB_iff] at e; exact absurd (show y ∈ T from (show y = z from e) ▸ hz) h1
  | y :: T, nd, t + 1, ht => by
    obtain ⟨h1, h2⟩ := List.nodup_cons.1 nd
    have ht' : t < T.length := by simpa using ht
    have ih := msk_bit h2 ht'
    have e0 : eqB (y :: T)[t + 1] y = false := by
      cases e : eqB (y :: T)[t + 1] y
      · rfl
      · rw [eqB_iff] at e; exact absurd (show y ∈ T from (show T[t] = y from e) ▸ List.getElem_mem ht') h1
    rw [msk, e0]
    have : msk T (fun y_1 => eqB (y :: T)[t + 1] y_1) = 2 ^ t := ih
    rw [this, Nat.pow_succ]
    simp; omega
theorem msk_test : ∀ (T : List ByteArray) (P : ByteArray → Bool) (i : Nat), (msk T P).testBit i = ((T[i]?).map P).getD false
  | [], P, i => by simp [msk]
  | y :: T, P, 0 => by
    rw [msk, Nat.testBit_zero]
    cases hp : P y <;> simp [hp]
  | y :: T, P, i + 1 => by
    rw [msk, Nat.testBit_succ]
    have : ((if P y = true then 1 else 0) + 2 * msk T P) / 2 = msk T P := by split <;> omega
    rw [this, msk_test T P i]
    simp
theorem msk_clear {T : List ByteArray} (hT : T.length ≤ 8) (P Q : ByteArray → Bool) : (msk T P &&& (4294967295 - msk T Q) = 0) ↔ ∀ y ∈ T, P y = true → Q y = true := by
  have hq : msk T Q < 2 ^ 32 := Nat.lt_of_lt_of_le (msk_lt T Q) (Nat.pow_le_pow_right (by omega) (by omega))
  have e : 4294967295 - msk T Q = 2 ^ 32 - (msk T Q + 1) := by omega
  rw [e]
  constructor
  · intro h y hy hP
    obtain ⟨i, hi, rfl⟩ := List.getElem_of_mem hy
    have := congrArg (fun n => n.testBit i) h
    simp only [Nat.testBit_and, Nat.testBit_two_pow_sub_succ hq, msk_test, Nat.zero_testBit, List.getElem?_eq_getElem hi, Option.map_some, Option.getD_some, hP, Bool.true_and] at this
    have hi8 : i < 32 := by omega
    simpa [hi8] using this
  · intro h
    apply Nat.eq_of_testBit_eq
    intro i
    rw [Nat.testBit_and, Nat.testBit_two_pow_sub_succ hq, msk_test, msk_test, Nat.zero_testBit]
    by_cases hi : i < T.length
    · rw [List.getElem?_eq_getElem hi]
      simp only [Option.map_some, Option.getD_some]
      cases hP : P T[i]
      · rfl
      · rw [h _ (List.getElem_mem hi) hP]; simp
    · rw [List.getElem?_eq_none (by omega)]; rfl
def hasM (T l : List ByteArray) : Nat := msk T (fun y => hasB l y)
theorem hasM_lt {T : List ByteArray} (hT : T.length ≤ 8) (l : List ByteArray) : hasM T l < 256 :=
  Nat.lt_of_lt_of_le (msk_lt T _) (show 2 ^ T.length ≤ 2 ^ 8 from Nat.pow_le_pow_right (by omega) hT)
theorem hasM_nil (T : List ByteArray) : hasM T [] = 0 := msk_none (fun _ _ => rfl)
theorem hasB_snoc (l : List ByteArray) (x y : ByteArray) : hasB (l ++ [x]) y = (hasB l y || eqB x y) := by
  simp [hasB, List.any_append]
theorem hasM_snoc {T l : List ByteArray} (nd : T.Nodup) {t : Nat} (ht : t < T.length) (hn : T[t] ∉ l) : hasM T (l ++ [T[t]]) = hasM T l + 2 ^ t := by
  rw [← msk_bit nd ht, hasM, hasM, msk_or]
  · exact msk_congr (fun y _ => hasB_snoc l _ y)
  · rintro y _ ⟨h1, h2⟩
    rw [eqB_iff] at h2
    exact hn (h2 ▸ (hasB_iff l y).1 h1)
def freP (Bs : List DShareBatch) (gone : List ByteArray) (y : ByteArray) : Bool := Bs.all fun f => hasB gone f.1 || !(hasB f.2.1 y)
theorem fre_iff {Bs : List DShareBatch} {gone : List ByteArray} {y : ByteArray} : freP Bs gone y = true ↔ ∀ i (hi : i < Bs.length), hasB gone Bs[i].1 = false → y ∉ Bs[i].2.1 := by
  unfold freP
  rw [List.all_eq_true]
  constructor
  · intro h i hi hg hy
    have := h _ (List.getElem_mem hi)
    rw [hg, (hasB_iff _ _).2 hy] at this
    cases this
  · intro h f hf
    obtain ⟨i, hi, rfl⟩ := List.getElem_of_mem hf
    cases hg : hasB gone Bs[i].1
    · have := h i hi hg
      cases e : hasB Bs[i].2.1 y
      · rfl
      · exact absurd ((hasB_iff _ _).1 e) this
    · rfl
def freM (T : List ByteArray) (Bs : List DShareBatch) (gone : List ByteArray) : Nat := msk T (freP Bs gone)
theorem freM_lt {T : List ByteArray} (hT : T.length ≤ 8) (Bs : List DShareBatch) (gone : List ByteArray) : freM T Bs gone < 256 :=
  Nat.lt_of_lt_of_le (msk_lt T _) (show 2 ^ T.length ≤ 2 ^ 8 from Nat.pow_le_pow_right (by omega) hT)
def lvL (T : List ByteArray) (Bs : List DShareBatch) (gone : List ByteArray) : List (Nat × Nat × Bool) := Bs.map fun f => (hasM T f.2.1, hasM T f.2.2, hasB gone f.1)
theorem lv_len (T : List ByteArray) (Bs : List DShareBatch) (gone : List ByteArray) : (lvL T Bs gone).length = Bs.length := by simp [lvL]
theorem lv_at (T : List ByteArray) {Bs : List DShareBatch} (gone : List ByteArray) {i : Nat} (hi : i < Bs.length) : (lvL T Bs gone)[i]'(by simp [lvL]; exact hi) = (hasM T Bs[i].2.1, hasM T Bs[i].2.2, hasB gone Bs[i].1) := by simp [lvL]
section
variable {T : List ByteArray} {Bs : List DShareBatch}
theorem bok_things (h : BokP (T, Bs)) : T.length ≤ 8 ∧ T.Nodup := by
  have h1 := h.things
  rw [ok_iff] at h1
  exact ⟨h1.1, asc_nodup fun i hi => by have := h1.2 i hi; rw [tst, Bool.and_eq_true] at this; exact this.2⟩
theorem bok_lists (h : BokP (T, Bs)) (i : Nat) (hi : i < Bs.length) : (Bs[i].2.1.Nodup ∧ ∀ x ∈ Bs[i].2.1, x ∈ T) ∧ (Bs[i].2.2.Nodup ∧ ∀ x ∈ Bs[i].2.2, x ∈ T) := by
  have := (h.row i hi).bat
  unfold batB at this
  simp only [Bool.and_eq_true] at this
  obtain ⟨n1, s1⟩ := sub_parts this.1.2
  obtain ⟨n2, s2⟩ := sub_parts this.2
  exact ⟨⟨n2, fun x hx => s1 x (s2 x hx)⟩, n1, s1⟩
theorem bok_names (h : BokP (T, Bs)) {i j : Nat} (hi : i < Bs.length) (hj : j < Bs.length) (e : Bs[i].1 = Bs[j].1) : i = j := by
  have asx : ∀ k (hk : k < Bs.length), asO (fun a b : DShareBatch => ltB a.1 b.1) (prevO Bs k) Bs[k] = true := fun k hk => by
    have := (h.row k hk).bat
    unfold batB at this
    simp only [Bool.and_eq_true] at this
    exact this.1.1.2
  have far := asc_far (R := fun a b : DShareBatch => ltB a.1 b.1) (fun h1 h2 => ltB_trans h1 h2) asx
  rcases Nat.lt_trichotomy i j with c | c | c
  · have := far j i hj c; rw [e, ltB_irrefl] at this; cases this
  · exact c
  · have := far i j hi c; rw [e, ltB_irrefl] at this; cases this
theorem bok_apart (h : BokP (T, Bs)) {i j : Nat} (hi : i < Bs.length) (hj : j < Bs.length) {y : ByteArray} (h1 : y ∈ Bs[i].2.1) (h2 : y ∈ Bs[j].2.1) : i = j := by
  rcases Nat.lt_trichotomy i j with c | c | c
  · have := (h.row j hj).sha i c; rw [(share_iff _ _).2 ⟨y, h2, h1⟩] at this; cases this
  · exact c
  · have := (h.row i hi).sha j c; rw [(share_iff _ _).2 ⟨y, h1, h2⟩] at this; cases this
theorem can_same (h : BokP (T, Bs)) {gone : List ByteArray} {a : Nat} (ha : a < Bs.length) (hg : hasB gone Bs[a].1 = false) : (hasM T Bs[a].2.2 &&& (4294967295 - (freM T Bs gone + hasM T Bs[a].2.1)) = 0) ↔ canB Bs a gone = true := by
  have hT := (bok_things h).1
  have dis : ∀ y ∈ T, ¬ (freP Bs gone y = true ∧ hasB Bs[a].2.1 y = true) := fun y _ ⟨h1, h2⟩ => fre_iff.1 h1 a ha hg ((hasB_iff _ _).1 h2)
  unfold freM hasM
  rw [msk_or dis, msk_clear hT]
  constructor
  · intro hall
    refine can_yes fun i hi => ?_
    unfold inWay
    rw [btN_at hi, btN_at ha]
    by_cases e : i = a
    · simp [e]
    · cases hgi : hasB gone Bs[i].1
      · cases es : shareB Bs[i].2.1 Bs[a].2.2
        · simp
        · obtain ⟨y, y1, y2⟩ := (share_iff _ _).1 es
          have := hall y ((bok_lists h a ha).2.2 y y2) ((hasB_iff _ _).2 y2)
          rw [Bool.or_eq_true] at this
          rcases this with hf | hf
          · exact absurd y1 (fre_iff.1 hf i hi hgi)
          · exact absurd (bok_apart h hi ha y1 ((hasB_iff _ _).1 hf)) e
      · simp
  · intro hc y _ hy
    rw [Bool.or_eq_true]
    by_cases hm : y ∈ Bs[a].2.1
    · exact .inr ((hasB_iff _ _).2 hm)
    · refine .inl (fre_iff.2 fun i hi hgi hyi => ?_)
      have hia : i ≠ a := fun e => hm (by subst e; exact hyi)
      have : inWay Bs a gone i = true := by
        unfold inWay
        rw [btN_at hi, btN_at ha, hgi, (share_iff _ _).2 ⟨y, hyi, (hasB_iff _ _).1 hy⟩]
        simp [hia]
      rw [can_no hi this] at hc
      cases hc
theorem go_free (h : BokP (T, Bs)) {gone : List ByteArray} {a : Nat} (ha : a < Bs.length) (hg : hasB gone Bs[a].1 = false) : freM T Bs gone + hasM T Bs[a].2.1 = freM T Bs (gone ++ [Bs[a].1]) := by
  have dis : ∀ y ∈ T, ¬ (freP Bs gone y = true ∧ hasB Bs[a].2.1 y = true) := fun y _ ⟨h1, h2⟩ => fre_iff.1 h1 a ha hg ((hasB_iff _ _).1 h2)
  unfold freM hasM
  rw [msk_or dis]
  refine msk_congr fun y _ => ?_
  rw [Bool.eq_iff_iff, Bool.or_eq_true, fre_iff, fre_iff, hasB_iff]
  constructor
  · rintro (h1 | h1) i hi hgi hy
    · rw [hasB_snoc, Bool.or_eq_false_iff] at hgi
      exact h1 i hi hgi.1 hy
    · have := bok_apart h hi ha hy h1
      subst this
      rw [hasB_snoc, eqB_refl, Bool.or_true] at hgi
      cases hgi
  · intro h1
    by_cases hm : y ∈ Bs[a].2.1
    · exact .inr hm
    · refine .inl fun i hi hgi hy => h1 i hi ?_ hy
      rw [hasB_snoc, hgi, Bool.false_or]
      cases e : eqB Bs[a].1 Bs[i].1
      · rfl
      · rw [eqB_iff] at e
        have := bok_names h ha hi e
        subst this
        exact absurd hy hm
theorem go_list (h : BokP (T, Bs)) {gone : List ByteArray} {a : Nat} (ha : a < Bs.length) : (lvL T Bs gone).set a (hasM T Bs[a].2.1, hasM T Bs[a].2.2, true) = lvL T Bs (gone ++ [Bs[a].1]) := by
  apply List.ext_getElem
  · simp [lvL]
  · intro i h1 h2
    have hi : i < Bs.length := by simpa [lvL] using h2
    rw [List.getElem_set]
    by_cases e : a = i
    · subst e
      rw [if_pos rfl, lv_at T _ hi, hasB_snoc, eqB_refl, Bool.or_true]
    · rw [if_neg e, lv_at T _ hi, lv_at T _ hi, hasB_snoc]
      have : eqB Bs[a].1 Bs[i].1 = false := by
        cases c : eqB Bs[a].1 Bs[i].1
        · rfl
        · rw [eqB_iff] at c; exact absurd (bok_names h ha hi c) e
      rw [this, Bool.or_false]
theorem free_next (h : BokP (T, Bs)) {k : Nat} (hk : k < Bs.length) : freM T (Bs.take (k + 1)) [] + hasM T Bs[k].2.1 = freM T (Bs.take k) [] := by
  have e0 : ∀ y, freP (Bs.take (k + 1)) [] y = (freP (Bs.take k) [] y && !(hasB Bs[k].2.1 y)) := fun y => by
    unfold freP
    rw [List.take_succ_eq_append_getElem hk, List.all_append]
    simp [hasB]
  have dis : ∀ y ∈ T, ¬ (freP (Bs.take (k + 1)) [] y = true ∧ hasB Bs[k].2.1 y = true) := fun y _ ⟨h1, h2⟩ => by
    rw [e0, h2] at h1; simp at h1
  unfold freM hasM
  rw [msk_or dis]
  refine msk_congr fun y _ => ?_
  rw [e0]
  cases hy : hasB Bs[k].2.1 y
  · simp
  · rw [Bool.or_true]
    refine (fre_iff.2 fun i hi _ hyi => ?_).symm
    rw [List.length_take] at hi
    rw [List.getElem_take] at hyi
    have := bok_apart h (by omega) hk hyi ((hasB_iff _ _).1 hy)
    omega
theorem free_none : freM T (Bs.take 0) [] = hasM T T := by
  unfold freM hasM
  refine msk_congr fun y hy => ?_
  rw [(hasB_iff _ _).2 hy]
  rfl
theorem lv_snoc (k : Nat) (hk : k < Bs.length) : lvL T (Bs.take (k + 1)) [] = lvL T (Bs.take k) [] ++ [(hasM T Bs[k].2.1, hasM T Bs[k].2.2, false)] := by
  unfold lvL
  rw [List.take_succ_eq_append_getElem hk, List.map_append]
  simp [hasB]
end
end Go.Proofs.YtaejlcanccfmmaaGreatDoor

namespace Go.Proofs.YtaejlcanccfmmaaGreatDoor
open Go.RowKit
theorem idx_at {T : List ByteArray} (nd : T.Nodup) {x : ByteArray} (hx : x ∈ T) : ∃ t : Nat, idxI T (fun f => eqB f x) = (t : Int) ∧ ∃ ht : t < T.length, T[t] = x := by
  obtain ⟨t, ht, rfl⟩ := List.getElem_of_mem hx
  refine ⟨t, idx_yes ht (eqB_refl _) fun j hj hjt => ?_, ht, rfl⟩
  cases e : eqB T[j] T[t]
  · rfl
  · rw [eqB_iff] at e
    exact absurd e (List.pairwise_iff_getElem.1 nd j t hj ht hjt)
set_option maxRecDepth 100000 in
set_option maxHeartbeats 8000000 in
theorem bits_any (S : Nat → Prop) (v va : Value) (l T : List ByteArray) (w : World) (h : AtL S w l v) (hT : AtL S w T va) (n8 : T.length ≤ 8) (nd : T.Nodup) (nl : l.Nodup) (sub : ∀ x ∈ l, x ∈ T) :
    Calls Tryz.prog 54 #[v, va] w fun e w' => e = .returned (.int .u32 (hasM T l : Nat)) ∧ w' = w := by
  obtain ⟨oa, cap, rfl, hn, hc⟩ := h
  obtain ⟨n, en⟩ : ∃ n, l.length = n := ⟨_, rfl⟩
  have EN : Hid (l.length ≤ n ∧ n ≤ l.length) := ⟨by omega, by omega⟩
  rw [en] at hn
  rw [en]
  unfold maxLen at hn
  have HC : Hid _ := hc
  have HI : Hid (∀ x, Calls Tryz.prog 82 #[va, .string x] w fun e w' => e = .returned (.int .i64 (idxI T (fun f => eqB f x))) ∧ w' = w) := fun x => index_any S va T x w hT
  obtain ⟨R, hR⟩ : ∃ R : Int, R = (hasM T l : Nat) := ⟨_, rfl⟩
  have HR : Hid (R = (hasM T l : Nat)) := hR
  rw [← hR]
  have ND : Hid T.Nodup := nd
  have NL : Hid l.Nodup := nl
  have SUB : Hid (∀ x ∈ l, x ∈ T) := sub
  have N8 : Hid (T.length ≤ 8) := n8
  clear hc hT hR en nd nl sub n8
  go_enter Tryz.func54, Tryz.ntmps54
  go_wp2
  go_loop [5, 10] (fun s i => ∃ (k : Nat) (m : Nat), k ≤ n ∧ i = .int .i64 k ∧ s = .int .u32 m ∧ m < 256 ∧ Hid (m = hasM T (l.take k))) (fun _ i => n - (intOf i).toNat)
  case atStart => exact ⟨0, 0, Nat.zero_le _, rfl, rfl, by omega, by show _ = _; rw [List.take_zero, hasM_nil]⟩
  case round =>
    obtain ⟨k, m, hk, rfl, rfl, hm, hsum⟩ := hrel
    by_cases hlt : k < n
    · have hkl : k < l.length := by have := EN.out; omega
      obtain ⟨b, off, rfl, _, cc, hcell, hat⟩ := HC.out k hkl
      rw [width_str] at hcell
      have hcell := hcell 0 (by omega)
      rw [Nat.mul_one, Nat.add_zero] at hcell
      rw [at_str] at hat
      rw [hat.1] at hcell
      obtain ⟨x, ex⟩ : ∃ x, l[k] = x := ⟨_, rfl⟩
      rw [ex] at hcell
      obtain ⟨t, hti, htl, htx⟩ := idx_at ND.out (SUB.out l[k] (List.getElem_mem hkl))
      have hnx : Hid (hasM T (l.take (k + 1)) = m + 2 ^ t ∧ hasM T (l.take (k + 1)) < 256) := by
        refine ⟨?_, hasM_lt N8.out _⟩
        rw [List.take_succ_eq_append_getElem hkl, ← htx, hasM_snoc ND.out htl, hsum.out]
        rw [htx]
        intro hmem
        obtain ⟨j, hj, e⟩ := List.getElem_of_mem hmem
        rw [List.length_take] at hj
        rw [List.getElem_take] at e
        exact absurd e (List.pairwise_iff_getElem.1 NL.out j k (by omega) hkl (by omega))
      rw [ex] at hti
      have HX : Hid (Calls Tryz.prog 82 #[va, .string x] w fun e w' => e = .returned (.int .i64 (t : Int)) ∧ w' = w) := by
        have := HI.out x; rw [hti] at this; exact this
      have ht8 : t < 8 := by have := N8.out; omega
      clear hti htx htl hat ex
      have h8 : t = 0 ∨ t = 1 ∨ t = 2 ∨ t = 3 ∨ t = 4 ∨ t = 5 ∨ t = 6 ∨ t = 7 := by omega
      rcases h8 with rfl | rfl | rfl | rfl | rfl | rfl | rfl | rfl
      all_goals
        obtain ⟨hnb, hnc⟩ := hnx.out
        rw [hnb] at hnc
        have HNB : Hid _ := hnb
        simp only [Nat.reducePow] at hnc
        clear hnb hnx
        go_wp2_with fail
        refine Calls.mono HX.out ?_
        rintro e w1 ⟨rfl, rfl⟩
        go_wp2_with fail
        go_round
        case rel => exact ⟨k + 1, hasM T (l.take (k + 1)), by omega, by go_num, by rw [HNB.out]; go_num, hasM_lt N8.out _, rfl⟩
        case measure => simp [intOf]; omega
    · go_wp2
      go_ret
      have : l.take k = l := List.take_of_length_le (by have := EN.out; omega)
      rw [HR.out, hsum.out, this]
      exact ⟨rfl, rfl⟩
end Go.Proofs.YtaejlcanccfmmaaGreatDoor

namespace Go.Proofs.YtaejlcanccfmmaaGreatDoor
open Go.RowKit
structure But (S : Nat → Prop) (w w' : World) : Prop where
  os : w'.os = w.os
  tape : w'.tape = w.tape
  output : w'.output = w.output
  size : w.heap.size ≤ w'.heap.size
  block : ∀ b, b < w.heap.size → ¬ S b → w'.heap[b]? = w.heap[b]?
theorem But.refl (S : Nat → Prop) (w : World) : But S w w := ⟨rfl, rfl, rfl, Nat.le_refl _, fun _ _ _ => rfl⟩
theorem But.trans {S : Nat → Prop} {a b c : World} (h : But S a b) (k : But S b c) : But S a c :=
  ⟨k.os.trans h.os, k.tape.trans h.tape, k.output.trans h.output, Nat.le_trans h.size k.size, fun i hi hn => (k.block i (Nat.lt_of_lt_of_le hi h.size) hn).trans (h.block i hi hn)⟩
theorem But.of_below {S : Nat → Prop} {w w' : World} (h : Below w.heap.size w w') : But S w w' := ⟨h.os, h.tape, h.output, h.size, fun b hb _ => h.block b hb⟩
theorem But.up {S S' : Nat → Prop} {w w' : World} (h : But S w w') (e : ∀ b, S b → S' b) : But S' w w' := ⟨h.os, h.tape, h.output, h.size, fun b hb hn => h.block b hb (fun hs => hn (e b hs))⟩
theorem But.below {S : Nat → Prop} {B : Nat} {w w' : World} (h : But S w w') (hS : ∀ b, S b → B ≤ b) (hB : B ≤ w.heap.size) : Below B w w' := ⟨h.os, h.tape, h.output, h.size, fun b hb => h.block b (by omega) (fun hs => by have := hS b hs; omega)⟩
theorem But.of_low {S : Nat → Prop} {B : Nat} {w w' : World} (h : Below B w w') (hB : ∀ b, b < w.heap.size → ¬ S b → w'.heap[b]? = w.heap[b]?) : But S w w' := ⟨h.os, h.tape, h.output, h.size, hB⟩
theorem But.set {S : Nat → Prop} {a w : World} (h : But S a w) {g : Nat} (hg : S g) (i : Nat) (x : Value) : But S a (w.setCell ⟨g, i, none⟩ x) := by
  have hb := (Below.refl g w).setCell (p := ⟨g, i, none⟩) (Nat.le_refl _) x
  exact h.trans (But.of_low hb (fun b _ hn => Below.heap_setCell w _ x b (fun e => hn (by have : b = g := e; rw [this]; exact hg))))
theorem But.same {S T : Nat → Prop} {w w' : World} (h : But S w w') (hT : ∀ b, T b → b < w.heap.size ∧ ¬ S b) : Same T w w' := fun b hb => h.block b (hT b hb).1 (hT b hb).2
def dgO : Nat → Int → ByteArray → ByteArray
  | 0, _, t => t
  | n + 1, k, t => if 0 < k then dgO n (k / 10) (⟨#[UInt8.ofNat (48 + k % 10).toNat]⟩ ++ t) else t
def mkO (k : Int) : ByteArray := ⟨#[109]⟩ ++ dgO 20 k ⟨#[]⟩
class Own (α : Type) extends Lay α where
  On : (Nat → Prop) → World → α → (Nat → Value) → Prop
  cnt : α → Nat
  mkD : Int → α → α
  on_at : ∀ {S : Nat → Prop} {w : World} {a : α} {c : Nat → Value}, On S w a c → Lay.At S w a c
  on_same : ∀ {S : Nat → Prop} {w w' : World} {a : α} {c : Nat → Value}, On S w a c → Same S w w' → On S w' a c
  on_up : ∀ {S S' : Nat → Prop} {w : World} {a : α} {c : Nat → Value}, On S w a c → (∀ b, S b → S' b) → On S' w a c
  on_ext : ∀ {S : Nat → Prop} {w : World} {a : α} {c c' : Nat → Value}, On S w a c → (∀ j, j < width → c' j = c j) → On S w a c'
instance : Own ByteArray where
  On := fun S w a c => Lay.At S w a c
  cnt := fun _ => 1
  mkD := fun k _ => mkO k
  on_at := fun h => h
  on_same := fun h e => Lay.same h e
  on_up := fun h e => Lay.up h e
  on_ext := fun h e => Lay.ext h e
instance : Own Int where
  On := fun S w a c => Lay.At S w a c
  cnt := fun _ => 1
  mkD := fun k _ => k
  on_at := fun h => h
  on_same := fun h e => Lay.same h e
  on_up := fun h e => Lay.up h e
  on_ext := fun h e => Lay.ext h e
instance {α β : Type} [Own α] [Own β] : Own (α × β) where
  On := fun S w a c => ∃ S1 S2 : Nat → Prop, (∀ b, S1 b → S b ∧ ¬ S2 b) ∧ (∀ b, S2 b → S b) ∧ Own.On S1 w a.1 c ∧ Own.On S2 w a.2 (fun j => c (Lay.width α + j))
  cnt := fun a => Own.cnt a.1 + Own.cnt a.2
  mkD := fun k a => (Own.mkD k a.1, Own.mkD (k + Own.cnt a.1) a.2)
  on_at := fun ⟨_, _, h1, h2, ha, hb⟩ => ⟨Lay.up (Own.on_at ha) (fun b hb => (h1 b hb).1), Lay.up (Own.on_at hb) h2⟩
  on_same := fun ⟨S1, S2, h1, h2, ha, hb⟩ e => ⟨S1, S2, h1, h2, Own.on_same ha (fun b hb => e b (h1 b hb).1), Own.on_same hb (fun b hb => e b (h2 b hb))⟩
  on_up := fun ⟨S1, S2, h1, h2, ha, hb⟩ e => ⟨S1, S2, fun b hb => ⟨e b (h1 b hb).1, (h1 b hb).2⟩, fun b hb => e b (h2 b hb), ha, hb⟩
  on_ext := fun ⟨S1, S2, h1, h2, ha, hb⟩ e => ⟨S1, S2, h1, h2, Own.on_ext ha (fun j hj => e j (by show j < Lay.width _ + Lay.width _; omega)), Own.on_ext hb (fun j hj => e _ (by show _ < Lay.width _ + Lay.width _; omega))⟩
structure Els {α : Type} [Own α] (S : Nat → Prop) (w : World) (g off : Nat) (Ss : Nat → Nat → Prop) (cur : Array Value) (t : TypeId) (n : Nat) (f : Nat → α) : Prop where
  row : w.heap[g]? = some (.cells cur t (0, 0))
  own : S g
  sub : ∀ i b, Ss i b → S b ∧ b ≠ g
  dis : ∀ i j b, Ss i b → Ss j b → i = j
  el : ∀ i, i < n → ∃ c : Nat → Value, (∀ j, j < Lay.width α → cur[off + i * Lay.width α + j]? = some (c j)) ∧ Own.On (Ss i) w (f i) c
def OnL {α : Type} [Own α] (S : Nat → Prop) (w : World) (l : List α) (v : Value) : Prop :=
  ∃ oa cap, v = .slice oa l.length cap ∧ (l.length ≤ maxLen ∧ l.length ≤ cap ∧ Hid (oa = none → cap = 0)) ∧ (l = [] ∨ ∃ g off Ss cur t, oa = some ⟨g, off, none⟩ ∧ ∃ f : Nat → α, (∀ i (h : i < l.length), f i = l[i]) ∧ Els S w g off Ss cur t l.length f)
section
variable {α : Type} [Own α]
theorem Els.same {S : Nat → Prop} {w w' : World} {g off : Nat} {Ss : Nat → Nat → Prop} {cur : Array Value} {t : TypeId} {n : Nat} {f : Nat → α} (h : Els S w g off Ss cur t n f) (e : Same S w w') : Els S w' g off Ss cur t n f :=
  ⟨(e g h.own).trans h.row, h.own, h.sub, h.dis, fun i hi => by
    obtain ⟨c, h1, h2⟩ := h.el i hi
    exact ⟨c, h1, Own.on_same h2 (fun b hb => e b (h.sub i b hb).1)⟩⟩
theorem Els.up {S S' : Nat → Prop} {w : World} {g off : Nat} {Ss : Nat → Nat → Prop} {cur : Array Value} {t : TypeId} {n : Nat} {f : Nat → α} (h : Els S w g off Ss cur t n f) (e : ∀ b, S b → S' b) : Els S' w g off Ss cur t n f :=
  ⟨h.row, e g h.own, fun i b hb => ⟨e b (h.sub i b hb).1, (h.sub i b hb).2⟩, h.dis, h.el⟩
theorem OnL.same {S : Nat → Prop} {w w' : World} {l : List α} {v : Value} (h : OnL S w l v) (e : Same S w w') : OnL S w' l v := by
  obtain ⟨oa, cap, hv, hn, h⟩ := h
  refine ⟨oa, cap, hv, hn, h.imp id ?_⟩
  rintro ⟨g, off, Ss, cur, t, ho, f, hf, h⟩
  exact ⟨g, off, Ss, cur, t, ho, f, hf, h.same e⟩
theorem OnL.up {S S' : Nat → Prop} {w : World} {l : List α} {v : Value} (h : OnL S w l v) (e : ∀ b, S b → S' b) : OnL S' w l v := by
  obtain ⟨oa, cap, hv, hn, h⟩ := h
  refine ⟨oa, cap, hv, hn, h.imp id ?_⟩
  rintro ⟨g, off, Ss, cur, t, ho, f, hf, h⟩
  exact ⟨g, off, Ss, cur, t, ho, f, hf, h.up e⟩
theorem OnL.at_ {S : Nat → Prop} {w : World} {l : List α} {v : Value} (h : OnL S w l v) : AtL S w l v := by
  obtain ⟨oa, cap, hv, hn, h⟩ := h
  refine ⟨oa, cap, hv, hn, fun i hi => ?_⟩
  rcases h with h | ⟨g, off, Ss, cur, t, ho, f, hf, h⟩
  · subst h; exact absurd hi (Nat.not_lt_zero _)
  · obtain ⟨c, h1, h2⟩ := h.el i hi
    refine ⟨g, off, ho, h.own, c, fun j hj => (cell_row h.row _ _ (h1 j hj)).1, ?_⟩
    rw [← hf i hi]
    exact Lay.up (Own.on_at h2) (fun b hb => (h.sub i b hb).1)
def cntTo (l : List α) (k : Nat) : Nat := ((l.take k).map Own.cnt).sum
def cntL (l : List α) : Nat := cntTo l l.length
def mkL : Int → List α → List α
  | _, [] => []
  | k, x :: l => Own.mkD k x :: mkL (k + Own.cnt x) l
end
instance {α : Type} [Own α] : Own (List α) where
  On := fun S w l c => OnL S w l (c 0)
  cnt := cntL
  mkD := mkL
  on_at := fun h => OnL.at_ h
  on_same := fun h e => OnL.same h e
  on_up := fun h e => OnL.up h e
  on_ext := fun h e => by rw [e 0 (Nat.zero_lt_one)]; exact h
end Go.Proofs.YtaejlcanccfmmaaGreatDoor
