/-
  Several texts in one.
-/
import Derived.Test.YtobchllaopdchaaM19
import Derived.Test.YtobchllaopdchaaM9
import Derived.Test.YtobchllaopdchaaM2
import Derived.Lib.Bytealg
import Derived.Lib.Strings
import Derived.Deep.RegionWith
namespace Go.Proofs.Ytobchllaopdchaa
open Go.RowKit
theorem insR_fresh : ∀ (l : List ByteArray) (x : ByteArray), x ∉ l → (insR l x).length = l.length + 1
  | [], x, _ => by simp [insR]
  | y :: l, x, h => by
    have h1 : x ≠ y := fun e => h (by simp [e])
    have h2 := insR_fresh l x (fun e => h (by simp [e]))
    have h3 : eqB y x = false := by
      cases c : eqB y x with
      | false => rfl
      | true => exact absurd ((eqB_iff _ _).1 c).symm h1
    unfold insR
    cases c : ltB y x
    · simp [h3]
    · simp [h2]
theorem insR_old {l : List ByteArray} {x : ByteArray} (ha : AscL l) (h : x ∈ l) : insR l x = l :=
  asc_unique _ _ (ins_asc l x ha) ha fun y => by
    rw [ins_mem]
    exact ⟨fun h' => h'.elim id (fun e => e ▸ h), Or.inl⟩
theorem both_full : ∀ (b a : List ByteArray), AscL a → ((bothL a b).length = a.length + b.length ↔ b.Nodup ∧ ∀ y ∈ b, y ∉ a)
  | [], a, _ => by simp [bothL]
  | x :: b, a, ha => by
    have e : bothL a (x :: b) = bothL (insR a x) b := rfl
    have ih := both_full b (insR a x) (ins_asc a x ha)
    have hle := both_len b (insR a x)
    rw [e, List.length_cons, List.nodup_cons]
    by_cases hx : x ∈ a
    · have := insR_old ha hx
      rw [this] at hle ⊢
      refine ⟨fun h => by omega, fun h => absurd hx (h.2 x (by simp))⟩
    · have hl := insR_fresh a x hx
      rw [hl] at ih
      rw [show a.length + (b.length + 1) = a.length + 1 + b.length by omega, ih]
      constructor
      · rintro ⟨h1, h2⟩
        refine ⟨⟨fun hb => h2 x hb ((ins_mem a x x).2 (Or.inr rfl)), h1⟩, fun y hy => ?_⟩
        rcases List.mem_cons.1 hy with rfl | hy
        · exact hx
        · exact fun hya => h2 y hy ((ins_mem a x y).2 (Or.inl hya))
      · rintro ⟨⟨h1, h2⟩, h3⟩
        refine ⟨h2, fun y hy hya => ?_⟩
        rcases (ins_mem a x y).1 hya with h | rfl
        · exact h3 y (by simp [hy]) h
        · exact h1 hy
def EqP (L : List ByteArray) (sl : List DRunSlot) : Prop := sl.length = L.length ∧ ∀ i (h : i < sl.length), eqB sl[i].1 (nthB L i) = true ∧ nameB sl[i].2 = true
theorem EqP.fst {L : List ByteArray} {sl : List DRunSlot} (h : EqP L sl) : sl.map (·.1) = L := by
  refine List.ext_getElem (by simpa using h.1) fun i h1 h2 => ?_
  have := (h.2 i (by simpa using h1)).1
  rw [nth_is h2] at this
  simpa using (eqB_iff _ _).1 this
theorem EqP.dist {L : List ByteArray} {sl : List DRunSlot} (h : EqP L sl) (ha : AscL L) : (sl.map (·.1)).Nodup := by rw [h.fst]; exact ha.nodup
theorem EqP.snd {L : List ByteArray} {sl : List DRunSlot} (h : EqP L sl) (ha : AscL L) : L.map (thT sl) = sl.map (·.2) := by
  rw [← h.fst, List.map_map]
  refine List.ext_getElem (by simp) fun i h1 h2 => ?_
  have hi : i < sl.length := by simpa using h2
  simp only [List.getElem_map, Function.comp]
  exact thT_at (h.dist ha) hi
theorem nodup_others {sl : List DRunSlot} : (sl.map (·.2)).Nodup ↔ ∀ i (h : i < sl.length) k (hk : k < sl.length), k < i → eqB sl[k].2 sl[i].2 = false := by
  constructor
  · intro h i hi k hk hki
    cases c : eqB sl[k].2 sl[i].2 with
    | false => rfl
    | true =>
      have h1 := (List.pairwise_iff_getElem.1 h) k i (by simpa using hk) (by simpa using hi) hki
      exact absurd ((eqB_iff _ _).1 c) (by simpa using h1)
  · intro h
    refine List.pairwise_iff_getElem.2 fun k i hk hi hki => ?_
    have := h i (by simpa using hi) k (by simpa using hk) hki
    simp only [List.getElem_map]
    exact fun e => by rw [(eqB_iff _ _).2 e] at this; cases this
theorem sl_two {L : List ByteArray} {sl : List DRunSlot} (ha : AscL L) : SlP L sl ↔ EqP L sl ∧ (thL sl L).length = L.length := by
  have key : ∀ h : EqP L sl, ((thL sl L).length = L.length ↔ (sl.map (·.2)).Nodup) := fun h => by
    have := both_full (L.map (thT sl)) [] List.Pairwise.nil
    rw [h.snd ha] at this
    unfold thL
    rw [h.snd ha, ← h.1]
    simpa using this
  constructor
  · intro h
    have he : EqP L sl := ⟨h.len.symm, fun i hi => ⟨(h.row i hi).slot, (h.row i hi).name⟩⟩
    exact ⟨he, (key he).2 (nodup_others.2 fun i hi k hk hki => (h.row i hi).other k hk hki)⟩
  · rintro ⟨he, hl⟩
    have hn := nodup_others.1 ((key he).1 hl)
    exact ⟨he.1.symm, fun i hi => ⟨(he.2 i hi).1, (he.2 i hi).2, fun k hk hki => hn i hi k hk hki⟩⟩
theorem slB_two (r : List DRecPhase) (sl : List DRunSlot) : slB r sl = true ↔ EqP (sltF 12 r (fstN r)) sl ∧ (thL sl (sltF 12 r (fstN r))).length = (sltF 12 r (fstN r)).length :=
  sl_iff.trans (sl_two (slt_asc r 12 _))
end Go.Proofs.Ytobchllaopdchaa

namespace Go.Proofs.Ytobchllaopdchaa
open Go.RowKit
theorem okn_cases (r : Int) : (r < 45 ∧ okn r = false) ∨ (r = 45 ∧ okn r = true) ∨ ((45 < r ∧ r < 48) ∧ okn r = false) ∨ ((48 ≤ r ∧ r ≤ 57) ∧ okn r = true) ∨ ((57 < r ∧ r < 97) ∧ okn r = false) ∨ ((97 ≤ r ∧ r ≤ 122) ∧ okn r = true) ∨ (122 < r ∧ okn r = false) := by
  simp only [okn, decide_eq_true_eq, decide_eq_false_iff_not]; omega
set_option maxHeartbeats 1000000 in
theorem okn_any (r : Int) (w : World) : Calls Try.prog 52 #[.int .i32 r] w fun e w' => e = .returned (.bool (okn r)) ∧ w' = w := by
  rcases okn_cases r with ⟨h, ho⟩ | ⟨h, ho⟩ | ⟨⟨h, h'⟩, ho⟩ | ⟨⟨h, h'⟩, ho⟩ | ⟨⟨h, h'⟩, ho⟩ | ⟨⟨h, h'⟩, ho⟩ | ⟨h, ho⟩
  · have h45 : (r == 45) = false := by simp; omega
    rw [ho]
    go_enter Try.func52, Try.ntmps52
    go_wp2
    go_ret
    exact ⟨rfl, rfl⟩
  · subst h
    rw [ho]
    go_enter Try.func52, Try.ntmps52
    go_wp2
    go_ret
    exact ⟨rfl, rfl⟩
  · have h45 : (r == 45) = false := by simp; omega
    rw [ho]
    go_enter Try.func52, Try.ntmps52
    go_wp2
    go_ret
    exact ⟨rfl, rfl⟩
  · have h45 : (r == 45) = false := by simp; omega
    rw [ho]
    go_enter Try.func52, Try.ntmps52
    go_wp2
    go_ret
    exact ⟨rfl, rfl⟩
  · have h45 : (r == 45) = false := by simp; omega
    have d57 : decide (r ≤ 57) = false := by simp; omega
    rw [ho]
    go_enter Try.func52, Try.ntmps52
    go_wp2
    go_ret
    exact ⟨rfl, rfl⟩
  · have h45 : (r == 45) = false := by simp; omega
    rw [ho]
    go_enter Try.func52, Try.ntmps52
    go_wp2
    go_ret
    exact ⟨rfl, rfl⟩
  · have h45 : (r == 45) = false := by simp; omega
    have d57 : decide (r ≤ 57) = false := by simp; omega
    have d122 : decide (r ≤ 122) = false := by simp; omega
    rw [ho]
    go_enter Try.func52, Try.ntmps52
    go_wp2
    go_ret
    exact ⟨rfl, rfl⟩
theorem rune_okn (t : ByteArray) (pos : Nat) (h : pos < t.size) : ∃ (r : Int) (wd : Nat), ((Utf8.decode t pos).1 : Int) = r ∧ (Utf8.decode t pos).2 = wd ∧ okn r = okn (t[pos].toNat : Int) ∧ (okn r = true → wd = 1) := by
  by_cases ha : (t[pos]'h).toNat < 128
  · refine ⟨_, _, rfl, rfl, ?_, fun _ => ?_⟩
    · rw [decode_ascii t pos h ha]
    · rw [decode_ascii t pos h ha]
  · have hh := decode_high t pos h (by omega)
    have e1 : okn ((Utf8.decode t pos).1 : Int) = false := by simp [okn]; omega
    have e2 : okn (t[pos].toNat : Int) = false := by simp [okn]; omega
    exact ⟨_, _, rfl, rfl, e1.trans e2.symm, fun h => by rw [e1] at h; cases h⟩
set_option maxRecDepth 100000 in
set_option maxHeartbeats 1000000 in
theorem nameI_any (s : ByteArray) (w : World) (hs : s.size ≤ maxLen) : Calls Try.prog 41 #[.string s] w fun e w' => e = .returned (.bool (nameB s)) ∧ Below w.heap.size w w' := by
  unfold maxLen at hs
  by_cases hl : 1 ≤ s.size ∧ s.size ≤ 8
  · have d1 : decide ((s.size : Int) < 1) = false := by simp; omega
    have d2 : decide ((8 : Int) < (s.size : Int)) = false := by simp; omega
    go_enter Try.func41, Try.ntmps41
    go_wp2
    go_loopw [4] (fun _ wr => ∃ pos : Nat, pos ≤ s.size ∧ wr = w.iter s pos ∧ Hid (∀ j (hj : j < s.size), j < pos → okn s[j].toNat = true)) (fun _ wr => s.size - wr.iterPos w.heap.size)
    case atStart => exact ⟨0, Nat.zero_le _, rfl, fun _ _ h => by omega⟩
    case round =>
      obtain ⟨pos, hpos, rfl, hno⟩ := hrel
      by_cases hp : pos < s.size
      · obtain ⟨r, wd, hr1, hr2, hr3, hr4⟩ := rune_okn s pos hp
        have hnx : ∀ ty, (Instr.next (.pointer (some ⟨w.heap.size, 0, none⟩)) true ty).run Try.prog (w.iter s pos) = .ok (.tuple #[.bool true, .int .i64 pos, .int .i32 r]) (w.iter s (pos + wd)) := fun ty => by
          rw [run_next_any w s pos ty hp, hr1, hr2]
        clear hr1 hr2
        have H3 : Hid _ := hr3
        have H4 : Hid _ := hr4
        clear hr3 hr4
        cases hok : okn r
        · have hnb := name_bad hp (by rw [← H3.out]; exact hok)
          have HN : Hid _ := hnb
          clear hnb
          go_wp2_with (go_at_call 52; refine (okn_any _ _).mono ?_; rintro e w1 ⟨rfl, rfl⟩; rw [hok])
          rw [HN.out]
          go_ret
          exact ⟨rfl, (Below.refl _ w).alloc (Nat.le_refl _) _⟩
        · have hw1 := H4.out hok
          subst hw1
          go_wp2_with (go_at_call 52; refine (okn_any _ _).mono ?_; rintro e w1 ⟨rfl, rfl⟩; rw [hok])
          go_roundw
          case rel => exact ⟨pos + 1, by omega, rfl, fun j hj hjp => by
            by_cases e : j = pos
            · subst e; rw [← H3.out]; exact hok
            · exact hno.out j hj (by omega)⟩
          case measure => simp; omega
      · have hnx : ∀ ty, (Instr.next (.pointer (some ⟨w.heap.size, 0, none⟩)) true ty).run Try.prog (w.iter s pos) = .ok (.tuple #[.bool false]) (w.iter s pos) := fun ty => run_next_end w s pos ty hp
        have hnm := name_all hl (fun j hj => hno.out j hj (by omega))
        have HN : Hid _ := hnm
        clear hnm
        go_wp2
        rw [HN.out]
        go_ret
        exact ⟨rfl, (Below.refl _ w).alloc (Nat.le_refl _) _⟩
  · rw [name_short hl]
    by_cases h1 : s.size < 1
    · have d1 : decide ((s.size : Int) < 1) = true := by simp; omega
      go_enter Try.func41, Try.ntmps41
      go_wp2
      go_ret
      exact ⟨rfl, Below.refl _ _⟩
    · have d1 : decide ((s.size : Int) < 1) = false := by simp; omega
      have d2 : decide ((8 : Int) < (s.size : Int)) = true := by simp; omega
      go_enter Try.func41, Try.ntmps41
      go_wp2
      go_ret
      exact ⟨rfl, Below.refl _ _⟩
end Go.Proofs.Ytobchllaopdchaa
