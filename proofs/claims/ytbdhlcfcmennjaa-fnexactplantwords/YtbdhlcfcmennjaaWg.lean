/-
  The contract of the program's own cutting into words: it answers as the plain function says, in memory of its own.
-/
import Derived.Test.YtbdhlcfcmennjaaWf
namespace Go.Proofs.Ytbdhlcfcmennjaa
open Go.RowKit

theorem own_snoc {w : World} {B : Nat} {v : Value} {out : List (List UInt8)} {d : ByteArray} (h : w.ownsRow B 9 1 v (out.length + 1) (strs out ++ [.string d])) : w.ownsRow B 9 1 v (out ++ [d.data.toList]).length (strs (out ++ [d.data.toList])) := by
  have e : strs (out ++ [d.data.toList]) = strs out ++ [.string d] := by
    unfold strs
    rw [List.map_append]
    simp
  rw [e, List.length_append]
  exact h

set_option maxRecDepth 100000 in
theorem assert96 (a b : Value) (W : World) : (Instr.typeAssert (.iface 55 (.agg #[a, b])) 57 55 true).run Try.prog W = .ok (.tuple #[.agg #[a, b], .bool true]) W := by kernel_rfl

theorem own_alloc {w w1 : World} {v : Value} {n : Nat} {xs : List Value} (h : w1.ownsRow w.heap.size 9 1 v n xs) (hb : Below w.heap.size w w1) (o : Obj) : (w1.alloc o).ownsRow w.heap.size 9 1 v n xs ∧ Below w.heap.size w (w1.alloc o) :=
  ⟨h.alloc o, hb.alloc hb.size o⟩

set_option maxRecDepth 100000 in
set_option maxHeartbeats 2000000 in
theorem impl_any (s : ByteArray) (w : World) (hs : s.size ≤ 1048576) :
    Calls Try.prog 7 #[.string s] w fun e w' => ∃ v, e = .returned (.tuple #[v, .bool (Pl.words s.data.toList).2]) ∧
      w'.ownsRow w.heap.size 9 1 v (Pl.words s.data.toList).1.length (strs (Pl.words s.data.toList).1) ∧ Below w.heap.size w w' := by
  go_enter Try.func7, Try.ntmps7
  go_wp2_with (go_at_call 24; refine (cut_any _ _ hs).mono ?_; rintro e w1 ⟨t, r, f, q, rfl, ht, rfl⟩; have hts := bare_size s t ht; have HT : Hid _ := ht; clear ht)
  go_loopw [7] (fun s7 wr => ∃ (pos : Nat) (v : Value) (out : List (List UInt8)), pos ≤ t.size ∧ Hid (Keeps t w.heap.size w.heap.size w wr pos v out) ∧
      ((s7 = .iface 55 (.agg #[.string t, v]) ∧ out.length ≤ 16 ∧ Hid (At t pos out [])) ∨
        ∃ f : Nat, s7 = .iface 140 (.agg #[.string t, v, .int .i64 f]) ∧ f < pos ∧ pos - f ≤ 24 ∧ out.length < 16 ∧ Hid (At t pos out (t.extract f pos).data.toList))) (fun _ wr => t.size - wr.iterPos w.heap.size)
  case atStart => exact ⟨0, .slice none 0 0, [], Nat.zero_le _, ⟨World.iter_heap _ _ _, (Below.drewN (Below.refl _ w) q).alloc (Nat.le_refl _) _, World.ownsRow_nil _ _ _ _⟩, Or.inl ⟨rfl, Nat.zero_le _, rfl⟩⟩
  case round =>
    obtain ⟨pos, v, out, hpos, hkeep, hst⟩ := hrel
    have h96 := meth96
    have h178 := meth178
    by_cases hp : pos < t.size
    · obtain ⟨rr, wd, hr1, hr2, hrc⟩ := rune_cases t pos hp
      have hnx : ∀ ty, (Instr.next (.pointer (some ⟨w.heap.size, 0, none⟩)) true ty).run Try.prog wr = .ok (.tuple #[.bool true, .int .i64 pos, .int .i32 rr]) (wr.iterAt w.heap.size t (pos + wd)) := fun ty => by
        rw [Lib.run_next_any_at wr w.heap.size t pos ty hkeep.out.it hp, hr1, hr2]
      clear hr1 hr2
      have hks : w.heap.size < wr.heap.size := (Array.getElem?_eq_some_iff.1 hkeep.out.it).1
      have hki : ∀ p, Keeps t w.heap.size w.heap.size w (wr.iterAt w.heap.size t p) p v out := fun p => keeps_iter hkeep.out (Nat.le_refl _) p
      have HKI : Hid _ := hki
      clear hki
      rcases hrc with ⟨rfl, hc, rfl⟩ | ⟨hr32, hc, hin, hwd⟩
      · -- a space
        have HC : Hid _ := hc
        clear hc
        rcases hst with ⟨rfl, hol, hat⟩ | ⟨f, rfl, hf1, hf2, hol, hat⟩
        · go_wp2_with (go_at_call 122; refine (gap_space _ _ _ _).mono ?_; rintro e w1 ⟨rfl, hb⟩)
          go_roundw
          case rel => exact ⟨pos + 1, v, out, by omega, keeps_below (HKI.out _) (Nat.le_refl _) hb, Or.inl ⟨rfl, hol, at_gap hp HC.out hat.out⟩⟩
          case measure => rw [iterPos_of (keeps_below (HKI.out _) (Nat.le_refl _) hb).it, iterPos_of hkeep.out.it]; omega
        · have hfl : (t.extract f pos).data.toList ≠ [] := fun e => by have := cut_len (t := t) (f := f) hpos; rw [e] at this; simp at this; omega
          have HFL : Hid _ := hfl
          clear hfl
          go_wp2_with (go_at_call 125; refine (word_space t v w.heap.size f pos out.length (strs out) _ (by omega) hpos (by omega) (HKI.out _).own (by omega) (by rw [Lib.iterAt_size]; omega)).mono ?_; rintro e w1 ⟨v', rfl, ho, hg⟩)
          have hk2 : Keeps t w.heap.size w.heap.size w w1 (pos + 1) v' (out ++ [(t.extract f pos).data.toList]) := keeps_grown (HKI.out _) (Nat.le_refl _) hg (own_snoc ho)
          go_roundw
          case rel => exact ⟨pos + 1, v', out ++ [(t.extract f pos).data.toList], by omega, hk2, Or.inl ⟨rfl, by simp; omega, at_end hp HC.out HFL.out hat.out⟩⟩
          case measure => rw [iterPos_of hk2.it, iterPos_of hkeep.out.it]; omega
      · -- another rune
        have HC : Hid _ := hc
        have HW : Hid _ := hwd
        clear hc hwd
        rcases hst with ⟨rfl, hol, hat⟩ | ⟨f, rfl, hf1, hf2, hol, hat⟩
        · obtain ⟨oa, cap, rfl⟩ := slice_of hkeep.out.own
          by_cases hgo : okR rr = true ∧ out.length < 16
          · obtain ⟨hok, h16⟩ := hgo
            have hw1 : wd = 1 := HW.out hok
            subst hw1
            have hb1 : (okR rr && decide (out.length < 16)) = true := by simp [hok, h16]
            have HIN : Hid _ := hin
            clear hin hok
            go_wp2_with (go_at_call 122; refine (gap_other _ _ _ _ _ _ _ hr32).mono ?_; rintro e w1 ⟨rfl, hb⟩; rw [hb1])
            have hk2 := keeps_below (HKI.out _) (Nat.le_refl _) hb
            go_roundw
            case rel => exact ⟨pos + 1, _, out, by omega, hk2, Or.inr ⟨pos, rfl, by omega, by omega, h16, by rw [cut_one hp]; exact at_byte hp HC.out (by rw [← HIN.out]; simp at hb1; exact hb1.1) (by simp) hat.out⟩⟩
            case measure => rw [iterPos_of hk2.it, iterPos_of hkeep.out.it]; omega
          · have hb1 : (okR rr && decide (out.length < 16)) = false := by
              cases hok : okR rr
              · rfl
              · simp; simp [hok] at hgo; exact hgo
            have hwn : Pl.words s.data.toList = ([], false) := by
              cases hok : okR rr
              · exact at_bad HT.out hp HC.out (by rw [← hin]; exact hok) hat.out
              · exact at_many HT.out hp HC.out (by rw [← hin]; exact hok) (by simp [hok] at hgo; exact hgo) hat.out
            have HN : Hid _ := hwn
            clear hwn hgo hin
            go_wp2_with (go_at_call 122; refine (gap_other _ _ _ _ _ _ _ hr32).mono ?_; rintro e w1 ⟨rfl, hb⟩; rw [hb1])
            have hk2 := keeps_below (HKI.out _) (Nat.le_refl _) hb
            rw [HN.out]
            go_ret2
            exact ⟨_, rfl, World.ownsRow_nil _ _ _ _, hk2.bel⟩
        · by_cases hgo : okR rr = true ∧ pos - f < 24
          · obtain ⟨hok, h24⟩ := hgo
            have hw1 : wd = 1 := HW.out hok
            subst hw1
            have hb1 : (okR rr && decide ((pos : Int) - (f : Int) < 24)) = true := by simp [hok]; omega
            have HIN : Hid _ := hin
            clear hin hok
            go_wp2_with (go_at_call 125; refine (word_other _ _ _ _ _ _ hr32 (by omega) (by omega) (by omega)).mono ?_; rintro e w1 ⟨rfl, hb⟩; rw [hb1])
            have hk2 := keeps_below (HKI.out _) (Nat.le_refl _) hb
            go_roundw
            case rel => exact ⟨pos + 1, _, out, by omega, hk2, Or.inr ⟨f, rfl, by omega, by omega, hol, by rw [cut_push (by omega) hp]; exact at_byte hp HC.out (by rw [← HIN.out]; simp at hb1; exact hb1.1) (by rw [cut_len hpos]; exact h24) hat.out⟩⟩
            case measure => rw [iterPos_of hk2.it, iterPos_of hkeep.out.it]; omega
          · have hb1 : (okR rr && decide ((pos : Int) - (f : Int) < 24)) = false := by
              cases hok : okR rr
              · rfl
              · simp; simp [hok] at hgo; omega
            have hwn : Pl.words s.data.toList = ([], false) := by
              cases hok : okR rr
              · exact at_bad HT.out hp HC.out (by rw [← hin]; exact hok) hat.out
              · exact at_long HT.out hp HC.out (by rw [cut_len hpos]; simp [hok] at hgo; exact hgo) hat.out
            have HN : Hid _ := hwn
            clear hwn hgo hin
            go_wp2_with (go_at_call 125; refine (word_other _ _ _ _ _ _ hr32 (by omega) (by omega) (by omega)).mono ?_; rintro e w1 ⟨rfl, hb⟩; rw [hb1])
            have hk2 := keeps_below (HKI.out _) (Nat.le_refl _) hb
            rw [HN.out]
            go_ret2
            exact ⟨_, rfl, World.ownsRow_nil _ _ _ _, hk2.bel⟩
    · have hnx : ∀ ty, (Instr.next (.pointer (some ⟨w.heap.size, 0, none⟩)) true ty).run Try.prog wr = .ok (.tuple #[.bool false]) wr := fun ty => Lib.run_next_end_at wr w.heap.size t pos ty hkeep.out.it hp
      have hpe : pos = t.size := by omega
      subst hpe
      rcases hst with ⟨rfl, hol, hat⟩ | ⟨f, rfl, hf1, hf2, hol, hat⟩
      · have hta := assert96
        obtain ⟨oa, cap, rfl⟩ := slice_of hkeep.out.own
        go_wp2_with (go_at_call 122; refine (gap_space _ _ _ _).mono ?_; rintro e w1 ⟨rfl, hb⟩)
        rw [at_last HT.out hp hol hat.out]
        go_ret2
        have hk2 := keeps_below hkeep.out (Nat.le_refl _) hb
        exact ⟨_, rfl, own_alloc hk2.own hk2.bel _⟩
      · have hta := assert96
        go_wp2_with (go_at_call 125; refine (word_space t v w.heap.size f t.size out.length (strs out) _ (by omega) hpos (by omega) hkeep.out.own (by omega) (by have := hkeep.out.bel.size; omega)).mono ?_; rintro e w1 ⟨v', rfl, ho, hg⟩; obtain ⟨oa', cap', rfl⟩ := slice_of ho)
        have hk2 : Keeps t w.heap.size w.heap.size w w1 t.size (.slice oa' (out.length + 1) cap') (out ++ [(t.extract f t.size).data.toList]) := keeps_grown hkeep.out (Nat.le_refl _) hg (own_snoc ho)
        rw [at_lastw HT.out hp hol (fun e => by have := cut_len (t := t) (f := f) hpos; rw [e] at this; simp at this; omega) hat.out]
        go_ret2
        exact ⟨_, rfl, own_alloc hk2.own hk2.bel _⟩

end Go.Proofs.Ytbdhlcfcmennjaa
