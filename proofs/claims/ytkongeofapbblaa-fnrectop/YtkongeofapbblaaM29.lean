/-
  Several texts in one.
-/
import Derived.Test.YtkongeofapbblaaM8
import Derived.Test.YtkongeofapbblaaXso
import Derived.Test.YtkongeofapbblaaM0
import Derived.Lib.Bytealg
import Derived.Lib.Strings
import Derived.Deep.RegionWith
/-
  The program's joining of two rows of texts.
-/
namespace Go.Proofs.Ytkongeofapbblaa
open Go.RowKit


set_option maxRecDepth 100000 in
set_option maxHeartbeats 4000000 in
theorem together_any (S1 S2 : Nat → Prop) (a b : List ByteArray) (va vb : Value) (w : World) (ha : AtL S1 w a va) (hb : AtL S2 w b vb) (h1 : ∀ q, S1 q → q < w.heap.size) (h2 : ∀ q, S2 q → q < w.heap.size) (asc : AscL a) (la : a.length ≤ 100000) (lb : b.length ≤ 100000) (za : ∀ x ∈ a, x.size ≤ 1048576) (zb : ∀ x ∈ b, x.size ≤ 1048576) :
    Calls Try.prog 46 #[va, vb] w fun e w' => ∃ q, e = .returned q ∧ Row w' w.heap.size 9 1 eS q (bothL a b) ∧ Below w.heap.size w w' := by
  obtain ⟨ob, cb, rfl, hn, hc⟩ := hb
  have HC : Hid (∀ i (h : i < b.length), ∃ g off, ob = some ⟨g, off, none⟩ ∧ S2 g ∧ w.cell? ⟨g, off + i, none⟩ = some (.string b[i])) := fun i hi => by
    obtain ⟨g, off, h1, h2, c, h3, h4⟩ := hc i hi
    have e0 := h3 0 (by decide)
    rw [h4.1] at e0
    exact ⟨g, off, h1, h2, by simpa [width_str] using e0⟩
  clear hc hn
  have ZA : Hid (∀ x ∈ a, x.size ≤ 1048576) := za
  have ZB : Hid (∀ x ∈ b, x.size ≤ 1048576) := zb
  have HA : Hid (AtL S1 w a va) := ha
  have H1 : Hid (∀ q, S1 q → q < w.heap.size) := h1
  have H2 : Hid (∀ q, S2 q → q < w.heap.size) := h2
  have ASC : Hid (AscL a) := asc
  obtain ⟨n, en⟩ : ∃ n, b.length = n := ⟨_, rfl⟩
  rw [en] at lb
  rw [en]
  have EN : Hid (b.length = n) := en
  clear en ha h1 h2 za zb asc
  obtain ⟨oa, ca, na, rfl⟩ : ∃ oa ca na, va = .slice oa na ca := by obtain ⟨o, c, e, _⟩ := HA.out; exact ⟨o, c, _, e⟩
  go_enter Try.func46, Try.ntmps46
  go_wp2_with fail
  refine (freshT_any S1 _ a _ HA.out H1.out (by omega) ZA.out).mono ?_
  rintro e w1 ⟨r1, rfl, hr1, hb1⟩
  have HR1 : Hid (Row w1 w.heap.size 9 1 eS r1 a) := hr1
  have HB1 : Hid (Below w.heap.size w w1) := hb1
  clear hr1 hb1
  go_wp2_with fail
  go_loopw [5, 12] (fun r i wr => ∃ k : Nat, k ≤ n ∧ i = .int .i64 k ∧ Hid (Row wr w.heap.size 9 1 eS r (bothL a (b.take k))) ∧ Hid (Below w.heap.size w wr)) (fun _ i _ => n - (intOf i).toNat)
  case atStart => exact ⟨0, Nat.zero_le _, rfl, HR1.out, HB1.out⟩
  case round =>
    obtain ⟨k, hk, rfl, hrow, hbel⟩ := hrel
    have hsz := hbel.out.size
    by_cases hlt : k < n
    · have hkb : k < b.length := by have := EN.out; omega
      obtain ⟨g, off, rfl, hgS, c0⟩ := HC.out k hkb
      have e0 := (hbel.out.cell (p := ⟨g, off + k, none⟩) (H2.out g hgS)).trans c0
      clear c0
      have hx := ZB.out _ (List.getElem_mem hkb)
      have HT : Hid (bothL a (b.take (k + 1)) = insR (bothL a (b.take k)) (b[k]'hkb)) := by show _ = _; rw [both_take a b hkb, nth_is hkb]
      obtain ⟨x, ex⟩ : ∃ x, b[k]'hkb = x := ⟨_, rfl⟩
      rw [ex] at e0 hx HT
      clear ex
      obtain ⟨l, el⟩ : ∃ l, l = bothL a (b.take k) := ⟨_, rfl⟩
      have hll : l.length ≤ 200000 := by have h := both_len (b.take k) a; rw [← el] at h; have := List.length_take_le k b; have := EN.out; omega
      have HLS : Hid (∀ y ∈ l, y.size ≤ 1048576) := fun y hy => by
        rw [el] at hy
        rcases (both_memI _ _ y).1 hy with h | h
        · exact ZA.out y h
        · exact ZB.out y (List.mem_of_mem_take h)
      have LA : Hid (AscL l) := by show AscL l; rw [el]; exact both_asc _ _ ASC.out
      rw [← el] at hrow HT
      clear el
      go_wp2_with fail
      refine (clones_any x _ hx).mono ?_
      rintro e u1 ⟨rfl, hbu⟩
      have BU : Hid (Below w.heap.size w u1) := hbel.out.trans (hbu.mono hsz)
      have RU : Hid (Row u1 w.heap.size 9 1 eS _ l) := Row.below hrow.out hbu
      clear hbu
      have hat := flatS.row_at RU.out (S := fun q => w.heap.size ≤ q ∧ q < u1.heap.size) (fun q hq => World.ownsRow.lt RU.out q hq) (fun y hy => Nat.le_trans (HLS.out y hy) (by decide))
      have C : Hid _ := ordS_any (fun q => w.heap.size ≤ q ∧ q < u1.heap.size) w.heap.size l.length _ (enc 1 eS l) l x u1 RU.out hat rfl (fun q hq => hq.2) (by omega) BU.out.size (flatS.enc_one l) (asc_mono LA.out x)
      clear hat
      go_wp2_with fail
      refine Calls.mono C.out ?_
      rintro e u2 ⟨kk, hkk, hlo, hge, v', rfl, hcase⟩
      have NEW : Hid (Row u2 w.heap.size 9 1 eS v' (insR l x) ∧ Below w.heap.size w u2) := by
        rcases hcase with ⟨⟨h, heq⟩, rfl, hb2⟩ | ⟨hne, hown, hgr, _⟩
        · refine ⟨?_, BU.out.trans (hb2.mono BU.out.size)⟩
          rw [insR_eq l kk x h (fun j hj => by rw [nth_is (by omega)]; exact hlo j (by omega) hj) (by rw [nth_is h]; exact heq)]
          exact Row.below RU.out hb2
        · refine ⟨?_, BU.out.grown hgr BU.out.size (fun p hp => (World.ownsRow.lt RU.out p hp).1)⟩
          rw [insR_new l kk x hkk (fun j hj => by rw [nth_is (by omega)]; exact hlo j (by omega) hj) (fun h => ⟨by rw [nth_is h]; exact hge kk h (Nat.le_refl _), by rw [nth_is h]; exact hne h⟩)]
          show World.ownsRow _ _ _ _ _ _ _
          rw [List.length_append, List.length_append, List.length_take, List.length_drop, enc_append, enc_append, ← enc_take, ← enc_drop]
          have e : min kk l.length + [x].length + (l.length - kk) = l.length + 1 := by simp; omega
          rw [e]
          exact hown
      clear hcase hlo hge hkk C RU BU
      obtain ⟨o', c', hv⟩ := Row.form NEW.out.1
      subst hv
      go_wp2_with fail
      go_roundw
      case rel => exact ⟨k + 1, by omega, by go_num, by show Row _ _ _ _ _ _ _; rw [HT.out]; exact NEW.out.1, NEW.out.2⟩
      case measure => simp [intOf]; omega
    · obtain rfl : n = k := by omega
      have htk : Hid (b.take n = b) := by show _ = _; rw [List.take_of_length_le (by have := EN.out; omega)]
      go_wp2_with fail
      go_ret
      refine ⟨_, rfl, ?_, hbel.out⟩
      have := hrow.out
      rw [htk.out] at this
      exact this

end Go.Proofs.Ytkongeofapbblaa

/-
  The program's test of a name.
-/
namespace Go.Proofs.Ytkongeofapbblaa
open Go.RowKit

theorem okn_cases (r : Int) : (r < 45 ∧ okn r = false) ∨ (r = 45 ∧ okn r = true) ∨ ((45 < r ∧ r < 48) ∧ okn r = false) ∨ ((48 ≤ r ∧ r ≤ 57) ∧ okn r = true) ∨ ((57 < r ∧ r < 97) ∧ okn r = false) ∨ ((97 ≤ r ∧ r ≤ 122) ∧ okn r = true) ∨ (122 < r ∧ okn r = false) := by
  simp only [okn, decide_eq_true_eq, decide_eq_false_iff_not]; omega

set_option maxHeartbeats 1000000 in
theorem okn_any (r : Int) (w : World) : Calls Try.prog 83 #[.int .i32 r] w fun e w' => e = .returned (.bool (okn r)) ∧ w' = w := by
  rcases okn_cases r with ⟨h, ho⟩ | ⟨h, ho⟩ | ⟨⟨h, h'⟩, ho⟩ | ⟨⟨h, h'⟩, ho⟩ | ⟨⟨h, h'⟩, ho⟩ | ⟨⟨h, h'⟩, ho⟩ | ⟨h, ho⟩
  · have h45 : (r == 45) = false := by simp; omega
    rw [ho]
    go_enter Try.func83, Try.ntmps83
    go_wp2
    go_ret
    exact ⟨rfl, rfl⟩
  · subst h
    rw [ho]
    go_enter Try.func83, Try.ntmps83
    go_wp2
    go_ret
    exact ⟨rfl, rfl⟩
  · have h45 : (r == 45) = false := by simp; omega
    rw [ho]
    go_enter Try.func83, Try.ntmps83
    go_wp2
    go_ret
    exact ⟨rfl, rfl⟩
  · have h45 : (r == 45) = false := by simp; omega
    rw [ho]
    go_enter Try.func83, Try.ntmps83
    go_wp2
    go_ret
    exact ⟨rfl, rfl⟩
  · have h45 : (r == 45) = false := by simp; omega
    have d57 : decide (r ≤ 57) = false := by simp; omega
    rw [ho]
    go_enter Try.func83, Try.ntmps83
    go_wp2
    go_ret
    exact ⟨rfl, rfl⟩
  · have h45 : (r == 45) = false := by simp; omega
    rw [ho]
    go_enter Try.func83, Try.ntmps83
    go_wp2
    go_ret
    exact ⟨rfl, rfl⟩
  · have h45 : (r == 45) = false := by simp; omega
    have d57 : decide (r ≤ 57) = false := by simp; omega
    have d122 : decide (r ≤ 122) = false := by simp; omega
    rw [ho]
    go_enter Try.func83, Try.ntmps83
    go_wp2
    go_ret
    exact ⟨rfl, rfl⟩

theorem rune_okn (t : ByteArray) (pos : Nat) (h : pos < t.size) : ∃ (r : Int) (wd : Nat), ((Utf8.decode t pos).1 : Int) = r ∧ (Utf8.decode t pos).2 = wd ∧ okn r = okn (t[pos].toNat : Int) ∧ (okn r = true → wd = 1) := by
  by_cases ha : (t[pos]'h).toNat < 128
  · refine ⟨_, _, rfl, rfl, ?_, fun _ => ?_⟩
    · rw [decode_ascii t pos h ha]
    · rw [decode_ascii t pos h ha]
  · have hh := decode_high t pos h (by omega)
    have e1 : okn ((Utf8.decode t pos).1 : Int) = false := by simp [okn]; omega
    have e2 : okn (t[pos].toNat : Int) = false := by simp [okn]; omega
    exact ⟨_, _, rfl, rfl, e1.trans e2.symm, fun h => by rw [e1] at h; cases h⟩

set_option maxRecDepth 100000 in
set_option maxHeartbeats 1000000 in
theorem nameI_any (s : ByteArray) (w : World) (hs : s.size ≤ maxLen) : Calls Try.prog 73 #[.string s] w fun e w' => e = .returned (.bool (nameB s)) ∧ Below w.heap.size w w' := by
  unfold maxLen at hs
  by_cases hl : 1 ≤ s.size ∧ s.size ≤ 8
  · have d1 : decide ((s.size : Int) < 1) = false := by simp; omega
    have d2 : decide ((8 : Int) < (s.size : Int)) = false := by simp; omega
    go_enter Try.func73, Try.ntmps73
    go_wp2
    go_loopw [4] (fun _ wr => ∃ pos : Nat, pos ≤ s.size ∧ wr = w.iter s pos ∧ Hid (∀ j (hj : j < s.size), j < pos → okn s[j].toNat = true)) (fun _ wr => s.size - wr.iterPos w.heap.size)
    case atStart => exact ⟨0, Nat.zero_le _, rfl, fun _ _ h => by omega⟩
    case round =>
      obtain ⟨pos, hpos, rfl, hno⟩ := hrel
      by_cases hp : pos < s.size
      · obtain ⟨r, wd, hr1, hr2, hr3, hr4⟩ := rune_okn s pos hp
        have hnx : ∀ ty, (Instr.next (.pointer (some ⟨w.heap.size, 0, none⟩)) true ty).run Try.prog (w.iter s pos) = .ok (.tuple #[.bool true, .int .i64 pos, .int .i32 r]) (w.iter s (pos + wd)) := fun ty => by
          rw [run_next_any w s pos ty hp, hr1, hr2]
        clear hr1 hr2
        have H3 : Hid _ := hr3
        have H4 : Hid _ := hr4
        clear hr3 hr4
        cases hok : okn r
        · have hnb := name_bad hp (by rw [← H3.out]; exact hok)
          have HN : Hid _ := hnb
          clear hnb
          go_wp2_with (go_at_call 83; refine (okn_any _ _).mono ?_; rintro e w1 ⟨rfl, rfl⟩; rw [hok])
          rw [HN.out]
          go_ret
          exact ⟨rfl, (Below.refl _ w).alloc (Nat.le_refl _) _⟩
        · have hw1 := H4.out hok
          subst hw1
          go_wp2_with (go_at_call 83; refine (okn_any _ _).mono ?_; rintro e w1 ⟨rfl, rfl⟩; rw [hok])
          go_roundw
          case rel => exact ⟨pos + 1, by omega, rfl, fun j hj hjp => by
            by_cases e : j = pos
            · subst e; rw [← H3.out]; exact hok
            · exact hno.out j hj (by omega)⟩
          case measure => simp; omega
      · have hnx : ∀ ty, (Instr.next (.pointer (some ⟨w.heap.size, 0, none⟩)) true ty).run Try.prog (w.iter s pos) = .ok (.tuple #[.bool false]) (w.iter s pos) := fun ty => run_next_end w s pos ty hp
        have hnm := name_all hl (fun j hj => hno.out j hj (by omega))
        have HN : Hid _ := hnm
        clear hnm
        go_wp2
        rw [HN.out]
        go_ret
        exact ⟨rfl, (Below.refl _ w).alloc (Nat.le_refl _) _⟩
  · rw [name_short hl]
    by_cases h1 : s.size < 1
    · have d1 : decide ((s.size : Int) < 1) = true := by simp; omega
      go_enter Try.func73, Try.ntmps73
      go_wp2
      go_ret
      exact ⟨rfl, Below.refl _ _⟩
    · have d1 : decide ((s.size : Int) < 1) = false := by simp; omega
      have d2 : decide ((8 : Int) < (s.size : Int)) = true := by simp; omega
      go_enter Try.func73, Try.ntmps73
      go_wp2
      go_ret
      exact ⟨rfl, Below.refl _ _⟩

end Go.Proofs.Ytkongeofapbblaa

/-
  The ends of a recipe, by the program.
-/
namespace Go.Proofs.Ytkongeofapbblaa
open Go.RowKit

set_option maxRecDepth 100000 in
set_option maxHeartbeats 4000000 in
theorem endP_any (s : ByteArray) (w : World) : Calls Try.prog 9 #[.string s] w fun e w' => e = .returned (.int .i64 (endI s)) ∧ w' = w := by
  unfold endI
  cases h1 : isT s [103, 111, 111, 100]
  · cases h2 : isT s [115, 97, 118, 101, 100]
    · cases h3 : isT s [115, 99, 114, 97, 112, 112, 101, 100]
      · unfold isT at h1 h2 h3
        go_enter Try.func9, Try.ntmps9
        go_wp2
        go_ret
        exact ⟨rfl, rfl⟩
      · unfold isT at h1 h2 h3
        go_enter Try.func9, Try.ntmps9
        go_wp2
        go_ret
        exact ⟨rfl, rfl⟩
    · unfold isT at h1 h2
      go_enter Try.func9, Try.ntmps9
      go_wp2
      go_ret
      exact ⟨rfl, rfl⟩
  · unfold isT at h1
    go_enter Try.func9, Try.ntmps9
    go_wp2
    go_ret
    exact ⟨rfl, rfl⟩

theorem endI_any (x : ByteArray) (w : World) (_ : x.size ≤ 1048576) : Calls Try.prog 9 #[.string x] w fun e w' => e = .returned (.int .i64 (endI x)) ∧ Below w.heap.size w w' :=
  (endP_any x w).mono fun _ _ h => ⟨h.1, by have := h.2; subst this; exact Below.refl _ _⟩

end Go.Proofs.Ytkongeofapbblaa
