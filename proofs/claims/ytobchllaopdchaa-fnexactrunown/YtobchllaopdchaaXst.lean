import Derived.Test.YtobchllaopdchaaM9
import Derived.Test.YtobchllaopdchaaXso
namespace Go.Proofs.Ytobchllaopdchaa
open Go.RowKit
set_option maxRecDepth 100000 in
set_option maxHeartbeats 4000000 in
theorem together_any (S1 S2 : Nat → Prop) (a b : List ByteArray) (va vb : Value) (w : World) (ha : AtL S1 w a va) (hb : AtL S2 w b vb) (h1 : ∀ q, S1 q → q < w.heap.size) (h2 : ∀ q, S2 q → q < w.heap.size) (asc : AscL a) (la : a.length ≤ 100000) (lb : b.length ≤ 100000) (za : ∀ x ∈ a, x.size ≤ 1048576) (zb : ∀ x ∈ b, x.size ≤ 1048576) :
    Calls Try.prog 46 #[va, vb] w fun e w' => ∃ q, e = .returned q ∧ Row w' w.heap.size 9 1 eS q (bothL a b) ∧ Below w.heap.size w w' := by
  obtain ⟨ob, cb, rfl, hn, hc⟩ := hb
  have HC : Hid (∀ i (h : i < b.length), ∃ g off, ob = some ⟨g, off, none⟩ ∧ S2 g ∧ w.cell? ⟨g, off + i, none⟩ = some (.string b[i])) := fun i hi => by
    obtain ⟨g, off, h1, h2, c, h3, h4⟩ := hc i hi
    have e0 := h3 0 (by decide)
    rw [h4.1] at e0
    exact ⟨g, off, h1, h2, by simpa [width_str] using e0⟩
  clear hc hn
  have ZA : Hid (∀ x ∈ a, x.size ≤ 1048576) := za
  have ZB : Hid (∀ x ∈ b, x.size ≤ 1048576) := zb
  have HA : Hid (AtL S1 w a va) := ha
  have H1 : Hid (∀ q, S1 q → q < w.heap.size) := h1
  have H2 : Hid (∀ q, S2 q → q < w.heap.size) := h2
  have ASC : Hid (AscL a) := asc
  obtain ⟨n, en⟩ : ∃ n, b.length = n := ⟨_, rfl⟩
  rw [en] at lb
  rw [en]
  have EN : Hid (b.length = n) := en
  clear en ha h1 h2 za zb asc
  obtain ⟨oa, ca, na, rfl⟩ : ∃ oa ca na, va = .slice oa na ca := by obtain ⟨o, c, e, _⟩ := HA.out; exact ⟨o, c, _, e⟩
  go_enter Try.func46, Try.ntmps46
  go_wp2_with fail
  refine (freshT_any S1 _ a _ HA.out H1.out (by omega) ZA.out).mono ?_
  rintro e w1 ⟨r1, rfl, hr1, hb1⟩
  have HR1 : Hid (Row w1 w.heap.size 9 1 eS r1 a) := hr1
  have HB1 : Hid (Below w.heap.size w w1) := hb1
  clear hr1 hb1
  go_wp2_with fail
  go_loopw [5, 12] (fun r i wr => ∃ k : Nat, k ≤ n ∧ i = .int .i64 k ∧ Hid (Row wr w.heap.size 9 1 eS r (bothL a (b.take k))) ∧ Hid (Below w.heap.size w wr)) (fun _ i _ => n - (intOf i).toNat)
  case atStart => exact ⟨0, Nat.zero_le _, rfl, HR1.out, HB1.out⟩
  case round =>
    obtain ⟨k, hk, rfl, hrow, hbel⟩ := hrel
    have hsz := hbel.out.size
    by_cases hlt : k < n
    · have hkb : k < b.length := by have := EN.out; omega
      obtain ⟨g, off, rfl, hgS, c0⟩ := HC.out k hkb
      have e0 := (hbel.out.cell (p := ⟨g, off + k, none⟩) (H2.out g hgS)).trans c0
      clear c0
      have hx := ZB.out _ (List.getElem_mem hkb)
      have HT : Hid (bothL a (b.take (k + 1)) = insR (bothL a (b.take k)) (b[k]'hkb)) := by show _ = _; rw [both_take a b hkb, nth_is hkb]
      obtain ⟨x, ex⟩ : ∃ x, b[k]'hkb = x := ⟨_, rfl⟩
      rw [ex] at e0 hx HT
      clear ex
      obtain ⟨l, el⟩ : ∃ l, l = bothL a (b.take k) := ⟨_, rfl⟩
      have hll : l.length ≤ 200000 := by have h := both_len (b.take k) a; rw [← el] at h; have := List.length_take_le k b; have := EN.out; omega
      have HLS : Hid (∀ y ∈ l, y.size ≤ 1048576) := fun y hy => by
        rw [el] at hy
        rcases (both_memI _ _ y).1 hy with h | h
        · exact ZA.out y h
        · exact ZB.out y (List.mem_of_mem_take h)
      have LA : Hid (AscL l) := by show AscL l; rw [el]; exact both_asc _ _ ASC.out
      rw [← el] at hrow HT
      clear el
      go_wp2_with fail
      refine (clones_any x _ hx).mono ?_
      rintro e u1 ⟨rfl, hbu⟩
      have BU : Hid (Below w.heap.size w u1) := hbel.out.trans (hbu.mono hsz)
      have RU : Hid (Row u1 w.heap.size 9 1 eS _ l) := Row.below hrow.out hbu
      clear hbu
      have hat := flatS.row_at RU.out (S := fun q => w.heap.size ≤ q ∧ q < u1.heap.size) (fun q hq => World.ownsRow.lt RU.out q hq) (fun y hy => Nat.le_trans (HLS.out y hy) (by decide))
      have C : Hid _ := ordS_any (fun q => w.heap.size ≤ q ∧ q < u1.heap.size) w.heap.size l.length _ (enc 1 eS l) l x u1 RU.out hat rfl (fun q hq => hq.2) (by omega) BU.out.size (flatS.enc_one l) (asc_mono LA.out x)
      clear hat
      go_wp2_with fail
      refine Calls.mono C.out ?_
      rintro e u2 ⟨kk, hkk, hlo, hge, v', rfl, hcase⟩
      have NEW : Hid (Row u2 w.heap.size 9 1 eS v' (insR l x) ∧ Below w.heap.size w u2) := by
        rcases hcase with ⟨⟨h, heq⟩, rfl, hb2⟩ | ⟨hne, hown, hgr, _⟩
        · refine ⟨?_, BU.out.trans (hb2.mono BU.out.size)⟩
          rw [insR_eq l kk x h (fun j hj => by rw [nth_is (by omega)]; exact hlo j (by omega) hj) (by rw [nth_is h]; exact heq)]
          exact Row.below RU.out hb2
        · refine ⟨?_, BU.out.grown hgr BU.out.size (fun p hp => (World.ownsRow.lt RU.out p hp).1)⟩
          rw [insR_new l kk x hkk (fun j hj => by rw [nth_is (by omega)]; exact hlo j (by omega) hj) (fun h => ⟨by rw [nth_is h]; exact hge kk h (Nat.le_refl _), by rw [nth_is h]; exact hne h⟩)]
          show World.ownsRow _ _ _ _ _ _ _
          rw [List.length_append, List.length_append, List.length_take, List.length_drop, enc_append, enc_append, ← enc_take, ← enc_drop]
          have e : min kk l.length + [x].length + (l.length - kk) = l.length + 1 := by simp; omega
          rw [e]
          exact hown
      clear hcase hlo hge hkk C RU BU
      obtain ⟨o', c', hv⟩ := Row.form NEW.out.1
      subst hv
      go_wp2_with fail
      go_roundw
      case rel => exact ⟨k + 1, by omega, by go_num, by show Row _ _ _ _ _ _ _; rw [HT.out]; exact NEW.out.1, NEW.out.2⟩
      case measure => simp [intOf]; omega
    · obtain rfl : n = k := by omega
      have htk : Hid (b.take n = b) := by show _ = _; rw [List.take_of_length_le (by have := EN.out; omega)]
      go_wp2_with fail
      go_ret
      refine ⟨_, rfl, ?_, hbel.out⟩
      have := hrow.out
      rw [htk.out] at this
      exact this
end Go.Proofs.Ytobchllaopdchaa
