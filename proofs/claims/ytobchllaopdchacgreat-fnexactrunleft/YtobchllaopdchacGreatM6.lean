/-
  Several texts in one.
-/
import Derived.Test.YtobchllaopdchacGreatM4
import Derived.Test.YtobchllaopdchacGreatM5
import Derived.Test.YtobchllaopdchacGreatM0
import Derived.StringKeys
import Derived.Maps.Own
import Derived.WideKeyEntry
import Derived.WalkLawsBesides
import Derived.Test.YtobchllaopdchacGreatM3
namespace Go.Proofs.YtobchllaopdchacGreat
open Go.RowKit
set_option maxRecDepth 100000 in
set_option maxHeartbeats 4000000 in
theorem together_any (S1 S2 : Nat → Prop) (a b : List ByteArray) (va vb : Value) (w : World) (ha : AtL S1 w a va) (hb : AtL S2 w b vb) (h1 : ∀ q, S1 q → q < w.heap.size) (h2 : ∀ q, S2 q → q < w.heap.size) (asc : AscL a) (la : a.length ≤ 100000) (lb : b.length ≤ 100000) (za : ∀ x ∈ a, x.size ≤ 1048576) (zb : ∀ x ∈ b, x.size ≤ 1048576) :
    Calls Tryz.prog 183 #[va, vb] w fun e w' => ∃ q, e = .returned q ∧ Row w' w.heap.size 9 1 eS q (bothL a b) ∧ Below w.heap.size w w' := by
  obtain ⟨ob, cb, rfl, hn, hc⟩ := hb
  have HC : Hid (∀ i (h : i < b.length), ∃ g off, ob = some ⟨g, off, none⟩ ∧ S2 g ∧ w.cell? ⟨g, off + i, none⟩ = some (.string b[i])) := fun i hi => by
    obtain ⟨g, off, h1, h2, c, h3, h4⟩ := hc i hi
    have e0 := h3 0 (by decide)
    rw [h4.1] at e0
    exact ⟨g, off, h1, h2, by simpa [width_str] using e0⟩
  clear hc hn
  have ZA : Hid (∀ x ∈ a, x.size ≤ 1048576) := za
  have ZB : Hid (∀ x ∈ b, x.size ≤ 1048576) := zb
  have HA : Hid (AtL S1 w a va) := ha
  have H1 : Hid (∀ q, S1 q → q < w.heap.size) := h1
  have H2 : Hid (∀ q, S2 q → q < w.heap.size) := h2
  have ASC : Hid (AscL a) := asc
  obtain ⟨n, en⟩ : ∃ n, b.length = n := ⟨_, rfl⟩
  rw [en] at lb
  rw [en]
  have EN : Hid (b.length = n) := en
  clear en ha h1 h2 za zb asc
  obtain ⟨oa, ca, na, rfl⟩ : ∃ oa ca na, va = .slice oa na ca := by obtain ⟨o, c, e, _⟩ := HA.out; exact ⟨o, c, _, e⟩
  go_enter Tryz.func183, Tryz.ntmps183
  go_wp2_with fail
  refine (freshT_any S1 _ a _ HA.out H1.out (by omega) ZA.out).mono ?_
  rintro e w1 ⟨r1, rfl, hr1, hb1⟩
  have HR1 : Hid (Row w1 w.heap.size 9 1 eS r1 a) := hr1
  have HB1 : Hid (Below w.heap.size w w1) := hb1
  clear hr1 hb1
  go_wp2_with fail
  go_loopw [5, 12] (fun r i wr => ∃ k : Nat, k ≤ n ∧ i = .int .i64 k ∧ Hid (Row wr w.heap.size 9 1 eS r (bothL a (b.take k))) ∧ Hid (Below w.heap.size w wr)) (fun _ i _ => n - (intOf i).toNat)
  case atStart => exact ⟨0, Nat.zero_le _, rfl, HR1.out, HB1.out⟩
  case round =>
    obtain ⟨k, hk, rfl, hrow, hbel⟩ := hrel
    have hsz := hbel.out.size
    by_cases hlt : k < n
    · have hkb : k < b.length := by have := EN.out; omega
      obtain ⟨g, off, rfl, hgS, c0⟩ := HC.out k hkb
      have e0 := (hbel.out.cell (p := ⟨g, off + k, none⟩) (H2.out g hgS)).trans c0
      clear c0
      have hx := ZB.out _ (List.getElem_mem hkb)
      have HT : Hid (bothL a (b.take (k + 1)) = insR (bothL a (b.take k)) (b[k]'hkb)) := by show _ = _; rw [both_take a b hkb, nth_is hkb]
      obtain ⟨x, ex⟩ : ∃ x, b[k]'hkb = x := ⟨_, rfl⟩
      rw [ex] at e0 hx HT
      clear ex
      obtain ⟨l, el⟩ : ∃ l, l = bothL a (b.take k) := ⟨_, rfl⟩
      have hll : l.length ≤ 200000 := by have h := both_len (b.take k) a; rw [← el] at h; have := List.length_take_le k b; have := EN.out; omega
      have HLS : Hid (∀ y ∈ l, y.size ≤ 1048576) := fun y hy => by
        rw [el] at hy
        rcases (both_memI _ _ y).1 hy with h | h
        · exact ZA.out y h
        · exact ZB.out y (List.mem_of_mem_take h)
      have LA : Hid (AscL l) := by show AscL l; rw [el]; exact both_asc _ _ ASC.out
      rw [← el] at hrow HT
      clear el
      go_wp2_with fail
      refine (clones_any x _ hx).mono ?_
      rintro e u1 ⟨rfl, hbu⟩
      have BU : Hid (Below w.heap.size w u1) := hbel.out.trans (hbu.mono hsz)
      have RU : Hid (Row u1 w.heap.size 9 1 eS _ l) := Row.below hrow.out hbu
      clear hbu
      have hat := flatS.row_at RU.out (S := fun q => w.heap.size ≤ q ∧ q < u1.heap.size) (fun q hq => World.ownsRow.lt RU.out q hq) (fun y hy => Nat.le_trans (HLS.out y hy) (by decide))
      have C : Hid _ := ordS_any (fun q => w.heap.size ≤ q ∧ q < u1.heap.size) w.heap.size l.length _ (enc 1 eS l) l x u1 RU.out hat rfl (fun q hq => hq.2) (by omega) BU.out.size (flatS.enc_one l) (asc_mono LA.out x)
      clear hat
      go_wp2_with fail
      refine Calls.mono C.out ?_
      rintro e u2 ⟨kk, hkk, hlo, hge, v', rfl, hcase⟩
      have NEW : Hid (Row u2 w.heap.size 9 1 eS v' (insR l x) ∧ Below w.heap.size w u2) := by
        rcases hcase with ⟨⟨h, heq⟩, rfl, hb2⟩ | ⟨hne, hown, hgr, _⟩
        · refine ⟨?_, BU.out.trans (hb2.mono BU.out.size)⟩
          rw [insR_eq l kk x h (fun j hj => by rw [nth_is (by omega)]; exact hlo j (by omega) hj) (by rw [nth_is h]; exact heq)]
          exact Row.below RU.out hb2
        · refine ⟨?_, BU.out.grown hgr BU.out.size (fun p hp => (World.ownsRow.lt RU.out p hp).1)⟩
          rw [insR_new l kk x hkk (fun j hj => by rw [nth_is (by omega)]; exact hlo j (by omega) hj) (fun h => ⟨by rw [nth_is h]; exact hge kk h (Nat.le_refl _), by rw [nth_is h]; exact hne h⟩)]
          show World.ownsRow _ _ _ _ _ _ _
          rw [List.length_append, List.length_append, List.length_take, List.length_drop, enc_append, enc_append, ← enc_take, ← enc_drop]
          have e : min kk l.length + [x].length + (l.length - kk) = l.length + 1 := by simp; omega
          rw [e]
          exact hown
      clear hcase hlo hge hkk C RU BU
      obtain ⟨o', c', hv⟩ := Row.form NEW.out.1
      subst hv
      go_wp2_with fail
      go_roundw
      case rel => exact ⟨k + 1, by omega, by go_num, by show Row _ _ _ _ _ _ _; rw [HT.out]; exact NEW.out.1, NEW.out.2⟩
      case measure => simp [intOf]; omega
    · obtain rfl : n = k := by omega
      have htk : Hid (b.take n = b) := by show _ = _; rw [List.take_of_length_le (by have := EN.out; omega)]
      go_wp2_with fail
      go_ret
      refine ⟨_, rfl, ?_, hbel.out⟩
      have := hrow.out
      rw [htk.out] at this
      exact this
end Go.Proofs.YtobchllaopdchacGreat

namespace Go.Proofs.YtobchllaopdchacGreat
open Go.RowKit Go.MapKept
open Go.ChangeMaps (setBlock heap_setBlock_same heap_setBlock_other)
open Go.WideMaps (KeyLaw)
theorem lawStrV : KeyLaw Tryz.prog 9 := Go.WideMaps.string_law Tryz.underlying9
theorem zeroSl (w : World) : (zeroValue 142).run Tryz.prog w = .ok (.agg #[.string ByteArray.empty, .string ByteArray.empty]) w := by kernel_rfl
theorem fieldSl (a t : ByteArray) (w : World) : (Instr.field 142 (.agg #[.string a, .string t]) 1).run Tryz.prog w = .ok (.string t) w := by kernel_rfl
theorem keyOf_sV {x : ByteArray} (hx : x.size ≤ maxLen) : ∃ l, keyOf Tryz.prog 9 (.string x) = some l := by
  refine ⟨.string x.data.toList, ?_⟩
  simp [keyOf, mapKey, Tryz.underlying9, hx]
def Mr (w : World) (b : Nat) (M : ByteArray → Option ByteArray) : Prop :=
  ∃ es clock, w.heap[b]? = some (.map es clock) ∧ Stamped es clock ∧
    (∀ e ∈ es.toList, ∃ x k, e.key = .string x ∧ x.size ≤ maxLen ∧ M x = some k ∧ e.val = .agg #[.string x, .string k]) ∧
    (∀ x, (∀ e ∈ es.toList, e.key ≠ .string x) → M x = none)
theorem Mr.made (w : World) : Mr (w.alloc (.map #[] 0)) w.heap.size (fun _ => none) :=
  ⟨#[], 0, (MapKept.heap_alloc w _).1, stamped_empty 0, by simp, fun _ _ => rfl⟩
theorem Mr.lt {w : World} {b : Nat} {M : ByteArray → Option ByteArray} (h : Mr w b M) : b < w.heap.size := by
  obtain ⟨es, clock, hb, _⟩ := h
  exact (Array.getElem?_eq_some_iff.1 hb).1
theorem Mr.of_block {w w' : World} {b : Nat} {M : ByteArray → Option ByteArray} (h : Mr w b M) (hb : w'.heap[b]? = w.heap[b]?) : Mr w' b M := by
  obtain ⟨es, clock, h1, h2⟩ := h
  exact ⟨es, clock, hb.trans h1, h2⟩
theorem Mr.below {w w' : World} {b B : Nat} {M : ByteArray → Option ByteArray} (h : Mr w b M) (hb : Below B w w') (hB : b < B) : Mr w' b M :=
  h.of_block (hb.block b hB)
theorem Mr.same {w : World} {b : Nat} {M M' : ByteArray → Option ByteArray} (h : Mr w b M) (e : ∀ x, M' x = M x) : Mr w b M' := by
  have : M' = M := funext e
  rw [this]; exact h
theorem str_injV {x y : ByteArray} (h : (Value.string x) = .string y) : x = y := by simpa using h
def kyA (M : ByteArray → Option ByteArray) (x : ByteArray) : ByteArray := match M x with | some _ => x | none => ByteArray.empty
def kyT (M : ByteArray → Option ByteArray) (x : ByteArray) : ByteArray := match M x with | some t => t | none => ByteArray.empty
theorem Mr.look {w : World} {b : Nat} {M : ByteArray → Option ByteArray} (h : Mr w b M) {x : ByteArray} (hx : x.size ≤ maxLen) :
    (Instr.lookup 181 (.map (some b)) (.string x) false).run Tryz.prog w = .ok (.agg #[.string (kyA M x), .string (kyT M x)]) w := by
  obtain ⟨es, clock, hb, hs, hr, hz⟩ := h
  obtain ⟨l, hkey⟩ := keyOf_sV hx
  rcases lawStrV.find w hkey es.toList (fun e he => by obtain ⟨p, q, h1, h2, h3, _⟩ := hr e he; rw [h1]; exact keyOf_sV h2) with ⟨h1, h2⟩ | ⟨j, e0, h1, h2, h3⟩
  · have hk := hz x h2
    simp [Instr.lookup, run_underlying Tryz.underlying181, MapKept.run_getObj_map hb, lawStrV.check w _ hkey, h1, zeroSl w, Result.andThen, kyA, kyT, hk]
  · obtain ⟨p, q, k1, _, k3, k4⟩ := hr e0 (List.mem_of_getElem? h2)
    obtain rfl := str_injV (k1.symm.trans h3)
    simp [Instr.lookup, run_underlying Tryz.underlying181, MapKept.run_getObj_map hb, lawStrV.check w _ hkey, h1, k4, Result.andThen, kyA, kyT, k3]
def putMV (M : ByteArray → Option ByteArray) (x : ByteArray) (n : ByteArray) (p : ByteArray) : Option ByteArray := if p = x then some n else M p
theorem Mr.put {w : World} {b : Nat} {M : ByteArray → Option ByteArray} (h : Mr w b M) {x : ByteArray} (hx : x.size ≤ maxLen) (hk : M x = none) (n : ByteArray) :
    ∃ w', (Instr.mapUpdate 181 (.map (some b)) (.string x) (.agg #[.string x, .string n])).run Tryz.prog w = .ok () w' ∧ Mr w' b (putMV M x n) ∧ w.grownBy w' (some b) := by
  obtain ⟨es, clock, hb, hs, hr, hz⟩ := h
  obtain ⟨l, hkey⟩ := keyOf_sV hx
  rcases lawStrV.find w hkey es.toList (fun e he => by obtain ⟨p, q, h1, h2, h3, _⟩ := hr e he; rw [h1]; exact keyOf_sV h2) with ⟨h1, h2⟩ | ⟨j, e0, h1, h2, h3⟩
  · have hpush : (es.push ⟨.string x, .agg #[.string x, .string n], clock⟩).toList = es.toList ++ [⟨.string x, .agg #[.string x, .string n], clock⟩] := Array.toList_push
    refine ⟨setBlock w b (.map (es.push ⟨.string x, .agg #[.string x, .string n], clock⟩) (clock + 1)), ?_, ⟨_, _, heap_setBlock_same hb _, stamped_push hs h2, ?_, ?_⟩, ⟨rfl, rfl, rfl, by simp [setBlock], fun i _ hi => heap_setBlock_other hb _ (fun e => hi (by rw [e]))⟩⟩
    · simp [Instr.mapUpdate, run_underlying Tryz.underlying181, MapKept.run_getObj_map hb, lawStrV.check w false hkey, h1, MapKept.run_setObj_map _ hb, Result.andThen, setBlock]
    · intro e he
      rw [hpush] at he
      rcases List.mem_append.1 he with he | he
      · obtain ⟨p, q, k1, k2, k3, k4⟩ := hr e he
        have hne : p ≠ x := fun e1 => h2 e he (by rw [k1, e1])
        exact ⟨p, q, k1, k2, by rw [putMV, if_neg hne]; exact k3, k4⟩
      · simp only [List.mem_singleton] at he
        subst he
        exact ⟨x, n, rfl, hx, by rw [putMV, if_pos rfl], rfl⟩
    · intro p hne
      have hn : p ≠ x := fun e1 => hne ⟨.string x, .agg #[.string x, .string n], clock⟩ (by rw [hpush]; simp) (by rw [e1])
      rw [putMV, if_neg hn]
      exact hz p (fun e he => hne e (by rw [hpush]; exact List.mem_append.2 (Or.inl he)))
  · obtain ⟨p, q, k1, _, k3, k4⟩ := hr e0 (List.mem_of_getElem? h2)
    obtain rfl := str_injV (k1.symm.trans h3)
    rw [hk] at k3
    cases k3
def thO : List DRunSlot → ByteArray → Option ByteArray
  | [], _ => none
  | s :: l, x => if s.1 = x then some s.2 else thO l x
def thT (l : List DRunSlot) (x : ByteArray) : ByteArray := kyT (thO l) x
theorem thO_none : ∀ {l : List DRunSlot} {x : ByteArray}, (∀ s ∈ l, s.1 ≠ x) → thO l x = none
  | [], _, _ => rfl
  | s :: l, x, h => by
    unfold thO
    rw [if_neg (h s (List.mem_cons_self ..))]
    exact thO_none fun t ht => h t (List.mem_cons_of_mem _ ht)
theorem thO_snoc : ∀ (l : List DRunSlot) (s : DRunSlot), (∀ t ∈ l, t.1 ≠ s.1) → ∀ p, thO (l ++ [s]) p = putMV (thO l) s.1 s.2 p
  | [], s, _, p => by
    show (if s.1 = p then some s.2 else none) = (if p = s.1 then some s.2 else none)
    by_cases h : s.1 = p
    · rw [if_pos h, if_pos h.symm]
    · rw [if_neg h, if_neg (fun e => h e.symm)]
  | t :: l, s, h, p => by
    have ih := thO_snoc l s (fun q hq => h q (List.mem_cons_of_mem _ hq)) p
    have hne := h t (List.mem_cons_self ..)
    show (if t.1 = p then some t.2 else thO (l ++ [s]) p) = (if p = s.1 then some s.2 else if t.1 = p then some t.2 else thO l p)
    rw [ih]
    by_cases h1 : t.1 = p
    · rw [if_pos h1, if_neg (fun e => hne (h1.trans e)), if_pos h1]
    · rw [if_neg h1, if_neg h1]; rfl
theorem nodup_ne {l : List DRunSlot} (hd : (l.map (·.1)).Nodup) {i q : Nat} (hq : q < l.length) (hi : i < q) : (l[i]'(by omega)).1 ≠ l[q].1 := fun e => by
  have h := (List.pairwise_iff_getElem.1 hd) i q (by simp; omega) (by simpa using hq) hi
  simp [e] at h
theorem thO_at {l : List DRunSlot} (hd : (l.map (·.1)).Nodup) {i : Nat} (hi : i < l.length) : thO l l[i].1 = some l[i].2 := by
  induction l generalizing i with
  | nil => exact absurd hi (Nat.not_lt_zero _)
  | cons s l ih =>
    rw [List.map_cons, List.nodup_cons] at hd
    cases i with
    | zero => show (if s.1 = s.1 then some s.2 else _) = _; rw [if_pos rfl]; rfl
    | succ i =>
      have hi' : i < l.length := by simpa using hi
      have hne : s.1 ≠ l[i].1 := fun e => hd.1 (by rw [e]; exact List.mem_map.2 ⟨_, List.getElem_mem hi', rfl⟩)
      show (if s.1 = l[i].1 then some s.2 else thO l l[i].1) = some l[i].2
      rw [if_neg hne]
      exact ih hd.2 hi'
theorem thT_at {l : List DRunSlot} (hd : (l.map (·.1)).Nodup) {i : Nat} (hi : i < l.length) : thT l l[i].1 = l[i].2 := by
  unfold thT kyT; rw [thO_at hd hi]
theorem thO_mem : ∀ {l : List DRunSlot} {x t : ByteArray}, thO l x = some t → ∃ s ∈ l, s.2 = t
  | [], _, _, h => by cases h
  | s :: l, x, t, h => by
    unfold thO at h
    by_cases e : s.1 = x
    · rw [if_pos e] at h; exact ⟨s, List.mem_cons_self .., by simpa using h⟩
    · rw [if_neg e] at h
      obtain ⟨q, hq, hq2⟩ := thO_mem h
      exact ⟨q, List.mem_cons_of_mem _ hq, hq2⟩
theorem thT_size {l : List DRunSlot} {m : Nat} (h : ∀ s ∈ l, s.2.size ≤ m) (x : ByteArray) : (thT l x).size ≤ m := by
  unfold thT kyT
  cases e : thO l x with
  | none => exact Nat.zero_le _
  | some t => obtain ⟨s, hs, h2⟩ := thO_mem e; rw [← h2]; exact h s hs
theorem atl_nilV {α : Type} [Lay α] {S : Nat → Prop} (w : World) : AtL S w ([] : List α) (.slice none 0 0) :=
  ⟨none, 0, rfl, ⟨Nat.zero_le _, Nat.le_refl _, fun _ => rfl⟩, fun _ hi => absurd hi (Nat.not_lt_zero _)⟩
set_option maxRecDepth 100000 in
set_option maxHeartbeats 4000000 in
theorem slotThings_any (S : Nat → Prop) (sl : List DRunSlot) (nm at_ : ByteArray) (v1 v2 : Value) (si st : Int) (w : World) (h : AtL S w sl v2) (hS : ∀ b, S b → b < w.heap.size) (hd : (sl.map (·.1)).Nodup) (hv : ∃ o n k, v1 = .slice o n k) :
    Calls Tryz.prog 146 #[.agg #[.string nm, v1, v2, .string at_, .int .i64 si, .int .i64 st]] w fun e w' => ∃ m, e = .returned (.map (some m)) ∧ w.heap.size ≤ m ∧ Mr w' m (thO sl) ∧ Below w.heap.size w w' := by
  obtain ⟨o1, n1, k1, rfl⟩ := hv
  obtain ⟨oa, kb, rfl, hfit, hc⟩ := id h
  have HC : Hid _ := hc
  have HD : Hid ((sl.map (·.1)).Nodup) := hd
  have HS : Hid _ := lt_up hS
  obtain ⟨nb, enb⟩ : ∃ n, sl.length = n := ⟨_, rfl⟩
  have ENB : Hid (sl.length ≤ nb ∧ nb ≤ sl.length) := ⟨by omega, by omega⟩
  rw [enb]
  have hmx : nb ≤ maxLen := by rw [← enb]; exact hfit.1
  unfold maxLen at hmx
  clear h hc hfit enb hd
  obtain ⟨W, hW⟩ : ∃ W, W = w.alloc (.cells #[.string nm, .slice o1 n1 k1, .slice oa nb kb, .string at_, .int .i64 si, .int .i64 st] 49) := ⟨_, rfl⟩
  have EW : Hid (W = w.alloc (.cells #[.string nm, .slice o1 n1 k1, .slice oa nb kb, .string at_, .int .i64 si, .int .i64 st] 49)) := hW
  have BW : Hid (Below w.heap.size w W) := by rw [hW]; exact (Below.refl _ _).alloc (Nat.le_refl _) _
  have sW : w.heap.size + 1 ≤ W.heap.size := by rw [hW]; simp
  have y1 := fun o => cell_past (show W.cell? ⟨w.heap.size, 2, none⟩ = some (.slice oa nb kb) by rw [hW]; exact box_at _ _ (Below.refl _ _) 2 _ rfl) (by omega) o
  obtain ⟨m, hm⟩ : ∃ m, m = W.heap.size := ⟨_, rfl⟩
  have EM : Hid (m = W.heap.size) := hm
  have hmw : w.heap.size ≤ m := by omega
  clear hW hm
  have hmm := @run_makeMap Tryz.prog
  go_enter Tryz.func146, Tryz.ntmps146
  go_upto_region 1 with fail
  rw [← EW.out]
  go_wp2_with fail
  rw [← EM.out]
  clear y1
  go_loopw [10] (fun i wr => ∃ q : Nat, q ≤ nb ∧ i = .int .i64 q ∧ Hid (Mr wr m (thO (sl.take q))) ∧ Hid (Below w.heap.size w wr)) (fun i _ => nb - (intOf i).toNat)
  case atStart =>
    refine ⟨0, Nat.zero_le _, rfl, ?_, BW.out.alloc (by omega) _⟩
    show Mr _ _ _
    rw [EM.out]
    exact (Mr.made W).same (fun x => rfl)
  case round =>
    obtain ⟨q, hq, rfl, hmp, hbel⟩ := hrel
    by_cases hlt : q < nb
    case neg =>
      have HT : Hid (sl.take q = sl) := by show _ = _; rw [List.take_of_length_le (by have := ENB.out; omega)]
      go_wp2_with fail
      go_ret
      refine ⟨m, rfl, hmw, ?_, hbel.out⟩
      have := hmp.out
      rw [HT.out] at this
      exact this
    have hqb : q < sl.length := by have := ENB.out; omega
    obtain ⟨bb, off, rfl, hbS, cc, hcell, hat⟩ := HC.out q hqb
    have hbb := HS.out w (Below.refl _ _) bb hbS
    rw [width_DRunSlot] at hcell
    have HT : Hid (∀ p, thO (sl.take (q + 1)) p = putMV (thO (sl.take q)) sl[q].1 sl[q].2 p) := by
      intro p
      rw [List.take_add_one, List.getElem?_eq_getElem hqb]
      refine thO_snoc _ _ (fun t ht e => ?_) p
      obtain ⟨i, hi, ei⟩ := List.getElem_of_mem ht
      have hiq : i < q := by rw [List.length_take] at hi; omega
      rw [List.getElem_take] at ei
      exact nodup_ne HD.out hqb hiq (by rw [ei]; exact e)
    have HN : Hid (thO (sl.take q) sl[q].1 = none) := by
      refine thO_none (fun t ht e => ?_)
      obtain ⟨i, hi, ei⟩ := List.getElem_of_mem ht
      have hiq : i < q := by rw [List.length_take] at hi; omega
      rw [List.getElem_take] at ei
      exact nodup_ne HD.out hqb hiq (by rw [ei]; exact e)
    obtain ⟨f, ef⟩ : ∃ f, sl[q] = f := ⟨_, rfl⟩
    rw [at_DRunSlot, ef] at hat
    rw [ef] at HT HN
    obtain ⟨x, t⟩ := f
    obtain ⟨⟨t0, z0⟩, t1, z1⟩ := hat
    simp only at t0 z0 t1 z1 HT HN
    have e0 : wr.cell? ⟨bb, off + q * 2, none⟩ = some (.string x) := (hbel.out.cell (p := ⟨bb, off + q * 2, none⟩) hbb).trans ((by have hq := hcell 0 (by omega); first | exact hq | simpa using hq : w.cell? ⟨bb, off + q * 2, none⟩ = some (cc 0)).trans (by rw [t0]))
    have e1 : wr.cell? ⟨bb, off + q * 2 + 1, none⟩ = some (.string t) := (hbel.out.cell (p := ⟨bb, off + q * 2 + 1, none⟩) hbb).trans ((hcell 1 (by omega)).trans (by rw [t1]))
    clear hcell t0 t1 ef
    obtain ⟨X, hX⟩ : ∃ X, X = wr.alloc (.cells #[.string x, .string t] 142) := ⟨_, rfl⟩
    have EX : Hid (X = wr.alloc (.cells #[.string x, .string t] 142)) := hX
    have sw := hbel.out.size
    have BX : Hid (Below w.heap.size w X) := by rw [hX]; exact hbel.out.alloc (by omega) _
    have MX : Hid (Mr X m (thO (sl.take q))) := by
      show Mr _ _ _
      rw [hX]; exact hmp.out.of_block (Below.heap_alloc wr _ _ hmp.out.lt)
    have r0 : X.cell? ⟨wr.heap.size, 0, none⟩ = some (.string x) := by rw [hX]; exact box_at _ _ (Below.refl _ _) 0 _ rfl
    have r1 : X.cell? ⟨wr.heap.size, 1, none⟩ = some (.string t) := by rw [hX]; exact box_at _ _ (Below.refl _ _) 1 _ rfl
    have hXs : wr.heap.size < X.heap.size := by rw [hX]; simp
    clear hX
    obtain ⟨u, hu, hMu, hg⟩ := MX.out.put z0 HN.out t
    have HU : Hid (Mr u m (thO (sl.take (q + 1)))) := hMu.same HT.out
    have BU : Hid (Below w.heap.size w u) := BX.out.grown hg (by have := BX.out.size; omega) (fun i hi => by cases hi; omega)
    clear hMu hg
    go_upto_region 5 with fail
    rw [← EX.out]
    go_wp2_with fail
    go_roundw
    case rel => exact ⟨q + 1, by omega, by go_num, HU, BU⟩
    case measure => simp [intOf]; omega
set_option maxRecDepth 100000 in
set_option maxHeartbeats 4000000 in
theorem things_any (S : Nat → Prop) (sl : List DRunSlot) (l : List ByteArray) (v : Value) (m : Nat) (w : World) (h : AtL S w l v) (hS : ∀ b, S b → b < w.heap.size) (hm : Mr w m (thO sl)) (hl : l.length ≤ 100000) (hs : ∀ s ∈ sl, s.2.size ≤ 1048576) :
    Calls Tryz.prog 147 #[.map (some m), v] w fun e w' => ∃ q, e = .returned q ∧ Row w' w.heap.size 9 1 eS q (bothL [] (l.map (thT sl))) ∧ Below w.heap.size w w' := by
  obtain ⟨oa, cap, rfl, hn, hc⟩ := h
  have HC : Hid (∀ i (h : i < l.length), ∃ b off, oa = some ⟨b, off, none⟩ ∧ S b ∧ w.cell? ⟨b, off + i, none⟩ = some (.string l[i]) ∧ l[i].size ≤ maxLen) := fun i hi => by
    obtain ⟨b, off, h1, h2, c, h3, h4⟩ := hc i hi
    have e0 := h3 0 (by decide)
    rw [h4.1] at e0
    exact ⟨b, off, h1, h2, by simpa [width_str] using e0, h4.2⟩
  have HS : Hid (∀ x, (thT sl x).size ≤ 1048576) := thT_size hs
  have HM : Hid (Mr w m (thO sl)) := hm
  have hml := hm.lt
  clear hc hn hs hm
  obtain ⟨n, en⟩ : ∃ n, l.length = n := ⟨_, rfl⟩
  rw [en] at hl
  rw [en]
  have EN : Hid (l.length = n) := en
  clear en
  go_enter Tryz.func147, Tryz.ntmps147
  go_wp2
  go_loopw [5, 10] (fun r i wr => ∃ k : Nat, k ≤ n ∧ i = .int .i64 k ∧ Hid (Row wr w.heap.size 9 1 eS r ((l.take k).map (thT sl))) ∧ Hid (Below w.heap.size w wr)) (fun _ i _ => n - (intOf i).toNat)
  case atStart => exact ⟨0, Nat.zero_le _, rfl, by simpa [Hid] using Row.nil w w.heap.size 9 1 eS, Below.refl _ _⟩
  case round =>
    obtain ⟨k, hk, rfl, hrow, hbel⟩ := hrel
    have hsz := hbel.out.size
    by_cases hlt : k < n
    · obtain ⟨b, off, rfl, hbS, c0, hx⟩ := HC.out k (by have := EN.out; omega)
      have e0 := (hbel.out.cell (p := ⟨b, off + k, none⟩) (hS b hbS)).trans c0
      clear c0
      have htk : Hid ((l.take (k + 1)).map (thT sl) = (l.take k).map (thT sl) ++ [thT sl (l[k]'(by have := EN.out; omega))]) := by
        show _ = _
        rw [List.take_add_one, List.getElem?_eq_getElem (show k < l.length by have := EN.out; omega), List.map_append]; rfl
      obtain ⟨x, ex⟩ : ∃ x, l[k]'(by have := EN.out; omega) = x := ⟨_, rfl⟩
      rw [ex] at e0 hx htk
      clear ex
      have hlk : ((l.take k).map (thT sl)).length = k := by rw [List.length_map, List.length_take]; have := EN.out; omega
      have l0 := (HM.out.below hbel.out hml).look hx
      have ht0 : Hid (kyT (thO sl) x = thT sl x) := rfl
      rw [ht0.out] at l0
      obtain ⟨t, et⟩ : ∃ t, thT sl x = t := ⟨_, rfl⟩
      rw [et] at l0 htk
      clear et ht0
      obtain ⟨a, ea⟩ : ∃ a, kyA (thO sl) x = a := ⟨_, rfl⟩
      rw [ea] at l0
      clear ea
      have l1 := fieldSl a t wr
      have hsr : Hid (Src (wr.alloc (.cells #[.string t] 9)) (.slice (some ⟨wr.heap.size, 0, none⟩) 1 1) 1 1 (enc 1 eS [t])) := ⟨rfl, .inr ⟨_, _, rfl, by exact cell_one_new _ _ _⟩⟩
      go_wp2_with (first
        | (at_builtin; refine wpList_app elS rfl _ _ rfl rfl rfl (hrow.out.alloc _) hsr.out (flatS.enc_one _) (by unfold maxLen; omega) (by omega) (by simp; omega) ?_; intro v' w3 hown hg hbk))
      go_roundw
      case rel =>
        refine ⟨k + 1, by omega, by go_num, ?_, ((hbel.out.alloc (by omega) _).grown hg (by simp; omega) (fun p hp => (World.ownsRow.lt hrow.out p hp).1))⟩
        show Row _ _ _ _ _ _ _
        rw [htk.out]
        show World.ownsRow _ _ _ _ _ _ _
        rw [List.length_append, enc_append]
        exact hown
      case measure => simp [intOf]; omega
    · obtain rfl : n = k := by omega
      have htk : Hid (l.take n = l) := by show _ = _; rw [List.take_of_length_le (by have := EN.out; omega)]
      have hlen : (l.map (thT sl)).length = n := by rw [List.length_map]; exact EN.out
      have row := hrow.out
      rw [htk.out] at row
      have ROW : Hid (Row wr w.heap.size 9 1 eS _ (l.map (thT sl))) := row
      clear row hrow
      obtain ⟨o, c, hf⟩ := Row.form ROW.out
      rw [hlen] at hf
      subst hf
      have hat := flatS.row_at ROW.out (S := fun q => w.heap.size ≤ q ∧ q < wr.heap.size) (fun q hq => World.ownsRow.lt ROW.out q hq) (fun y hy => by obtain ⟨z, _, rfl⟩ := List.mem_map.1 hy; exact Nat.le_trans (HS.out z) (by decide))
      have C : Hid _ := together_any (fun _ => False) (fun q => w.heap.size ≤ q ∧ q < wr.heap.size) [] (l.map (thT sl)) (.slice none 0 0) _ wr (atl_nilV _) hat (fun q hq => hq.elim) (fun q hq => hq.2) List.Pairwise.nil (by simp) (by rw [hlen]; omega) (fun x hx => by cases hx) (fun y hy => by obtain ⟨z, _, rfl⟩ := List.mem_map.1 hy; exact HS.out z)
      clear hat hlen
      go_wp2_with fail
      refine Calls.mono C.out ?_
      rintro e u ⟨q, rfl, hr, hb⟩
      have HR : Hid (Row u w.heap.size 9 1 eS q (bothL [] (l.map (thT sl)))) := hr.low hsz
      have HB : Hid (Below w.heap.size w u) := hbel.out.trans (hb.mono hsz)
      clear hr hb
      go_wp2_with fail
      go_ret
      exact ⟨_, rfl, HR.out, HB.out⟩
end Go.Proofs.YtobchllaopdchacGreat

namespace Go.Proofs.YtobchllaopdchacGreat
open Go.RowKit
open Go.Sort in
set_option maxRecDepth 100000 in
set_option maxHeartbeats 4000000 in
theorem insX_any (base g cap : Nat) (l : List ByteArray) (x : ByteArray) (w : World) (h : w.ownsRow base 9 1 (.slice (some ⟨g, 0, none⟩) l.length cap) l.length (l.map .string)) (hl : l.length ≤ 1048576) (hbase : base ≤ w.heap.size) :
    Calls Tryz.prog 135 #[.slice (some ⟨g, 0, none⟩) l.length cap, .string x] w fun e w' => ∃ g' cap', e = .returned (.slice (some ⟨g', 0, none⟩) (insR l x).length cap') ∧ w'.ownsRow base 9 1 (.slice (some ⟨g', 0, none⟩) (insR l x).length cap') (insR l x).length ((insR l x).map .string) ∧ Below w.heap.size w w' := by
  have HO : Hid _ := h
  obtain ⟨hcap, hc⟩ := own_cells h
  have HC : Hid (∀ i, i < l.length → w.cell? ⟨g, i, none⟩ = some (.string (nthB l i))) := hc
  clear h hc
  generalize hn : l.length = n at *
  have HN : Hid (l.length = n) := hn
  clear hn
  go_enter Tryz.func135, Tryz.ntmps135
  go_wp2
  go_loop [5] (fun i => ∃ k : Nat, k ≤ n ∧ i = .int .i64 k ∧ Hid (∀ j, j < k → ltB (nthB l j) x = true)) (fun i => n - (intOf i).toNat)
  case atStart => exact ⟨0, Nat.zero_le _, rfl, fun _ h => by omega⟩
  case round =>
    obtain ⟨k, hk, rfl, hall⟩ := hrel
    have NEW : Hid ((k < n → ltB (nthB l k) x = false ∧ eqB (nthB l k) x = false) → insR l x = l.take k ++ [x] ++ l.drop k) := fun h => insR_new l k x (by rw [HN.out]; exact hk) hall.out (by rw [HN.out]; exact h)
    by_cases hlt : k < n
    · have e0 := HC.out k hlt
      cases h1 : Op.bytesLess (nthB l k).toList x.toList
      · cases h2 : ((nthB l k).toList == x.toList)
        · have E : Hid (insR l x = l.take k ++ [x] ++ l.drop k) := NEW.out (fun _ => ⟨h1, h2⟩)
          have hkc : (k : Int) ≤ (cap : Int) := by omega
          have hkn : (k : Int) ≤ (n : Int) := by omega
          go_wp2_with fail
          refine wp_region_mix 12 [1, 2, 3, 5, 8, 9, 10] (by kernel_rfl) (by kernel_rfl) ?_
          simp only [List.filterMap_cons, List.filterMap_nil, List.getElem?_cons_succ, List.getElem?_cons_zero]
          repeat (first | go_big_quiet_step (fail) | quiet_step (fail))
          refine wpQuiet_nil ?_
          refine ins3 (md := .any) (i0 := 0) (i1 := 4) (i2 := 6) (i3 := 7) (i4 := 11) (d0 := 33) (d1 := 37) (d2 := 39) (d3 := 40) (d4 := 44) (k1 := 36) (k2 := 43) (kx := 38) (X := .string x) (t := 22) (e := 9)
            ⟨_, _, _, _, _, ⟨rfl, rfl, rfl, by decide⟩, ⟨rfl, rfl, rfl, by decide⟩, ⟨rfl, rfl, rfl, by decide⟩, ⟨rfl, rfl, rfl, by decide⟩, ⟨rfl, rfl, rfl, by decide⟩, rfl, rfl, rfl, ?run0, ?run2, by decide, by decide, by kernel_rfl, by kernel_rfl, by kernel_rfl, by kernel_rfl, by kernel_rfl, by kernel_rfl, by kernel_rfl⟩
            elSX (W := w) ⟨by simp, by simp, by simp, by simp, by simp⟩ rfl rfl rfl (src_take HN.out hk HC.out) (src_drop HN.out hk hcap HC.out) rfl ?u1 ?u2 ?ux (by omega) (by unfold maxLen; omega) ?K
          case run0 => intro bb ww; go_simp
          case run2 =>
            intro bb hx ww
            have hx' : bb.tmps[38]?.getD undef = .string x := by simpa [Act.eval] using hx
            clear hx
            go_simp
          case u1 => intro v hv; obtain ⟨_, _, rfl⟩ := List.mem_map.1 hv; rfl
          case u2 => intro v hv; obtain ⟨_, _, rfl⟩ := List.mem_map.1 hv; rfl
          case ux => intro v hv; simp [Value.cells] at hv; subst hv; rfl
          case K =>
            intro r0 r1 r2 r3 r4 w4 hown hb4
            refine ⟨by kernel_rfl, ?_⟩
            simp only [List.drop_succ_cons, List.drop_zero]
            have hnk : k + 1 + (n - k) = (insR l x).length := by rw [E.out]; have := HN.out; simp; omega
            have hcs : (l.take k).map Value.string ++ (Value.string x).cells.toList ++ (l.drop k).map Value.string = (insR l x).map .string := by rw [E.out]; simp [Value.cells]
            rw [hnk, hcs] at hown
            have HOW : Hid (w4.ownsRow w.heap.size 9 1 r4 (insR l x).length ((insR l x).map .string)) := hown
            have HPOS : Hid (0 < (insR l x).length) := by show 0 < _; omega
            clear hown hcs hnk
            simp only [Act.put, List.setIfInBounds_toArray, List.set_cons_zero, List.set_cons_succ]
            go_wp2_with fail
            all_goals
              go_ret
              rcases HOW.out.2 with ⟨_, e⟩ | ⟨g', cap', cur, rfl, hbg, rest⟩
              · have := HPOS.out; omega
              · exact ⟨g', cap', rfl, ⟨HOW.out.1, .inr ⟨g', cap', cur, rfl, by omega, rest⟩⟩, hb4⟩
        · have E : Hid (insR l x = l) := insR_eq l k x (by rw [HN.out]; exact hlt) hall.out h2
          go_wp2_with fail
          go_ret
          rw [E.out, HN.out]
          exact ⟨g, cap, rfl, HO.out, Below.refl _ _⟩
      · go_wp2_with fail
        go_round
        case rel => exact ⟨k + 1, by omega, by go_num, fun j hj => by
          by_cases e : j = k
          · subst e; exact h1
          · exact hall.out j (by omega)⟩
        case measure => simp [intOf]; omega
    · have E : Hid (insR l x = l.take k ++ [x] ++ l.drop k) := NEW.out (fun h => absurd h hlt)
      have hkc : (k : Int) ≤ (cap : Int) := by omega
      have hkn : (k : Int) ≤ (n : Int) := by omega
      go_wp2_with fail
      refine wp_region_mix 12 [1, 2, 3, 5, 8, 9, 10] (by kernel_rfl) (by kernel_rfl) ?_
      simp only [List.filterMap_cons, List.filterMap_nil, List.getElem?_cons_succ, List.getElem?_cons_zero]
      repeat (first | go_big_quiet_step (fail) | quiet_step (fail))
      refine wpQuiet_nil ?_
      refine ins3 (md := .any) (i0 := 0) (i1 := 4) (i2 := 6) (i3 := 7) (i4 := 11) (d0 := 33) (d1 := 37) (d2 := 39) (d3 := 40) (d4 := 44) (k1 := 36) (k2 := 43) (kx := 38) (X := .string x) (t := 22) (e := 9)
        ⟨_, _, _, _, _, ⟨rfl, rfl, rfl, by decide⟩, ⟨rfl, rfl, rfl, by decide⟩, ⟨rfl, rfl, rfl, by decide⟩, ⟨rfl, rfl, rfl, by decide⟩, ⟨rfl, rfl, rfl, by decide⟩, rfl, rfl, rfl, ?run0, ?run2, by decide, by decide, by kernel_rfl, by kernel_rfl, by kernel_rfl, by kernel_rfl, by kernel_rfl, by kernel_rfl, by kernel_rfl⟩
        elSX (W := w) ⟨by simp, by simp, by simp, by simp, by simp⟩ rfl rfl rfl (src_take HN.out hk HC.out) (src_drop HN.out hk hcap HC.out) rfl ?u1 ?u2 ?ux (by omega) (by unfold maxLen; omega) ?K
      case run0 => intro bb ww; go_simp
      case run2 =>
        intro bb hx ww
        have hx' : bb.tmps[38]?.getD undef = .string x := by simpa [Act.eval] using hx
        clear hx
        go_simp
      case u1 => intro v hv; obtain ⟨_, _, rfl⟩ := List.mem_map.1 hv; rfl
      case u2 => intro v hv; obtain ⟨_, _, rfl⟩ := List.mem_map.1 hv; rfl
      case ux => intro v hv; simp [Value.cells] at hv; subst hv; rfl
      case K =>
        intro r0 r1 r2 r3 r4 w4 hown hb4
        refine ⟨by kernel_rfl, ?_⟩
        simp only [List.drop_succ_cons, List.drop_zero]
        have hnk : k + 1 + (n - k) = (insR l x).length := by rw [E.out]; have := HN.out; simp; omega
        have hcs : (l.take k).map Value.string ++ (Value.string x).cells.toList ++ (l.drop k).map Value.string = (insR l x).map .string := by rw [E.out]; simp [Value.cells]
        rw [hnk, hcs] at hown
        have HOW : Hid (w4.ownsRow w.heap.size 9 1 r4 (insR l x).length ((insR l x).map .string)) := hown
        have HPOS : Hid (0 < (insR l x).length) := by show 0 < _; omega
        clear hown hcs hnk
        simp only [Act.put, List.setIfInBounds_toArray, List.set_cons_zero, List.set_cons_succ]
        go_wp2_with fail
        all_goals
          go_ret
          rcases HOW.out.2 with ⟨_, e⟩ | ⟨g', cap', cur, rfl, hbg, rest⟩
          · have := HPOS.out; omega
          · exact ⟨g', cap', rfl, ⟨HOW.out.1, .inr ⟨g', cap', cur, rfl, by omega, rest⟩⟩, hb4⟩
end Go.Proofs.YtobchllaopdchacGreat
