/-
  Several texts in one.
-/
import Derived.Test.YtigkkelaadbhcabGreatM12
import Derived.Test.YtigkkelaadbhcabGreatM1
import Derived.StringKeys
import Derived.Maps.Own
import Derived.WideKeyEntry
import Derived.WalkLawsBesides
import Derived.Test.YtigkkelaadbhcabGreatVhm
namespace Go.Proofs.YtigkkelaadbhcabGreat
open Go.RowKit Go.MapKept
open Go.ChangeMaps (setBlock heap_setBlock_same heap_setBlock_other)
open Go.WideMaps (KeyLaw)
theorem lawStrV : KeyLaw Tryz.prog 9 := Go.WideMaps.string_law Tryz.underlying9
theorem zeroSl (w : World) : (zeroValue 137).run Tryz.prog w = .ok (.agg #[.string ByteArray.empty, .string ByteArray.empty]) w := by kernel_rfl
theorem fieldSl (a t : ByteArray) (w : World) : (Instr.field 137 (.agg #[.string a, .string t]) 1).run Tryz.prog w = .ok (.string t) w := by kernel_rfl
theorem keyOf_sV {x : ByteArray} (hx : x.size ≤ maxLen) : ∃ l, keyOf Tryz.prog 9 (.string x) = some l := by
  refine ⟨.string x.data.toList, ?_⟩
  simp [keyOf, mapKey, Tryz.underlying9, hx]
def Mr (w : World) (b : Nat) (M : ByteArray → Option ByteArray) : Prop :=
  ∃ es clock, w.heap[b]? = some (.map es clock) ∧ Stamped es clock ∧
    (∀ e ∈ es.toList, ∃ x k, e.key = .string x ∧ x.size ≤ maxLen ∧ M x = some k ∧ e.val = .agg #[.string x, .string k]) ∧
    (∀ x, (∀ e ∈ es.toList, e.key ≠ .string x) → M x = none)
theorem Mr.made (w : World) : Mr (w.alloc (.map #[] 0)) w.heap.size (fun _ => none) :=
  ⟨#[], 0, (MapKept.heap_alloc w _).1, stamped_empty 0, by simp, fun _ _ => rfl⟩
theorem Mr.lt {w : World} {b : Nat} {M : ByteArray → Option ByteArray} (h : Mr w b M) : b < w.heap.size := by
  obtain ⟨es, clock, hb, _⟩ := h
  exact (Array.getElem?_eq_some_iff.1 hb).1
theorem Mr.of_block {w w' : World} {b : Nat} {M : ByteArray → Option ByteArray} (h : Mr w b M) (hb : w'.heap[b]? = w.heap[b]?) : Mr w' b M := by
  obtain ⟨es, clock, h1, h2⟩ := h
  exact ⟨es, clock, hb.trans h1, h2⟩
theorem Mr.below {w w' : World} {b B : Nat} {M : ByteArray → Option ByteArray} (h : Mr w b M) (hb : Below B w w') (hB : b < B) : Mr w' b M :=
  h.of_block (hb.block b hB)
theorem Mr.same {w : World} {b : Nat} {M M' : ByteArray → Option ByteArray} (h : Mr w b M) (e : ∀ x, M' x = M x) : Mr w b M' := by
  have : M' = M := funext e
  rw [this]; exact h
theorem str_injV {x y : ByteArray} (h : (Value.string x) = .string y) : x = y := by simpa using h
def kyA (M : ByteArray → Option ByteArray) (x : ByteArray) : ByteArray := match M x with | some _ => x | none => ByteArray.empty
def kyT (M : ByteArray → Option ByteArray) (x : ByteArray) : ByteArray := match M x with | some t => t | none => ByteArray.empty
theorem Mr.look {w : World} {b : Nat} {M : ByteArray → Option ByteArray} (h : Mr w b M) {x : ByteArray} (hx : x.size ≤ maxLen) :
    (Instr.lookup 179 (.map (some b)) (.string x) false).run Tryz.prog w = .ok (.agg #[.string (kyA M x), .string (kyT M x)]) w := by
  obtain ⟨es, clock, hb, hs, hr, hz⟩ := h
  obtain ⟨l, hkey⟩ := keyOf_sV hx
  rcases lawStrV.find w hkey es.toList (fun e he => by obtain ⟨p, q, h1, h2, h3, _⟩ := hr e he; rw [h1]; exact keyOf_sV h2) with ⟨h1, h2⟩ | ⟨j, e0, h1, h2, h3⟩
  · have hk := hz x h2
    simp [Instr.lookup, run_underlying Tryz.underlying179, MapKept.run_getObj_map hb, lawStrV.check w _ hkey, h1, zeroSl w, Result.andThen, kyA, kyT, hk]
  · obtain ⟨p, q, k1, _, k3, k4⟩ := hr e0 (List.mem_of_getElem? h2)
    obtain rfl := str_injV (k1.symm.trans h3)
    simp [Instr.lookup, run_underlying Tryz.underlying179, MapKept.run_getObj_map hb, lawStrV.check w _ hkey, h1, k4, Result.andThen, kyA, kyT, k3]
def putMV (M : ByteArray → Option ByteArray) (x : ByteArray) (n : ByteArray) (p : ByteArray) : Option ByteArray := if p = x then some n else M p
theorem Mr.put {w : World} {b : Nat} {M : ByteArray → Option ByteArray} (h : Mr w b M) {x : ByteArray} (hx : x.size ≤ maxLen) (hk : M x = none) (n : ByteArray) :
    ∃ w', (Instr.mapUpdate 179 (.map (some b)) (.string x) (.agg #[.string x, .string n])).run Tryz.prog w = .ok () w' ∧ Mr w' b (putMV M x n) ∧ w.grownBy w' (some b) := by
  obtain ⟨es, clock, hb, hs, hr, hz⟩ := h
  obtain ⟨l, hkey⟩ := keyOf_sV hx
  rcases lawStrV.find w hkey es.toList (fun e he => by obtain ⟨p, q, h1, h2, h3, _⟩ := hr e he; rw [h1]; exact keyOf_sV h2) with ⟨h1, h2⟩ | ⟨j, e0, h1, h2, h3⟩
  · have hpush : (es.push ⟨.string x, .agg #[.string x, .string n], clock⟩).toList = es.toList ++ [⟨.string x, .agg #[.string x, .string n], clock⟩] := Array.toList_push
    refine ⟨setBlock w b (.map (es.push ⟨.string x, .agg #[.string x, .string n], clock⟩) (clock + 1)), ?_, ⟨_, _, heap_setBlock_same hb _, stamped_push hs h2, ?_, ?_⟩, ⟨rfl, rfl, rfl, by simp [setBlock], fun i _ hi => heap_setBlock_other hb _ (fun e => hi (by rw [e]))⟩⟩
    · simp [Instr.mapUpdate, run_underlying Tryz.underlying179, MapKept.run_getObj_map hb, lawStrV.check w false hkey, h1, MapKept.run_setObj_map _ hb, Result.andThen, setBlock]
    · intro e he
      rw [hpush] at he
      rcases List.mem_append.1 he with he | he
      · obtain ⟨p, q, k1, k2, k3, k4⟩ := hr e he
        have hne : p ≠ x := fun e1 => h2 e he (by rw [k1, e1])
        exact ⟨p, q, k1, k2, by rw [putMV, if_neg hne]; exact k3, k4⟩
      · simp only [List.mem_singleton] at he
        subst he
        exact ⟨x, n, rfl, hx, by rw [putMV, if_pos rfl], rfl⟩
    · intro p hne
      have hn : p ≠ x := fun e1 => hne ⟨.string x, .agg #[.string x, .string n], clock⟩ (by rw [hpush]; simp) (by rw [e1])
      rw [putMV, if_neg hn]
      exact hz p (fun e he => hne e (by rw [hpush]; exact List.mem_append.2 (Or.inl he)))
  · obtain ⟨p, q, k1, _, k3, k4⟩ := hr e0 (List.mem_of_getElem? h2)
    obtain rfl := str_injV (k1.symm.trans h3)
    rw [hk] at k3
    cases k3
def thO : List DRunSlot → ByteArray → Option ByteArray
  | [], _ => none
  | s :: l, x => if s.1 = x then some s.2 else thO l x
def thT (l : List DRunSlot) (x : ByteArray) : ByteArray := kyT (thO l) x
theorem thO_none : ∀ {l : List DRunSlot} {x : ByteArray}, (∀ s ∈ l, s.1 ≠ x) → thO l x = none
  | [], _, _ => rfl
  | s :: l, x, h => by
    unfold thO
    rw [if_neg (h s (List.mem_cons_self ..))]
    exact thO_none fun t ht => h t (List.mem_cons_of_mem _ ht)
theorem thO_snoc : ∀ (l : List DRunSlot) (s : DRunSlot), (∀ t ∈ l, t.1 ≠ s.1) → ∀ p, thO (l ++ [s]) p = putMV (thO l) s.1 s.2 p
  | [], s, _, p => by
    show (if s.1 = p then some s.2 else none) = (if p = s.1 then some s.2 else none)
    by_cases h : s.1 = p
    · rw [if_pos h, if_pos h.symm]
    · rw [if_neg h, if_neg (fun e => h e.symm)]
  | t :: l, s, h, p => by
    have ih := thO_snoc l s (fun q hq => h q (List.mem_cons_of_mem _ hq)) p
    have hne := h t (List.mem_cons_self ..)
    show (if t.1 = p then some t.2 else thO (l ++ [s]) p) = (if p = s.1 then some s.2 else if t.1 = p then some t.2 else thO l p)
    rw [ih]
    by_cases h1 : t.1 = p
    · rw [if_pos h1, if_neg (fun e => hne (h1.trans e)), if_pos h1]
    · rw [if_neg h1, if_neg h1]; rfl
theorem nodup_ne {l : List DRunSlot} (hd : (l.map (·.1)).Nodup) {i q : Nat} (hq : q < l.length) (hi : i < q) : (l[i]'(by omega)).1 ≠ l[q].1 := fun e => by
  have h := (List.pairwise_iff_getElem.1 hd) i q (by simp; omega) (by simpa using hq) hi
  simp [e] at h
theorem thO_at {l : List DRunSlot} (hd : (l.map (·.1)).Nodup) {i : Nat} (hi : i < l.length) : thO l l[i].1 = some l[i].2 := by
  induction l generalizing i with
  | nil => exact absurd hi (Nat.not_lt_zero _)
  | cons s l ih =>
    rw [List.map_cons, List.nodup_cons] at hd
    cases i with
    | zero => show (if s.1 = s.1 then some s.2 else _) = _; rw [if_pos rfl]; rfl
    | succ i =>
      have hi' : i < l.length := by simpa using hi
      have hne : s.1 ≠ l[i].1 := fun e => hd.1 (by rw [e]; exact List.mem_map.2 ⟨_, List.getElem_mem hi', rfl⟩)
      show (if s.1 = l[i].1 then some s.2 else thO l l[i].1) = some l[i].2
      rw [if_neg hne]
      exact ih hd.2 hi'
theorem thT_at {l : List DRunSlot} (hd : (l.map (·.1)).Nodup) {i : Nat} (hi : i < l.length) : thT l l[i].1 = l[i].2 := by
  unfold thT kyT; rw [thO_at hd hi]
theorem thO_mem : ∀ {l : List DRunSlot} {x t : ByteArray}, thO l x = some t → ∃ s ∈ l, s.2 = t
  | [], _, _, h => by cases h
  | s :: l, x, t, h => by
    unfold thO at h
    by_cases e : s.1 = x
    · rw [if_pos e] at h; exact ⟨s, List.mem_cons_self .., by simpa using h⟩
    · rw [if_neg e] at h
      obtain ⟨q, hq, hq2⟩ := thO_mem h
      exact ⟨q, List.mem_cons_of_mem _ hq, hq2⟩
theorem thT_size {l : List DRunSlot} {m : Nat} (h : ∀ s ∈ l, s.2.size ≤ m) (x : ByteArray) : (thT l x).size ≤ m := by
  unfold thT kyT
  cases e : thO l x with
  | none => exact Nat.zero_le _
  | some t => obtain ⟨s, hs, h2⟩ := thO_mem e; rw [← h2]; exact h s hs
theorem atl_nilV {α : Type} [Lay α] {S : Nat → Prop} (w : World) : AtL S w ([] : List α) (.slice none 0 0) :=
  ⟨none, 0, rfl, ⟨Nat.zero_le _, Nat.le_refl _, fun _ => rfl⟩, fun _ hi => absurd hi (Nat.not_lt_zero _)⟩
set_option maxRecDepth 100000 in
set_option maxHeartbeats 4000000 in
theorem slotThings_any (S : Nat → Prop) (sl : List DRunSlot) (nm at_ : ByteArray) (v1 v2 : Value) (si st : Int) (w : World) (h : AtL S w sl v2) (hS : ∀ b, S b → b < w.heap.size) (hd : (sl.map (·.1)).Nodup) (hv : ∃ o n k, v1 = .slice o n k) :
    Calls Tryz.prog 146 #[.agg #[.string nm, v1, v2, .string at_, .int .i64 si, .int .i64 st]] w fun e w' => ∃ m, e = .returned (.map (some m)) ∧ w.heap.size ≤ m ∧ Mr w' m (thO sl) ∧ Below w.heap.size w w' := by
  obtain ⟨o1, n1, k1, rfl⟩ := hv
  obtain ⟨oa, kb, rfl, hfit, hc⟩ := id h
  have HC : Hid _ := hc
  have HD : Hid ((sl.map (·.1)).Nodup) := hd
  have HS : Hid _ := lt_up hS
  obtain ⟨nb, enb⟩ : ∃ n, sl.length = n := ⟨_, rfl⟩
  have ENB : Hid (sl.length ≤ nb ∧ nb ≤ sl.length) := ⟨by omega, by omega⟩
  rw [enb]
  have hmx : nb ≤ maxLen := by rw [← enb]; exact hfit.1
  unfold maxLen at hmx
  clear h hc hfit enb hd
  obtain ⟨W, hW⟩ : ∃ W, W = w.alloc (.cells #[.string nm, .slice o1 n1 k1, .slice oa nb kb, .string at_, .int .i64 si, .int .i64 st] 52) := ⟨_, rfl⟩
  have EW : Hid (W = w.alloc (.cells #[.string nm, .slice o1 n1 k1, .slice oa nb kb, .string at_, .int .i64 si, .int .i64 st] 52)) := hW
  have BW : Hid (Below w.heap.size w W) := by rw [hW]; exact (Below.refl _ _).alloc (Nat.le_refl _) _
  have sW : w.heap.size + 1 ≤ W.heap.size := by rw [hW]; simp
  have y1 := fun o => cell_past (show W.cell? ⟨w.heap.size, 2, none⟩ = some (.slice oa nb kb) by rw [hW]; exact box_at _ _ (Below.refl _ _) 2 _ rfl) (by omega) o
  obtain ⟨m, hm⟩ : ∃ m, m = W.heap.size := ⟨_, rfl⟩
  have EM : Hid (m = W.heap.size) := hm
  have hmw : w.heap.size ≤ m := by omega
  clear hW hm
  have hmm := @run_makeMap Tryz.prog
  go_enter Tryz.func146, Tryz.ntmps146
  go_upto_region 1 with fail
  rw [← EW.out]
  go_wp2_with fail
  rw [← EM.out]
  clear y1
  go_loopw [10] (fun i wr => ∃ q : Nat, q ≤ nb ∧ i = .int .i64 q ∧ Hid (Mr wr m (thO (sl.take q))) ∧ Hid (Below w.heap.size w wr)) (fun i _ => nb - (intOf i).toNat)
  case atStart =>
    refine ⟨0, Nat.zero_le _, rfl, ?_, BW.out.alloc (by omega) _⟩
    show Mr _ _ _
    rw [EM.out]
    exact (Mr.made W).same (fun x => rfl)
  case round =>
    obtain ⟨q, hq, rfl, hmp, hbel⟩ := hrel
    by_cases hlt : q < nb
    case neg =>
      have HT : Hid (sl.take q = sl) := by show _ = _; rw [List.take_of_length_le (by have := ENB.out; omega)]
      go_wp2_with fail
      go_ret
      refine ⟨m, rfl, hmw, ?_, hbel.out⟩
      have := hmp.out
      rw [HT.out] at this
      exact this
    have hqb : q < sl.length := by have := ENB.out; omega
    obtain ⟨bb, off, rfl, hbS, cc, hcell, hat⟩ := HC.out q hqb
    have hbb := HS.out w (Below.refl _ _) bb hbS
    rw [width_DRunSlot] at hcell
    have HT : Hid (∀ p, thO (sl.take (q + 1)) p = putMV (thO (sl.take q)) sl[q].1 sl[q].2 p) := by
      intro p
      rw [List.take_add_one, List.getElem?_eq_getElem hqb]
      refine thO_snoc _ _ (fun t ht e => ?_) p
      obtain ⟨i, hi, ei⟩ := List.getElem_of_mem ht
      have hiq : i < q := by rw [List.length_take] at hi; omega
      rw [List.getElem_take] at ei
      exact nodup_ne HD.out hqb hiq (by rw [ei]; exact e)
    have HN : Hid (thO (sl.take q) sl[q].1 = none) := by
      refine thO_none (fun t ht e => ?_)
      obtain ⟨i, hi, ei⟩ := List.getElem_of_mem ht
      have hiq : i < q := by rw [List.length_take] at hi; omega
      rw [List.getElem_take] at ei
      exact nodup_ne HD.out hqb hiq (by rw [ei]; exact e)
    obtain ⟨f, ef⟩ : ∃ f, sl[q] = f := ⟨_, rfl⟩
    rw [at_DRunSlot, ef] at hat
    rw [ef] at HT HN
    obtain ⟨x, t⟩ := f
    obtain ⟨⟨t0, z0⟩, t1, z1⟩ := hat
    simp only at t0 z0 t1 z1 HT HN
    have e0 : wr.cell? ⟨bb, off + q * 2, none⟩ = some (.string x) := (hbel.out.cell (p := ⟨bb, off + q * 2, none⟩) hbb).trans ((hcell 0 (by omega) : w.cell? ⟨bb, off + q * 2, none⟩ = some (cc 0)).trans (by rw [t0]))
    have e1 : wr.cell? ⟨bb, off + q * 2 + 1, none⟩ = some (.string t) := (hbel.out.cell (p := ⟨bb, off + q * 2 + 1, none⟩) hbb).trans ((hcell 1 (by omega)).trans (by rw [t1]))
    clear hcell t0 t1 ef
    obtain ⟨X, hX⟩ : ∃ X, X = wr.alloc (.cells #[.string x, .string t] 137) := ⟨_, rfl⟩
    have EX : Hid (X = wr.alloc (.cells #[.string x, .string t] 137)) := hX
    have sw := hbel.out.size
    have BX : Hid (Below w.heap.size w X) := by rw [hX]; exact hbel.out.alloc (by omega) _
    have MX : Hid (Mr X m (thO (sl.take q))) := by
      show Mr _ _ _
      rw [hX]; exact hmp.out.of_block (Below.heap_alloc wr _ _ hmp.out.lt)
    have r0 : X.cell? ⟨wr.heap.size, 0, none⟩ = some (.string x) := by rw [hX]; exact box_at _ _ (Below.refl _ _) 0 _ rfl
    have r1 : X.cell? ⟨wr.heap.size, 1, none⟩ = some (.string t) := by rw [hX]; exact box_at _ _ (Below.refl _ _) 1 _ rfl
    have hXs : wr.heap.size < X.heap.size := by rw [hX]; simp
    clear hX
    obtain ⟨u, hu, hMu, hg⟩ := MX.out.put z0 HN.out t
    have HU : Hid (Mr u m (thO (sl.take (q + 1)))) := hMu.same HT.out
    have BU : Hid (Below w.heap.size w u) := BX.out.grown hg (by have := BX.out.size; omega) (fun i hi => by cases hi; omega)
    clear hMu hg
    go_upto_region 5 with fail
    rw [← EX.out]
    go_wp2_with fail
    go_roundw
    case rel => exact ⟨q + 1, by omega, by go_num, HU, BU⟩
    case measure => simp [intOf]; omega
set_option maxRecDepth 100000 in
set_option maxHeartbeats 4000000 in
theorem things_any (S : Nat → Prop) (sl : List DRunSlot) (l : List ByteArray) (v : Value) (m : Nat) (w : World) (h : AtL S w l v) (hS : ∀ b, S b → b < w.heap.size) (hm : Mr w m (thO sl)) (hl : l.length ≤ 100000) (hs : ∀ s ∈ sl, s.2.size ≤ 1048576) :
    Calls Tryz.prog 147 #[.map (some m), v] w fun e w' => ∃ q, e = .returned q ∧ Row w' w.heap.size 9 1 eS q (bothL [] (l.map (thT sl))) ∧ Below w.heap.size w w' := by
  obtain ⟨oa, cap, rfl, hn, hc⟩ := h
  have HC : Hid (∀ i (h : i < l.length), ∃ b off, oa = some ⟨b, off, none⟩ ∧ S b ∧ w.cell? ⟨b, off + i, none⟩ = some (.string l[i]) ∧ l[i].size ≤ maxLen) := fun i hi => by
    obtain ⟨b, off, h1, h2, c, h3, h4⟩ := hc i hi
    have e0 := h3 0 (by decide)
    rw [h4.1] at e0
    exact ⟨b, off, h1, h2, by simpa [width_str] using e0, h4.2⟩
  have HS : Hid (∀ x, (thT sl x).size ≤ 1048576) := thT_size hs
  have HM : Hid (Mr w m (thO sl)) := hm
  have hml := hm.lt
  clear hc hn hs hm
  obtain ⟨n, en⟩ : ∃ n, l.length = n := ⟨_, rfl⟩
  rw [en] at hl
  rw [en]
  have EN : Hid (l.length = n) := en
  clear en
  go_enter Tryz.func147, Tryz.ntmps147
  go_wp2
  go_loopw [5, 10] (fun r i wr => ∃ k : Nat, k ≤ n ∧ i = .int .i64 k ∧ Hid (Row wr w.heap.size 9 1 eS r ((l.take k).map (thT sl))) ∧ Hid (Below w.heap.size w wr)) (fun _ i _ => n - (intOf i).toNat)
  case atStart => exact ⟨0, Nat.zero_le _, rfl, by simpa [Hid] using Row.nil w w.heap.size 9 1 eS, Below.refl _ _⟩
  case round =>
    obtain ⟨k, hk, rfl, hrow, hbel⟩ := hrel
    have hsz := hbel.out.size
    by_cases hlt : k < n
    · obtain ⟨b, off, rfl, hbS, c0, hx⟩ := HC.out k (by have := EN.out; omega)
      have e0 := (hbel.out.cell (p := ⟨b, off + k, none⟩) (hS b hbS)).trans c0
      clear c0
      have htk : Hid ((l.take (k + 1)).map (thT sl) = (l.take k).map (thT sl) ++ [thT sl (l[k]'(by have := EN.out; omega))]) := by
        show _ = _
        rw [List.take_add_one, List.getElem?_eq_getElem (show k < l.length by have := EN.out; omega), List.map_append]; rfl
      obtain ⟨x, ex⟩ : ∃ x, l[k]'(by have := EN.out; omega) = x := ⟨_, rfl⟩
      rw [ex] at e0 hx htk
      clear ex
      have hlk : ((l.take k).map (thT sl)).length = k := by rw [List.length_map, List.length_take]; have := EN.out; omega
      have l0 := (HM.out.below hbel.out hml).look hx
      have ht0 : Hid (kyT (thO sl) x = thT sl x) := rfl
      rw [ht0.out] at l0
      obtain ⟨t, et⟩ : ∃ t, thT sl x = t := ⟨_, rfl⟩
      rw [et] at l0 htk
      clear et ht0
      obtain ⟨a, ea⟩ : ∃ a, kyA (thO sl) x = a := ⟨_, rfl⟩
      rw [ea] at l0
      clear ea
      have l1 := fieldSl a t wr
      have hsr : Hid (Src (wr.alloc (.cells #[.string t] 9)) (.slice (some ⟨wr.heap.size, 0, none⟩) 1 1) 1 1 (enc 1 eS [t])) := ⟨rfl, .inr ⟨_, _, rfl, by exact cell_one_new _ _ _⟩⟩
      go_wp2_with (first
        | (at_builtin; refine wpList_app elS rfl _ _ rfl rfl rfl (hrow.out.alloc _) hsr.out (flatS.enc_one _) (by unfold maxLen; omega) (by omega) (by simp; omega) ?_; intro v' w3 hown hg hbk))
      go_roundw
      case rel =>
        refine ⟨k + 1, by omega, by go_num, ?_, ((hbel.out.alloc (by omega) _).grown hg (by simp; omega) (fun p hp => (World.ownsRow.lt hrow.out p hp).1))⟩
        show Row _ _ _ _ _ _ _
        rw [htk.out]
        show World.ownsRow _ _ _ _ _ _ _
        rw [List.length_append, enc_append]
        exact hown
      case measure => simp [intOf]; omega
    · obtain rfl : n = k := by omega
      have htk : Hid (l.take n = l) := by show _ = _; rw [List.take_of_length_le (by have := EN.out; omega)]
      have hlen : (l.map (thT sl)).length = n := by rw [List.length_map]; exact EN.out
      have row := hrow.out
      rw [htk.out] at row
      have ROW : Hid (Row wr w.heap.size 9 1 eS _ (l.map (thT sl))) := row
      clear row hrow
      obtain ⟨o, c, hf⟩ := Row.form ROW.out
      rw [hlen] at hf
      subst hf
      have hat := flatS.row_at ROW.out (S := fun q => w.heap.size ≤ q ∧ q < wr.heap.size) (fun q hq => World.ownsRow.lt ROW.out q hq) (fun y hy => by obtain ⟨z, _, rfl⟩ := List.mem_map.1 hy; exact Nat.le_trans (HS.out z) (by decide))
      have C : Hid _ := together_any (fun _ => False) (fun q => w.heap.size ≤ q ∧ q < wr.heap.size) [] (l.map (thT sl)) (.slice none 0 0) _ wr (atl_nilV _) hat (fun q hq => hq.elim) (fun q hq => hq.2) List.Pairwise.nil (by simp) (by rw [hlen]; omega) (fun x hx => by cases hx) (fun y hy => by obtain ⟨z, _, rfl⟩ := List.mem_map.1 hy; exact HS.out z)
      clear hat hlen
      go_wp2_with fail
      refine Calls.mono C.out ?_
      rintro e u ⟨q, rfl, hr, hb⟩
      have HR : Hid (Row u w.heap.size 9 1 eS q (bothL [] (l.map (thT sl)))) := hr.low hsz
      have HB : Hid (Below w.heap.size w u) := hbel.out.trans (hb.mono hsz)
      clear hr hb
      go_wp2_with fail
      go_ret
      exact ⟨_, rfl, HR.out, HB.out⟩
end Go.Proofs.YtigkkelaadbhcabGreat

namespace Go.Proofs.YtigkkelaadbhcabGreat
open Go.RowKit
theorem on_DRunHouse {S : Nat → Prop} {w : World} {a : DRunHouse} {c : Nat → Value} : Own.On S w a c ↔ ∃ A0 B0 : Nat → Prop, (∀ b, A0 b → S b ∧ ¬ B0 b) ∧ (∀ b, B0 b → S b) ∧ (c 0 = .int .i64 a.1 ∧ -9223372036854775808 ≤ a.1 ∧ a.1 ≤ 9223372036854775807) ∧ ∃ A1 B1 : Nat → Prop, (∀ b, A1 b → B0 b ∧ ¬ B1 b) ∧ (∀ b, B1 b → B0 b) ∧ (c 1 = .int .i64 a.2.1 ∧ -9223372036854775808 ≤ a.2.1 ∧ a.2.1 ≤ 9223372036854775807) ∧ ∃ A2 B2 : Nat → Prop, (∀ b, A2 b → B1 b ∧ ¬ B2 b) ∧ (∀ b, B2 b → B1 b) ∧ OnL A2 w a.2.2.1 (c 2) ∧ ∃ A3 B3 : Nat → Prop, (∀ b, A3 b → B2 b ∧ ¬ B3 b) ∧ (∀ b, B3 b → B2 b) ∧ OnL A3 w a.2.2.2.1 (c 3) ∧ ∃ A4 B4 : Nat → Prop, (∀ b, A4 b → B3 b ∧ ¬ B4 b) ∧ (∀ b, B4 b → B3 b) ∧ OnL A4 w a.2.2.2.2.1 (c 4) ∧ OnL B4 w a.2.2.2.2.2 (c 5) := Iff.rfl
def cntH (a : DRunHouse) : Nat := cntL a.2.2.1 + cntL a.2.2.2.1 + cntL a.2.2.2.2.1 + cntL a.2.2.2.2.2
structure MkH (S : Nat → Prop) (w : World) (k : Int) (a : DRunHouse) (c : Nat → Value) : Prop where
  i0 : c 0 = .int .i64 a.1
  i1 : c 1 = .int .i64 a.2.1
  l2 : AtL S w (mkL k a.2.2.1) (c 2)
  l3 : AtL S w (mkL (k + cntL a.2.2.1) a.2.2.2.1) (c 3)
  l4 : AtL S w (mkL (k + cntL a.2.2.1 + cntL a.2.2.2.1) a.2.2.2.2.1) (c 4)
  l5 : AtL S w (mkL (k + cntL a.2.2.1 + cntL a.2.2.2.1 + cntL a.2.2.2.2.1) a.2.2.2.2.2) (c 5)
theorem MkH.same {S : Nat → Prop} {w w' : World} {k : Int} {a : DRunHouse} {c : Nat → Value} (h : MkH S w k a c) (e : Same S w w') : MkH S w' k a c := ⟨h.i0, h.i1, h.l2.same e, h.l3.same e, h.l4.same e, h.l5.same e⟩
set_option maxRecDepth 100000 in
set_option maxHeartbeats 8000000 in
theorem markRunHouse_any (S : Nat → Prop) (a : DRunHouse) (c : Nat → Value) (k : Int) (w : World) (h : Own.On S w a c) (hS : ∀ b, S b → b < w.heap.size) (h1 : 1 ≤ k) (h2 : k + cntH a ≤ 20000000) :
    Calls Tryz.prog 10 #[.agg #[c 0, c 1, c 2, c 3, c 4, c 5], .int .i64 k] w fun e w' => e = .returned (.int .i64 (k + cntH a)) ∧ MkH S w' k a c ∧ But S w w' := by
  obtain ⟨A0, B0, p0, q0, ⟨e0, y0, z0⟩, A1, B1, p1, q1, ⟨e1, y1, z1⟩, A2, B2, p2, q2, H2, A3, B3, p3, q3, H3, A4, B4, p4, q4, H4, H5⟩ := on_DRunHouse.1 h
  clear h
  obtain ⟨so2, sc2, e2, _⟩ := id H2
  rw [e2] at H2
  obtain ⟨so3, sc3, e3, _⟩ := id H3
  rw [e3] at H3
  obtain ⟨so4, sc4, e4, _⟩ := id H4
  rw [e4] at H4
  obtain ⟨so5, sc5, e5, _⟩ := id H5
  rw [e5] at H5
  have EE : Hid (c 0 = .int .i64 a.1 ∧ c 1 = .int .i64 a.2.1 ∧ c 2 = .slice so2 a.2.2.1.length sc2 ∧ c 3 = .slice so3 a.2.2.2.1.length sc3 ∧ c 4 = .slice so4 a.2.2.2.2.1.length sc4 ∧ c 5 = .slice so5 a.2.2.2.2.2.length sc5) := ⟨e0, e1, e2, e3, e4, e5⟩
  rw [e0, e1, e2, e3, e4, e5]
  clear e0 e1 e2 e3 e4 e5 y0 z0 y1 z1
  have T2 : Hid (∀ b, A2 b → S b) := fun b hb => q0 b (q1 b (p2 b hb).1)
  have T3 : Hid (∀ b, A3 b → S b) := fun b hb => q0 b (q1 b (q2 b (p3 b hb).1))
  have T4 : Hid (∀ b, A4 b → S b) := fun b hb => q0 b (q1 b (q2 b (q3 b (p4 b hb).1)))
  have T5 : Hid (∀ b, B4 b → S b) := fun b hb => q0 b (q1 b (q2 b (q3 b (q4 b hb))))
  have X23 : Hid (∀ b, A3 b → ¬ A2 b) := fun b hb ha => (p2 b ha).2 (p3 b hb).1
  have X24 : Hid (∀ b, A4 b → ¬ A2 b) := fun b hb ha => (p2 b ha).2 (q3 b (p4 b hb).1)
  have X25 : Hid (∀ b, B4 b → ¬ A2 b) := fun b hb ha => (p2 b ha).2 (q3 b (q4 b hb))
  have X34 : Hid (∀ b, A4 b → ¬ A3 b) := fun b hb ha => (p3 b ha).2 (p4 b hb).1
  have X35 : Hid (∀ b, B4 b → ¬ A3 b) := fun b hb ha => (p3 b ha).2 (q4 b hb)
  have X45 : Hid (∀ b, B4 b → ¬ A4 b) := fun b hb ha => (p4 b ha).2 hb
  clear p0 q0 p1 q1 p2 q2 p3 q3 p4 q4
  obtain ⟨n2, en2⟩ : ∃ n, a.2.2.1.length = n := ⟨_, rfl⟩
  obtain ⟨n3, en3⟩ : ∃ n, a.2.2.2.1.length = n := ⟨_, rfl⟩
  obtain ⟨n4, en4⟩ : ∃ n, a.2.2.2.2.1.length = n := ⟨_, rfl⟩
  obtain ⟨n5, en5⟩ : ∃ n, a.2.2.2.2.2.length = n := ⟨_, rfl⟩
  rw [en2, en3, en4, en5] at EE
  rw [en2] at H2
  rw [en3] at H3
  rw [en4] at H4
  rw [en5] at H5
  rw [en2, en3, en4, en5]
  clear en2 en3 en4 en5
  obtain ⟨W, hW⟩ : ∃ W, W = w.alloc (.cells #[.int .i64 a.1, .int .i64 a.2.1, .slice so2 n2 sc2, .slice so3 n3 sc3, .slice so4 n4 sc4, .slice so5 n5 sc5] 38) := ⟨_, rfl⟩
  have EW : Hid (W = w.alloc (.cells #[.int .i64 a.1, .int .i64 a.2.1, .slice so2 n2 sc2, .slice so3 n3 sc3, .slice so4 n4 sc4, .slice so5 n5 sc5] 38)) := hW
  have BW : Hid (Below w.heap.size w W) := by rw [hW]; exact (Below.refl _ _).alloc (Nat.le_refl _) _
  have RW : Hid (W.heap[w.heap.size]? = some (.cells #[.int .i64 a.1, .int .i64 a.2.1, .slice so2 n2 sc2, .slice so3 n3 sc3, .slice so4 n4 sc4, .slice so5 n5 sc5] 38 (0, 0))) := by rw [hW]; exact heap_alloc_new w _
  have HS : Hid (∀ b, S b → b < w.heap.size) := hS
  have sW : w.heap.size + 1 ≤ W.heap.size := by rw [hW]; simp
  clear hW hS
  have SM : Hid (Same S w W) := fun b hb => BW.out.block b (HS.out b hb)
  have L2 : Hid (OnL A2 W a.2.2.1 (.slice so2 n2 sc2)) := H2.same (fun b hb => SM.out b (T2.out b hb))
  have L3 : Hid (OnL A3 W a.2.2.2.1 (.slice so3 n3 sc3)) := H3.same (fun b hb => SM.out b (T3.out b hb))
  have L4 : Hid (OnL A4 W a.2.2.2.2.1 (.slice so4 n4 sc4)) := H4.same (fun b hb => SM.out b (T4.out b hb))
  have L5 : Hid (OnL B4 W a.2.2.2.2.2 (.slice so5 n5 sc5)) := H5.same (fun b hb => SM.out b (T5.out b hb))
  clear H2 H3 H4 H5
  have KEEP : Hid (∀ u, But S W u → u.heap[w.heap.size]? = some (.cells #[.int .i64 a.1, .int .i64 a.2.1, .slice so2 n2 sc2, .slice so3 n3 sc3, .slice so4 n4 sc4, .slice so5 n5 sc5] 38 (0, 0))) := fun u hu => (hu.block w.heap.size (by omega) (fun h => by have := HS.out _ h; omega)).trans RW.out
  obtain ⟨m2, em2⟩ : ∃ m : Nat, cntL a.2.2.1 = m := ⟨_, rfl⟩
  obtain ⟨m3, em3⟩ : ∃ m : Nat, cntL a.2.2.2.1 = m := ⟨_, rfl⟩
  obtain ⟨m4, em4⟩ : ∃ m : Nat, cntL a.2.2.2.2.1 = m := ⟨_, rfl⟩
  obtain ⟨m5, em5⟩ : ∃ m : Nat, cntL a.2.2.2.2.2 = m := ⟨_, rfl⟩
  have CM : Hid (cntL a.2.2.1 = m2 ∧ cntL a.2.2.2.1 = m3 ∧ cntL a.2.2.2.2.1 = m4 ∧ cntL a.2.2.2.2.2 = m5) := ⟨em2, em3, em4, em5⟩
  have ec : cntH a = m2 + m3 + m4 + m5 := by unfold cntH; rw [em2, em3, em4, em5]
  have EC : Hid (k + (m2 : Int) + (m3 : Int) + (m4 : Int) + (m5 : Int) = k + (cntH a : Int)) := by show _ = _; rw [ec]; omega
  have hle : k + (m2 : Int) + (m3 : Int) + (m4 : Int) + (m5 : Int) ≤ 20000000 := by rw [ec] at h2; omega
  clear h2 ec
  have MS : Hid (Calls Tryz.prog 26 #[.agg #[.slice so2 n2 sc2, .slice so3 n3 sc3], .int .i64 k] W fun e w' => e = .returned (.int .i64 (k + (m2 : Int) + (m3 : Int))) ∧ (AtL (fun b => A2 b ∨ A3 b) w' (mkL k a.2.2.1) (.slice so2 n2 sc2) ∧ AtL (fun b => A2 b ∨ A3 b) w' (mkL (k + (m2 : Int)) a.2.2.2.1) (.slice so3 n3 sc3)) ∧ But (fun b => A2 b ∨ A3 b) W w') := by
    have hx := markShareBook_any (fun b => A2 b ∨ A3 b) (a.2.2.1, a.2.2.2.1) (cs [.slice so2 n2 sc2, .slice so3 n3 sc3]) k W (on_DShareBook.2 ⟨A2, A3, fun b hb => ⟨.inl hb, fun hc => X23.out b hc hb⟩, fun b hb => .inr hb, L2.out, L3.out⟩) (fun b hb => by
      rcases hb with hb | hb
      · have := HS.out b (T2.out b hb); omega
      · have := HS.out b (T3.out b hb); omega) h1 (by rw [cnt_DShareBook]; simp only; rw [em2, em3]; omega)
    refine hx.mono ?_
    rintro e w' ⟨rfl, ho, hb⟩
    rw [mkD_DShareBook, on_DShareBook] at ho
    obtain ⟨A, B, pA, pB, hA, hB⟩ := ho
    simp only at hA hB
    rw [em2] at hB
    exact ⟨by rw [cnt_DShareBook]; simp only; rw [em2, em3]; congr 2; omega, ⟨hA.at_.up fun b hb => (pA b hb).1, hB.at_.up fun b hb => pB b hb⟩, hb⟩
  have M4 : Hid (∀ u, OnL A4 u a.2.2.2.2.1 (.slice so4 n4 sc4) → W.heap.size ≤ u.heap.size → Calls Tryz.prog 27 #[.slice so4 n4 sc4, .int .i64 (k + (m2 : Int) + (m3 : Int))] u fun e w' => e = .returned (.int .i64 (k + (m2 : Int) + (m3 : Int) + (m4 : Int))) ∧ OnL A4 w' (mkL (k + (m2 : Int) + (m3 : Int)) a.2.2.2.2.1) (.slice so4 n4 sc4) ∧ But A4 u w') := fun u hu hz => by
    have hx := markRunBatchS_any A4 a.2.2.2.2.1 _ (k + (m2 : Int) + (m3 : Int)) u hu (fun b hb => by have := HS.out b (T4.out b hb); omega) (by omega) (by rw [em4]; omega)
    rw [em4] at hx
    exact hx
  have M5 : Hid (∀ u, OnL B4 u a.2.2.2.2.2 (.slice so5 n5 sc5) → W.heap.size ≤ u.heap.size → Calls Tryz.prog 28 #[.slice so5 n5 sc5, .int .i64 (k + (m2 : Int) + (m3 : Int) + (m4 : Int))] u fun e w' => e = .returned (.int .i64 (k + (m2 : Int) + (m3 : Int) + (m4 : Int) + (m5 : Int))) ∧ OnL B4 w' (mkL (k + (m2 : Int) + (m3 : Int) + (m4 : Int)) a.2.2.2.2.2) (.slice so5 n5 sc5) ∧ But B4 u w') := fun u hu hz => by
    have hx := markRunDoneS_any B4 a.2.2.2.2.2 _ (k + (m2 : Int) + (m3 : Int) + (m4 : Int)) u hu (fun b hb => by have := HS.out b (T5.out b hb); omega) (by omega) (by rw [em5]; omega)
    rw [em5] at hx
    exact hx
  clear em2 em3 em4 em5 L2 L3
  have b0 := KEEP.out W (But.refl _ _)
  have y2 := (cell_row b0 2 _ rfl).1
  have y3 := (cell_row b0 3 _ rfl).1
  clear b0
  go_enter Tryz.func10, Tryz.ntmps10
  go_upto_region 1 with fail
  rw [← EW.out]
  go_wp2_with fail
  refine Calls.mono MS.out ?_
  rintro e w1 ⟨rfl, ⟨g2, g3⟩, u1⟩
  have U1 : Hid (But (fun b => A2 b ∨ A3 b) W w1) := u1
  have B1 : Hid (But S W w1) := u1.up (fun b hb => hb.elim (T2.out b) (T3.out b))
  have z1 := u1.size
  have G2 : Hid (AtL (fun b => A2 b ∨ A3 b) w1 (mkL k a.2.2.1) (.slice so2 n2 sc2)) := g2
  have G3 : Hid (AtL (fun b => A2 b ∨ A3 b) w1 (mkL (k + (m2 : Int)) a.2.2.2.1) (.slice so3 n3 sc3)) := g3
  have K4 : Hid (OnL A4 w1 a.2.2.2.2.1 (.slice so4 n4 sc4)) := L4.out.same (fun b hb => u1.block b (by have := HS.out b (T4.out b hb); omega) (fun h => h.elim (X24.out b hb) (X34.out b hb)))
  have K5 : Hid (OnL B4 w1 a.2.2.2.2.2 (.slice so5 n5 sc5)) := L5.out.same (fun b hb => u1.block b (by have := HS.out b (T5.out b hb); omega) (fun h => h.elim (X25.out b hb) (X35.out b hb)))
  have y4 := (cell_row (KEEP.out w1 B1.out) 4 _ rfl).1
  clear u1 y2 y3 L4 L5 g2 g3
  go_wp2_with fail
  refine Calls.mono (M4.out w1 K4.out z1) ?_
  rintro e w2 ⟨rfl, g4, u2⟩
  have B2 : Hid (But S W w2) := B1.out.trans (u2.up T4.out)
  have z2 := u2.size
  have G4 : Hid (AtL A4 w2 (mkL (k + (m2 : Int) + (m3 : Int)) a.2.2.2.2.1) (.slice so4 n4 sc4)) := g4.at_
  have N2 : Hid (AtL (fun b => A2 b ∨ A3 b) w2 (mkL k a.2.2.1) (.slice so2 n2 sc2)) := G2.out.same (fun b hb => u2.block b (by rcases hb with hb | hb; (have := HS.out b (T2.out b hb); omega); (have := HS.out b (T3.out b hb); omega)) (fun h => hb.elim (X24.out b h) (X34.out b h)))
  have N3 : Hid (AtL (fun b => A2 b ∨ A3 b) w2 (mkL (k + (m2 : Int)) a.2.2.2.1) (.slice so3 n3 sc3)) := G3.out.same (fun b hb => u2.block b (by rcases hb with hb | hb; (have := HS.out b (T2.out b hb); omega); (have := HS.out b (T3.out b hb); omega)) (fun h => hb.elim (X24.out b h) (X34.out b h)))
  have J5 : Hid (OnL B4 w2 a.2.2.2.2.2 (.slice so5 n5 sc5)) := K5.out.same (fun b hb => u2.block b (by have := HS.out b (T5.out b hb); omega) (X45.out b hb))
  have y5 := (cell_row (KEEP.out w2 B2.out) 5 _ rfl).1
  clear u2 y4 G2 G3 K4 K5 g4
  go_wp2_with fail
  refine Calls.mono (M5.out w2 J5.out (by omega)) ?_
  rintro e w3 ⟨rfl, g5, u3⟩
  have B3 : Hid (But S W w3) := B2.out.trans (u3.up T5.out)
  have FIN : Hid (MkH S w3 k a c) := by
    obtain ⟨e0, e1, e2, e3, e4, e5⟩ := EE.out
    obtain ⟨c2, c3, c4, c5⟩ := CM.out
    have D23 : ∀ b, (A2 b ∨ A3 b) → b < w2.heap.size ∧ ¬ B4 b := fun b hb => ⟨by rcases hb with hb | hb; (have := HS.out b (T2.out b hb); omega); (have := HS.out b (T3.out b hb); omega), fun h => hb.elim (X25.out b h) (X35.out b h)⟩
    have E23 : ∀ b, (A2 b ∨ A3 b) → S b := fun b hb => hb.elim (T2.out b) (T3.out b)
    refine ⟨e0, e1, ?_, ?_, ?_, ?_⟩
    · rw [e2]; exact (N2.out.same (u3.same D23)).up E23
    · rw [e3, c2]; exact (N3.out.same (u3.same D23)).up E23
    · rw [e4, c2, c3]; exact (G4.out.same (u3.same fun b hb => ⟨by have := HS.out b (T4.out b hb); omega, fun h => X45.out b h hb⟩)).up T4.out
    · rw [e5, c2, c3, c4]; exact g5.at_.up T5.out
  have F : Hid (But S w w3) := (But.of_below BW.out).trans B3.out
  clear u3 y5 g5 J5 N2 N3 G4
  go_wp2_with fail
  go_ret
  exact ⟨by rw [← EC.out]; rfl, FIN.out, F.out⟩
end Go.Proofs.YtigkkelaadbhcabGreat

namespace Go.Proofs.YtigkkelaadbhcabGreat
open Go.RowKit Go.Sort
theorem house_shape {S : Nat → Prop} {w : World} {now last : Int} {T : List ByteArray} {Bs : List DShareBatch} {Ba : List DRunBatch} {Do : List DRunDone} {g : Nat → Value} (h : Lay.At S w ((now, last, T, Bs, Ba, Do) : DRunHouse) g) :
    ∃ (o1 o2 o3 o4 : Option Addr) (n1 k1 n2 k2 n3 k3 n4 k4 : Nat), g 0 = .int .i64 now ∧ g 1 = .int .i64 last ∧ g 2 = .slice o1 n1 k1 ∧ g 3 = .slice o2 n2 k2 ∧ g 4 = .slice o3 n3 k3 ∧ g 5 = .slice o4 n4 k4 ∧ AtL S w T (.slice o1 n1 k1) ∧ AtL S w Bs (.slice o2 n2 k2) ∧ AtL S w Ba (.slice o3 n3 k3) ∧ AtL S w Do (.slice o4 n4 k4) := by
  obtain ⟨⟨e0, _⟩, ⟨e1, _⟩, h1, h2, h3, h4⟩ := at_DRunHouse.1 h
  simp only at h1 h2 h3 h4
  obtain ⟨o1, k1, e2, _⟩ := id h1
  obtain ⟨o2, k2, e3, _⟩ := id h2
  obtain ⟨o3, k3, e4, _⟩ := id h3
  obtain ⟨o4, k4, e5, _⟩ := id h4
  rw [e2] at h1
  rw [e3] at h2
  rw [e4] at h3
  rw [e5] at h4
  exact ⟨o1, o2, o3, o4, _, k1, _, k2, _, k3, _, k4, e0, e1, e2, e3, e4, e5, h1, h2, h3, h4⟩
theorem house_ext {g : Nat → Value} {a0 a1 a2 a3 a4 a5 : Value} (e0 : g 0 = a0) (e1 : g 1 = a1) (e2 : g 2 = a2) (e3 : g 3 = a3) (e4 : g 4 = a4) (e5 : g 5 = a5) : ∀ j, j < Lay.width DRunHouse → (cs [a0, a1, a2, a3, a4, a5]) j = g j := fun j hj => by
  rw [width_DRunHouse] at hj
  rcases (show j = 0 ∨ j = 1 ∨ j = 2 ∨ j = 3 ∨ j = 4 ∨ j = 5 by omega) with rfl | rfl | rfl | rfl | rfl | rfl
  · exact e0.symm
  · exact e1.symm
  · exact e2.symm
  · exact e3.symm
  · exact e4.symm
  · exact e5.symm
theorem cntV_le {α : Type} [Own α] (K : Nat) : ∀ l : List α, (∀ x ∈ l, Own.cnt x ≤ K * (Lay.tot x + 1)) → cntL l ≤ K * totL l
  | [], _ => by simp [cntL, cntTo]
  | x :: l, h => by
    have h1 := h x List.mem_cons_self
    have h2 := cntV_le K l (fun y hy => h y (List.mem_cons_of_mem _ hy))
    have e1 : cntL (x :: l) = Own.cnt x + cntL l := by simp [cntL, cntTo]
    have e2 : totL (x :: l) = (Lay.tot x + 1) + totL l := by simp [totL, sumTo]; omega
    rw [e1, e2, Nat.mul_add]
    omega
theorem cntV_strs (l : List ByteArray) : cntL l ≤ totL l := by
  have := cntV_le 1 l (fun x _ => by show 1 ≤ 1 * (x.size + 1); omega)
  omega
theorem cntH_le {a : DRunHouse} (h : Lay.tot a ≤ 1048576) : cntH a ≤ 8388608 := by
  rw [tot_DRunHouse] at h
  unfold cntH
  have h2 := cntV_strs a.2.2.1
  have h3 : cntL a.2.2.2.1 ≤ 1 * totL a.2.2.2.1 := cntV_le 1 _ (fun x _ => by
    rw [cnt_DShareBatch, tot_DShareBatch]
    have := cntV_strs x.2.1
    have := cntV_strs x.2.2
    omega)
  have h4 : cntL a.2.2.2.2.1 ≤ 8 * totL a.2.2.2.2.1 := cntV_le 8 _ (fun x _ => by
    rw [cnt_DRunBatch, tot_DRunBatch]
    have := cntV_le 8 x.2.1 (fun y _ => by rw [cnt_DRecPhase]; omega)
    have := cntV_le 2 x.2.2.1 (fun y _ => by rw [cnt_DRunSlot]; omega)
    omega)
  have h5 : cntL a.2.2.2.2.2 ≤ 3 * totL a.2.2.2.2.2 := cntV_le 3 _ (fun x _ => by rw [cnt_DRunDone]; omega)
  omega
end Go.Proofs.YtigkkelaadbhcabGreat
