/-
  Several texts in one.
-/
import Derived.Test.YtkongeofapbblaeM47
import Derived.Test.YtkongeofapbblaeM9
import Derived.Test.YtkongeofapbblaeXia
/-
  Contracts of the laws' own comparing of data that hold the same.
-/
namespace Go.Proofs.Ytkongeofapbblae
open Go.RowKit

set_option maxRecDepth 100000 in
set_option maxHeartbeats 4000000 in
theorem eqRecSay_any (S S' : Nat → Prop) (a : DRecSay) (c c' : Nat → Value) (w : World) (h : Lay.At S w a c) (h' : Lay.At S' w a c') (_hS : ∀ b, S b → b < w.heap.size) (_hS' : ∀ b, S' b → b < w.heap.size) :
    Calls Try.prog 29 #[.agg #[c 0, c 1], .agg #[c' 0, c' 1]] w fun e w' => e = .returned (.bool true) ∧ Below w.heap.size w w' := by
  rw [at_DRecSay] at h
  obtain ⟨⟨ep0, _, _⟩, ep1⟩ := h
  rw [ep0, ep1]
  clear ep0 ep1
  rw [at_DRecSay] at h'
  obtain ⟨⟨eq0, _, _⟩, eq1⟩ := h'
  rw [eq0, eq1]
  clear eq0 eq1
  have k0 : Hid (Below w.heap.size w ((w.alloc (.cells #[.int .i64 a.1, .bool a.2] 50)).alloc (.cells #[.int .i64 a.1, .bool a.2] 50))) := ((Below.refl _ _).alloc (Nat.le_refl _) _).alloc (by simp) _
  go_enter Try.func29, Try.ntmps29
  go_wp2
  go_ret
  exact ⟨rfl, k0.out⟩
open Go.Sort in
theorem eqRecSayq (S S' : Nat → Prop) (a : DRecSay) (c c' : Nat → Value) (wr : World) (h : Lay.At S wr a c) (h' : Lay.At S' wr a c') (hS : ∀ b, S b → b < wr.heap.size) (hS' : ∀ b, S' b → b < wr.heap.size) (d : Nat) (os : Array Obj) : Calls Try.prog 29 #[.agg #[c 0, c 1], .agg #[c' 0, c' 1]] (grow (redrawn wr d) os) fun e w'' => e = .returned (.bool true) ∧ ∃ p : Regrown, w'' = grow (redrawn wr p.d) p.os :=
  Calls.regrown_of (eqRecSay_any S S' a c c' _ (Lay.same h (Same.of_below (below_regrown wr d os) hS)) (Lay.same h' (Same.of_below (below_regrown wr d os) hS')) (fun b hb => Nat.lt_of_lt_of_le (hS b hb) (below_regrown wr d os).size) (fun b hb => Nat.lt_of_lt_of_le (hS' b hb) (below_regrown wr d os).size))

set_option maxRecDepth 100000 in
set_option maxHeartbeats 4000000 in
theorem eqRecSayS_any (S S' : Nat → Prop) (l : List DRecSay) (va vb : Value) (w : World) (ha : AtL S w l va) (hb : AtL S' w l vb) (hS : ∀ b, S b → b < w.heap.size) (hS' : ∀ b, S' b → b < w.heap.size) :
    Calls Try.prog 13 #[va, vb] w fun e w' => e = .returned (.bool true) ∧ Below w.heap.size w w' := by
  obtain ⟨oa, ca, rfl, hn, hca⟩ := ha
  obtain ⟨ob, cb, rfl, _, hcb⟩ := hb
  obtain ⟨n, en⟩ : ∃ n, l.length = n := ⟨_, rfl⟩
  rw [en] at hn
  rw [en]
  unfold maxLen at hn
  have HA : Hid _ := hca
  have HB : Hid _ := hcb
  clear hca hcb
  go_enter Try.func13, Try.ntmps13
  go_wp2
  go_loopw [5] (fun i wr => ∃ k : Nat, k ≤ n ∧ i = .int .i64 k ∧ Hid (Below w.heap.size w wr)) (fun i _ => n - (intOf i).toNat)
  case atStart => exact ⟨0, Nat.zero_le _, rfl, Below.refl _ _⟩
  case round =>
    obtain ⟨k, hk, rfl, hbel⟩ := hrel
    have hs := hbel.out.size
    by_cases hlt : k < n
    · obtain ⟨ba, fa, rfl, hba, cc, hxa, hata⟩ := HA.out k (by omega)
      obtain ⟨bb, fb, rfl, hbb, dd, hxb, hatb⟩ := HB.out k (by omega)
      have hba' := hS ba hba
      have hbb' := hS' bb hbb
      rw [width_DRecSay] at hxa hxb
      have a0 : wr.cell? ⟨ba, fa + k * 2, none⟩ = some (cc 0) := (hbel.out.cell (p := ⟨ba, fa + k * 2, none⟩) (by show ba < _; omega)).trans (by simpa using hxa 0 (by omega))
      have a1 : wr.cell? ⟨ba, fa + k * 2 + 1, none⟩ = some (cc 1) := (hbel.out.cell (p := ⟨ba, fa + k * 2 + 1, none⟩) (by show ba < _; omega)).trans (by simpa using hxa 1 (by omega))
      have c0 : wr.cell? ⟨bb, fb + k * 2, none⟩ = some (dd 0) := (hbel.out.cell (p := ⟨bb, fb + k * 2, none⟩) (by show bb < _; omega)).trans (by simpa using hxb 0 (by omega))
      have c1 : wr.cell? ⟨bb, fb + k * 2 + 1, none⟩ = some (dd 1) := (hbel.out.cell (p := ⟨bb, fb + k * 2 + 1, none⟩) (by show bb < _; omega)).trans (by simpa using hxb 1 (by omega))
      have HAA : Hid (Lay.At S wr (l[k]'(by omega)) cc) := Lay.same hata (Same.of_below hbel.out hS)
      have HBB : Hid (Lay.At S' wr (l[k]'(by omega)) dd) := Lay.same hatb (Same.of_below hbel.out hS')
      clear hata hatb
      have hSr : ∀ b, S b → b < wr.heap.size := fun b hb => Nat.lt_of_lt_of_le (hS b hb) hs
      have hSr' : ∀ b, S' b → b < wr.heap.size := fun b hb => Nat.lt_of_lt_of_le (hS' b hb) hs
      clear hxa hxb
      have qa0 := fun d os => cell_regrown a0 d os
      have qa1 := fun d os => cell_regrown a1 d os
      have qc0 := fun d os => cell_regrown c0 d os
      have qc1 := fun d os => cell_regrown c1 d os
      go_wp2
      refine wp_region_quiet_below (by kernel_rfl) (by kernel_rfl) ?_
      repeat (first | go_big_quiet_step (with_reducible exact eqRecSayq S S' _ _ _ _ HAA.out HBB.out hSr hSr' _ _) | quiet_step (with_reducible exact eqRecSayq S S' _ _ _ _ HAA.out HBB.out hSr hSr' _ _))
      refine wpQuiet_nil ?_
      intro _ hw'
      obtain ⟨⟨dq, osq⟩, hw''⟩ := hw'
      subst hw''
      go_wp2
      go_roundw
      case rel => exact ⟨k + 1, by omega, by go_num, hbel.out.trans ((below_regrown _ dq osq).mono hs)⟩
      case measure => simp [intOf]; omega
    · go_wp2
      go_ret
      exact ⟨rfl, hbel.out⟩

end Go.Proofs.Ytkongeofapbblae

/-
  The slots that a recipe uses from here (plain).
-/
namespace Go.Proofs.Ytkongeofapbblae
open Go.RowKit

theorem own_one {base : Nat} {w : World} {x : ByteArray} (hb : base ≤ w.heap.size) : (w.alloc (.cells #[.string x] 9)).ownsRow base 9 1 (.slice (some ⟨w.heap.size, 0, none⟩) [x].length 1) [x].length ([x].map .string) :=
  ⟨by simp, .inr ⟨w.heap.size, 1, #[.string x], rfl, hb, heap_alloc_new w _, Nat.le_refl _, by decide, rfl, rfl⟩⟩
theorem own_nil {base : Nat} {w : World} (hb : base ≤ w.heap.size) : (w.alloc (.cells #[] 9)).ownsRow base 9 1 (.slice (some ⟨w.heap.size, 0, none⟩) 0 0) 0 [] :=
  ⟨by simp, .inr ⟨w.heap.size, 0, #[], rfl, hb, heap_alloc_new w _, Nat.le_refl _, by decide, rfl, rfl⟩⟩
/-- A list of texts that can be read. -/
def RdB (w : World) (v : Value) (b : List ByteArray) : Prop := ∃ o c, v = .slice o b.length c ∧ ∀ i, i < b.length → ∃ g, o = some ⟨g, 0, none⟩ ∧ g < w.heap.size ∧ w.cell? ⟨g, i, none⟩ = some (.string (nthB b i))
theorem RdB.of {base : Nat} {w : World} {v : Value} {b : List ByteArray} (h : w.ownsRow base 9 1 v b.length (b.map .string)) : RdB w v b := by
  rcases id h.2 with ⟨e, hn⟩ | ⟨g, cap, cur, e, rest⟩
  · exact ⟨none, 0, by rw [hn]; exact e, fun i hi => by omega⟩
  · subst e
    exact ⟨_, cap, rfl, fun i hi => ⟨g, rfl, (Array.getElem?_eq_some_iff.1 rest.2.1).1, (own_cells h).2 i hi⟩⟩
theorem RdB.kept {w w' : World} {v : Value} {b : List ByteArray} (h : RdB w v b) (hb : Below w.heap.size w w') : RdB w' v b := by
  obtain ⟨o, c, e, hx⟩ := h
  refine ⟨o, c, e, fun i hi => ?_⟩
  obtain ⟨g, h1, h2, h3⟩ := hx i hi
  exact ⟨g, h1, Nat.lt_of_lt_of_le h2 hb.size, (hb.cell h2).trans h3⟩
def bothL (a b : List ByteArray) : List ByteArray := b.foldl insR a
theorem both_take (a b : List ByteArray) {k : Nat} (h : k < b.length) : bothL a (b.take (k + 1)) = insR (bothL a (b.take k)) (nthB b k) := by
  unfold bothL
  rw [List.take_add_one, List.getElem?_eq_getElem h, List.foldl_append]
  simp [nthB, h]
theorem both_len : ∀ (b a : List ByteArray), (bothL a b).length ≤ a.length + b.length
  | [], a => by simp [bothL]
  | x :: b, a => by
    have h1 := both_len b (insR a x)
    have h2 := insR_len a x
    have e : bothL a (x :: b) = bothL (insR a x) b := rfl
    rw [e, List.length_cons]; omega
def ofL (p : DRecPhase) : List ByteArray := if p.2.1 = 2 then insR [p.2.2.1] p.2.2.2.1 else [p.2.2.1]
theorem of_len (p : DRecPhase) : (ofL p).length ≤ 2 := by
  unfold ofL
  split
  · exact Nat.le_trans (insR_len _ _) (by simp)
  · simp
/-- The slots from here, by at most so many phases. -/
def sltF : Nat → List DRecPhase → ByteArray → List ByteArray
  | 0, _, _ => []
  | n + 1, r, x => if atI r x < 0 then [] else bothL (bothL (ofL (phX r x)) (sltF n r (phX r x).2.2.2.2.2.2.1)) (sltF n r (phX r x).2.2.2.2.2.2.2)
theorem slt_len (r : List DRecPhase) : ∀ (n : Nat) (x : ByteArray), (sltF n r x).length + 2 ≤ 2 * 2 ^ n
  | 0, x => by simp [sltF]
  | n + 1, x => by
    have h1 := slt_len r n (phX r x).2.2.2.2.2.2.1
    have h2 := slt_len r n (phX r x).2.2.2.2.2.2.2
    have h3 := both_len (sltF n r (phX r x).2.2.2.2.2.2.1) (ofL (phX r x))
    have h4 := both_len (sltF n r (phX r x).2.2.2.2.2.2.2) (bothL (ofL (phX r x)) (sltF n r (phX r x).2.2.2.2.2.2.1))
    have h5 := of_len (phX r x)
    have h6 : 2 * 2 ^ (n + 1) = 2 * (2 * 2 ^ n) := by rw [Nat.pow_succ]; omega
    have h7 : 1 ≤ 2 ^ n := Nat.one_le_two_pow
    unfold sltF
    split
    · simp; omega
    · omega
theorem slt_small (r : List DRecPhase) {n : Nat} (hn : n ≤ 12) (x : ByteArray) : (sltF n r x).length ≤ 8192 := by
  have h1 := slt_len r n x
  have h2 : 2 ^ n ≤ 2 ^ 12 := Nat.pow_le_pow_right (by omega) hn
  have h3 : (2 : Nat) ^ 12 = 4096 := by decide
  omega

end Go.Proofs.Ytkongeofapbblae

/-
  The slots of a recipe (plain): which texts they are, how many; a row of texts that owns its memory is a list.
-/
namespace Go.Proofs.Ytkongeofapbblae
open Go.RowKit

/-- The slots of a recipe, none if it is not ok. -/
noncomputable def slL (r : List DRecPhase) (x : ByteArray) : List ByteArray := if recB r = true then sltF 12 r x else []
theorem ins_memX : ∀ (l : List ByteArray) (x y : ByteArray), y ∈ insR l x → y = x ∨ y ∈ l
  | [], x, y, h => by simp [insR] at h; exact Or.inl h
  | z :: l, x, y, h => by
    unfold insR at h
    cases h1 : ltB z x
    · cases h2 : eqB z x
      · simp [h1, h2] at h
        rcases h with h | h | h
        · exact Or.inl h
        · exact Or.inr (by simp [h])
        · exact Or.inr (by simp [h])
      · simp [h1, h2] at h
        rcases h with h | h
        · exact Or.inr (by simp [h])
        · exact Or.inr (by simp [h])
    · simp [h1] at h
      rcases h with h | h
      · exact Or.inr (by simp [h])
      · rcases ins_memX l x y h with h | h
        · exact Or.inl h
        · exact Or.inr (by simp [h])
theorem both_mem : ∀ (b a : List ByteArray) (y : ByteArray), y ∈ bothL a b → y ∈ a ∨ y ∈ b
  | [], a, y, h => Or.inl h
  | x :: b, a, y, h => by
    rcases both_mem b (insR a x) y h with h | h
    · rcases ins_memX a x y h with h | h
      · exact Or.inr (by simp [h])
      · exact Or.inl h
    · exact Or.inr (by simp [h])
theorem name_le {s : ByteArray} (h : nameB s = true) : s.size ≤ 8 := by
  unfold nameB at h
  simp only [Bool.and_eq_true, decide_eq_true_eq] at h
  exact h.1.2
theorem ph_args {p : DRecPhase} (h : phaseB p = true) : nameB p.2.2.1 = true ∧ (p.2.1 = 2 → nameB p.2.2.2.1 = true) := by
  refine ⟨(ph_name h).2.2.2, fun e => ?_⟩
  simp only [phaseB, Bool.and_eq_true] at h
  have ha := h.1.1.2
  unfold argsB at ha
  rw [if_neg (by omega), if_pos e] at ha
  simp only [Bool.and_eq_true] at ha
  exact ha.1.1.2
theorem slt_names {r : List DRecPhase} (h : RecP r) : ∀ (n : Nat) (x y : ByteArray), y ∈ sltF n r x → y.size ≤ 8
  | 0, x, y, hy => by simp [sltF] at hy
  | n + 1, x, y, hy => by
    rcases at_cases r x with e | ⟨k, hk, e, _⟩
    · simp [sltF, e] at hy
    · have hx : ¬ (atI r x < 0) := by omega
      have hp := ph_args (step_of h hk).1
      rw [← ph_at hk e] at hp
      simp only [sltF, if_neg hx] at hy
      rcases both_mem _ _ y hy with hy | hy
      · rcases both_mem _ _ y hy with hy | hy
        · unfold ofL at hy
          split at hy
          case isTrue c =>
            rcases ins_memX _ _ y hy with hy | hy
            · rw [hy]; exact name_le (hp.2 c)
            · simp at hy; rw [hy]; exact name_le hp.1
          case isFalse c => simp at hy; rw [hy]; exact name_le hp.1
        · exact slt_names h n _ y hy
      · exact slt_names h n _ y hy
theorem sl_names (r : List DRecPhase) (x y : ByteArray) (hy : y ∈ slL r x) : y.size ≤ maxLen := by
  unfold slL at hy
  split at hy
  case isTrue c => exact Nat.le_trans (slt_names (rec_iff.1 c) 12 x y hy) (by decide)
  case isFalse => simp at hy
theorem sl_len (r : List DRecPhase) (x : ByteArray) : (slL r x).length ≤ 8192 := by
  unfold slL
  split
  · exact slt_small r (Nat.le_refl _) x
  · simp
theorem at_rowX {base : Nat} {w : World} {v : Value} {l : List ByteArray} (h : w.ownsRow base 9 1 v l.length (l.map .string)) (hz : ∀ x ∈ l, x.size ≤ maxLen) (hl : l.length ≤ 8192) : AtL (fun b => base ≤ b ∧ b < w.heap.size) w l v := by
  rcases id h.2 with ⟨e, hn⟩ | ⟨g, cap, cur, e, hb, hg, hc, hm, _, _⟩
  · have hl0 : l = [] := List.eq_nil_of_length_eq_zero hn
    subst hl0
    exact ⟨none, 0, e, ⟨by unfold maxLen; simp, Nat.le_refl _, fun _ => rfl⟩, fun i hi => by simp at hi⟩
  · subst e
    refine ⟨_, cap, rfl, ⟨by unfold maxLen; omega, hc, fun h => nomatch h⟩, fun i hi => ⟨g, 0, rfl, ⟨hb, (Array.getElem?_eq_some_iff.1 hg).1⟩, fun _ => .string l[i], fun j hj => ?_, ?_⟩⟩
    · rw [width_str] at hj ⊢
      have ej : j = 0 := by omega
      subst ej
      have := (own_cells h).2 i hi
      rw [Nat.zero_add, Nat.mul_one, Nat.add_zero, this]
      simp [nthB, hi]
    · rw [at_str]
      exact ⟨rfl, hz _ (List.getElem_mem hi)⟩

end Go.Proofs.Ytkongeofapbblae
