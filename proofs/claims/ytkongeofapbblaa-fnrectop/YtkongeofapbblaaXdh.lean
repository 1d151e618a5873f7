/-
  A recipe is drawn.
-/
import Derived.Test.YtkongeofapbblaaM19
import Derived.Test.YtkongeofapbblaaXdd
import Derived.Test.YtkongeofapbblaaM17
import Derived.Deep.Cut
namespace Go.Proofs.Ytkongeofapbblaa
open Go.RowKit Go.Sort

theorem one_atR (t : TypeId) (W : World) (nm a b th el : ByteArray) (kd m wi : Int) (hz : PzL 2000 (nm, kd, a, b, m, wi, th, el)) : AtL (fun q => q = W.heap.size) (W.alloc (.cells #[.string nm, .int .i64 kd, .string a, .string b, .int .i64 m, .int .i64 wi, .string th, .string el] t)) ([(nm, kd, a, b, m, wi, th, el)] : List DRecPhase) (.slice (some ⟨W.heap.size, 0, none⟩) 1 1) := by
  have h2 := heap_alloc_new W (.cells #[.string nm, .int .i64 kd, .string a, .string b, .int .i64 m, .int .i64 wi, .string th, .string el] t)
  refine ⟨_, _, rfl, ⟨by unfold maxLen; simp, by simp, fun h => by cases h⟩, fun i hi => ⟨_, _, rfl, rfl, eR (nm, kd, a, b, m, wi, th, el), fun j hj => ?_, ?_⟩⟩
  · have hi0 : i = 0 := by simpa using hi
    subst hi0
    rw [width_DRecPhase] at hj
    rw [Nat.zero_mul, Nat.add_zero, Nat.zero_add]
    rcases (show j = 0 ∨ j = 1 ∨ j = 2 ∨ j = 3 ∨ j = 4 ∨ j = 5 ∨ j = 6 ∨ j = 7 by omega) with rfl | rfl | rfl | rfl | rfl | rfl | rfl | rfl
    all_goals exact (cell_row h2 _ _ rfl).1
  · have hi0 : i = 0 := by simpa using hi
    subst hi0
    exact flatR.at_ (hz.ok (by omega))
theorem atl_cut {α : Type} [Lay α] {S : Nat → Prop} {w : World} {l : List α} {b off n cap : Nat} (h : AtL S w l (.slice (some ⟨b, off, none⟩) n cap)) (i m : Nat) (him : i ≤ m) (hm : m ≤ n) : AtL S w ((l.take m).drop i) (.slice (some ⟨b, off + i * Lay.width α, none⟩) (m - i) (cap - i)) := by
  obtain ⟨oa, c, e, hn, hc⟩ := h
  injection e with e1 e2 e3
  subst e1 e2 e3
  have hlen : ((l.take m).drop i).length = m - i := by rw [List.length_drop, List.length_take]; omega
  refine ⟨_, _, by rw [hlen], ⟨by rw [hlen]; omega, by rw [hlen]; omega, fun h => by cases h⟩, fun k hk => ?_⟩
  rw [hlen] at hk
  obtain ⟨b', off', e, hS, cc, h3, h4⟩ := hc (i + k) (by omega)
  cases e
  refine ⟨_, _, rfl, hS, cc, fun j hj => ?_, ?_⟩
  · have := h3 j hj
    rw [Nat.add_mul, ← Nat.add_assoc] at this
    exact this
  · rw [List.getElem_drop, List.getElem_take]; exact h4
theorem atl_none {α : Type} [Lay α] (S : Nat → Prop) (w : World) (oa : Option Addr) : AtL S w ([] : List α) (.slice oa 0 0) :=
  ⟨oa, 0, rfl, ⟨Nat.zero_le _, Nat.le_refl _, fun _ => rfl⟩, fun _ h => absurd h (Nat.not_lt_zero _)⟩
/-- Where the drawing of a recipe stands: the reader, the phases so far in a row of the call's own. -/
structure Dr (R : Nat) (ob : Option Addr) (n cb : Nat) (f : Nat → Int) (w : World) (B : Nat) (W : World) (p : Int) (v : Value) (L : List DRecPhase) : Prop where
  rd : Rd R W ob n cb p f
  but : But (fun q => q = R) w W
  row : Row W B 37 8 eR v L
  pz : ∀ x ∈ L, PzL 1000 x
  rlt : R < w.heap.size
  lo : w.heap.size ≤ B
  hi : B ≤ W.heap.size
section
variable {R : Nat} {ob : Option Addr} {n cb : Nat} {f : Nat → Int} {w : World} {B : Nat} {W W' : World} {p p' : Int} {v v' : Value} {L : List DRecPhase}
theorem Dr.call (h : Dr R ob n cb f w B W p v L) (rd : Rd R W' ob n cb p' f) (bt : But (fun q => q = R) W W') : Dr R ob n cb f w B W' p' v L :=
  have h1 := h.lo; have h2 := h.rlt
  ⟨rd, h.but.trans bt, Row.block h.row (fun q hq => bt.block q (World.ownsRow.lt h.row q hq).2 (by have := (World.ownsRow.lt h.row q hq).1; omega)), h.pz, h2, h1, Nat.le_trans h.hi bt.size⟩
theorem Dr.below (h : Dr R ob n cb f w B W p v L) (hb : Below W.heap.size W W') : Dr R ob n cb f w B W' p v L :=
  have h1 := h.rd.lt
  ⟨h.rd.but (fun b hb' => hb.block b (by omega)), h.but.trans (But.of_below hb), Row.below h.row hb, h.pz, h.rlt, h.lo, Nat.le_trans h.hi hb.size⟩
theorem Dr.grow (h : Dr R ob n cb f w B W p v L) {L' : List DRecPhase} (hown : Row W' B 37 8 eR v' L') (hg : W.grownBy W' v.ownBlock) (hz : ∀ x ∈ L', PzL 1000 x) : Dr R ob n cb f w B W' p v' L' :=
  have h1 := h.lo; have h2 := h.rlt; have h3 := h.hi
  have ne : ∀ b, b < B → some b ≠ v.ownBlock := fun b hb e => by have := (World.ownsRow.lt h.row b e.symm).1; omega
  ⟨h.rd.but (fun b hb => hg.block b (by omega) (ne b (by omega))), ⟨hg.os.trans h.but.os, hg.tape.trans h.but.tape, hg.output.trans h.but.output, Nat.le_trans h.but.size hg.size, fun b h4 h5 => (hg.block b (by have := h.but.size; omega) (ne b (by omega))).trans (h.but.block b h4 h5)⟩, hown, hz, h2, h1, Nat.le_trans h3 hg.size⟩
end
theorem lit_in {t : TypeId} {W : World} {g : Nat} {l : List ByteArray} (h : W.heap[g]? = some (.cells (l.map Value.string).toArray t (0, 0))) (hl : l.length ≤ maxLen) (hz : ∀ s ∈ l, s.size ≤ maxLen) : AtL (fun b => b = g) W l (.slice (some ⟨g, 0, none⟩) l.length l.length) := by
  refine ⟨_, _, rfl, ⟨hl, Nat.le_refl _, fun h => by cases h⟩, fun i hi => ⟨_, _, rfl, rfl, fun _ => .string l[i], fun j hj => ?_, ?_⟩⟩
  · rw [width_str] at hj ⊢
    have ej : j = 0 := by omega
    subst ej
    rw [Nat.mul_one, Nat.zero_add, Nat.add_zero]
    exact (cell_row h i _ (by simp [hi])).1
  · rw [at_str]; exact ⟨rfl, hz _ (List.getElem_mem hi)⟩
theorem name_at (k : Nat) (hk : k < 8) : ∃ s : ByteArray, (#[.string ⟨#[98, 114, 101, 119]⟩, .string ⟨#[102, 49]⟩, .string ⟨#[102, 50]⟩, .string ⟨#[103]⟩, .string ⟨#[104]⟩, .string ⟨#[109, 97, 115, 104]⟩, .string ⟨#[114, 101, 115, 116]⟩, .string ⟨#[120, 45, 57]⟩] : Array Value)[k]? = some (.string s) ∧ s.size ≤ 16 := by
  rcases (show k = 0 ∨ k = 1 ∨ k = 2 ∨ k = 3 ∨ k = 4 ∨ k = 5 ∨ k = 6 ∨ k = 7 by omega) with rfl | rfl | rfl | rfl | rfl | rfl | rfl | rfl
  all_goals exact ⟨_, rfl, by decide⟩
def lenV : Value → Nat
  | .slice _ n _ => n
  | _ => 0
def oOf : Value → Option Addr
  | .slice o _ _ => o
  | _ => none
def cOf : Value → Nat
  | .slice _ _ c => c
  | _ => 0

set_option maxRecDepth 100000 in
set_option maxHeartbeats 4000000 in
theorem recipe_rd (R : Nat) (ob : Option Addr) (n cb : Nat) (f : Nat → Int) (p : Int) (w : World) (h : Rd R w ob n cb p f) (hp : p ≤ 60000) :
    Calls Try.prog 50 #[.pointer (some ⟨R, 0, none⟩)] w fun e w' => ∃ v L, e = .returned v ∧ 1 ≤ L.length ∧ L.length ≤ 12 ∧ ∃ p', p' ≤ p + 1000 ∧ Hid (Dr R ob n cb f w (w.heap.size + 1) w' p' v L) := by
  have rlt := h.lt
  go_enter Try.func50, Try.ntmps50
  go_wp2_with fail
  refine (names_any w).mono ?_
  rintro e W1 ⟨rfl, hW1⟩
  have NB1 : Hid (W1.heap[w.heap.size]? = some (.cells #[.string ⟨#[98, 114, 101, 119]⟩, .string ⟨#[102, 49]⟩, .string ⟨#[102, 50]⟩, .string ⟨#[103]⟩, .string ⟨#[104]⟩, .string ⟨#[109, 97, 115, 104]⟩, .string ⟨#[114, 101, 115, 116]⟩, .string ⟨#[120, 45, 57]⟩] 9 (0, 0))) := by rw [hW1]; exact heap_alloc_new w _
  have RD1 : Hid (Rd R W1 ob n cb p f) := by show Rd R W1 ob n cb p f; rw [hW1]; exact h.but (fun b hb => Below.heap_alloc w _ b (by omega))
  have BT1 : Hid (But (fun q => q = R) w W1) := by show But _ w W1; rw [hW1]; exact but_alloc (But.refl _ w) _
  have s1 : w.heap.size + 1 ≤ W1.heap.size := by rw [hW1]; simp
  clear hW1 h
  have C : Hid _ := pick_rd R ob n cb f p 8 W1 RD1.out (by omega) (by omega) (by omega)
  go_wp2_with fail
  refine Calls.mono C.out ?_
  rintro e W2 ⟨x, rfl, x0, x1, p2, hp2, RD2, bt⟩
  have NB2 : Hid (W2.heap[w.heap.size]? = some (.cells #[.string ⟨#[98, 114, 101, 119]⟩, .string ⟨#[102, 49]⟩, .string ⟨#[102, 50]⟩, .string ⟨#[103]⟩, .string ⟨#[104]⟩, .string ⟨#[109, 97, 115, 104]⟩, .string ⟨#[114, 101, 115, 116]⟩, .string ⟨#[120, 45, 57]⟩] 9 (0, 0))) := (bt.out.block w.heap.size (by omega) (by omega)).trans NB1.out
  have BT2 : Hid (But (fun q => q = R) w W2) := BT1.out.trans bt.out
  have s2 := bt.out.size
  clear C bt RD1 BT1 NB1
  obtain ⟨i0, rfl⟩ := Int.eq_ofNat_of_zero_le x0
  obtain ⟨nn, hnn⟩ : ∃ nn : Nat, nn = 1 + i0 := ⟨_, rfl⟩
  have hnn8 : 1 ≤ nn ∧ nn ≤ 8 := by omega
  have EN : Hid ((1 : Int) + (i0 : Int) = (nn : Int)) := by show _ = _; omega
  clear hnn
  obtain ⟨W3, hW3⟩ : ∃ u, u = W2.alloc (.cells #[] 37) := ⟨_, rfl⟩
  have HE3 : Hid (W3 = W2.alloc (.cells #[] 37)) := hW3
  have D3 : Hid (Dr R ob n cb f w (w.heap.size + 1) W3 p2 (.slice (some ⟨W2.heap.size, 0, none⟩) 0 0) []) := by
    rw [hW3]
    exact ⟨RD2.out.but (fun b hb => Below.heap_alloc W2 _ b (by omega)), but_alloc BT2.out _, Row.made W2 37 8 eR (by omega), (fun _ h => by cases h), rlt, by omega, by simp; omega⟩
  have NB3 : Hid (W3.heap[w.heap.size]? = some (.cells #[.string ⟨#[98, 114, 101, 119]⟩, .string ⟨#[102, 49]⟩, .string ⟨#[102, 50]⟩, .string ⟨#[103]⟩, .string ⟨#[104]⟩, .string ⟨#[109, 97, 115, 104]⟩, .string ⟨#[114, 101, 115, 116]⟩, .string ⟨#[120, 45, 57]⟩] 9 (0, 0))) := by rw [hW3]; exact alloc_upD _ NB2.out
  clear hW3 RD2 BT2 NB2
  go_upto_region 4 with fail
  rw [← HE3.out, EN.out]
  clear HE3 EN
  go_wp2_with fail
  go_loopw [5, 6] (fun o i wr => ∃ (k : Nat) (L : List DRecPhase) (q : Int), k ≤ nn ∧ i = .int .i64 k ∧ L.length = k ∧ q ≤ p + 1 + 21 * k ∧ Hid (Dr R ob n cb f w (w.heap.size + 1) wr q o L) ∧ Hid (wr.heap[w.heap.size]? = some (.cells #[.string ⟨#[98, 114, 101, 119]⟩, .string ⟨#[102, 49]⟩, .string ⟨#[102, 50]⟩, .string ⟨#[103]⟩, .string ⟨#[104]⟩, .string ⟨#[109, 97, 115, 104]⟩, .string ⟨#[114, 101, 115, 116]⟩, .string ⟨#[120, 45, 57]⟩] 9 (0, 0)))) (fun _ i _ => nn - (intOf i).toNat)
  case atStart => exact ⟨0, [], p2, Nat.zero_le _, rfl, rfl, by omega, D3, NB3⟩
  case round =>
    clear D3 NB3
    obtain ⟨k, L, q, hk, rfl, hLk, hq, DR, NB⟩ := hrel
    obtain ⟨oo, ko, hform⟩ := Row.form DR.out.row
    rw [hLk] at hform
    subst hform
    by_cases hlt : k < nn
    · obtain ⟨s, hs, sz⟩ := name_at k (by omega)
      go_upto_region 7 with fail
      have wlt := DR.out.but.size
      have whi := DR.out.hi
      have NV : Hid (∀ v, But (fun q => q = R) wr.drew v → v.heap[w.heap.size]? = some (.cells #[.string ⟨#[98, 114, 101, 119]⟩, .string ⟨#[102, 49]⟩, .string ⟨#[102, 50]⟩, .string ⟨#[103]⟩, .string ⟨#[104]⟩, .string ⟨#[109, 97, 115, 104]⟩, .string ⟨#[114, 101, 115, 116]⟩, .string ⟨#[120, 45, 57]⟩] 9 (0, 0))) := fun v hv => (hv.block w.heap.size (by show _ < wr.heap.size; omega) (by omega)).trans NB.out
      have HV : Hid (∀ v, But (fun q => q = R) wr.drew v → v.cell? ⟨w.heap.size, k, none⟩ = some (.string s)) := fun v hv => (cell_row (NV.out v hv) k _ hs).1
      have RDD : Hid (Rd R wr.drew ob n cb q f) := DR.out.rd.but (fun _ _ => rfl)
      have DD : Hid (Dr R ob n cb f w (w.heap.size + 1) wr.drew q (.slice oo k ko) L) := DR.out.below (Below.refl _ _).drew
      by_cases hk7 : k + 1 < 8
      · have LAT : Hid (AtL (fun b => b = w.heap.size) wr.drew ((([⟨#[98, 114, 101, 119]⟩, ⟨#[102, 49]⟩, ⟨#[102, 50]⟩, ⟨#[103]⟩, ⟨#[104]⟩, ⟨#[109, 97, 115, 104]⟩, ⟨#[114, 101, 115, 116]⟩, ⟨#[120, 45, 57]⟩] : List ByteArray).take nn).drop (k + 1)) (.slice (some ⟨w.heap.size, k + 1, none⟩) (nn - (k + 1)) (8 - (k + 1)))) := by
          have h := atl_cut (lit_in (l := ([⟨#[98, 114, 101, 119]⟩, ⟨#[102, 49]⟩, ⟨#[102, 50]⟩, ⟨#[103]⟩, ⟨#[104]⟩, ⟨#[109, 97, 115, 104]⟩, ⟨#[114, 101, 115, 116]⟩, ⟨#[120, 45, 57]⟩] : List ByteArray)) (NV.out wr.drew (But.refl _ _)) (by unfold maxLen; decide) (fun s hs => Nat.le_trans (((fun s hs => by simp only [List.mem_cons, List.not_mem_nil, or_false] at hs; rcases hs with rfl | rfl | rfl | rfl | rfl | rfl | rfl | rfl <;> decide : ∀ s ∈ ([⟨#[98, 114, 101, 119]⟩, ⟨#[102, 49]⟩, ⟨#[102, 50]⟩, ⟨#[103]⟩, ⟨#[104]⟩, ⟨#[109, 97, 115, 104]⟩, ⟨#[114, 101, 115, 116]⟩, ⟨#[120, 45, 57]⟩] : List ByteArray), s.size ≤ 16)) s hs) (by decide))) (k + 1) nn (by omega) (by show nn ≤ 8; omega)
          rw [width_str, Nat.mul_one, Nat.zero_add] at h
          exact h
        have C : Hid _ := phase_rd R ob n cb f q (fun b => b = w.heap.size) ((([⟨#[98, 114, 101, 119]⟩, ⟨#[102, 49]⟩, ⟨#[102, 50]⟩, ⟨#[103]⟩, ⟨#[104]⟩, ⟨#[109, 97, 115, 104]⟩, ⟨#[114, 101, 115, 116]⟩, ⟨#[120, 45, 57]⟩] : List ByteArray).take nn).drop (k + 1)) s (some ⟨w.heap.size, k + 1, none⟩) (nn - (k + 1)) (8 - (k + 1)) wr.drew RDD.out (by omega) sz LAT.out (fun b hb => by subst hb; exact ⟨by show _ < wr.heap.size; omega, by omega⟩) (by omega) (fun s hs => ((fun s hs => by simp only [List.mem_cons, List.not_mem_nil, or_false] at hs; rcases hs with rfl | rfl | rfl | rfl | rfl | rfl | rfl | rfl <;> decide : ∀ s ∈ ([⟨#[98, 114, 101, 119]⟩, ⟨#[102, 49]⟩, ⟨#[102, 50]⟩, ⟨#[103]⟩, ⟨#[104]⟩, ⟨#[109, 97, 115, 104]⟩, ⟨#[114, 101, 115, 116]⟩, ⟨#[120, 45, 57]⟩] : List ByteArray), s.size ≤ 16)) s (List.mem_of_mem_take (List.mem_of_mem_drop hs)))
        clear LAT
        refine wp_region_movesC (fun v => But (fun q => q = R) wr.drew v) 13 [] (by kernel_rfl) (by kernel_rfl) (But.refl _ _) ?_
        simp only [List.filterMap_nil, movD]
        refine takeHQ (f := 12) (i := 0) (.slice oo k ko) ⟨rfl, rfl⟩ (by kernel_rfl) rfl (But.refl _ _) ?r0 ?_
        case r0 => intro v hv; go_simp
        simp only [Act.put, List.setIfInBounds_toArray, List.set_cons_zero, List.set_cons_succ]
        refine takeHQ (f := 11) (i := 1) (.pointer (some ⟨R, 0, none⟩)) ⟨rfl, rfl⟩ (by kernel_rfl) rfl (But.refl _ _) ?r1 ?_
        case r1 => intro v hv; go_simp
        simp only [Act.put, List.setIfInBounds_toArray, List.set_cons_zero, List.set_cons_succ]
        refine takeHQ (f := 10) (i := 2) (.slice (some ⟨w.heap.size, 0, none⟩) 8 8) ⟨rfl, rfl⟩ (by kernel_rfl) rfl (But.refl _ _) ?r2 ?_
        case r2 => intro v hv; go_simp
        simp only [Act.put, List.setIfInBounds_toArray, List.set_cons_zero, List.set_cons_succ]
        refine takeHQ (f := 9) (i := 3) (.int .i64 k) ⟨rfl, rfl⟩ (by kernel_rfl) rfl (But.refl _ _) ?r3 ?_
        case r3 => intro v hv; go_simp
        simp only [Act.put, List.setIfInBounds_toArray, List.set_cons_zero, List.set_cons_succ]
        refine takeHQ (f := 8) (i := 4) (.pointer (some ⟨w.heap.size, k, none⟩)) ⟨rfl, rfl⟩ (by kernel_rfl) rfl (But.refl _ _) ?r4 ?_
        case r4 => intro v hv; go_simp; intro h; exfalso; omega
        simp only [Act.put, List.setIfInBounds_toArray, List.set_cons_zero, List.set_cons_succ]
        refine takeHQ (f := 7) (i := 5) (.string s) ⟨rfl, rfl⟩ (by kernel_rfl) rfl (But.refl _ _) ?r5 ?_
        case r5 => intro v hv; have k0 := HV.out v hv; go_simp
        simp only [Act.put, List.setIfInBounds_toArray, List.set_cons_zero, List.set_cons_succ]
        refine takeHQ (f := 6) (i := 6) (.slice (some ⟨w.heap.size, 0, none⟩) 8 8) ⟨rfl, rfl⟩ (by kernel_rfl) rfl (But.refl _ _) ?r6 ?_
        case r6 => intro v hv; go_simp
        simp only [Act.put, List.setIfInBounds_toArray, List.set_cons_zero, List.set_cons_succ]
        refine takeHQ (f := 5) (i := 7) (.int .i64 k) ⟨rfl, rfl⟩ (by kernel_rfl) rfl (But.refl _ _) ?r7 ?_
        case r7 => intro v hv; go_simp
        simp only [Act.put, List.setIfInBounds_toArray, List.set_cons_zero, List.set_cons_succ]
        refine takeHQ (f := 4) (i := 8) (.int .i64 (k + 1)) ⟨rfl, rfl⟩ (by kernel_rfl) rfl (But.refl _ _) ?r8 ?_
        case r8 => intro v hv; go_simp; exact wrap_s _ (by omega) (by omega)
        simp only [Act.put, List.setIfInBounds_toArray, List.set_cons_zero, List.set_cons_succ]
        refine takeHQ (f := 3) (i := 9) (.int .i64 nn) ⟨rfl, rfl⟩ (by kernel_rfl) rfl (But.refl _ _) ?r9 ?_
        case r9 => intro v hv; go_simp
        simp only [Act.put, List.setIfInBounds_toArray, List.set_cons_zero, List.set_cons_succ]
        refine takeHQ (f := 2) (i := 10) (.slice (some ⟨w.heap.size, k + 1, none⟩) (nn - (k + 1)) (8 - (k + 1))) ⟨rfl, rfl⟩ (by kernel_rfl) rfl (But.refl _ _) ?r10 ?_
        case r10 => intro v hv; go_simp; rw [if_pos (by omega), if_pos (by omega), if_neg (show ¬ k = 7 by omega)]
        simp only [Act.put, List.setIfInBounds_toArray, List.set_cons_zero, List.set_cons_succ]
        refine callHd (f := 1) (i := 11) ⟨rfl, rfl⟩ (by decide) (by kernel_rfl) rfl ?rc (Calls.mono C.out ?_)
        case rc => go_simp
        rintro e W4 ⟨kd, a, b, m, wi, th, el, rfl, pz, p4, hp4, RD4, bt⟩
        refine ⟨_, rfl, bt.out, ?_⟩
        simp only [Act.put, List.setIfInBounds_toArray, List.set_cons_zero, List.set_cons_succ]
        refine oneHd (f := 0) (i := 12) (.slice (some ⟨W4.heap.size, 0, none⟩) 1 1) (W4.alloc (.cells #[.string s, .int .i64 kd, .string a, .string b, .int .i64 m, .int .i64 wi, .string th, .string el] 37)) ⟨rfl, rfl⟩ (by decide) (by kernel_rfl) rfl ?rb (but_alloc bt.out _) ?_
        case rb => go_simp
        simp only [Act.put, List.setIfInBounds_toArray, List.set_cons_zero, List.set_cons_succ]
        refine ⟨by kernel_rfl, ?_⟩
        simp only [List.drop_succ_cons, List.drop_zero]
        have D4 : Hid (Dr R ob n cb f w (w.heap.size + 1) W4 p4 (.slice oo k ko) L) := DD.out.call RD4.out bt.out
        have NB4 : Hid (W4.heap[w.heap.size]? = some (.cells #[.string ⟨#[98, 114, 101, 119]⟩, .string ⟨#[102, 49]⟩, .string ⟨#[102, 50]⟩, .string ⟨#[103]⟩, .string ⟨#[104]⟩, .string ⟨#[109, 97, 115, 104]⟩, .string ⟨#[114, 101, 115, 116]⟩, .string ⟨#[120, 45, 57]⟩] 9 (0, 0))) := NV.out W4 bt.out
        have PZ : Hid (PzL 1000 (s, kd, a, b, m, wi, th, el)) := pz
        have dhi := D4.out.hi
        have drlt := D4.out.rd.lt
        have dwl := D4.out.but.size
        have DA : Hid (Dr R ob n cb f w (w.heap.size + 1) (W4.alloc (.cells #[.string s, .int .i64 kd, .string a, .string b, .int .i64 m, .int .i64 wi, .string th, .string el] 37)) p4 (.slice oo k ko) L) := D4.out.below ((Below.refl _ _).alloc (Nat.le_refl _) _)
        have SR : Hid (Src (W4.alloc (.cells #[.string s, .int .i64 kd, .string a, .string b, .int .i64 m, .int .i64 wi, .string th, .string el] 37)) (.slice (some ⟨W4.heap.size, 0, none⟩) 1 1) 1 8 (enc 8 eR [(s, kd, a, b, m, wi, th, el)])) := flatR.src (one_atR 37 W4 s a b th el kd m wi (PZ.out.up (by omega)))
        have HOWN : Hid ((W4.alloc (.cells #[.string s, .int .i64 kd, .string a, .string b, .int .i64 m, .int .i64 wi, .string th, .string el] 37)).ownsRow (w.heap.size + 1) 37 8 (.slice oo k ko) k (enc 8 eR L)) := by
          have h : World.ownsRow _ _ _ _ _ _ _ := DA.out.row
          rw [hLk] at h; exact h
        go_wp2_with (at_builtin; refine wpList_app elR rfl _ _ rfl rfl rfl HOWN.out SR.out (flatR.enc_one _) (by unfold maxLen; omega) (by omega) (by simp; omega) ?_; intro vE u5 hown hgE hbk; have D5 : Hid (Dr R ob n cb f w (w.heap.size + 1) u5 p4 vE (L ++ [(s, kd, a, b, m, wi, th, el)])) := DA.out.grow (by show World.ownsRow _ _ _ _ _ _ _; rw [List.length_append, enc_append, hLk]; exact hown) hgE (fun x hx => (List.mem_append.1 hx).elim (DA.out.pz x) (fun h => by rw [List.mem_singleton.1 h]; exact PZ.out)); have NB5 : Hid (u5.heap[w.heap.size]? = some (.cells #[.string ⟨#[98, 114, 101, 119]⟩, .string ⟨#[102, 49]⟩, .string ⟨#[102, 50]⟩, .string ⟨#[103]⟩, .string ⟨#[104]⟩, .string ⟨#[109, 97, 115, 104]⟩, .string ⟨#[114, 101, 115, 116]⟩, .string ⟨#[120, 45, 57]⟩] 9 (0, 0))) := (hgE.block w.heap.size (by simp; omega) (fun e => by have := (World.ownsRow.lt HOWN.out _ e.symm).1; omega)).trans (alloc_upD _ NB4.out); obtain ⟨oE, kE, hvE⟩ := Row.form D5.out.row; obtain ⟨L5, hL5⟩ : ∃ L5, L5 = L ++ [(s, kd, a, b, m, wi, th, el)] := ⟨_, rfl⟩; have hL5k : L5.length = k + 1 := (by rw [hL5, List.length_append, hLk]; rfl); rw [← hL5] at D5 hvE; rw [hL5k] at hvE; subst hvE; clear hown hgE hbk hL5)
        go_wp2_with fail
        go_roundw
        case rel => exact ⟨k + 1, L5, p4, by omega, by go_num, hL5k, by omega, D5, NB5⟩
        case measure => simp [intOf]; omega
      · have C : Hid _ := phase_rd R ob n cb f q (fun b => b = w.heap.size) [] s (some ⟨w.heap.size, 0, none⟩) 0 0 wr.drew RDD.out (by omega) sz (atl_none _ _ _) (fun b hb => by subst hb; exact ⟨by show _ < wr.heap.size; omega, by omega⟩) (by omega) (fun s hs => by cases hs)
        refine wp_region_movesC (fun v => But (fun q => q = R) wr.drew v) 13 [] (by kernel_rfl) (by kernel_rfl) (But.refl _ _) ?_
        simp only [List.filterMap_nil, movD]
        refine takeHQ (f := 12) (i := 0) (.slice oo k ko) ⟨rfl, rfl⟩ (by kernel_rfl) rfl (But.refl _ _) ?r0 ?_
        case r0 => intro v hv; go_simp
        simp only [Act.put, List.setIfInBounds_toArray, List.set_cons_zero, List.set_cons_succ]
        refine takeHQ (f := 11) (i := 1) (.pointer (some ⟨R, 0, none⟩)) ⟨rfl, rfl⟩ (by kernel_rfl) rfl (But.refl _ _) ?r1 ?_
        case r1 => intro v hv; go_simp
        simp only [Act.put, List.setIfInBounds_toArray, List.set_cons_zero, List.set_cons_succ]
        refine takeHQ (f := 10) (i := 2) (.slice (some ⟨w.heap.size, 0, none⟩) 8 8) ⟨rfl, rfl⟩ (by kernel_rfl) rfl (But.refl _ _) ?r2 ?_
        case r2 => intro v hv; go_simp
        simp only [Act.put, List.setIfInBounds_toArray, List.set_cons_zero, List.set_cons_succ]
        refine takeHQ (f := 9) (i := 3) (.int .i64 k) ⟨rfl, rfl⟩ (by kernel_rfl) rfl (But.refl _ _) ?r3 ?_
        case r3 => intro v hv; go_simp
        simp only [Act.put, List.setIfInBounds_toArray, List.set_cons_zero, List.set_cons_succ]
        refine takeHQ (f := 8) (i := 4) (.pointer (some ⟨w.heap.size, k, none⟩)) ⟨rfl, rfl⟩ (by kernel_rfl) rfl (But.refl _ _) ?r4 ?_
        case r4 => intro v hv; go_simp; intro h; exfalso; omega
        simp only [Act.put, List.setIfInBounds_toArray, List.set_cons_zero, List.set_cons_succ]
        refine takeHQ (f := 7) (i := 5) (.string s) ⟨rfl, rfl⟩ (by kernel_rfl) rfl (But.refl _ _) ?r5 ?_
        case r5 => intro v hv; have k0 := HV.out v hv; go_simp
        simp only [Act.put, List.setIfInBounds_toArray, List.set_cons_zero, List.set_cons_succ]
        refine takeHQ (f := 6) (i := 6) (.slice (some ⟨w.heap.size, 0, none⟩) 8 8) ⟨rfl, rfl⟩ (by kernel_rfl) rfl (But.refl _ _) ?r6 ?_
        case r6 => intro v hv; go_simp
        simp only [Act.put, List.setIfInBounds_toArray, List.set_cons_zero, List.set_cons_succ]
        refine takeHQ (f := 5) (i := 7) (.int .i64 k) ⟨rfl, rfl⟩ (by kernel_rfl) rfl (But.refl _ _) ?r7 ?_
        case r7 => intro v hv; go_simp
        simp only [Act.put, List.setIfInBounds_toArray, List.set_cons_zero, List.set_cons_succ]
        refine takeHQ (f := 4) (i := 8) (.int .i64 (k + 1)) ⟨rfl, rfl⟩ (by kernel_rfl) rfl (But.refl _ _) ?r8 ?_
        case r8 => intro v hv; go_simp; exact wrap_s _ (by omega) (by omega)
        simp only [Act.put, List.setIfInBounds_toArray, List.set_cons_zero, List.set_cons_succ]
        refine takeHQ (f := 3) (i := 9) (.int .i64 nn) ⟨rfl, rfl⟩ (by kernel_rfl) rfl (But.refl _ _) ?r9 ?_
        case r9 => intro v hv; go_simp
        simp only [Act.put, List.setIfInBounds_toArray, List.set_cons_zero, List.set_cons_succ]
        refine takeHQ (f := 2) (i := 10) (.slice (some ⟨w.heap.size, 0, none⟩) 0 0) ⟨rfl, rfl⟩ (by kernel_rfl) rfl (But.refl _ _) ?r10 ?_
        case r10 => intro v hv; go_simp; rw [if_pos (by omega), if_pos (by omega), if_pos (show k = 7 by omega), show nn - (k + 1) = 0 by omega, show 7 - k = 0 by omega]
        simp only [Act.put, List.setIfInBounds_toArray, List.set_cons_zero, List.set_cons_succ]
        refine callHd (f := 1) (i := 11) ⟨rfl, rfl⟩ (by decide) (by kernel_rfl) rfl ?rc (Calls.mono C.out ?_)
        case rc => go_simp
        rintro e W4 ⟨kd, a, b, m, wi, th, el, rfl, pz, p4, hp4, RD4, bt⟩
        refine ⟨_, rfl, bt.out, ?_⟩
        simp only [Act.put, List.setIfInBounds_toArray, List.set_cons_zero, List.set_cons_succ]
        refine oneHd (f := 0) (i := 12) (.slice (some ⟨W4.heap.size, 0, none⟩) 1 1) (W4.alloc (.cells #[.string s, .int .i64 kd, .string a, .string b, .int .i64 m, .int .i64 wi, .string th, .string el] 37)) ⟨rfl, rfl⟩ (by decide) (by kernel_rfl) rfl ?rb (but_alloc bt.out _) ?_
        case rb => go_simp
        simp only [Act.put, List.setIfInBounds_toArray, List.set_cons_zero, List.set_cons_succ]
        refine ⟨by kernel_rfl, ?_⟩
        simp only [List.drop_succ_cons, List.drop_zero]
        have D4 : Hid (Dr R ob n cb f w (w.heap.size + 1) W4 p4 (.slice oo k ko) L) := DD.out.call RD4.out bt.out
        have NB4 : Hid (W4.heap[w.heap.size]? = some (.cells #[.string ⟨#[98, 114, 101, 119]⟩, .string ⟨#[102, 49]⟩, .string ⟨#[102, 50]⟩, .string ⟨#[103]⟩, .string ⟨#[104]⟩, .string ⟨#[109, 97, 115, 104]⟩, .string ⟨#[114, 101, 115, 116]⟩, .string ⟨#[120, 45, 57]⟩] 9 (0, 0))) := NV.out W4 bt.out
        have PZ : Hid (PzL 1000 (s, kd, a, b, m, wi, th, el)) := pz
        have dhi := D4.out.hi
        have drlt := D4.out.rd.lt
        have dwl := D4.out.but.size
        have DA : Hid (Dr R ob n cb f w (w.heap.size + 1) (W4.alloc (.cells #[.string s, .int .i64 kd, .string a, .string b, .int .i64 m, .int .i64 wi, .string th, .string el] 37)) p4 (.slice oo k ko) L) := D4.out.below ((Below.refl _ _).alloc (Nat.le_refl _) _)
        have SR : Hid (Src (W4.alloc (.cells #[.string s, .int .i64 kd, .string a, .string b, .int .i64 m, .int .i64 wi, .string th, .string el] 37)) (.slice (some ⟨W4.heap.size, 0, none⟩) 1 1) 1 8 (enc 8 eR [(s, kd, a, b, m, wi, th, el)])) := flatR.src (one_atR 37 W4 s a b th el kd m wi (PZ.out.up (by omega)))
        have HOWN : Hid ((W4.alloc (.cells #[.string s, .int .i64 kd, .string a, .string b, .int .i64 m, .int .i64 wi, .string th, .string el] 37)).ownsRow (w.heap.size + 1) 37 8 (.slice oo k ko) k (enc 8 eR L)) := by
          have h : World.ownsRow _ _ _ _ _ _ _ := DA.out.row
          rw [hLk] at h; exact h
        go_wp2_with (at_builtin; refine wpList_app elR rfl _ _ rfl rfl rfl HOWN.out SR.out (flatR.enc_one _) (by unfold maxLen; omega) (by omega) (by simp; omega) ?_; intro vE u5 hown hgE hbk; have D5 : Hid (Dr R ob n cb f w (w.heap.size + 1) u5 p4 vE (L ++ [(s, kd, a, b, m, wi, th, el)])) := DA.out.grow (by show World.ownsRow _ _ _ _ _ _ _; rw [List.length_append, enc_append, hLk]; exact hown) hgE (fun x hx => (List.mem_append.1 hx).elim (DA.out.pz x) (fun h => by rw [List.mem_singleton.1 h]; exact PZ.out)); have NB5 : Hid (u5.heap[w.heap.size]? = some (.cells #[.string ⟨#[98, 114, 101, 119]⟩, .string ⟨#[102, 49]⟩, .string ⟨#[102, 50]⟩, .string ⟨#[103]⟩, .string ⟨#[104]⟩, .string ⟨#[109, 97, 115, 104]⟩, .string ⟨#[114, 101, 115, 116]⟩, .string ⟨#[120, 45, 57]⟩] 9 (0, 0))) := (hgE.block w.heap.size (by simp; omega) (fun e => by have := (World.ownsRow.lt HOWN.out _ e.symm).1; omega)).trans (alloc_upD _ NB4.out); obtain ⟨oE, kE, hvE⟩ := Row.form D5.out.row; obtain ⟨L5, hL5⟩ : ∃ L5, L5 = L ++ [(s, kd, a, b, m, wi, th, el)] := ⟨_, rfl⟩; have hL5k : L5.length = k + 1 := (by rw [hL5, List.length_append, hLk]; rfl); rw [← hL5] at D5 hvE; rw [hL5k] at hvE; subst hvE; clear hown hgE hbk hL5)
        go_wp2_with fail
        go_roundw
        case rel => exact ⟨k + 1, L5, p4, by omega, by go_num, hL5k, by omega, D5, NB5⟩
        case measure => simp [intOf]; omega
    · have hkn : k = nn := by omega
      subst hkn
      have C : Hid _ := pick_rd R ob n cb f q 20 wr DR.out.rd (by omega) (by omega) (by omega)
      go_wp2_with fail
      refine Calls.mono C.out ?_
      rintro e W6 ⟨z, rfl, z0, z1, p6, hp6, RD6, bt⟩
      have D6 : Hid (Dr R ob n cb f w (w.heap.size + 1) W6 p6 (.slice oo k ko) L) := DR.out.call RD6.out bt.out
      clear C bt RD6 DR NB
      by_cases hz : z = 0
      · subst hz
        go_wp2_with fail
        go_loopw [5, 7] (fun o i wr => ∃ (j : Nat) (L : List DRecPhase) (q : Int), j + 1 ≤ L.length ∧ L.length ≤ 12 ∧ i = .int .i64 j ∧ o = .slice (oOf o) L.length (cOf o) ∧ q ≤ p + 200 + 21 * j ∧ Hid (Dr R ob n cb f w (w.heap.size + 1) wr q o L)) (fun o _ _ => 12 - lenV o)
        case atStart => exact ⟨0, L, p6, by omega, by omega, rfl, by rw [hLk]; rfl, by omega, D6⟩
        case round =>
          clear D6 hLk
          obtain ⟨j, M, q', hj1, hj2, rfl, hform, hq', DR⟩ := hrel
          clear hform
          obtain ⟨oo, ko, hf⟩ := Row.form DR.out.row
          subst hf
          obtain ⟨lm, hLk⟩ : ∃ lm, M.length = lm := ⟨_, rfl⟩
          rw [hLk] at hj1 hj2 DR
          rw [hLk]
          by_cases hlt : lm < 12
          · have C : Hid _ := dec_rd j wr (by omega) (by omega)
            go_wp2_with fail
            refine Calls.mono C.out ?_
            rintro e W7 ⟨s, rfl, sz, hb⟩
            have D7 : Hid (Dr R ob n cb f w (w.heap.size + 1) W7 q' (.slice oo lm ko) M) := DR.out.below hb
            clear C hb DR
            have D7a : Hid (Dr R ob n cb f w (w.heap.size + 1) (W7.alloc (.cells #[] 9)) q' (.slice oo lm ko) M) := D7.out.below ((Below.refl _ _).alloc (Nat.le_refl _) _)
            have C : Hid _ := phase_rd R ob n cb f q' (fun _ => False) [] ((⟨#[121]⟩ : ByteArray) ++ s) (some ⟨W7.heap.size, 0, none⟩) 0 0 (W7.alloc (.cells #[] 9)) D7a.out.rd (by omega) (by rw [ByteArray.size_append]; show 1 + s.size ≤ 16; omega) (atl_none _ _ _) (fun b hb => hb.elim) (by omega) (fun s hs => by cases hs)
            go_wp2_with fail
            refine Calls.mono C.out ?_
            rintro e W8 ⟨kd, a, b, m, wi, th, el, rfl, pz, p8, hp8, RD8, bt⟩
            have D8 : Hid (Dr R ob n cb f w (w.heap.size + 1) W8 p8 (.slice oo lm ko) M) := D7a.out.call RD8.out bt.out
            have PZ : Hid (PzL 1000 (((⟨#[121]⟩ : ByteArray) ++ s), kd, a, b, m, wi, th, el)) := pz
            clear C bt RD8 D7 D7a pz
            have dhi := D8.out.hi
            have drlt := D8.out.rd.lt
            have dwl := D8.out.but.size
            have DA : Hid (Dr R ob n cb f w (w.heap.size + 1) (W8.alloc (.cells #[.string ((⟨#[121]⟩ : ByteArray) ++ s), .int .i64 kd, .string a, .string b, .int .i64 m, .int .i64 wi, .string th, .string el] 37)) p8 (.slice oo lm ko) M) := D8.out.below ((Below.refl _ _).alloc (Nat.le_refl _) _)
            have SR : Hid (Src (W8.alloc (.cells #[.string ((⟨#[121]⟩ : ByteArray) ++ s), .int .i64 kd, .string a, .string b, .int .i64 m, .int .i64 wi, .string th, .string el] 37)) (.slice (some ⟨W8.heap.size, 0, none⟩) 1 1) 1 8 (enc 8 eR [(((⟨#[121]⟩ : ByteArray) ++ s), kd, a, b, m, wi, th, el)])) := flatR.src (one_atR 37 W8 ((⟨#[121]⟩ : ByteArray) ++ s) a b th el kd m wi (PZ.out.up (by omega)))
            have HOWN : Hid ((W8.alloc (.cells #[.string ((⟨#[121]⟩ : ByteArray) ++ s), .int .i64 kd, .string a, .string b, .int .i64 m, .int .i64 wi, .string th, .string el] 37)).ownsRow (w.heap.size + 1) 37 8 (.slice oo lm ko) lm (enc 8 eR M)) := by
              have h : World.ownsRow _ _ _ _ _ _ _ := DA.out.row
              rw [hLk] at h; exact h
            go_wp2_with (at_builtin; refine wpList_app elR rfl _ _ rfl rfl rfl HOWN.out SR.out (flatR.enc_one _) (by unfold maxLen; omega) (by omega) (by simp; omega) ?_; intro vE u5 hown hgE hbk; have D5 : Hid (Dr R ob n cb f w (w.heap.size + 1) u5 p8 vE (M ++ [(((⟨#[121]⟩ : ByteArray) ++ s), kd, a, b, m, wi, th, el)])) := DA.out.grow (by show World.ownsRow _ _ _ _ _ _ _; rw [List.length_append, enc_append, hLk]; exact hown) hgE (fun x hx => (List.mem_append.1 hx).elim (DA.out.pz x) (fun h => by rw [List.mem_singleton.1 h]; exact PZ.out)); obtain ⟨oE, kE, hvE⟩ := Row.form D5.out.row; obtain ⟨L5, hL5⟩ : ∃ L5, L5 = M ++ [(((⟨#[121]⟩ : ByteArray) ++ s), kd, a, b, m, wi, th, el)] := ⟨_, rfl⟩; have hL5k : L5.length = lm + 1 := (by rw [hL5, List.length_append, hLk]; rfl); rw [← hL5] at D5 hvE; rw [hL5k] at hvE; subst hvE; clear hown hgE hbk hL5)
            go_wp2_with fail
            go_roundw
            case rel => exact ⟨j + 1, L5, p8, by omega, by omega, by go_num, by rw [hL5k]; rfl, by omega, D5⟩
            case measure => simp [lenV]; omega
          · go_wp2_with fail
            go_ret
            exact ⟨_, M, rfl, by omega, by omega, q', by omega, DR⟩
      · have hzn : (z == 0) = false := by simpa using hz
        go_wp2_with fail
        go_ret
        exact ⟨_, L, rfl, by omega, by omega, p6, by omega, D6⟩

end Go.Proofs.Ytkongeofapbblaa
