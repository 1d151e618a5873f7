/-
  A recipe is spoilt.
-/
import Derived.Test.YtkongeofapbblaaXdh
namespace Go.Proofs.Ytkongeofapbblaa
open Go.RowKit Go.Sort

theorem put_step {W : World} {B g cap k : Nat} {L : List DRecPhase} {x y' : DRecPhase} (h : Row W B 37 8 eR (.slice (some ⟨g, 0, none⟩) L.length cap) (L.set k x)) (hk : k < L.length) (j : Nat) (hj : j < 8) (u : Value) (he : ∀ q, q < 8 → eR y' q = if q = j then u else eR x q) :
    Row (W.setCell ⟨g, k * 8 + j, none⟩ u) B 37 8 eR (.slice (some ⟨g, 0, none⟩) L.length cap) (L.set k y') := by
  have h2 : Row W B 37 8 eR (.slice (some ⟨g, 0, none⟩) (L.set k x).length cap) (L.set k x) := by rw [List.length_set]; exact h
  have h3 := (Row.put h2 (i := k) (by rw [List.length_set]; exact hk) hj u y' (fun q hq => by rw [List.getElem_set_self]; exact he q hq)).1
  rw [List.length_set, List.set_set] at h3
  exact h3
theorem row_put8 {W : World} {B g cap k : Nat} {L : List DRecPhase} (h : Row W B 37 8 eR (.slice (some ⟨g, 0, none⟩) L.length cap) L) (hk : k < L.length) (y : DRecPhase) :
    Row ((((((((W.setCell ⟨g, k * 8, none⟩ (.string y.1)).setCell ⟨g, k * 8 + 1, none⟩ (.int .i64 y.2.1)).setCell ⟨g, k * 8 + 2, none⟩ (.string y.2.2.1)).setCell ⟨g, k * 8 + 3, none⟩ (.string y.2.2.2.1)).setCell ⟨g, k * 8 + 4, none⟩ (.int .i64 y.2.2.2.2.1)).setCell ⟨g, k * 8 + 5, none⟩ (.int .i64 y.2.2.2.2.2.1)).setCell ⟨g, k * 8 + 6, none⟩ (.string y.2.2.2.2.2.2.1)).setCell ⟨g, k * 8 + 7, none⟩ (.string y.2.2.2.2.2.2.2)) B 37 8 eR (.slice (some ⟨g, 0, none⟩) L.length cap) (L.set k y) := by
  obtain ⟨x, hx⟩ : ∃ x, x = L[k] := ⟨_, rfl⟩
  have h0 : Row W B 37 8 eR (.slice (some ⟨g, 0, none⟩) L.length cap) (L.set k (x.1, x.2.1, x.2.2.1, x.2.2.2.1, x.2.2.2.2.1, x.2.2.2.2.2.1, x.2.2.2.2.2.2.1, x.2.2.2.2.2.2.2)) := by
    have e : L.set k (x.1, x.2.1, x.2.2.1, x.2.2.2.1, x.2.2.2.2.1, x.2.2.2.2.2.1, x.2.2.2.2.2.2.1, x.2.2.2.2.2.2.2) = L := by
      have e1 : (x.1, x.2.1, x.2.2.1, x.2.2.2.1, x.2.2.2.2.1, x.2.2.2.2.2.1, x.2.2.2.2.2.2.1, x.2.2.2.2.2.2.2) = L[k] := by rw [← hx]
      rw [e1]; exact List.set_getElem_self hk
    rw [e]; exact h
  have h1 := put_step (y' := (y.1, x.2.1, x.2.2.1, x.2.2.2.1, x.2.2.2.2.1, x.2.2.2.2.2.1, x.2.2.2.2.2.2.1, x.2.2.2.2.2.2.2)) h0 hk 0 (by omega) (.string y.1) (fun q hq => by rcases (show q = 0 ∨ q = 1 ∨ q = 2 ∨ q = 3 ∨ q = 4 ∨ q = 5 ∨ q = 6 ∨ q = 7 by omega) with rfl | rfl | rfl | rfl | rfl | rfl | rfl | rfl <;> rfl)
  have h2 := put_step (y' := (y.1, y.2.1, x.2.2.1, x.2.2.2.1, x.2.2.2.2.1, x.2.2.2.2.2.1, x.2.2.2.2.2.2.1, x.2.2.2.2.2.2.2)) h1 hk 1 (by omega) (.int .i64 y.2.1) (fun q hq => by rcases (show q = 0 ∨ q = 1 ∨ q = 2 ∨ q = 3 ∨ q = 4 ∨ q = 5 ∨ q = 6 ∨ q = 7 by omega) with rfl | rfl | rfl | rfl | rfl | rfl | rfl | rfl <;> rfl)
  have h3 := put_step (y' := (y.1, y.2.1, y.2.2.1, x.2.2.2.1, x.2.2.2.2.1, x.2.2.2.2.2.1, x.2.2.2.2.2.2.1, x.2.2.2.2.2.2.2)) h2 hk 2 (by omega) (.string y.2.2.1) (fun q hq => by rcases (show q = 0 ∨ q = 1 ∨ q = 2 ∨ q = 3 ∨ q = 4 ∨ q = 5 ∨ q = 6 ∨ q = 7 by omega) with rfl | rfl | rfl | rfl | rfl | rfl | rfl | rfl <;> rfl)
  have h4 := put_step (y' := (y.1, y.2.1, y.2.2.1, y.2.2.2.1, x.2.2.2.2.1, x.2.2.2.2.2.1, x.2.2.2.2.2.2.1, x.2.2.2.2.2.2.2)) h3 hk 3 (by omega) (.string y.2.2.2.1) (fun q hq => by rcases (show q = 0 ∨ q = 1 ∨ q = 2 ∨ q = 3 ∨ q = 4 ∨ q = 5 ∨ q = 6 ∨ q = 7 by omega) with rfl | rfl | rfl | rfl | rfl | rfl | rfl | rfl <;> rfl)
  have h5 := put_step (y' := (y.1, y.2.1, y.2.2.1, y.2.2.2.1, y.2.2.2.2.1, x.2.2.2.2.2.1, x.2.2.2.2.2.2.1, x.2.2.2.2.2.2.2)) h4 hk 4 (by omega) (.int .i64 y.2.2.2.2.1) (fun q hq => by rcases (show q = 0 ∨ q = 1 ∨ q = 2 ∨ q = 3 ∨ q = 4 ∨ q = 5 ∨ q = 6 ∨ q = 7 by omega) with rfl | rfl | rfl | rfl | rfl | rfl | rfl | rfl <;> rfl)
  have h6 := put_step (y' := (y.1, y.2.1, y.2.2.1, y.2.2.2.1, y.2.2.2.2.1, y.2.2.2.2.2.1, x.2.2.2.2.2.2.1, x.2.2.2.2.2.2.2)) h5 hk 5 (by omega) (.int .i64 y.2.2.2.2.2.1) (fun q hq => by rcases (show q = 0 ∨ q = 1 ∨ q = 2 ∨ q = 3 ∨ q = 4 ∨ q = 5 ∨ q = 6 ∨ q = 7 by omega) with rfl | rfl | rfl | rfl | rfl | rfl | rfl | rfl <;> rfl)
  have h7 := put_step (y' := (y.1, y.2.1, y.2.2.1, y.2.2.2.1, y.2.2.2.2.1, y.2.2.2.2.2.1, y.2.2.2.2.2.2.1, x.2.2.2.2.2.2.2)) h6 hk 6 (by omega) (.string y.2.2.2.2.2.2.1) (fun q hq => by rcases (show q = 0 ∨ q = 1 ∨ q = 2 ∨ q = 3 ∨ q = 4 ∨ q = 5 ∨ q = 6 ∨ q = 7 by omega) with rfl | rfl | rfl | rfl | rfl | rfl | rfl | rfl <;> rfl)
  have h8 := put_step (y' := (y.1, y.2.1, y.2.2.1, y.2.2.2.1, y.2.2.2.2.1, y.2.2.2.2.2.1, y.2.2.2.2.2.2.1, y.2.2.2.2.2.2.2)) h7 hk 7 (by omega) (.string y.2.2.2.2.2.2.2) (fun q hq => by rcases (show q = 0 ∨ q = 1 ∨ q = 2 ∨ q = 3 ∨ q = 4 ∨ q = 5 ∨ q = 6 ∨ q = 7 by omega) with rfl | rfl | rfl | rfl | rfl | rfl | rfl | rfl <;> rfl)
  exact h8
theorem keep8 {W : World} {g k : Nat} (y : DRecPhase) (b : Nat) (hb : b ≠ g) : ((((((((W.setCell ⟨g, k * 8, none⟩ (.string y.1)).setCell ⟨g, k * 8 + 1, none⟩ (.int .i64 y.2.1)).setCell ⟨g, k * 8 + 2, none⟩ (.string y.2.2.1)).setCell ⟨g, k * 8 + 3, none⟩ (.string y.2.2.2.1)).setCell ⟨g, k * 8 + 4, none⟩ (.int .i64 y.2.2.2.2.1)).setCell ⟨g, k * 8 + 5, none⟩ (.int .i64 y.2.2.2.2.2.1)).setCell ⟨g, k * 8 + 6, none⟩ (.string y.2.2.2.2.2.2.1)).setCell ⟨g, k * 8 + 7, none⟩ (.string y.2.2.2.2.2.2.2)).heap[b]? = W.heap[b]? := by
  exact (Below.heap_setCell _ ⟨g, k * 8 + 7, none⟩ _ b hb).trans ((Below.heap_setCell _ ⟨g, k * 8 + 6, none⟩ _ b hb).trans ((Below.heap_setCell _ ⟨g, k * 8 + 5, none⟩ _ b hb).trans ((Below.heap_setCell _ ⟨g, k * 8 + 4, none⟩ _ b hb).trans ((Below.heap_setCell _ ⟨g, k * 8 + 3, none⟩ _ b hb).trans ((Below.heap_setCell _ ⟨g, k * 8 + 2, none⟩ _ b hb).trans ((Below.heap_setCell _ ⟨g, k * 8 + 1, none⟩ _ b hb).trans ((Below.heap_setCell _ ⟨g, k * 8, none⟩ _ b hb))))))))
theorem bel8 {W : World} {g k : Nat} (y : DRecPhase) : Below g W ((((((((W.setCell ⟨g, k * 8, none⟩ (.string y.1)).setCell ⟨g, k * 8 + 1, none⟩ (.int .i64 y.2.1)).setCell ⟨g, k * 8 + 2, none⟩ (.string y.2.2.1)).setCell ⟨g, k * 8 + 3, none⟩ (.string y.2.2.2.1)).setCell ⟨g, k * 8 + 4, none⟩ (.int .i64 y.2.2.2.2.1)).setCell ⟨g, k * 8 + 5, none⟩ (.int .i64 y.2.2.2.2.2.1)).setCell ⟨g, k * 8 + 6, none⟩ (.string y.2.2.2.2.2.2.1)).setCell ⟨g, k * 8 + 7, none⟩ (.string y.2.2.2.2.2.2.2)) := ((((((((Below.refl _ _).setCell (p := ⟨g, k * 8, none⟩) (Nat.le_refl _) _).setCell (p := ⟨g, k * 8 + 1, none⟩) (Nat.le_refl _) _).setCell (p := ⟨g, k * 8 + 2, none⟩) (Nat.le_refl _) _).setCell (p := ⟨g, k * 8 + 3, none⟩) (Nat.le_refl _) _).setCell (p := ⟨g, k * 8 + 4, none⟩) (Nat.le_refl _) _).setCell (p := ⟨g, k * 8 + 5, none⟩) (Nat.le_refl _) _).setCell (p := ⟨g, k * 8 + 6, none⟩) (Nat.le_refl _) _).setCell (p := ⟨g, k * 8 + 7, none⟩) (Nat.le_refl _) _
/-- What is answered by the spoiling of a recipe. -/
def SpE (R : Nat) (ob : Option Addr) (n cb : Nat) (f : Nat → Int) (p : Int) (w : World) (e : Ending) (w' : World) : Prop := ∃ v M, e = .returned v ∧ M.length ≤ 14 ∧ (∀ x ∈ M, PzL 2000 x) ∧ ∃ p', p' ≤ p + 1000 ∧ Hid (Rd R w' ob n cb p' f) ∧ Hid (But (fun q => q = R) w w') ∧ Hid (Row w' w.heap.size 37 8 eR v M)
theorem SpE.of {R : Nat} {ob : Option Addr} {n cb : Nat} {f : Nat → Int} {p : Int} {w : World} {e : Ending} {w' : World} (h : ∃ v M, e = .returned v ∧ M.length ≤ 14 ∧ (∀ x ∈ M, PzL 2000 x) ∧ ∃ p', p' ≤ p + 1000 ∧ Hid (Rd R w' ob n cb p' f) ∧ Hid (But (fun q => q = R) w w') ∧ Hid (Row w' w.heap.size 37 8 eR v M)) : SpE R ob n cb f p w e w' := h

set_option maxRecDepth 100000 in
set_option maxHeartbeats 4000000 in
theorem spoilL_rd (R : Nat) (ob : Option Addr) (n cb : Nat) (f : Nat → Int) (p : Int) (S : Nat → Prop) (L : List DRecPhase) (ol : Option Addr) (nl cl : Nat) (w : World) (h : Rd R w ob n cb p f) (hp : p ≤ 60000) (hat : AtL S w L (.slice ol nl cl)) (hS : ∀ b, S b → b < w.heap.size ∧ b ≠ R) (h1 : 1 ≤ nl) (h2 : nl ≤ 12) (hz : ∀ x ∈ L, PzL 1000 x) :
    Calls Try.prog 51 #[.pointer (some ⟨R, 0, none⟩), .slice ol nl cl] w fun e w' => SpE R ob n cb f p w e w' := by
  have rlt := h.lt
  have hLk : L.length = nl := by obtain ⟨_, _, e, _⟩ := hat; injection e with _ e _; exact e.symm
  have HR0 : Hid ((w.alloc (.cells #[] 37)).ownsRow w.heap.size 37 8 (.slice (some ⟨w.heap.size, 0, none⟩) 0 0) 0 (enc 8 eR ([] : List DRecPhase))) := Row.made w 37 8 eR (Nat.le_refl _)
  have HSR : Hid (Src (w.alloc (.cells #[] 37)) (.slice ol nl cl) nl 8 (enc 8 eR L)) := by
    have := flatR.src (hat.same (fun b hb => Below.heap_alloc w (.cells #[] 37) b (hS b hb).1))
    rw [hLk] at this; exact this
  have HRD : Hid (Rd R (w.alloc (.cells #[] 37)) ob n cb p f) := h.but (fun b hb => Below.heap_alloc w _ b (by omega))
  have HZ : Hid (∀ x ∈ L, PzL 1000 x) := hz
  have HLK : Hid (L.length = nl) := hLk
  clear hat hS hz h hLk
  go_enter Try.func51, Try.ntmps51
  go_wp2_with (at_builtin; refine wpList_app elR rfl _ _ rfl rfl rfl HR0.out HSR.out (flatR.enc_one _) (by unfold maxLen; omega) (by omega) (by simp) ?_; intro vE W1 hown hgE hbk; have hrow : Row W1 w.heap.size 37 8 eR vE L := (by show World.ownsRow _ _ _ _ _ _ _; have e0 : 0 + nl = L.length := (by rw [HLK.out]; omega); rw [e0] at hown; exact hown); obtain ⟨oo, ko, hvE⟩ := Row.form hrow; rw [HLK.out] at hvE; subst hvE)
  have D1 : Hid (Dr R ob n cb f w w.heap.size W1 p (.slice oo nl ko) L) := by
    have hsz := hgE.size
    simp only [World.size_alloc] at hsz
    have ne : ∀ b, b < w.heap.size → some b ≠ (Value.slice (some ⟨w.heap.size, 0, none⟩) 0 0).ownBlock := fun b hb e => by
      have : b = w.heap.size := by simpa [Value.ownBlock] using e
      omega
    have keep : ∀ b, b < w.heap.size → W1.heap[b]? = w.heap[b]? := fun b hb => (hgE.block b (by simp; omega) (ne b hb)).trans (Below.heap_alloc w _ b hb)
    exact ⟨HRD.out.but (fun b hb => hgE.block b (by simp; omega) (ne b (by omega))), ⟨hgE.os, hgE.tape, hgE.output, by omega, fun b h3 _ => keep b h3⟩, hrow, HZ.out, rlt, Nat.le_refl _, by omega⟩
  clear hown hgE hbk HRD hrow
  have hLk : L.length = nl := HLK.out
  obtain ⟨g, cap0, hv0, glo, ghi, hjunk⟩ := Row.cell D1.out.row (i := 0) (by omega)
  clear hjunk
  injection hv0 with e1 e2 e3
  subst e1 e3
  clear HR0 HSR e2
  have HG : Hid (∀ {W : World} {q : Int} {M : List DRecPhase} {u : Value}, True) := trivial
  clear HG
  have C : Hid _ := pick_rd R ob n cb f p nl W1 D1.out.rd (by omega) (by omega) (by omega)
  go_wp2_with fail
  refine Calls.mono C.out ?_
  rintro e W2 ⟨kz, rfl, k0, k1, p2, hp2, RD2, bt⟩
  have D2 : Hid (Dr R ob n cb f w w.heap.size W2 p2 (.slice (some ⟨g, 0, none⟩) nl ko) L) := D1.out.call RD2.out bt.out
  clear C bt RD2 D1 ghi
  obtain ⟨k, rfl⟩ := Int.eq_ofNat_of_zero_le k0
  have C : Hid _ := pick_rd R ob n cb f p2 6 W2 D2.out.rd (by omega) (by omega) (by omega)
  go_wp2_with fail
  refine Calls.mono C.out ?_
  rintro e W3 ⟨z, rfl, z0, z1, p3, hp3, RD3, bt⟩
  have D3 : Hid (Dr R ob n cb f w w.heap.size W3 p3 (.slice (some ⟨g, 0, none⟩) nl ko) L) := D2.out.call RD3.out bt.out
  clear C bt RD3 D2
  have hkL : k < L.length := by omega
  have HCELL : Hid (∀ j, j < 8 → W3.cell? ⟨g, k * 8 + j, none⟩ = some (eR (L[k]'hkL) j) ∧ W3.frozen? ⟨g, k * 8 + j, none⟩ = false) := by
    obtain ⟨g', c', hv', _, _, hc'⟩ := Row.cell D3.out.row hkL
    injection hv' with e1 e2 e3
    injection e1 with e1
    injection e1 with e1 _ _
    subst e1
    exact hc'
  obtain ⟨x, hx⟩ : ∃ x, x = L[k]'hkL := ⟨_, rfl⟩
  have HXM : Hid (x ∈ L) := by show x ∈ L; rw [hx]; exact List.getElem_mem hkL
  have PX : Hid (PzL 1000 x) := HZ.out x HXM.out
  rw [← hx] at HCELL
  clear hx
  obtain ⟨nm, kd, a, b, m, wi, th, el⟩ := x
  have c0 : W3.cell? ⟨g, k * 8, none⟩ = some (.string nm) := (HCELL.out 0 (by omega)).1
  have f0 : W3.frozen? ⟨g, k * 8, none⟩ = false := (HCELL.out 0 (by omega)).2
  have c1 : W3.cell? ⟨g, k * 8 + 1, none⟩ = some (.int .i64 kd) := (HCELL.out 1 (by omega)).1
  have f1 : W3.frozen? ⟨g, k * 8 + 1, none⟩ = false := (HCELL.out 1 (by omega)).2
  have c2 : W3.cell? ⟨g, k * 8 + 2, none⟩ = some (.string a) := (HCELL.out 2 (by omega)).1
  have f2 : W3.frozen? ⟨g, k * 8 + 2, none⟩ = false := (HCELL.out 2 (by omega)).2
  have c3 : W3.cell? ⟨g, k * 8 + 3, none⟩ = some (.string b) := (HCELL.out 3 (by omega)).1
  have f3 : W3.frozen? ⟨g, k * 8 + 3, none⟩ = false := (HCELL.out 3 (by omega)).2
  have c4 : W3.cell? ⟨g, k * 8 + 4, none⟩ = some (.int .i64 m) := (HCELL.out 4 (by omega)).1
  have f4 : W3.frozen? ⟨g, k * 8 + 4, none⟩ = false := (HCELL.out 4 (by omega)).2
  have c5 : W3.cell? ⟨g, k * 8 + 5, none⟩ = some (.int .i64 wi) := (HCELL.out 5 (by omega)).1
  have f5 : W3.frozen? ⟨g, k * 8 + 5, none⟩ = false := (HCELL.out 5 (by omega)).2
  have c6 : W3.cell? ⟨g, k * 8 + 6, none⟩ = some (.string th) := (HCELL.out 6 (by omega)).1
  have f6 : W3.frozen? ⟨g, k * 8 + 6, none⟩ = false := (HCELL.out 6 (by omega)).2
  have c7 : W3.cell? ⟨g, k * 8 + 7, none⟩ = some (.string el) := (HCELL.out 7 (by omega)).1
  have f7 : W3.frozen? ⟨g, k * 8 + 7, none⟩ = false := (HCELL.out 7 (by omega)).2
  have glt : g < W3.heap.size := (D3.out.row.typed g rfl).elim (fun c h => (Array.getElem?_eq_some_iff.1 h).1)
  rcases (show z = 0 ∨ z = 1 ∨ z = 2 ∨ 3 ≤ z by omega) with rfl | rfl | rfl | hz3
  · have PZ : Hid (PzL 1000 (nm, kd, a, b, m, wi, th, el)) := PX
    have dhi := D3.out.hi
    have drlt := D3.out.rd.lt
    have dwl := D3.out.but.size
    have DA : Hid (Dr R ob n cb f w w.heap.size (W3.alloc (.cells #[.string nm, .int .i64 kd, .string a, .string b, .int .i64 m, .int .i64 wi, .string th, .string el] 37)) p3 (.slice (some ⟨g, 0, none⟩) nl ko) L) := D3.out.below ((Below.refl _ _).alloc (Nat.le_refl _) _)
    have SR : Hid (Src (W3.alloc (.cells #[.string nm, .int .i64 kd, .string a, .string b, .int .i64 m, .int .i64 wi, .string th, .string el] 37)) (.slice (some ⟨W3.heap.size, 0, none⟩) 1 1) 1 8 (enc 8 eR [(nm, kd, a, b, m, wi, th, el)])) := flatR.src (one_atR 37 W3 nm a b th el kd m wi (PZ.out.up (by omega)))
    have HOWN : Hid ((W3.alloc (.cells #[.string nm, .int .i64 kd, .string a, .string b, .int .i64 m, .int .i64 wi, .string th, .string el] 37)).ownsRow w.heap.size 37 8 (.slice (some ⟨g, 0, none⟩) nl ko) nl (enc 8 eR L)) := by
      have h : World.ownsRow _ _ _ _ _ _ _ := DA.out.row
      rw [hLk] at h; exact h
    go_wp2_with (at_builtin; refine wpList_app elR rfl _ _ rfl rfl rfl HOWN.out SR.out (flatR.enc_one _) (by unfold maxLen; omega) (by omega) (by simp; omega) ?_; intro vE u5 hown hgE hbk; have D5 : Hid (Dr R ob n cb f w w.heap.size u5 p3 vE (L ++ [(nm, kd, a, b, m, wi, th, el)])) := DA.out.grow (by show World.ownsRow _ _ _ _ _ _ _; rw [List.length_append, enc_append, hLk]; exact hown) hgE (fun x hx => (List.mem_append.1 hx).elim (DA.out.pz x) (fun h => by rw [List.mem_singleton.1 h]; exact PZ.out)); obtain ⟨oE, kE, hvE⟩ := Row.form D5.out.row; obtain ⟨L5, hL5⟩ : ∃ L5, L5 = L ++ [(nm, kd, a, b, m, wi, th, el)] := ⟨_, rfl⟩; have hL5k : L5.length = nl + 1 := (by rw [hL5, List.length_append, hLk]; rfl); rw [← hL5] at D5 hvE; rw [hL5k] at hvE; subst hvE; clear hown hgE hbk hL5)
    go_wp2_with fail
    go_ret
    exact SpE.of ⟨_, L5, rfl, by omega, fun x hx => (D5.out.pz x hx).up (by omega), p3, by omega, D5.out.rd, D5.out.but, D5.out.row⟩
  · have HCZ0 : Hid (∀ j, j < 8 → W3.cell? ⟨g, 0 * 8 + j, none⟩ = some (eR (L[0]'(by omega)) j) ∧ W3.frozen? ⟨g, 0 * 8 + j, none⟩ = false) := by
      obtain ⟨g', c', hv', _, _, hc'⟩ := Row.cell D3.out.row (i := 0) (by omega)
      injection hv' with e1 e2 e3
      injection e1 with e1
      injection e1 with e1 _ _
      subst e1
      exact hc'
    obtain ⟨xx, hxx⟩ : ∃ x, x = L[0]'(by omega) := ⟨_, rfl⟩
    rw [← hxx] at HCZ0
    clear hxx
    obtain ⟨nm0, kd0, a0, b0, m0, wi0, th0, el0⟩ := xx
    have zc0 : W3.cell? ⟨g, 0, none⟩ = some (.string nm0) := (HCZ0.out 0 (by omega)).1
    have zf0 : W3.frozen? ⟨g, 0, none⟩ = false := (HCZ0.out 0 (by omega)).2
    have zc1 : W3.cell? ⟨g, 1, none⟩ = some (.int .i64 kd0) := (HCZ0.out 1 (by omega)).1
    have zf1 : W3.frozen? ⟨g, 1, none⟩ = false := (HCZ0.out 1 (by omega)).2
    have zc2 : W3.cell? ⟨g, 2, none⟩ = some (.string a0) := (HCZ0.out 2 (by omega)).1
    have zf2 : W3.frozen? ⟨g, 2, none⟩ = false := (HCZ0.out 2 (by omega)).2
    have zc3 : W3.cell? ⟨g, 3, none⟩ = some (.string b0) := (HCZ0.out 3 (by omega)).1
    have zf3 : W3.frozen? ⟨g, 3, none⟩ = false := (HCZ0.out 3 (by omega)).2
    have zc4 : W3.cell? ⟨g, 4, none⟩ = some (.int .i64 m0) := (HCZ0.out 4 (by omega)).1
    have zf4 : W3.frozen? ⟨g, 4, none⟩ = false := (HCZ0.out 4 (by omega)).2
    have zc5 : W3.cell? ⟨g, 5, none⟩ = some (.int .i64 wi0) := (HCZ0.out 5 (by omega)).1
    have zf5 : W3.frozen? ⟨g, 5, none⟩ = false := (HCZ0.out 5 (by omega)).2
    have zc6 : W3.cell? ⟨g, 6, none⟩ = some (.string th0) := (HCZ0.out 6 (by omega)).1
    have zf6 : W3.frozen? ⟨g, 6, none⟩ = false := (HCZ0.out 6 (by omega)).2
    have zc7 : W3.cell? ⟨g, 7, none⟩ = some (.string el0) := (HCZ0.out 7 (by omega)).1
    have zf7 : W3.frozen? ⟨g, 7, none⟩ = false := (HCZ0.out 7 (by omega)).2
    obtain ⟨FW, hF⟩ : ∃ u, u = (((((((W3.setCell ⟨g, 0, none⟩ (.string nm)).setCell ⟨g, 1, none⟩ (.int .i64 kd)).setCell ⟨g, 2, none⟩ (.string a)).setCell ⟨g, 3, none⟩ (.string b)).setCell ⟨g, 4, none⟩ (.int .i64 m)).setCell ⟨g, 5, none⟩ (.int .i64 wi)).setCell ⟨g, 6, none⟩ (.string th)).setCell ⟨g, 7, none⟩ (.string el) := ⟨_, rfl⟩
    have HF : Hid (FW = (((((((W3.setCell ⟨g, 0, none⟩ (.string nm)).setCell ⟨g, 1, none⟩ (.int .i64 kd)).setCell ⟨g, 2, none⟩ (.string a)).setCell ⟨g, 3, none⟩ (.string b)).setCell ⟨g, 4, none⟩ (.int .i64 m)).setCell ⟨g, 5, none⟩ (.int .i64 wi)).setCell ⟨g, 6, none⟩ (.string th)).setCell ⟨g, 7, none⟩ (.string el)) := hF
    have RF : Hid (Row FW w.heap.size 37 8 eR (.slice (some ⟨g, 0, none⟩) nl ko) (L.set 0 (nm, kd, a, b, m, wi, th, el))) := by
      rw [hF]
      have hr : Row W3 w.heap.size 37 8 eR (.slice (some ⟨g, 0, none⟩) L.length ko) L := by rw [hLk]; exact D3.out.row
      have h8 := row_put8 hr (k := 0) (by omega) (nm, kd, a, b, m, wi, th, el)
      rw [hLk] at h8
      simp only [Nat.zero_mul, Nat.zero_add] at h8
      exact h8
    have KF : Hid (∀ b, b ≠ g → FW.heap[b]? = W3.heap[b]?) := fun b hb => by rw [hF]; exact (Below.heap_setCell _ ⟨g, 7, none⟩ _ b hb).trans ((Below.heap_setCell _ ⟨g, 6, none⟩ _ b hb).trans ((Below.heap_setCell _ ⟨g, 5, none⟩ _ b hb).trans ((Below.heap_setCell _ ⟨g, 4, none⟩ _ b hb).trans ((Below.heap_setCell _ ⟨g, 3, none⟩ _ b hb).trans ((Below.heap_setCell _ ⟨g, 2, none⟩ _ b hb).trans ((Below.heap_setCell _ ⟨g, 1, none⟩ _ b hb).trans ((Below.heap_setCell _ ⟨g, 0, none⟩ _ b hb))))))))
    have BF : Hid (Below g W3 FW) := by show Below g W3 FW; rw [hF]; exact ((((((((Below.refl _ _).setCell (p := ⟨g, 0, none⟩) (Nat.le_refl _) _).setCell (p := ⟨g, 1, none⟩) (Nat.le_refl _) _).setCell (p := ⟨g, 2, none⟩) (Nat.le_refl _) _).setCell (p := ⟨g, 3, none⟩) (Nat.le_refl _) _).setCell (p := ⟨g, 4, none⟩) (Nat.le_refl _) _).setCell (p := ⟨g, 5, none⟩) (Nat.le_refl _) _).setCell (p := ⟨g, 6, none⟩) (Nat.le_refl _) _).setCell (p := ⟨g, 7, none⟩) (Nat.le_refl _) _
    clear hF
    go_wp2_with fail
    rw [← HF.out]
    go_ret
    refine SpE.of ⟨_, L.set 0 (nm, kd, a, b, m, wi, th, el), rfl, by rw [List.length_set]; omega, fun x hx => ?_, p3, by omega, D3.out.rd.but (fun b hb => KF.out b (by omega)), ⟨BF.out.os.trans D3.out.but.os, BF.out.tape.trans D3.out.but.tape, BF.out.output.trans D3.out.but.output, Nat.le_trans D3.out.but.size BF.out.size, fun b h3 h4 => (KF.out b (by omega)).trans (D3.out.but.block b h3 h4)⟩, RF.out⟩
    rcases List.mem_or_eq_of_mem_set hx with h | h
    · exact (HZ.out x h).up (by omega)
    · rw [h]; exact PX.out.up (by omega)
  · have C : Hid _ := pick_rd R ob n cb f p3 2 W3 D3.out.rd (by omega) (by omega) (by omega)
    clear c0 c1 c2 c3 c4 c5 c6 c7 f0 f1 f2 f3 f4 f5 f6 f7 HCELL HXM PX
    go_wp2_with fail
    refine Calls.mono C.out ?_
    rintro e W4 ⟨bz, rfl, q0, q1, p4, hp4, RD4, bt⟩
    have D4 : Hid (Dr R ob n cb f w w.heap.size W4 p4 (.slice (some ⟨g, 0, none⟩) nl ko) L) := D3.out.call RD4.out bt.out
    clear C bt RD4 D3
    obtain ⟨b2, rfl⟩ := Int.eq_ofNat_of_zero_le q0
    go_wp2_with fail
    go_loopw [5, 8] (fun o i wr => ∃ (j : Nat) (M : List DRecPhase) (q : Int), j + 1 ≤ M.length ∧ M.length ≤ 13 ∧ i = .int .i64 j ∧ o = .slice (oOf o) M.length (cOf o) ∧ q ≤ p + 200 + 21 * j ∧ Hid (Dr R ob n cb f w w.heap.size wr q o M)) (fun o _ _ => 13 - lenV o)
    case atStart => exact ⟨0, L, p4, by omega, by omega, rfl, by rw [hLk]; rfl, by omega, D4⟩
    case round =>
      clear D4 hkL hLk
      obtain ⟨j, M, q', hj1, hj2, rfl, hform, hq', DR⟩ := hrel
      clear hform
      obtain ⟨oo, ko, hf⟩ := Row.form DR.out.row
      subst hf
      obtain ⟨lm, hLk⟩ : ∃ lm, M.length = lm := ⟨_, rfl⟩
      rw [hLk] at hj1 hj2 DR
      rw [hLk]
      by_cases hlt : (lm : Int) < 12 + (b2 : Int)
      · have C : Hid _ := dec_rd j wr (by omega) (by omega)
        go_wp2_with fail
        refine Calls.mono C.out ?_
        rintro e W7 ⟨s, rfl, sz, hb⟩
        have D7 : Hid (Dr R ob n cb f w w.heap.size W7 q' (.slice oo lm ko) M) := DR.out.below hb
        clear C hb DR
        have D7a : Hid (Dr R ob n cb f w w.heap.size (W7.alloc (.cells #[] 9)) q' (.slice oo lm ko) M) := D7.out.below ((Below.refl _ _).alloc (Nat.le_refl _) _)
        have C : Hid _ := phase_rd R ob n cb f q' (fun _ => False) [] ((⟨#[122]⟩ : ByteArray) ++ s) (some ⟨W7.heap.size, 0, none⟩) 0 0 (W7.alloc (.cells #[] 9)) D7a.out.rd (by omega) (by rw [ByteArray.size_append]; show 1 + s.size ≤ 16; omega) (atl_none _ _ _) (fun b hb => hb.elim) (by omega) (fun s hs => by cases hs)
        go_wp2_with fail
        refine Calls.mono C.out ?_
        rintro e W8 ⟨kd, a, b, m, wi, th, el, rfl, pz, p8, hp8, RD8, bt⟩
        have D8 : Hid (Dr R ob n cb f w w.heap.size W8 p8 (.slice oo lm ko) M) := D7a.out.call RD8.out bt.out
        have PZ : Hid (PzL 1000 (((⟨#[122]⟩ : ByteArray) ++ s), kd, a, b, m, wi, th, el)) := pz
        clear C bt RD8 D7 D7a pz
        have dhi := D8.out.hi
        have drlt := D8.out.rd.lt
        have dwl := D8.out.but.size
        have DA : Hid (Dr R ob n cb f w w.heap.size (W8.alloc (.cells #[.string ((⟨#[122]⟩ : ByteArray) ++ s), .int .i64 kd, .string a, .string b, .int .i64 m, .int .i64 wi, .string th, .string el] 37)) p8 (.slice oo lm ko) M) := D8.out.below ((Below.refl _ _).alloc (Nat.le_refl _) _)
        have SR : Hid (Src (W8.alloc (.cells #[.string ((⟨#[122]⟩ : ByteArray) ++ s), .int .i64 kd, .string a, .string b, .int .i64 m, .int .i64 wi, .string th, .string el] 37)) (.slice (some ⟨W8.heap.size, 0, none⟩) 1 1) 1 8 (enc 8 eR [(((⟨#[122]⟩ : ByteArray) ++ s), kd, a, b, m, wi, th, el)])) := flatR.src (one_atR 37 W8 ((⟨#[122]⟩ : ByteArray) ++ s) a b th el kd m wi (PZ.out.up (by omega)))
        have HOWN : Hid ((W8.alloc (.cells #[.string ((⟨#[122]⟩ : ByteArray) ++ s), .int .i64 kd, .string a, .string b, .int .i64 m, .int .i64 wi, .string th, .string el] 37)).ownsRow w.heap.size 37 8 (.slice oo lm ko) lm (enc 8 eR M)) := by
          have h : World.ownsRow _ _ _ _ _ _ _ := DA.out.row
          rw [hLk] at h; exact h
        go_wp2_with (at_builtin; refine wpList_app elR rfl _ _ rfl rfl rfl HOWN.out SR.out (flatR.enc_one _) (by unfold maxLen; omega) (by omega) (by simp; omega) ?_; intro vE u5 hown hgE hbk; have D5 : Hid (Dr R ob n cb f w w.heap.size u5 p8 vE (M ++ [(((⟨#[122]⟩ : ByteArray) ++ s), kd, a, b, m, wi, th, el)])) := DA.out.grow (by show World.ownsRow _ _ _ _ _ _ _; rw [List.length_append, enc_append, hLk]; exact hown) hgE (fun x hx => (List.mem_append.1 hx).elim (DA.out.pz x) (fun h => by rw [List.mem_singleton.1 h]; exact PZ.out)); obtain ⟨oE, kE, hvE⟩ := Row.form D5.out.row; obtain ⟨L5, hL5⟩ : ∃ L5, L5 = M ++ [(((⟨#[122]⟩ : ByteArray) ++ s), kd, a, b, m, wi, th, el)] := ⟨_, rfl⟩; have hL5k : L5.length = lm + 1 := (by rw [hL5, List.length_append, hLk]; rfl); rw [← hL5] at D5 hvE; rw [hL5k] at hvE; subst hvE; clear hown hgE hbk hL5)
        go_wp2_with fail
        go_roundw
        case rel => exact ⟨j + 1, L5, p8, by omega, by omega, by go_num, by rw [hL5k]; rfl, by omega, D5⟩
        case measure => simp [lenV]; omega
      · go_wp2_with fail
        go_ret
        exact SpE.of ⟨_, M, rfl, by omega, fun x hx => (DR.out.pz x hx).up (by omega), q', by omega, DR.out.rd, DR.out.but, DR.out.row⟩
  · have hz0 : (z == 0) = false := by simp; omega
    have hz1 : (z == 1) = false := by simp; omega
    have hz2 : (z == 2) = false := by simp; omega
    have C : Hid _ := spoil_rd R ob n cb f p3 nm a b th el kd m wi W3 D3.out.rd (by omega) PX.out
    go_wp2_with fail
    refine Calls.mono C.out ?_
    rintro e W4 ⟨nm9, kd9, a9, b9, m9, wi9, th9, el9, rfl, pz9, p4, hp4, RD4, bt⟩
    have D4 : Hid (Dr R ob n cb f w w.heap.size W4 p4 (.slice (some ⟨g, 0, none⟩) nl ko) L) := D3.out.call RD4.out bt.out
    have P9 : Hid (PzL 2000 (nm9, kd9, a9, b9, m9, wi9, th9, el9)) := pz9
    clear C bt RD4 D3 pz9 c0 c1 c2 c3 c4 c5 c6 c7 f0 f1 f2 f3 f4 f5 f6 f7 HCELL
    have HCZ9 : Hid (∀ j, j < 8 → W4.cell? ⟨g, k * 8 + j, none⟩ = some (eR (L[k]'(by omega)) j) ∧ W4.frozen? ⟨g, k * 8 + j, none⟩ = false) := by
      obtain ⟨g', c', hv', _, _, hc'⟩ := Row.cell D4.out.row (i := k) (by omega)
      injection hv' with e1 e2 e3
      injection e1 with e1
      injection e1 with e1 _ _
      subst e1
      exact hc'
    obtain ⟨xx, hxx⟩ : ∃ x, x = L[k]'(by omega) := ⟨_, rfl⟩
    rw [← hxx] at HCZ9
    clear hxx
    obtain ⟨nm0, kd0, a0, b0, m0, wi0, th0, el0⟩ := xx
    have zc0 : W4.cell? ⟨g, k * 8, none⟩ = some (.string nm0) := (HCZ9.out 0 (by omega)).1
    have zf0 : W4.frozen? ⟨g, k * 8, none⟩ = false := (HCZ9.out 0 (by omega)).2
    have zc1 : W4.cell? ⟨g, k * 8 + 1, none⟩ = some (.int .i64 kd0) := (HCZ9.out 1 (by omega)).1
    have zf1 : W4.frozen? ⟨g, k * 8 + 1, none⟩ = false := (HCZ9.out 1 (by omega)).2
    have zc2 : W4.cell? ⟨g, k * 8 + 2, none⟩ = some (.string a0) := (HCZ9.out 2 (by omega)).1
    have zf2 : W4.frozen? ⟨g, k * 8 + 2, none⟩ = false := (HCZ9.out 2 (by omega)).2
    have zc3 : W4.cell? ⟨g, k * 8 + 3, none⟩ = some (.string b0) := (HCZ9.out 3 (by omega)).1
    have zf3 : W4.frozen? ⟨g, k * 8 + 3, none⟩ = false := (HCZ9.out 3 (by omega)).2
    have zc4 : W4.cell? ⟨g, k * 8 + 4, none⟩ = some (.int .i64 m0) := (HCZ9.out 4 (by omega)).1
    have zf4 : W4.frozen? ⟨g, k * 8 + 4, none⟩ = false := (HCZ9.out 4 (by omega)).2
    have zc5 : W4.cell? ⟨g, k * 8 + 5, none⟩ = some (.int .i64 wi0) := (HCZ9.out 5 (by omega)).1
    have zf5 : W4.frozen? ⟨g, k * 8 + 5, none⟩ = false := (HCZ9.out 5 (by omega)).2
    have zc6 : W4.cell? ⟨g, k * 8 + 6, none⟩ = some (.string th0) := (HCZ9.out 6 (by omega)).1
    have zf6 : W4.frozen? ⟨g, k * 8 + 6, none⟩ = false := (HCZ9.out 6 (by omega)).2
    have zc7 : W4.cell? ⟨g, k * 8 + 7, none⟩ = some (.string el0) := (HCZ9.out 7 (by omega)).1
    have zf7 : W4.frozen? ⟨g, k * 8 + 7, none⟩ = false := (HCZ9.out 7 (by omega)).2
    obtain ⟨FW, hF⟩ : ∃ u, u = (((((((W4.setCell ⟨g, k * 8, none⟩ (.string nm9)).setCell ⟨g, k * 8 + 1, none⟩ (.int .i64 kd9)).setCell ⟨g, k * 8 + 2, none⟩ (.string a9)).setCell ⟨g, k * 8 + 3, none⟩ (.string b9)).setCell ⟨g, k * 8 + 4, none⟩ (.int .i64 m9)).setCell ⟨g, k * 8 + 5, none⟩ (.int .i64 wi9)).setCell ⟨g, k * 8 + 6, none⟩ (.string th9)).setCell ⟨g, k * 8 + 7, none⟩ (.string el9) := ⟨_, rfl⟩
    have HF : Hid (FW = (((((((W4.setCell ⟨g, k * 8, none⟩ (.string nm9)).setCell ⟨g, k * 8 + 1, none⟩ (.int .i64 kd9)).setCell ⟨g, k * 8 + 2, none⟩ (.string a9)).setCell ⟨g, k * 8 + 3, none⟩ (.string b9)).setCell ⟨g, k * 8 + 4, none⟩ (.int .i64 m9)).setCell ⟨g, k * 8 + 5, none⟩ (.int .i64 wi9)).setCell ⟨g, k * 8 + 6, none⟩ (.string th9)).setCell ⟨g, k * 8 + 7, none⟩ (.string el9)) := hF
    have RF : Hid (Row FW w.heap.size 37 8 eR (.slice (some ⟨g, 0, none⟩) nl ko) (L.set k (nm9, kd9, a9, b9, m9, wi9, th9, el9))) := by
      rw [hF]
      have hr : Row W4 w.heap.size 37 8 eR (.slice (some ⟨g, 0, none⟩) L.length ko) L := by rw [hLk]; exact D4.out.row
      have h8 := row_put8 hr (k := k) (by omega) (nm9, kd9, a9, b9, m9, wi9, th9, el9)
      rw [hLk] at h8
      exact h8
    have KF : Hid (∀ b, b ≠ g → FW.heap[b]? = W4.heap[b]?) := fun b hb => by rw [hF]; exact (Below.heap_setCell _ ⟨g, k * 8 + 7, none⟩ _ b hb).trans ((Below.heap_setCell _ ⟨g, k * 8 + 6, none⟩ _ b hb).trans ((Below.heap_setCell _ ⟨g, k * 8 + 5, none⟩ _ b hb).trans ((Below.heap_setCell _ ⟨g, k * 8 + 4, none⟩ _ b hb).trans ((Below.heap_setCell _ ⟨g, k * 8 + 3, none⟩ _ b hb).trans ((Below.heap_setCell _ ⟨g, k * 8 + 2, none⟩ _ b hb).trans ((Below.heap_setCell _ ⟨g, k * 8 + 1, none⟩ _ b hb).trans ((Below.heap_setCell _ ⟨g, k * 8, none⟩ _ b hb))))))))
    have BF : Hid (Below g W4 FW) := by show Below g W4 FW; rw [hF]; exact ((((((((Below.refl _ _).setCell (p := ⟨g, k * 8, none⟩) (Nat.le_refl _) _).setCell (p := ⟨g, k * 8 + 1, none⟩) (Nat.le_refl _) _).setCell (p := ⟨g, k * 8 + 2, none⟩) (Nat.le_refl _) _).setCell (p := ⟨g, k * 8 + 3, none⟩) (Nat.le_refl _) _).setCell (p := ⟨g, k * 8 + 4, none⟩) (Nat.le_refl _) _).setCell (p := ⟨g, k * 8 + 5, none⟩) (Nat.le_refl _) _).setCell (p := ⟨g, k * 8 + 6, none⟩) (Nat.le_refl _) _).setCell (p := ⟨g, k * 8 + 7, none⟩) (Nat.le_refl _) _
    clear hF
    go_wp2_with fail
    rw [← HF.out]
    go_ret
    refine SpE.of ⟨_, L.set k (nm9, kd9, a9, b9, m9, wi9, th9, el9), rfl, by rw [List.length_set]; omega, fun x hx => ?_, p4, by omega, D4.out.rd.but (fun b hb => KF.out b (by omega)), ⟨BF.out.os.trans D4.out.but.os, BF.out.tape.trans D4.out.but.tape, BF.out.output.trans D4.out.but.output, Nat.le_trans D4.out.but.size BF.out.size, fun b h3 h4 => (KF.out b (by omega)).trans (D4.out.but.block b h3 h4)⟩, RF.out⟩
    rcases List.mem_or_eq_of_mem_set hx with h | h
    · exact (HZ.out x h).up (by omega)
    · rw [h]; exact P9.out

end Go.Proofs.Ytkongeofapbblaa
