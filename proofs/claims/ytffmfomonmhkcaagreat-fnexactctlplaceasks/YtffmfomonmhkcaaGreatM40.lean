/-
  Several texts in one.
-/
import Derived.Test.YtffmfomonmhkcaaGreatM39
import Derived.Test.YtffmfomonmhkcaaGreatGp
import Derived.Test.YtffmfomonmhkcaaGreatVb
import Derived.Test.YtffmfomonmhkcaaGreatM27
/-
  A list that is built, one element behind the other, in a cell of a box, in rounds of a range over a function: what a round keeps. No program is named here.
-/
namespace Go.Proofs.YtffmfomonmhkcaaGreat
open Go.RowKit

/-- What such a loop owns: the box, and the row of its cell j. -/
def ownG (gx j : Nat) (tb : TypeId) : World → Nat → Prop := fun W k => k = gx ∨ ∃ (c : Array Value) (v : Value), W.heap[gx]? = some (.cells c tb (0, 0)) ∧ c[j]? = some v ∧ v.ownBlock = some k
structure Grw (U : World) (gx : Nat) (bf : Value → Array Value) (tb t : TypeId) (sz n : Nat) (xs : List Value) (X : World) (v : Value) : Prop where
  row : X.ownsRow U.heap.size t sz v n xs
  box : X.heap[gx]? = some (.cells (bf v) tb (0, 0))
  but : But (fun b => b = gx) U X

variable {U A B V ua u8 : World} {gx j n₀ sz n n' : Nat} {bf : Value → Array Value} {tb t : TypeId} {xs xs' : List Value} {v v' : Value}
theorem row_cells {w : World} {base e size k : Nat} (h : w.ownsRow base e size v k xs) {g : Nat} (hg : v.ownBlock = some g) : ∃ cur, w.heap[g]? = some (.cells cur e (0, 0)) := by
  rcases h.2 with ⟨rfl, _⟩ | ⟨g', cap, cur, rfl, _, hgg, _⟩
  · cases hg
  · cases hg; exact ⟨cur, hgg⟩
theorem Grw.grown (h : Grw U gx bf tb t sz n xs A v) {row : Option Nat} (hg : A.grownBy B row) (hr : ∀ r, row = some r → U.heap.size ≤ r ∧ ∃ o : Obj, A.heap[r]? = some o ∧ o.isCells = false) : Grw U gx bf tb t sz n xs B v := by
  have ne : ∀ (k : Nat) (c : Array Value) (s : TypeId) (z : Nat × Nat), A.heap[k]? = some (.cells c s z) → some k ≠ row := fun k c s z hk e => by
    obtain ⟨o, ho, hc⟩ := (hr k e.symm).2
    rw [hk] at ho; cases ho; cases hc
  refine ⟨ownsRow_kept h.row (fun g hg' => ?_), (hg.block gx (Array.getElem?_eq_some_iff.1 h.box).1 (ne _ _ _ _ h.box)).trans h.box, ⟨hg.os.trans h.but.os, hg.tape.trans h.but.tape, hg.output.trans h.but.output, Nat.le_trans h.but.size hg.size, fun b hb hn => (hg.block b (Nat.lt_of_lt_of_le hb h.but.size) (fun e => by have := (hr b e.symm).1; omega)).trans (h.but.block b hb hn)⟩⟩
  obtain ⟨cur, hc⟩ := row_cells h.row hg'
  exact hg.block g (Array.getElem?_eq_some_iff.1 hc).1 (ne _ _ _ _ hc)
theorem Grw.own (h : Grw U gx bf tb t sz n xs A v) (hj : (bf v)[j]? = some v) {k : Nat} : ownG gx j tb A k ↔ k = gx ∨ v.ownBlock = some k := by
  constructor
  · rintro (rfl | ⟨c, u, hc, hu, ho⟩)
    · exact .inl rfl
    · rw [h.box] at hc
      cases hc
      rw [hj] at hu
      cases hu
      exact .inr ho
  · rintro (rfl | ho)
    · exact .inl rfl
    · exact .inr ⟨_, _, h.box, hj, ho⟩
theorem Grw.st (h : Grw U gx bf tb t sz n xs A v) (hj : (bf v)[j]? = some v) : OwnSt (ownG gx j tb) A := by
  refine ⟨fun k hk => ?_, fun W' row hg hr k hk => ?_⟩
  · rcases (h.own hj).1 hk with rfl | ho
    · exact (Array.getElem?_eq_some_iff.1 h.box).1
    · exact (World.ownsRow.lt h.row k ho).2
  · have hb : W'.heap[gx]? = some (.cells (bf v) tb (0, 0)) := (hg.block gx (Array.getElem?_eq_some_iff.1 h.box).1 (fun e => by
      obtain ⟨o, ho, hc⟩ := hr gx e.symm
      rw [h.box] at ho; cases ho; cases hc)).trans h.box
    rcases hk with rfl | ⟨c, u, hc, hu, ho⟩
    · exact .inl rfl
    · rw [hb] at hc
      cases hc
      rw [hj] at hu
      cases hu
      exact (h.own hj).2 (.inr ho)
theorem Grw.step (h : Grw U gx bf tb t sz n xs V v) (hj : (bf v)[j]? = some v) (hset : (bf v).setIfInBounds j v' = bf v') (hj' : (bf v')[j]? = some v') (hgU : gx < U.heap.size) (hn₀ : n₀ ≤ gx) (BA : Below V.heap.size V ua) (hgr : ua.grownBy u8 v.ownBlock)
    (hbk : v'.ownBlock = v.ownBlock ∨ v'.ownBlock = some ua.heap.size) (hown : u8.ownsRow U.heap.size t sz v' n' xs') :
    KeepsOthers V (u8.setCell ⟨gx, j, none⟩ v') ∧ KpO (ownG gx j tb) n₀ V (u8.setCell ⟨gx, j, none⟩ v') ∧ Grw U gx bf tb t sz n' xs' (u8.setCell ⟨gx, j, none⟩ v') v' := by
  have sB := BA.size
  have sU := h.but.size
  have s8 := hgr.size
  have sF : (u8.setCell ⟨gx, j, none⟩ v').heap.size = u8.heap.size := by simp [World.setCell]
  have low : ∀ g, v.ownBlock = some g → U.heap.size ≤ g ∧ g < V.heap.size := fun g hg => World.ownsRow.lt h.row g hg
  have keep : ∀ k, k < V.heap.size → k ≠ gx → v.ownBlock ≠ some k → (u8.setCell ⟨gx, j, none⟩ v').heap[k]? = V.heap[k]? := fun k hk hg hv => (Below.heap_setCell u8 ⟨gx, j, none⟩ v' k hg).trans ((hgr.block k (by omega) (fun e => hv e.symm)).trans (BA.block k hk))
  have hg8 : u8.heap[gx]? = some (.cells (bf v) tb (0, 0)) := (hgr.block gx (by omega) (fun e => by have := (low gx e.symm).1; omega)).trans ((BA.block gx (by omega)).trans h.box)
  have hF : (u8.setCell ⟨gx, j, none⟩ v').heap[gx]? = some (.cells (bf v') tb (0, 0)) := by rw [set_row hg8 j v', hset]
  have G : Grw U gx bf tb t sz n' xs' (u8.setCell ⟨gx, j, none⟩ v') v' := ⟨ownsRow_kept hown (fun g hg => Below.heap_setCell _ _ _ _ (by have := (World.ownsRow.lt hown g hg).1; show g ≠ gx; omega)), hF,
    ((h.but.trans (But.of_below BA)).grown hgr (fun q hq => (low q hq).1)).set rfl j v'⟩
  refine ⟨⟨by omega, fun k o hk ho => ?_⟩, ⟨by omega, fun k hk => ?_, fun k hk => keep k (by omega) (by omega) (fun e => by have := (low k e).1; omega), fun k c s z hc ho => ?_⟩, G⟩
  · refine (keep k (Array.getElem?_eq_some_iff.1 hk).1 (fun e => ?_) (fun e => ?_)).trans hk
    · subst e; rw [h.box] at hk; cases hk; cases ho
    · obtain ⟨cur, hcur⟩ := row_cells h.row e
      rw [hcur] at hk; cases hk; cases ho
  · rcases (G.own hj').1 hk with rfl | e
    · exact .inl (.inl rfl)
    · rcases hbk with e2 | e2
      · exact .inl ((h.own hj).2 (.inr (e2.symm.trans e)))
      · rw [e2] at e; cases e; exact .inr (by omega)
  · exact (keep k (Array.getElem?_eq_some_iff.1 hc).1 (fun e => ho (.inl e)) (fun e => ho ((h.own hj).2 (.inr e)))).trans hc

end Go.Proofs.YtffmfomonmhkcaaGreat

/-
  A want that is built in a box: three lists in its cells 3, 4 and 5, each in memory of its own; what a step of building leaves as it was.
-/
namespace Go.Proofs.YtffmfomonmhkcaaGreat
open Go.RowKit

theorem rows_neB {w : World} {base e size k base' e' size' k' : Nat} {v v' : Value} {xs xs' : List Value} (h : w.ownsRow base e size v k xs) (h' : w.ownsRow base' e' size' v' k' xs') (ht : ¬ e = e') (g : Nat) (hg : v.ownBlock = some g) : v'.ownBlock ≠ some g := fun eq => by
  obtain ⟨c1, h1⟩ := row_cells h hg
  obtain ⟨c2, h2⟩ := row_cells h' eq
  rw [h1] at h2
  cases h2
  exact ht rfl

/-- A box's cells: the three lists are its cells 3, 4, 5. -/
structure BF (bf : Value → Value → Value → Array Value) : Prop where
  g3 : ∀ a b c, (bf a b c)[3]? = some a
  g4 : ∀ a b c, (bf a b c)[4]? = some b
  g5 : ∀ a b c, (bf a b c)[5]? = some c
  s3 : ∀ a b c x, (bf a b c).setIfInBounds 3 x = bf x b c
  s4 : ∀ a b c x, (bf a b c).setIfInBounds 4 x = bf a x c
  s5 : ∀ a b c x, (bf a b c).setIfInBounds 5 x = bf a b x
/-- What such a builder owns: the box, and the rows of its three cells. -/
def own3 (gx : Nat) (tb : TypeId) (W : World) (k : Nat) : Prop := k = gx ∨ ∃ (c : Array Value) (j : Nat) (v : Value), W.heap[gx]? = some (.cells c tb (0, 0)) ∧ (j = 3 ∨ j = 4 ∨ j = 5) ∧ c[j]? = some v ∧ v.ownBlock = some k
structure Bx (bf : Value → Value → Value → Array Value) (tb : TypeId) (gx n0 : Nat) (u : List DClaimUse) (o s : List ByteArray) (vu vo vs : Value) (X : World) : Prop where
  box : X.heap[gx]? = some (.cells (bf vu vo vs) tb (0, 0))
  ru : X.ownsRow n0 54 3 vu u.length (enc 3 eU u)
  ro : X.ownsRow n0 9 1 vo o.length (enc 1 eS o)
  rs : X.ownsRow n0 9 1 vs s.length (enc 1 eS s)
  sep : ∀ k, vo.ownBlock = some k → vs.ownBlock ≠ some k
  lo : gx < n0
/-- What a step leaves: all that isn't owned; what is owned then was owned, or is new. -/
structure Stp (gx : Nat) (tb : TypeId) (V W : World) : Prop where
  but : But (own3 gx tb V) V W
  own : ∀ k, own3 gx tb W k → own3 gx tb V k ∨ V.heap.size ≤ k

variable {bf : Value → Value → Value → Array Value} {tb : TypeId} {gx n0 : Nat} {u u' : List DClaimUse} {o s o' s' : List ByteArray} {vu vo vs v' : Value} {A C V W X Y ua u8 : World}
theorem Stp.refl (gx : Nat) (tb : TypeId) (V : World) : Stp gx tb V V := ⟨But.refl _ _, fun _ h => .inl h⟩
theorem Stp.trans (h : Stp gx tb A V) (k : Stp gx tb V W) : Stp gx tb A W := by
  refine ⟨⟨k.but.os.trans h.but.os, k.but.tape.trans h.but.tape, k.but.output.trans h.but.output, Nat.le_trans h.but.size k.but.size, fun b hb hn => (k.but.block b (Nat.lt_of_lt_of_le hb h.but.size) (fun ho => ?_)).trans (h.but.block b hb hn)⟩, fun b hb => ?_⟩
  · rcases h.own b ho with h1 | h1
    · exact hn h1
    · omega
  · rcases k.own b hb with h1 | h1
    · exact h.own b h1
    · exact .inr (Nat.le_trans h.but.size h1)
theorem own3_same (e : W.heap[gx]? = V.heap[gx]?) {k : Nat} : own3 gx tb W k ↔ own3 gx tb V k := by unfold own3; rw [e]
theorem Stp.of_below (h : Below V.heap.size V W) (hg : gx < V.heap.size) : Stp gx tb V W := ⟨But.of_below h, fun _ hk => .inl ((own3_same (h.block gx hg)).1 hk)⟩
theorem Bx.own (hbf : BF bf) (h : Bx bf tb gx n0 u o s vu vo vs X) {k : Nat} : own3 gx tb X k ↔ k = gx ∨ vu.ownBlock = some k ∨ vo.ownBlock = some k ∨ vs.ownBlock = some k := by
  constructor
  · rintro (rfl | ⟨c, j, v, hc, hj, hv, ho⟩)
    · exact .inl rfl
    · rw [h.box] at hc
      cases hc
      rcases hj with rfl | rfl | rfl
      · rw [hbf.g3] at hv; cases hv; exact .inr (.inl ho)
      · rw [hbf.g4] at hv; cases hv; exact .inr (.inr (.inl ho))
      · rw [hbf.g5] at hv; cases hv; exact .inr (.inr (.inr ho))
  · rintro (rfl | ho | ho | ho)
    · exact .inl rfl
    · exact .inr ⟨_, 3, _, h.box, .inl rfl, hbf.g3 _ _ _, ho⟩
    · exact .inr ⟨_, 4, _, h.box, .inr (.inl rfl), hbf.g4 _ _ _, ho⟩
    · exact .inr ⟨_, 5, _, h.box, .inr (.inr rfl), hbf.g5 _ _ _, ho⟩
theorem Bx.rows (hbf : BF bf) (h : Bx bf tb gx n0 u o s vu vo vs X) {k : Nat} (hk : own3 gx tb X k) : k = gx ∨ (n0 ≤ k ∧ k < X.heap.size) := by
  rcases (h.own hbf).1 hk with e | e | e | e
  · exact .inl e
  · exact .inr (World.ownsRow.lt h.ru k e)
  · exact .inr (World.ownsRow.lt h.ro k e)
  · exact .inr (World.ownsRow.lt h.rs k e)
theorem Bx.low (hbf : BF bf) (h : Bx bf tb gx n0 u o s vu vo vs X) (k : Nat) (hk : own3 gx tb X k) : gx ≤ k := by
  have := h.lo
  rcases h.rows hbf hk with e | e <;> omega
theorem Bx.gxlt (h : Bx bf tb gx n0 u o s vu vo vs X) : gx < X.heap.size := (Array.getElem?_eq_some_iff.1 h.box).1
theorem Bx.cells (hbf : BF bf) (h : Bx bf tb gx n0 u o s vu vo vs X) {k : Nat} (hk : own3 gx tb X k) : ∃ c t, X.heap[k]? = some (.cells c t (0, 0)) := by
  rcases (h.own hbf).1 hk with e | e | e | e
  · rw [e]; exact ⟨_, _, h.box⟩
  · exact ⟨_, _, (row_cells h.ru e).choose_spec⟩
  · exact ⟨_, _, (row_cells h.ro e).choose_spec⟩
  · exact ⟨_, _, (row_cells h.rs e).choose_spec⟩
theorem Bx.kept (hbf : BF bf) (h : Bx bf tb gx n0 u o s vu vo vs X) (hb : ∀ k, own3 gx tb X k → Y.heap[k]? = X.heap[k]?) : Bx bf tb gx n0 u o s vu vo vs Y where
  box := (hb gx (.inl rfl)).trans h.box
  ru := ownsRow_kept h.ru (fun g hg => hb g ((h.own hbf).2 (.inr (.inl hg))))
  ro := ownsRow_kept h.ro (fun g hg => hb g ((h.own hbf).2 (.inr (.inr (.inl hg)))))
  rs := ownsRow_kept h.rs (fun g hg => hb g ((h.own hbf).2 (.inr (.inr (.inr hg)))))
  sep := h.sep
  lo := h.lo
theorem Bx.below (hbf : BF bf) (h : Bx bf tb gx n0 u o s vu vo vs X) (hb : Below X.heap.size X Y) : Bx bf tb gx n0 u o s vu vo vs Y :=
  h.kept hbf (fun k hk => hb.block k (by obtain ⟨c, t, hc⟩ := h.cells hbf hk; exact (Array.getElem?_eq_some_iff.1 hc).1))
theorem Bx.grown (hbf : BF bf) (h : Bx bf tb gx n0 u o s vu vo vs A) {row : Option Nat} (hg : A.grownBy C row) (hr : ∀ r, row = some r → ∃ o : Obj, A.heap[r]? = some o ∧ o.isCells = false) : Bx bf tb gx n0 u o s vu vo vs C := by
  refine h.kept hbf (fun k hk => ?_)
  obtain ⟨c, t, hc⟩ := h.cells hbf hk
  refine hg.block k (Array.getElem?_eq_some_iff.1 hc).1 (fun e => ?_)
  obtain ⟨ob, ho, hn⟩ := hr k e.symm
  rw [hc] at ho; cases ho; cases hn
theorem Bx.st (hbf : BF bf) (h : Bx bf tb gx n0 u o s vu vo vs A) : OwnSt (own3 gx tb) A := by
  refine ⟨fun k hk => ?_, fun W' row hg hr k hk => ?_⟩
  · obtain ⟨c, t, hc⟩ := h.cells hbf hk; exact (Array.getElem?_eq_some_iff.1 hc).1
  · have e : W'.heap[gx]? = A.heap[gx]? := hg.block gx h.gxlt (fun e => by
      obtain ⟨ob, ho, hn⟩ := hr gx e.symm
      rw [h.box] at ho; cases ho; cases hn)
    exact (own3_same e).1 hk
theorem Stp.keeps (hbf : BF bf) (h : Bx bf tb gx n0 u o s vu vo vs V) (k : Stp gx tb V W) : KeepsOthers V W :=
  ⟨k.but.size, fun i ob hi ho => (k.but.block i (Array.getElem?_eq_some_iff.1 hi).1 (fun hw => by
    obtain ⟨c, t, hc⟩ := h.cells hbf hw
    rw [hi] at hc; cases hc; cases ho)).trans hi⟩
theorem Stp.kp {n₀ : Nat} (hbf : BF bf) (h : Bx bf tb gx n0 u o s vu vo vs V) (k : Stp gx tb V W) (hn : n₀ ≤ gx) : KpO (own3 gx tb) n₀ V W := by
  have hg := h.gxlt
  exact ⟨k.but.size, k.own, fun i hi => k.but.block i (by omega) (fun ho => by have := h.low hbf i ho; omega), fun i c t z hc ho => (k.but.block i (Array.getElem?_eq_some_iff.1 hc).1 ho).trans hc⟩
theorem Stp.low {B : Nat} (hbf : BF bf) (h : Bx bf tb gx n0 u o s vu vo vs V) (k : Stp gx tb V W) (hB : B ≤ gx) : Below B V W :=
  k.but.below (fun b hb => Nat.le_trans hB (h.low hbf b hb)) (by have := h.gxlt; omega)
theorem Bx.step3 (hbf : BF bf) (h : Bx bf tb gx n0 u o s vu vo vs V) (BA : Below V.heap.size V ua) (hgr : ua.grownBy u8 vu.ownBlock) (hbk : v'.ownBlock = vu.ownBlock ∨ v'.ownBlock = some ua.heap.size) (hown : u8.ownsRow n0 54 3 v' u'.length (enc 3 eU u')) :
    Bx bf tb gx n0 u' o s v' vo vs (u8.setCell ⟨gx, 3, none⟩ v') ∧ Stp gx tb V (u8.setCell ⟨gx, 3, none⟩ v') := by
  have sB := BA.size
  have hgx := h.gxlt
  have lo := h.lo
  have low : ∀ g, vu.ownBlock = some g → n0 ≤ g ∧ g < V.heap.size := fun g hg => World.ownsRow.lt h.ru g hg
  have keep : ∀ k, k < V.heap.size → k ≠ gx → vu.ownBlock ≠ some k → (u8.setCell ⟨gx, 3, none⟩ v').heap[k]? = V.heap[k]? := fun k hk hg hv => (Below.heap_setCell u8 ⟨gx, 3, none⟩ v' k hg).trans ((hgr.block k (by omega) (fun e => hv e.symm)).trans (BA.block k hk))
  have hg8 : u8.heap[gx]? = some (.cells (bf vu vo vs) tb (0, 0)) := (hgr.block gx (by omega) (fun e => by have := (low gx e.symm).1; omega)).trans ((BA.block gx (by omega)).trans h.box)
  have hF : (u8.setCell ⟨gx, 3, none⟩ v').heap[gx]? = some (.cells (bf v' vo vs) tb (0, 0)) := by rw [set_row hg8 3 v', hbf.s3]
  have G : Bx bf tb gx n0 u' o s v' vo vs (u8.setCell ⟨gx, 3, none⟩ v') := ⟨hF, ownsRow_kept hown (fun g hg => Below.heap_setCell _ _ _ _ (by have := (World.ownsRow.lt hown g hg).1; show g ≠ gx; omega)), ownsRow_kept h.ro (fun g hg => keep g (World.ownsRow.lt h.ro g hg).2 (by have := (World.ownsRow.lt h.ro g hg).1; omega) (rows_neB h.ro h.ru (by decide) g hg)), ownsRow_kept h.rs (fun g hg => keep g (World.ownsRow.lt h.rs g hg).2 (by have := (World.ownsRow.lt h.rs g hg).1; omega) (rows_neB h.rs h.ru (by decide) g hg)), h.sep, lo⟩
  refine ⟨G, ⟨?_, ?_, ?_, ?_, fun k hk ho => keep k hk (fun e => ho (.inl e)) (fun e => ho ((h.own hbf).2 (.inr (.inl e))))⟩, fun k hk => ?_⟩
  · exact hgr.os.trans BA.os
  · exact hgr.tape.trans BA.tape
  · exact hgr.output.trans BA.output
  · have := hgr.size; have e : (u8.setCell ⟨gx, 3, none⟩ v').heap.size = u8.heap.size := by simp [World.setCell]
    omega
  · rcases (G.own hbf).1 hk with e | e | e | e
    · exact .inl (.inl e)
    · rcases hbk with e2 | e2
      · exact .inl ((h.own hbf).2 (.inr (.inl (e2.symm.trans e))))
      · rw [e2] at e; cases e; exact .inr (by omega)
    · exact .inl ((h.own hbf).2 (.inr (.inr (.inl e))))
    · exact .inl ((h.own hbf).2 (.inr (.inr (.inr e))))
theorem Bx.step4 (hbf : BF bf) (h : Bx bf tb gx n0 u o s vu vo vs V) (BA : Below V.heap.size V ua) (hgr : ua.grownBy u8 vo.ownBlock) (hbk : v'.ownBlock = vo.ownBlock ∨ v'.ownBlock = some ua.heap.size) (hown : u8.ownsRow n0 9 1 v' o'.length (enc 1 eS o')) :
    Bx bf tb gx n0 u o' s vu v' vs (u8.setCell ⟨gx, 4, none⟩ v') ∧ Stp gx tb V (u8.setCell ⟨gx, 4, none⟩ v') := by
  have sB := BA.size
  have hgx := h.gxlt
  have lo := h.lo
  have low : ∀ g, vo.ownBlock = some g → n0 ≤ g ∧ g < V.heap.size := fun g hg => World.ownsRow.lt h.ro g hg
  have keep : ∀ k, k < V.heap.size → k ≠ gx → vo.ownBlock ≠ some k → (u8.setCell ⟨gx, 4, none⟩ v').heap[k]? = V.heap[k]? := fun k hk hg hv => (Below.heap_setCell u8 ⟨gx, 4, none⟩ v' k hg).trans ((hgr.block k (by omega) (fun e => hv e.symm)).trans (BA.block k hk))
  have hg8 : u8.heap[gx]? = some (.cells (bf vu vo vs) tb (0, 0)) := (hgr.block gx (by omega) (fun e => by have := (low gx e.symm).1; omega)).trans ((BA.block gx (by omega)).trans h.box)
  have hF : (u8.setCell ⟨gx, 4, none⟩ v').heap[gx]? = some (.cells (bf vu v' vs) tb (0, 0)) := by rw [set_row hg8 4 v', hbf.s4]
  have G : Bx bf tb gx n0 u o' s vu v' vs (u8.setCell ⟨gx, 4, none⟩ v') := ⟨hF, ownsRow_kept h.ru (fun g hg => keep g (World.ownsRow.lt h.ru g hg).2 (by have := (World.ownsRow.lt h.ru g hg).1; omega) (rows_neB h.ru h.ro (by decide) g hg)), ownsRow_kept hown (fun g hg => Below.heap_setCell _ _ _ _ (by have := (World.ownsRow.lt hown g hg).1; show g ≠ gx; omega)), ownsRow_kept h.rs (fun g hg => keep g (World.ownsRow.lt h.rs g hg).2 (by have := (World.ownsRow.lt h.rs g hg).1; omega) (fun e2 => h.sep g e2 hg)), (fun k hk hs => by
    rcases hbk with e | e
    · exact h.sep k (e.symm.trans hk) hs
    · rw [e] at hk; cases hk; have := (World.ownsRow.lt h.rs _ hs).2; omega), lo⟩
  refine ⟨G, ⟨?_, ?_, ?_, ?_, fun k hk ho => keep k hk (fun e => ho (.inl e)) (fun e => ho ((h.own hbf).2 (.inr (.inr (.inl e)))))⟩, fun k hk => ?_⟩
  · exact hgr.os.trans BA.os
  · exact hgr.tape.trans BA.tape
  · exact hgr.output.trans BA.output
  · have := hgr.size; have e : (u8.setCell ⟨gx, 4, none⟩ v').heap.size = u8.heap.size := by simp [World.setCell]
    omega
  · rcases (G.own hbf).1 hk with e | e | e | e
    · exact .inl (.inl e)
    · exact .inl ((h.own hbf).2 (.inr (.inl e)))
    · rcases hbk with e2 | e2
      · exact .inl ((h.own hbf).2 (.inr (.inr (.inl (e2.symm.trans e)))))
      · rw [e2] at e; cases e; exact .inr (by omega)
    · exact .inl ((h.own hbf).2 (.inr (.inr (.inr e))))
theorem Bx.step5 (hbf : BF bf) (h : Bx bf tb gx n0 u o s vu vo vs V) (BA : Below V.heap.size V ua) (hgr : ua.grownBy u8 vs.ownBlock) (hbk : v'.ownBlock = vs.ownBlock ∨ v'.ownBlock = some ua.heap.size) (hown : u8.ownsRow n0 9 1 v' s'.length (enc 1 eS s')) :
    Bx bf tb gx n0 u o s' vu vo v' (u8.setCell ⟨gx, 5, none⟩ v') ∧ Stp gx tb V (u8.setCell ⟨gx, 5, none⟩ v') := by
  have sB := BA.size
  have hgx := h.gxlt
  have lo := h.lo
  have low : ∀ g, vs.ownBlock = some g → n0 ≤ g ∧ g < V.heap.size := fun g hg => World.ownsRow.lt h.rs g hg
  have keep : ∀ k, k < V.heap.size → k ≠ gx → vs.ownBlock ≠ some k → (u8.setCell ⟨gx, 5, none⟩ v').heap[k]? = V.heap[k]? := fun k hk hg hv => (Below.heap_setCell u8 ⟨gx, 5, none⟩ v' k hg).trans ((hgr.block k (by omega) (fun e => hv e.symm)).trans (BA.block k hk))
  have hg8 : u8.heap[gx]? = some (.cells (bf vu vo vs) tb (0, 0)) := (hgr.block gx (by omega) (fun e => by have := (low gx e.symm).1; omega)).trans ((BA.block gx (by omega)).trans h.box)
  have hF : (u8.setCell ⟨gx, 5, none⟩ v').heap[gx]? = some (.cells (bf vu vo v') tb (0, 0)) := by rw [set_row hg8 5 v', hbf.s5]
  have G : Bx bf tb gx n0 u o s' vu vo v' (u8.setCell ⟨gx, 5, none⟩ v') := ⟨hF, ownsRow_kept h.ru (fun g hg => keep g (World.ownsRow.lt h.ru g hg).2 (by have := (World.ownsRow.lt h.ru g hg).1; omega) (rows_neB h.ru h.rs (by decide) g hg)), ownsRow_kept h.ro (fun g hg => keep g (World.ownsRow.lt h.ro g hg).2 (by have := (World.ownsRow.lt h.ro g hg).1; omega) (fun e2 => h.sep g hg e2)), ownsRow_kept hown (fun g hg => Below.heap_setCell _ _ _ _ (by have := (World.ownsRow.lt hown g hg).1; show g ≠ gx; omega)), (fun k hk hs => by
    rcases hbk with e | e
    · exact h.sep k hk (e.symm.trans hs)
    · rw [e] at hs; cases hs; have := (World.ownsRow.lt h.ro _ hk).2; omega), lo⟩
  refine ⟨G, ⟨?_, ?_, ?_, ?_, fun k hk ho => keep k hk (fun e => ho (.inl e)) (fun e => ho ((h.own hbf).2 (.inr (.inr (.inr e)))))⟩, fun k hk => ?_⟩
  · exact hgr.os.trans BA.os
  · exact hgr.tape.trans BA.tape
  · exact hgr.output.trans BA.output
  · have := hgr.size; have e : (u8.setCell ⟨gx, 5, none⟩ v').heap.size = u8.heap.size := by simp [World.setCell]
    omega
  · rcases (G.own hbf).1 hk with e | e | e | e
    · exact .inl (.inl e)
    · exact .inl ((h.own hbf).2 (.inr (.inl e)))
    · exact .inl ((h.own hbf).2 (.inr (.inr (.inl e))))
    · rcases hbk with e2 | e2
      · exact .inl ((h.own hbf).2 (.inr (.inr (.inr (e2.symm.trans e)))))
      · rw [e2] at e; cases e; exact .inr (by omega)

end Go.Proofs.YtffmfomonmhkcaaGreat
