import Derived.Test.YtaejlcanccfmmaaGreatDoorM18
import Derived.Test.YtaejlcanccfmmaaGreatDoorZsn
import Derived.Test.YtaejlcanccfmmaaGreatDoorM34
import Derived.Test.YtaejlcanccfmmaaGreatDoorM40
import Derived.Test.YtaejlcanccfmmaaGreatDoorM43
import Derived.Test.YtaejlcanccfmmaaGreatDoorM48
import Derived.Test.YtaejlcanccfmmaaGreatDoorZrl
import Derived.Test.YtaejlcanccfmmaaGreatDoorZrx
import Derived.Test.YtaejlcanccfmmaaGreatDoorZre
import Derived.Test.YtaejlcanccfmmaaGreatDoorM51
import Derived.Deep.Cut
namespace Go.Proofs.YtaejlcanccfmmaaGreatDoor
open Go.RowKit Go.Sort
theorem szl_tot {l : List ByteArray} (h : SzL 65 l) : totL l ≤ 1048576 := by
  have := totL_bound (c := 65) l (fun x hx => h.2 x hx)
  have := h.1
  omega
theorem les_cases (D : DShareBook) (x : ByteArray) (nd : List ByteArray) : ((lesS D x nd).2 = 0 ∧ BokP (lesS D x nd).1 ∧ ((ordS D).2 = true → (ordS (lesS D x nd).1).2 = true)) ∨ (lesS D x nd).2 = 1 ∨ (((lesS D x nd).2 = 2 ∨ (lesS D x nd).2 = 3) ∧ (lesS D x nd).1 = D) := by
  unfold lesS
  by_cases hB : bokB D = true
  · rw [if_pos hB]
    by_cases h1 : atZI D.2 x < 0
    · rw [if_pos h1]; exact .inr (.inr ⟨.inr rfl, rfl⟩)
    · rw [if_neg h1]
      by_cases h2 : subB (btN D.2 (atZI D.2 x).toNat).2.2 nd = true
      · rw [if_pos h2]
        obtain ⟨g1, g2⟩ := les_ok (bok_iff.1 hB) h1 h2
        exact .inl ⟨rfl, g1, g2⟩
      · rw [if_neg h2]; exact .inr (.inr ⟨.inl rfl, rfl⟩)
  · rw [if_neg hB]; exact .inr (.inl rfl)
theorem lev_cases (D : DShareBook) (x : ByteArray) : ((levS D x).2 = 0 ∧ BokP (levS D x).1 ∧ ((ordS D).2 = true → (ordS (levS D x).1).2 = true) ∧ (levS D x).1.2.length + 1 = D.2.length) ∨ (levS D x).2 = 1 ∨ (levS D x).2 = 3 := by
  unfold levS
  by_cases hB : bokB D = true
  · rw [if_pos hB]
    by_cases h1 : atZI D.2 x < 0
    · rw [if_pos h1]; exact .inr (.inr rfl)
    · rw [if_neg h1]
      obtain ⟨g1, g2⟩ := lev_ok (bok_iff.1 hB) h1
      refine .inl ⟨rfl, g1, g2, ?_⟩
      obtain ⟨q, eq, hq⟩ := at_lt h1
      simp only [eq, Int.toNat_natCast, List.length_append, List.length_take, List.length_drop]
      omega
  · rw [if_neg hB]; exact .inr (.inl rfl)
theorem ent_cases (D : DShareBook) (x : ByteArray) (nd : List ByteArray) : ((entS D x nd).2 = 0 ∧ BokP (entS D x nd).1 ∧ (ordS (entS D x nd).1).2 = (ordS D).2 ∧ (entS D x nd).1.2.length = D.2.length + 1) ∨ (entS D x nd).2 = 1 ∨ (((entS D x nd).2 = 2 ∨ (entS D x nd).2 = 3 ∨ (entS D x nd).2 = 4) ∧ (entS D x nd).1 = D) := by
  unfold entS
  by_cases hB : bokB D = true
  · rw [if_pos hB]
    by_cases h1 : nameB x = true ∧ subB D.1 nd = true
    · rw [if_pos h1]
      by_cases h3 : 0 ≤ atZI D.2 x
      · rw [if_pos h3]; exact .inr (.inr ⟨.inr (.inl rfl), rfl⟩)
      · rw [if_neg h3]
        by_cases h4 : 5 ≤ D.2.length
        · rw [if_pos h4]; exact .inr (.inr ⟨.inr (.inr rfl), rfl⟩)
        · rw [if_neg h4]
          obtain ⟨g1, g2⟩ := ent_ok (bok_iff.1 hB) h1.1 h1.2 h3 h4
          refine .inl ⟨rfl, g1, g2, ?_⟩
          have := pos_le D.2 x
          simp only [List.length_append, List.length_take, List.length_drop, List.length_cons, List.length_nil]
          omega
    · rw [if_neg h1]; exact .inr (.inr ⟨.inl rfl, rfl⟩)
  · rw [if_neg hB]; exact .inr (.inl rfl)
set_option maxRecDepth 100000 in
set_option maxHeartbeats 32000000 in
theorem lawS_any (SP : SpoilC) (ob : Option Addr) (n cb : Nat) (f : Nat → Int) (oc : Option Addr) (m cc : Nat) (g : Nat → Int) (w : World) (hn : n ≤ maxLen) (hnc : n ≤ cb) (fb : ∀ i, 0 ≤ f i ∧ f i ≤ 255)
    (ce : ∀ i, i < n → ∃ b off, ob = some ⟨b, off, none⟩ ∧ b < w.heap.size ∧ w.cell? ⟨b, off + i, none⟩ = some (.int .u8 (f i)))
    (hm : m ≤ maxLen) (hmc : m ≤ cc) (gb : ∀ i, 0 ≤ g i ∧ g i ≤ 255) (cg : ∀ i, i < m → ∃ b off, oc = some ⟨b, off, none⟩ ∧ b < w.heap.size ∧ w.cell? ⟨b, off + i, none⟩ = some (.int .u8 (g i))) (hl : Laid0 w) :
    Calls Tryz.prog 3 #[.slice ob n cb, .slice oc m cc] w fun e w' => e = .returned (.bool true) ∧ Below w.heap.size w w' := by
  have hn' := hn
  have hm' := hm
  unfold maxLen at hn' hm'
  by_cases hbig : (1048576 : Int) < (n : Int)
  · go_enter Tryz.func3, Tryz.ntmps3
    go_wp2_with fail
    go_ret
    exact ⟨rfl, Below.refl _ _⟩
  by_cases hbig2 : (1048576 : Int) < (m : Int)
  · go_enter Tryz.func3, Tryz.ntmps3
    go_wp2_with fail
    go_ret
    exact ⟨rfl, Below.refl _ _⟩
  have CDR : Hid (Calls Tryz.prog 4 #[.slice ob n cb] w fun e w' => DaE w e w') := drawL_any SP ob n cb f w hn hnc fb ce
  have CDN : Hid (∀ u, Below w.heap.size w u → Calls Tryz.prog 11 #[.slice oc m cc] u fun e w' => DaE u e w') := fun u hu => drawN_any SP oc m cc g u hm hmc gb (fun i hi => by
    obtain ⟨b, off, h1, h2, h3⟩ := cg i hi
    exact ⟨b, off, h1, Nat.lt_of_lt_of_le h2 hu.size, (hu.cell (p := ⟨b, off + i, none⟩) h2).trans h3⟩)
  have HLD : Hid (∀ u, Below w.heap.size w u → Laid0 u) := fun u hu => hl.below hu
  clear fb ce hn hnc SP hm hmc gb cg hl
  go_enter Tryz.func3, Tryz.ntmps3
  go_wp2_with fail
  refine Calls.mono (CDR.out) ?_
  rintro e Vb ⟨p0b, m0b, j0b, p1b, m1b, j1b, Db, xb, ovb, nvb, kvb, Ob, rfl, hsz, hx, ho, hat, hb1⟩
  obtain ⟨Ub, hU⟩ : ∃ U, U = Vb.alloc (.cells #[.slice p0b m0b j0b, .slice p1b m1b j1b] 26) := ⟨_, rfl⟩
  have EU : Hid (Ub = Vb.alloc (.cells #[.slice p0b m0b j0b, .slice p1b m1b j1b] 26)) := hU
  obtain ⟨gb, hgb⟩ : ∃ g, g = Vb.heap.size := ⟨_, rfl⟩
  have EGB : Hid (gb = Vb.heap.size) := hgb
  have bU : Below Vb.heap.size Vb Ub := by rw [hU]; exact (Below.refl _ _).alloc (Nat.le_refl _) _
  have BKU : Ub.heap[gb]? = some (.cells #[.slice p0b m0b j0b, .slice p1b m1b j1b] 26 (0, 0)) := by rw [hgb, hU]; exact heap_alloc_new Vb _
  have BOXb : Hid (∀ u, Below Ub.heap.size Ub u → u.heap[gb]? = some (.cells #[.slice p0b m0b j0b, .slice p1b m1b j1b] 26 (0, 0))) := fun u hu => (hu.block gb (Array.getElem?_eq_some_iff.1 BKU).1).trans BKU
  have T0b : Hid (∀ u, Below Ub.heap.size Ub u → AtL (fun b => b < Ub.heap.size) u Db.1 (.slice p0b m0b j0b)) := fun u hu => ((hat.out.1.same (fun b hb => bU.block b hb.2)).up (fun b hb => Nat.lt_of_lt_of_le hb.2 bU.size)).same (fun b hb => hu.block b hb)
  have T1b : Hid (∀ u, Below Ub.heap.size Ub u → AtL (fun b => b < Ub.heap.size) u Db.2 (.slice p1b m1b j1b)) := fun u hu => ((hat.out.2.1.same (fun b hb => bU.block b hb.2)).up (fun b hb => Nat.lt_of_lt_of_le hb.2 bU.size)).same (fun b hb => hu.block b hb)
  have T2b : Hid (∀ u, Below Ub.heap.size Ub u → AtL (fun b => b < Ub.heap.size) u Ob (.slice ovb nvb kvb)) := fun u hu => ((hat.out.2.2.same (fun b hb => bU.block b hb.2)).up (fun b hb => Nat.lt_of_lt_of_le hb.2 bU.size)).same (fun b hb => hu.block b hb)
  have BLUb : Hid (Below w.heap.size w Ub) := ((Below.refl w.heap.size w).trans (hb1.out.mono (Below.refl w.heap.size w).size)).trans (bU.mono (Nat.le_trans (Below.refl w.heap.size w).size hb1.out.size))
  have SMb : Hid (SmD (Db.1, Db.2)) := (hsz.mono (show 17 ≤ 64 by omega)).sm
  have TOb : Hid (totL Ob ≤ 1048576) := szl_tot ho
  have XSb : Hid (xb.size ≤ 64) := hx
  have MLb : Hid (m1b ≤ 17 ∧ Db.2.length = m1b) := by
    obtain ⟨_, _, e, _⟩ := id hat.out.2.1
    cases e
    exact ⟨hsz.2.1, rfl⟩
  clear hU hgb bU hat hb1 hsz hx ho BKU
  go_upto_region 4 with fail
  rw [← EU.out, ← EGB.out]
  clear EU EGB
  have c0 := (cell_row (BOXb.out Ub (Below.refl _ _)) 0 _ rfl).1
  have c1 := (cell_row (BOXb.out Ub (Below.refl _ _)) 1 _ rfl).1
  have CA : Hid (Calls Tryz.prog 5 #[.agg #[.slice p0b m0b j0b, .slice p1b m1b j1b], .string xb, .slice ovb nvb kvb] Ub (AnsW Ub (lesS (Db.1, Db.2) xb Ob).1 (lesS (Db.1, Db.2) xb Ob).2)) := lesP_any (fun b => b < Ub.heap.size) Db.1 Db.2 Ob _ _ _ _ _ _ _ _ _ xb Ub (T0b.out Ub (Below.refl _ _)) (T1b.out Ub (Below.refl _ _)) (T2b.out Ub (Below.refl _ _)) (fun b hb => hb) SMb.out.tot TOb.out (by have := XSb.out; omega) (HLD.out Ub BLUb.out)
  go_wp2_with fail
  refine Calls.mono CA.out ?_
  rintro e Vx ⟨r0, r1, L, rfl, hp, hmap, hb⟩
  have hon : Own.On (fun b => Ub.heap.size ≤ b ∧ b < Vx.heap.size) Vx (lesS (Db.1, Db.2) xb Ob).1 (cs [r0, r1]) := by have := hp.on; rw [hmap] at this; exact this
  have a0 := (at_DShareBook.1 (Own.on_at hon)).1
  have a1 := (at_DShareBook.1 (Own.on_at hon)).2
  have a0 : AtL (fun b => Ub.heap.size ≤ b ∧ b < Vx.heap.size) Vx (lesS (Db.1, Db.2) xb Ob).1.1 r0 := a0
  have a1 : AtL (fun b => Ub.heap.size ≤ b ∧ b < Vx.heap.size) Vx (lesS (Db.1, Db.2) xb Ob).1.2 r1 := a1
  clear hp hmap hon
  obtain ⟨p0x, j0x, e0, -⟩ := id a0
  obtain ⟨p1x, j1x, e1, -⟩ := id a1
  obtain ⟨m0x, em0⟩ : ∃ n, (lesS (Db.1, Db.2) xb Ob).1.1.length = n := ⟨_, rfl⟩
  obtain ⟨m1x, em1⟩ : ∃ n, (lesS (Db.1, Db.2) xb Ob).1.2.length = n := ⟨_, rfl⟩
  rw [em0] at e0
  rw [em1] at e1
  subst e0
  subst e1
  have Lx : Hid ((lesS (Db.1, Db.2) xb Ob).1.2.length = m1x) := em1
  obtain ⟨Ux, hU⟩ : ∃ U, U = Vx.alloc (.cells #[.slice p0x m0x j0x, .slice p1x m1x j1x] 26) := ⟨_, rfl⟩
  have EU : Hid (Ux = Vx.alloc (.cells #[.slice p0x m0x j0x, .slice p1x m1x j1x] 26)) := hU
  obtain ⟨gx, hgb⟩ : ∃ g, g = Vx.heap.size := ⟨_, rfl⟩
  have EGB : Hid (gx = Vx.heap.size) := hgb
  have bU : Below Vx.heap.size Vx Ux := by rw [hU]; exact (Below.refl _ _).alloc (Nat.le_refl _) _
  have BKU : Ux.heap[gx]? = some (.cells #[.slice p0x m0x j0x, .slice p1x m1x j1x] 26 (0, 0)) := by rw [hgb, hU]; exact heap_alloc_new Vx _
  have BOXx : Hid (∀ u, Below Ux.heap.size Ux u → u.heap[gx]? = some (.cells #[.slice p0x m0x j0x, .slice p1x m1x j1x] 26 (0, 0))) := fun u hu => (hu.block gx (Array.getElem?_eq_some_iff.1 BKU).1).trans BKU
  have T0x : Hid (∀ u, Below Ux.heap.size Ux u → AtL (fun b => b < Ux.heap.size) u (lesS (Db.1, Db.2) xb Ob).1.1 (.slice p0x m0x j0x)) := fun u hu => ((a0.same (fun b hb' => bU.block b hb'.2)).up (fun b hb' => Nat.lt_of_lt_of_le hb'.2 bU.size)).same (fun b hb' => hu.block b hb')
  have T1x : Hid (∀ u, Below Ux.heap.size Ux u → AtL (fun b => b < Ux.heap.size) u (lesS (Db.1, Db.2) xb Ob).1.2 (.slice p1x m1x j1x)) := fun u hu => ((a1.same (fun b hb' => bU.block b hb'.2)).up (fun b hb' => Nat.lt_of_lt_of_le hb'.2 bU.size)).same (fun b hb' => hu.block b hb')
  have Bx : Hid (Below Ub.heap.size Ub Ux) := hb.trans (bU.mono hb.size)
  clear hU hgb bU BKU a0 a1 em0 em1 hb CA
  go_upto_region 5 with fail
  rw [← EU.out, ← EGB.out]
  clear EU EGB
  clear c0 c1
  have c0 := (cell_row (BOXb.out Ux Bx.out) 0 _ rfl).1
  have c1 := (cell_row (BOXb.out Ux Bx.out) 1 _ rfl).1
  have CA : Hid (Calls Tryz.prog 6 #[.agg #[.slice p0b m0b j0b, .slice p1b m1b j1b], .string xb, .slice ovb nvb kvb] Ux fun e w' => ∃ r0 r1, e = .returned (.tuple #[.agg #[r0, r1], .int .i64 (lesS (Db.1, Db.2) xb Ob).2]) ∧ AtL (fun b => Ux.heap.size ≤ b ∧ b < w'.heap.size) w' (lesS (Db.1, Db.2) xb Ob).1.1 r0 ∧ AtL (fun b => Ux.heap.size ≤ b ∧ b < w'.heap.size) w' (lesS (Db.1, Db.2) xb Ob).1.2 r1 ∧ Below Ux.heap.size Ux w') := lesZ_any (fun b => b < Ub.heap.size) Db.1 Db.2 _ _ _ _ _ _ xb (fun b => b < Ub.heap.size) Ob _ _ _ Ux (T0b.out Ux Bx.out) (T1b.out Ux Bx.out) (fun b hb => Nat.lt_of_lt_of_le hb Bx.out.size) (T2b.out Ux Bx.out) (fun b hb => Nat.lt_of_lt_of_le hb Bx.out.size)
  go_wp2_with fail
  refine Calls.mono CA.out ?_
  rintro e Vz ⟨r0, r1, rfl, a0, a1, hb⟩
  obtain ⟨p0z, j0z, e0, -⟩ := id a0
  obtain ⟨p1z, j1z, e1, -⟩ := id a1
  obtain ⟨m0z, em0⟩ : ∃ n, (lesS (Db.1, Db.2) xb Ob).1.1.length = n := ⟨_, rfl⟩
  obtain ⟨m1z, em1⟩ : ∃ n, (lesS (Db.1, Db.2) xb Ob).1.2.length = n := ⟨_, rfl⟩
  rw [em0] at e0
  rw [em1] at e1
  subst e0
  subst e1
  have Lz : Hid ((lesS (Db.1, Db.2) xb Ob).1.2.length = m1z) := em1
  obtain ⟨Uz, hU⟩ : ∃ U, U = Vz.alloc (.cells #[.slice p0z m0z j0z, .slice p1z m1z j1z] 26) := ⟨_, rfl⟩
  have EU : Hid (Uz = Vz.alloc (.cells #[.slice p0z m0z j0z, .slice p1z m1z j1z] 26)) := hU
  obtain ⟨gz, hgb⟩ : ∃ g, g = Vz.heap.size := ⟨_, rfl⟩
  have EGB : Hid (gz = Vz.heap.size) := hgb
  have bU : Below Vz.heap.size Vz Uz := by rw [hU]; exact (Below.refl _ _).alloc (Nat.le_refl _) _
  have BKU : Uz.heap[gz]? = some (.cells #[.slice p0z m0z j0z, .slice p1z m1z j1z] 26 (0, 0)) := by rw [hgb, hU]; exact heap_alloc_new Vz _
  have BOXz : Hid (∀ u, Below Uz.heap.size Uz u → u.heap[gz]? = some (.cells #[.slice p0z m0z j0z, .slice p1z m1z j1z] 26 (0, 0))) := fun u hu => (hu.block gz (Array.getElem?_eq_some_iff.1 BKU).1).trans BKU
  have T0z : Hid (∀ u, Below Uz.heap.size Uz u → AtL (fun b => b < Uz.heap.size) u (lesS (Db.1, Db.2) xb Ob).1.1 (.slice p0z m0z j0z)) := fun u hu => ((a0.same (fun b hb' => bU.block b hb'.2)).up (fun b hb' => Nat.lt_of_lt_of_le hb'.2 bU.size)).same (fun b hb' => hu.block b hb')
  have T1z : Hid (∀ u, Below Uz.heap.size Uz u → AtL (fun b => b < Uz.heap.size) u (lesS (Db.1, Db.2) xb Ob).1.2 (.slice p1z m1z j1z)) := fun u hu => ((a1.same (fun b hb' => bU.block b hb'.2)).up (fun b hb' => Nat.lt_of_lt_of_le hb'.2 bU.size)).same (fun b hb' => hu.block b hb')
  have Bz : Hid (Below Ux.heap.size Ux Uz) := hb.trans (bU.mono hb.size)
  clear hU hgb bU BKU a0 a1 em0 em1 hb CA
  go_upto_region 6 with fail
  rw [← EU.out, ← EGB.out]
  clear EU EGB
  clear c0 c1
  have Bbz : Hid (∀ u, Below Uz.heap.size Uz u → Below Ub.heap.size Ub u) := fun u hu => (Bx.out.trans (Bz.out.mono Bx.out.size)).trans (hu.mono (Nat.le_trans Bx.out.size Bz.out.size))
  have Bxz : Hid (∀ u, Below Uz.heap.size Uz u → Below Ux.heap.size Ux u) := fun u hu => Bz.out.trans (hu.mono Bz.out.size)
  have CW : Hid (∀ u, Below Uz.heap.size Uz u → Calls Tryz.prog 7 #[.agg #[.slice p0x m0x j0x, .slice p1x m1x j1x], .agg #[.slice p0z m0z j0z, .slice p1z m1z j1z]] u fun e w' => e = .returned (.bool true) ∧ Below u.heap.size u w') := fun u hu => whBook_any _ _ (lesS (Db.1, Db.2) xb Ob).1.1 (lesS (Db.1, Db.2) xb Ob).1.2 _ _ _ _ u (T0x.out u (Bxz.out u hu)) (T1x.out u (Bxz.out u hu)) (T0z.out u hu) (T1z.out u hu) (fun b hb => Nat.lt_of_lt_of_le hb (Bxz.out u hu).size) (fun b hb => Nat.lt_of_lt_of_le hb hu.size)
  have CX : Hid ((lesS (Db.1, Db.2) xb Ob).1 = (Db.1, Db.2) → ∀ u, Below Uz.heap.size Uz u → Calls Tryz.prog 7 #[.agg #[.slice p0x m0x j0x, .slice p1x m1x j1x], .agg #[.slice p0b m0b j0b, .slice p1b m1b j1b]] u fun e w' => e = .returned (.bool true) ∧ Below u.heap.size u w') := fun he u hu => by
    have h0 := T0x.out u (Bxz.out u hu)
    have h1 := T1x.out u (Bxz.out u hu)
    rw [he] at h0 h1
    exact whBook_any _ _ Db.1 Db.2 _ _ _ _ u h0 h1 (T0b.out u (Bbz.out u hu)) (T1b.out u (Bbz.out u hu)) (fun b hb => Nat.lt_of_lt_of_le hb (Bxz.out u hu).size) (fun b hb => Nat.lt_of_lt_of_le hb (Bbz.out u hu).size)
  obtain ⟨sb, hsb⟩ : ∃ b, (ordS (Db.1, Db.2)).2 = b := ⟨_, rfl⟩
  have ESB : Hid ((ordS (Db.1, Db.2)).2 = sb) := hsb
  have CS : Hid (∀ u, Below Ub.heap.size Ub u → Calls Tryz.prog 8 #[.agg #[.slice p0b m0b j0b, .slice p1b m1b j1b]] u fun e w' => e = .returned (.bool sb) ∧ Below u.heap.size u w') := fun u hu => by
    have h := safeP_any (fun b => b < Ub.heap.size) Db.1 Db.2 _ _ _ _ _ _ u (T0b.out u hu) (T1b.out u hu) (fun b hb => Nat.lt_of_lt_of_le hb hu.size) SMb.out.tot
    rw [ESB.out] at h
    exact h
  have CY : Hid (BokP (lesS (Db.1, Db.2) xb Ob).1 → (ordS (lesS (Db.1, Db.2) xb Ob).1).2 = true → ∀ u, Below Uz.heap.size Uz u → Calls Tryz.prog 8 #[.agg #[.slice p0x m0x j0x, .slice p1x m1x j1x]] u fun e w' => e = .returned (.bool true) ∧ Below u.heap.size u w') := fun hb9 ht u hu => by
    have h := safeP_any (fun b => b < Ux.heap.size) (lesS (Db.1, Db.2) xb Ob).1.1 (lesS (Db.1, Db.2) xb Ob).1.2 _ _ _ _ _ _ u (T0x.out u (Bxz.out u hu)) (T1x.out u (Bxz.out u hu)) (fun b hb => Nat.lt_of_lt_of_le hb (Bxz.out u hu).size) (bok_small hb9).1.tot
    rw [show (ordS ((lesS (Db.1, Db.2) xb Ob).1.1, (lesS (Db.1, Db.2) xb Ob).1.2)).2 = true from ht] at h
    exact h
  have HCC : Hid _ := les_cases (Db.1, Db.2) xb Ob
  obtain ⟨cd, hcd⟩ : ∃ c, (lesS (Db.1, Db.2) xb Ob).2 = c := ⟨_, rfl⟩
  rw [hcd] at HCC
  rw [hcd]
  clear hcd hsb
  have BZ0 : Hid (Below Uz.heap.size Uz Uz) := Below.refl _ _
  go_cut [82] from 23 (fun v wr => v = .bool false ∧ Hid (Below Uz.heap.size Uz wr))
  case first =>
    rcases HCC.out with ⟨rfl, hok, hss⟩ | rfl | ⟨rfl | rfl, he⟩
    · cases sb with
      | false =>
        have BWUz : Hid (Below Uz.heap.size Uz Uz) := Below.refl _ _
        have cb0 := (cell_row (BOXb.out _ (Bbz.out _ BWUz.out)) 0 _ rfl).1
        have cb1 := (cell_row (BOXb.out _ (Bbz.out _ BWUz.out)) 1 _ rfl).1
        have cx0 := (cell_row (BOXx.out _ (Bxz.out _ BWUz.out)) 0 _ rfl).1
        have cx1 := (cell_row (BOXx.out _ (Bxz.out _ BWUz.out)) 1 _ rfl).1
        have cz0 := (cell_row (BOXz.out _ BWUz.out) 0 _ rfl).1
        have cz1 := (cell_row (BOXz.out _ BWUz.out) 1 _ rfl).1
        go_wp2_with fail
        refine (CW.out Uz BWUz.out).mono ?_
        rintro e y1 ⟨rfl, hb⟩
        have BWy1 : Hid (Below Uz.heap.size Uz y1) := BWUz.out.trans (hb.mono BWUz.out.size)
        clear hb cb0 cb1 cx0 cx1 cz0 cz1
        have cb0 := (cell_row (BOXb.out _ (Bbz.out _ BWy1.out)) 0 _ rfl).1
        have cb1 := (cell_row (BOXb.out _ (Bbz.out _ BWy1.out)) 1 _ rfl).1
        have cx0 := (cell_row (BOXx.out _ (Bxz.out _ BWy1.out)) 0 _ rfl).1
        have cx1 := (cell_row (BOXx.out _ (Bxz.out _ BWy1.out)) 1 _ rfl).1
        have cz0 := (cell_row (BOXz.out _ BWy1.out) 0 _ rfl).1
        have cz1 := (cell_row (BOXz.out _ BWy1.out) 1 _ rfl).1
        go_wp2_with fail
        refine (CS.out y1 (Bbz.out _ BWy1.out)).mono ?_
        rintro e y2 ⟨rfl, hb⟩
        have BWy2 : Hid (Below Uz.heap.size Uz y2) := BWy1.out.trans (hb.mono BWy1.out.size)
        clear hb cb0 cb1 cx0 cx1 cz0 cz1
        have cb0 := (cell_row (BOXb.out _ (Bbz.out _ BWy2.out)) 0 _ rfl).1
        have cb1 := (cell_row (BOXb.out _ (Bbz.out _ BWy2.out)) 1 _ rfl).1
        have cx0 := (cell_row (BOXx.out _ (Bxz.out _ BWy2.out)) 0 _ rfl).1
        have cx1 := (cell_row (BOXx.out _ (Bxz.out _ BWy2.out)) 1 _ rfl).1
        have cz0 := (cell_row (BOXz.out _ BWy2.out) 0 _ rfl).1
        have cz1 := (cell_row (BOXz.out _ BWy2.out) 1 _ rfl).1
        go_wp2_with fail
        go_meet
        case rel => exact ⟨rfl, BWy2.out⟩
      | true =>
        have CYY := CY.out hok (hss ESB.out)
        have HYY : Hid _ := CYY
        clear CYY
        have BWUz : Hid (Below Uz.heap.size Uz Uz) := Below.refl _ _
        have cb0 := (cell_row (BOXb.out _ (Bbz.out _ BWUz.out)) 0 _ rfl).1
        have cb1 := (cell_row (BOXb.out _ (Bbz.out _ BWUz.out)) 1 _ rfl).1
        have cx0 := (cell_row (BOXx.out _ (Bxz.out _ BWUz.out)) 0 _ rfl).1
        have cx1 := (cell_row (BOXx.out _ (Bxz.out _ BWUz.out)) 1 _ rfl).1
        have cz0 := (cell_row (BOXz.out _ BWUz.out) 0 _ rfl).1
        have cz1 := (cell_row (BOXz.out _ BWUz.out) 1 _ rfl).1
        go_wp2_with fail
        refine (CW.out Uz BWUz.out).mono ?_
        rintro e y1 ⟨rfl, hb⟩
        have BWy1 : Hid (Below Uz.heap.size Uz y1) := BWUz.out.trans (hb.mono BWUz.out.size)
        clear hb cb0 cb1 cx0 cx1 cz0 cz1
        have cb0 := (cell_row (BOXb.out _ (Bbz.out _ BWy1.out)) 0 _ rfl).1
        have cb1 := (cell_row (BOXb.out _ (Bbz.out _ BWy1.out)) 1 _ rfl).1
        have cx0 := (cell_row (BOXx.out _ (Bxz.out _ BWy1.out)) 0 _ rfl).1
        have cx1 := (cell_row (BOXx.out _ (Bxz.out _ BWy1.out)) 1 _ rfl).1
        have cz0 := (cell_row (BOXz.out _ BWy1.out) 0 _ rfl).1
        have cz1 := (cell_row (BOXz.out _ BWy1.out) 1 _ rfl).1
        go_wp2_with fail
        refine (CS.out y1 (Bbz.out _ BWy1.out)).mono ?_
        rintro e y2 ⟨rfl, hb⟩
        have BWy2 : Hid (Below Uz.heap.size Uz y2) := BWy1.out.trans (hb.mono BWy1.out.size)
        clear hb cb0 cb1 cx0 cx1 cz0 cz1
        have cb0 := (cell_row (BOXb.out _ (Bbz.out _ BWy2.out)) 0 _ rfl).1
        have cb1 := (cell_row (BOXb.out _ (Bbz.out _ BWy2.out)) 1 _ rfl).1
        have cx0 := (cell_row (BOXx.out _ (Bxz.out _ BWy2.out)) 0 _ rfl).1
        have cx1 := (cell_row (BOXx.out _ (Bxz.out _ BWy2.out)) 1 _ rfl).1
        have cz0 := (cell_row (BOXz.out _ BWy2.out) 0 _ rfl).1
        have cz1 := (cell_row (BOXz.out _ BWy2.out) 1 _ rfl).1
        go_wp2_with fail
        refine (HYY.out y2 BWy2.out).mono ?_
        rintro e y3 ⟨rfl, hb⟩
        have BWy3 : Hid (Below Uz.heap.size Uz y3) := BWy2.out.trans (hb.mono BWy2.out.size)
        clear hb cb0 cb1 cx0 cx1 cz0 cz1
        have cb0 := (cell_row (BOXb.out _ (Bbz.out _ BWy3.out)) 0 _ rfl).1
        have cb1 := (cell_row (BOXb.out _ (Bbz.out _ BWy3.out)) 1 _ rfl).1
        have cx0 := (cell_row (BOXx.out _ (Bxz.out _ BWy3.out)) 0 _ rfl).1
        have cx1 := (cell_row (BOXx.out _ (Bxz.out _ BWy3.out)) 1 _ rfl).1
        have cz0 := (cell_row (BOXz.out _ BWy3.out) 0 _ rfl).1
        have cz1 := (cell_row (BOXz.out _ BWy3.out) 1 _ rfl).1
        go_wp2_with fail
        go_meet
        case rel => exact ⟨rfl, BWy3.out⟩
    · skip
      have BWUz : Hid (Below Uz.heap.size Uz Uz) := Below.refl _ _
      have cb0 := (cell_row (BOXb.out _ (Bbz.out _ BWUz.out)) 0 _ rfl).1
      have cb1 := (cell_row (BOXb.out _ (Bbz.out _ BWUz.out)) 1 _ rfl).1
      have cx0 := (cell_row (BOXx.out _ (Bxz.out _ BWUz.out)) 0 _ rfl).1
      have cx1 := (cell_row (BOXx.out _ (Bxz.out _ BWUz.out)) 1 _ rfl).1
      have cz0 := (cell_row (BOXz.out _ BWUz.out) 0 _ rfl).1
      have cz1 := (cell_row (BOXz.out _ BWUz.out) 1 _ rfl).1
      go_wp2_with fail
      refine (CW.out Uz BWUz.out).mono ?_
      rintro e y1 ⟨rfl, hb⟩
      have BWy1 : Hid (Below Uz.heap.size Uz y1) := BWUz.out.trans (hb.mono BWUz.out.size)
      clear hb cb0 cb1 cx0 cx1 cz0 cz1
      have cb0 := (cell_row (BOXb.out _ (Bbz.out _ BWy1.out)) 0 _ rfl).1
      have cb1 := (cell_row (BOXb.out _ (Bbz.out _ BWy1.out)) 1 _ rfl).1
      have cx0 := (cell_row (BOXx.out _ (Bxz.out _ BWy1.out)) 0 _ rfl).1
      have cx1 := (cell_row (BOXx.out _ (Bxz.out _ BWy1.out)) 1 _ rfl).1
      have cz0 := (cell_row (BOXz.out _ BWy1.out) 0 _ rfl).1
      have cz1 := (cell_row (BOXz.out _ BWy1.out) 1 _ rfl).1
      go_wp2_with fail
      go_meet
      case rel => exact ⟨rfl, BWy1.out⟩
    · have HXX : Hid _ := CX.out he
      have BWUz : Hid (Below Uz.heap.size Uz Uz) := Below.refl _ _
      have cb0 := (cell_row (BOXb.out _ (Bbz.out _ BWUz.out)) 0 _ rfl).1
      have cb1 := (cell_row (BOXb.out _ (Bbz.out _ BWUz.out)) 1 _ rfl).1
      have cx0 := (cell_row (BOXx.out _ (Bxz.out _ BWUz.out)) 0 _ rfl).1
      have cx1 := (cell_row (BOXx.out _ (Bxz.out _ BWUz.out)) 1 _ rfl).1
      have cz0 := (cell_row (BOXz.out _ BWUz.out) 0 _ rfl).1
      have cz1 := (cell_row (BOXz.out _ BWUz.out) 1 _ rfl).1
      go_wp2_with fail
      refine (CW.out Uz BWUz.out).mono ?_
      rintro e y1 ⟨rfl, hb⟩
      have BWy1 : Hid (Below Uz.heap.size Uz y1) := BWUz.out.trans (hb.mono BWUz.out.size)
      clear hb cb0 cb1 cx0 cx1 cz0 cz1
      have cb0 := (cell_row (BOXb.out _ (Bbz.out _ BWy1.out)) 0 _ rfl).1
      have cb1 := (cell_row (BOXb.out _ (Bbz.out _ BWy1.out)) 1 _ rfl).1
      have cx0 := (cell_row (BOXx.out _ (Bxz.out _ BWy1.out)) 0 _ rfl).1
      have cx1 := (cell_row (BOXx.out _ (Bxz.out _ BWy1.out)) 1 _ rfl).1
      have cz0 := (cell_row (BOXz.out _ BWy1.out) 0 _ rfl).1
      have cz1 := (cell_row (BOXz.out _ BWy1.out) 1 _ rfl).1
      go_wp2_with fail
      refine (HXX.out y1 BWy1.out).mono ?_
      rintro e y2 ⟨rfl, hb⟩
      have BWy2 : Hid (Below Uz.heap.size Uz y2) := BWy1.out.trans (hb.mono BWy1.out.size)
      clear hb cb0 cb1 cx0 cx1 cz0 cz1
      have cb0 := (cell_row (BOXb.out _ (Bbz.out _ BWy2.out)) 0 _ rfl).1
      have cb1 := (cell_row (BOXb.out _ (Bbz.out _ BWy2.out)) 1 _ rfl).1
      have cx0 := (cell_row (BOXx.out _ (Bxz.out _ BWy2.out)) 0 _ rfl).1
      have cx1 := (cell_row (BOXx.out _ (Bxz.out _ BWy2.out)) 1 _ rfl).1
      have cz0 := (cell_row (BOXz.out _ BWy2.out) 0 _ rfl).1
      have cz1 := (cell_row (BOXz.out _ BWy2.out) 1 _ rfl).1
      go_wp2_with fail
      go_meet
      case rel => exact ⟨rfl, BWy2.out⟩
    · have HXX : Hid _ := CX.out he
      have BWUz : Hid (Below Uz.heap.size Uz Uz) := Below.refl _ _
      have cb0 := (cell_row (BOXb.out _ (Bbz.out _ BWUz.out)) 0 _ rfl).1
      have cb1 := (cell_row (BOXb.out _ (Bbz.out _ BWUz.out)) 1 _ rfl).1
      have cx0 := (cell_row (BOXx.out _ (Bxz.out _ BWUz.out)) 0 _ rfl).1
      have cx1 := (cell_row (BOXx.out _ (Bxz.out _ BWUz.out)) 1 _ rfl).1
      have cz0 := (cell_row (BOXz.out _ BWUz.out) 0 _ rfl).1
      have cz1 := (cell_row (BOXz.out _ BWUz.out) 1 _ rfl).1
      go_wp2_with fail
      refine (CW.out Uz BWUz.out).mono ?_
      rintro e y1 ⟨rfl, hb⟩
      have BWy1 : Hid (Below Uz.heap.size Uz y1) := BWUz.out.trans (hb.mono BWUz.out.size)
      clear hb cb0 cb1 cx0 cx1 cz0 cz1
      have cb0 := (cell_row (BOXb.out _ (Bbz.out _ BWy1.out)) 0 _ rfl).1
      have cb1 := (cell_row (BOXb.out _ (Bbz.out _ BWy1.out)) 1 _ rfl).1
      have cx0 := (cell_row (BOXx.out _ (Bxz.out _ BWy1.out)) 0 _ rfl).1
      have cx1 := (cell_row (BOXx.out _ (Bxz.out _ BWy1.out)) 1 _ rfl).1
      have cz0 := (cell_row (BOXz.out _ BWy1.out) 0 _ rfl).1
      have cz1 := (cell_row (BOXz.out _ BWy1.out) 1 _ rfl).1
      go_wp2_with fail
      refine (HXX.out y1 BWy1.out).mono ?_
      rintro e y2 ⟨rfl, hb⟩
      have BWy2 : Hid (Below Uz.heap.size Uz y2) := BWy1.out.trans (hb.mono BWy1.out.size)
      clear hb cb0 cb1 cx0 cx1 cz0 cz1
      have cb0 := (cell_row (BOXb.out _ (Bbz.out _ BWy2.out)) 0 _ rfl).1
      have cb1 := (cell_row (BOXb.out _ (Bbz.out _ BWy2.out)) 1 _ rfl).1
      have cx0 := (cell_row (BOXx.out _ (Bxz.out _ BWy2.out)) 0 _ rfl).1
      have cx1 := (cell_row (BOXx.out _ (Bxz.out _ BWy2.out)) 1 _ rfl).1
      have cz0 := (cell_row (BOXz.out _ BWy2.out) 0 _ rfl).1
      have cz1 := (cell_row (BOXz.out _ BWy2.out) 1 _ rfl).1
      go_wp2_with fail
      go_meet
      case rel => exact ⟨rfl, BWy2.out⟩
  case rest =>
    obtain ⟨rfl, BWC⟩ := hcut
    obtain ⟨U1, hU1⟩ : ∃ u, u = wc := ⟨_, rfl⟩
    rw [← hU1] at BWC ⊢
    clear hU1 HCC CW CX CY T0x T1x T0z T1z BOXx BOXz
    have Bb1 : Hid (Below Ub.heap.size Ub U1) := Bbz.out U1 BWC.out
    clear BWC Bbz Bxz Bx Bz BZ0 Lx Lz
    have c0 := (cell_row (BOXb.out U1 Bb1.out) 0 _ rfl).1
    have c1 := (cell_row (BOXb.out U1 Bb1.out) 1 _ rfl).1
    have CA : Hid (Calls Tryz.prog 9 #[.agg #[.slice p0b m0b j0b, .slice p1b m1b j1b], .string xb] U1 (AnsW U1 (levS (Db.1, Db.2) xb).1 (levS (Db.1, Db.2) xb).2)) := levP_any (fun b => b < Ub.heap.size) Db.1 Db.2 _ _ _ _ _ _ xb U1 (T0b.out U1 Bb1.out) (T1b.out U1 Bb1.out) (fun b hb => Nat.lt_of_lt_of_le hb Bb1.out.size) (HLD.out U1 (BLUb.out.trans (Bb1.out.mono BLUb.out.size)))
    go_wp2_with fail
    refine Calls.mono CA.out ?_
    rintro e Vy ⟨r0, r1, L, rfl, hp, hmap, hb⟩
    have hon : Own.On (fun b => U1.heap.size ≤ b ∧ b < Vy.heap.size) Vy (levS (Db.1, Db.2) xb).1 (cs [r0, r1]) := by have := hp.on; rw [hmap] at this; exact this
    have a0 := (at_DShareBook.1 (Own.on_at hon)).1
    have a1 := (at_DShareBook.1 (Own.on_at hon)).2
    have a0 : AtL (fun b => U1.heap.size ≤ b ∧ b < Vy.heap.size) Vy (levS (Db.1, Db.2) xb).1.1 r0 := a0
    have a1 : AtL (fun b => U1.heap.size ≤ b ∧ b < Vy.heap.size) Vy (levS (Db.1, Db.2) xb).1.2 r1 := a1
    clear hp hmap hon
    obtain ⟨p0y, j0y, e0, -⟩ := id a0
    obtain ⟨p1y, j1y, e1, -⟩ := id a1
    obtain ⟨m0y, em0⟩ : ∃ n, (levS (Db.1, Db.2) xb).1.1.length = n := ⟨_, rfl⟩
    obtain ⟨m1y, em1⟩ : ∃ n, (levS (Db.1, Db.2) xb).1.2.length = n := ⟨_, rfl⟩
    rw [em0] at e0
    rw [em1] at e1
    subst e0
    subst e1
    have Ly : Hid ((levS (Db.1, Db.2) xb).1.2.length = m1y) := em1
    obtain ⟨Uy, hU⟩ : ∃ U, U = Vy.alloc (.cells #[.slice p0y m0y j0y, .slice p1y m1y j1y] 26) := ⟨_, rfl⟩
    have EU : Hid (Uy = Vy.alloc (.cells #[.slice p0y m0y j0y, .slice p1y m1y j1y] 26)) := hU
    obtain ⟨gy, hgb⟩ : ∃ g, g = Vy.heap.size := ⟨_, rfl⟩
    have EGB : Hid (gy = Vy.heap.size) := hgb
    have bU : Below Vy.heap.size Vy Uy := by rw [hU]; exact (Below.refl _ _).alloc (Nat.le_refl _) _
    have BKU : Uy.heap[gy]? = some (.cells #[.slice p0y m0y j0y, .slice p1y m1y j1y] 26 (0, 0)) := by rw [hgb, hU]; exact heap_alloc_new Vy _
    have BOXy : Hid (∀ u, Below Uy.heap.size Uy u → u.heap[gy]? = some (.cells #[.slice p0y m0y j0y, .slice p1y m1y j1y] 26 (0, 0))) := fun u hu => (hu.block gy (Array.getElem?_eq_some_iff.1 BKU).1).trans BKU
    have T0y : Hid (∀ u, Below Uy.heap.size Uy u → AtL (fun b => b < Uy.heap.size) u (levS (Db.1, Db.2) xb).1.1 (.slice p0y m0y j0y)) := fun u hu => ((a0.same (fun b hb' => bU.block b hb'.2)).up (fun b hb' => Nat.lt_of_lt_of_le hb'.2 bU.size)).same (fun b hb' => hu.block b hb')
    have T1y : Hid (∀ u, Below Uy.heap.size Uy u → AtL (fun b => b < Uy.heap.size) u (levS (Db.1, Db.2) xb).1.2 (.slice p1y m1y j1y)) := fun u hu => ((a1.same (fun b hb' => bU.block b hb'.2)).up (fun b hb' => Nat.lt_of_lt_of_le hb'.2 bU.size)).same (fun b hb' => hu.block b hb')
    have By : Hid (Below U1.heap.size U1 Uy) := hb.trans (bU.mono hb.size)
    clear hU hgb bU BKU a0 a1 em0 em1 hb CA
    go_upto_region 9 with fail
    rw [← EU.out, ← EGB.out]
    clear EU EGB
    have Bby : Hid (Below Ub.heap.size Ub Uy) := Bb1.out.trans (By.out.mono Bb1.out.size)
    clear c0 c1
    have c0 := (cell_row (BOXb.out Uy Bby.out) 0 _ rfl).1
    have c1 := (cell_row (BOXb.out Uy Bby.out) 1 _ rfl).1
    have CA : Hid (Calls Tryz.prog 10 #[.agg #[.slice p0b m0b j0b, .slice p1b m1b j1b], .string xb] Uy fun e w' => ∃ r0 r1, e = .returned (.tuple #[.agg #[r0, r1], .int .i64 (levS (Db.1, Db.2) xb).2]) ∧ AtL (fun b => Uy.heap.size ≤ b ∧ b < w'.heap.size) w' (levS (Db.1, Db.2) xb).1.1 r0 ∧ AtL (fun b => Uy.heap.size ≤ b ∧ b < w'.heap.size) w' (levS (Db.1, Db.2) xb).1.2 r1 ∧ Below Uy.heap.size Uy w') := levZ_any (fun b => b < Ub.heap.size) Db.1 Db.2 _ _ _ _ _ _ xb Uy (T0b.out Uy Bby.out) (T1b.out Uy Bby.out) (fun b hb => Nat.lt_of_lt_of_le hb Bby.out.size)
    go_wp2_with fail
    refine Calls.mono CA.out ?_
    rintro e Vq ⟨r0, r1, rfl, a0, a1, hb⟩
    obtain ⟨p0q, j0q, e0, -⟩ := id a0
    obtain ⟨p1q, j1q, e1, -⟩ := id a1
    obtain ⟨m0q, em0⟩ : ∃ n, (levS (Db.1, Db.2) xb).1.1.length = n := ⟨_, rfl⟩
    obtain ⟨m1q, em1⟩ : ∃ n, (levS (Db.1, Db.2) xb).1.2.length = n := ⟨_, rfl⟩
    rw [em0] at e0
    rw [em1] at e1
    subst e0
    subst e1
    have Lq : Hid ((levS (Db.1, Db.2) xb).1.2.length = m1q) := em1
    obtain ⟨Uq, hU⟩ : ∃ U, U = Vq.alloc (.cells #[.slice p0q m0q j0q, .slice p1q m1q j1q] 26) := ⟨_, rfl⟩
    have EU : Hid (Uq = Vq.alloc (.cells #[.slice p0q m0q j0q, .slice p1q m1q j1q] 26)) := hU
    obtain ⟨gq, hgb⟩ : ∃ g, g = Vq.heap.size := ⟨_, rfl⟩
    have EGB : Hid (gq = Vq.heap.size) := hgb
    have bU : Below Vq.heap.size Vq Uq := by rw [hU]; exact (Below.refl _ _).alloc (Nat.le_refl _) _
    have BKU : Uq.heap[gq]? = some (.cells #[.slice p0q m0q j0q, .slice p1q m1q j1q] 26 (0, 0)) := by rw [hgb, hU]; exact heap_alloc_new Vq _
    have BOXq : Hid (∀ u, Below Uq.heap.size Uq u → u.heap[gq]? = some (.cells #[.slice p0q m0q j0q, .slice p1q m1q j1q] 26 (0, 0))) := fun u hu => (hu.block gq (Array.getElem?_eq_some_iff.1 BKU).1).trans BKU
    have T0q : Hid (∀ u, Below Uq.heap.size Uq u → AtL (fun b => b < Uq.heap.size) u (levS (Db.1, Db.2) xb).1.1 (.slice p0q m0q j0q)) := fun u hu => ((a0.same (fun b hb' => bU.block b hb'.2)).up (fun b hb' => Nat.lt_of_lt_of_le hb'.2 bU.size)).same (fun b hb' => hu.block b hb')
    have T1q : Hid (∀ u, Below Uq.heap.size Uq u → AtL (fun b => b < Uq.heap.size) u (levS (Db.1, Db.2) xb).1.2 (.slice p1q m1q j1q)) := fun u hu => ((a1.same (fun b hb' => bU.block b hb'.2)).up (fun b hb' => Nat.lt_of_lt_of_le hb'.2 bU.size)).same (fun b hb' => hu.block b hb')
    have Bq : Hid (Below Uy.heap.size Uy Uq) := hb.trans (bU.mono hb.size)
    clear hU hgb bU BKU a0 a1 em0 em1 hb CA
    go_upto_region 10 with fail
    rw [← EU.out, ← EGB.out]
    clear EU EGB
    clear c0 c1
    have Bbq : Hid (∀ u, Below Uq.heap.size Uq u → Below Ub.heap.size Ub u) := fun u hu => (Bby.out.trans (Bq.out.mono Bby.out.size)).trans (hu.mono (Nat.le_trans Bby.out.size Bq.out.size))
    have Byq : Hid (∀ u, Below Uq.heap.size Uq u → Below Uy.heap.size Uy u) := fun u hu => Bq.out.trans (hu.mono Bq.out.size)
    have CW : Hid (∀ u, Below Uq.heap.size Uq u → Calls Tryz.prog 7 #[.agg #[.slice p0y m0y j0y, .slice p1y m1y j1y], .agg #[.slice p0q m0q j0q, .slice p1q m1q j1q]] u fun e w' => e = .returned (.bool true) ∧ Below u.heap.size u w') := fun u hu => whBook_any _ _ (levS (Db.1, Db.2) xb).1.1 (levS (Db.1, Db.2) xb).1.2 _ _ _ _ u (T0y.out u (Byq.out u hu)) (T1y.out u (Byq.out u hu)) (T0q.out u hu) (T1q.out u hu) (fun b hb => Nat.lt_of_lt_of_le hb (Byq.out u hu).size) (fun b hb => Nat.lt_of_lt_of_le hb hu.size)
    have CY : Hid (BokP (levS (Db.1, Db.2) xb).1 → (ordS (levS (Db.1, Db.2) xb).1).2 = true → ∀ u, Below Uq.heap.size Uq u → Calls Tryz.prog 8 #[.agg #[.slice p0y m0y j0y, .slice p1y m1y j1y]] u fun e w' => e = .returned (.bool true) ∧ Below u.heap.size u w') := fun hb9 ht u hu => by
      have h := safeP_any (fun b => b < Uy.heap.size) (levS (Db.1, Db.2) xb).1.1 (levS (Db.1, Db.2) xb).1.2 _ _ _ _ _ _ u (T0y.out u (Byq.out u hu)) (T1y.out u (Byq.out u hu)) (fun b hb => Nat.lt_of_lt_of_le hb (Byq.out u hu).size) (bok_small hb9).1.tot
      rw [show (ordS ((levS (Db.1, Db.2) xb).1.1, (levS (Db.1, Db.2) xb).1.2)).2 = true from ht] at h
      exact h
    have HCC : Hid _ := lev_cases (Db.1, Db.2) xb
    obtain ⟨cd2, hcd⟩ : ∃ c, (levS (Db.1, Db.2) xb).2 = c := ⟨_, rfl⟩
    rw [hcd] at HCC
    rw [hcd]
    clear hcd
    go_cut [126] from 23 (fun v wr => v = .bool false ∧ Hid (Below Uq.heap.size Uq wr))
    case first =>
      rcases HCC.out with ⟨rfl, hok, hss, hlen⟩ | rfl | rfl
      · skip
        have hln : m1y + 1 = m1b := by have h1 := Ly.out; have h2 := MLb.out.2; have h3 : (levS (Db.1, Db.2) xb).1.2.length + 1 = Db.2.length := hlen; omega
        have hmb := MLb.out.1
        have hnq : ((m1y : Int) != (m1b : Int) - 1) = false := by simp; omega
        cases sb with
        | false =>
          have BWUq : Hid (Below Uq.heap.size Uq Uq) := Below.refl _ _
          have cb0 := (cell_row (BOXb.out _ (Bbq.out _ BWUq.out)) 0 _ rfl).1
          have cb1 := (cell_row (BOXb.out _ (Bbq.out _ BWUq.out)) 1 _ rfl).1
          have cy0 := (cell_row (BOXy.out _ (Byq.out _ BWUq.out)) 0 _ rfl).1
          have cy1 := (cell_row (BOXy.out _ (Byq.out _ BWUq.out)) 1 _ rfl).1
          have cq0 := (cell_row (BOXq.out _ BWUq.out) 0 _ rfl).1
          have cq1 := (cell_row (BOXq.out _ BWUq.out) 1 _ rfl).1
          go_wp2_with fail
          refine (CW.out Uq BWUq.out).mono ?_
          rintro e y1 ⟨rfl, hb⟩
          have BWy1 : Hid (Below Uq.heap.size Uq y1) := BWUq.out.trans (hb.mono BWUq.out.size)
          clear hb cb0 cb1 cy0 cy1 cq0 cq1
          have cb0 := (cell_row (BOXb.out _ (Bbq.out _ BWy1.out)) 0 _ rfl).1
          have cb1 := (cell_row (BOXb.out _ (Bbq.out _ BWy1.out)) 1 _ rfl).1
          have cy0 := (cell_row (BOXy.out _ (Byq.out _ BWy1.out)) 0 _ rfl).1
          have cy1 := (cell_row (BOXy.out _ (Byq.out _ BWy1.out)) 1 _ rfl).1
          have cq0 := (cell_row (BOXq.out _ BWy1.out) 0 _ rfl).1
          have cq1 := (cell_row (BOXq.out _ BWy1.out) 1 _ rfl).1
          go_wp2_with fail
          refine (CS.out y1 (Bbq.out _ BWy1.out)).mono ?_
          rintro e y2 ⟨rfl, hb⟩
          have BWy2 : Hid (Below Uq.heap.size Uq y2) := BWy1.out.trans (hb.mono BWy1.out.size)
          clear hb cb0 cb1 cy0 cy1 cq0 cq1
          have cb0 := (cell_row (BOXb.out _ (Bbq.out _ BWy2.out)) 0 _ rfl).1
          have cb1 := (cell_row (BOXb.out _ (Bbq.out _ BWy2.out)) 1 _ rfl).1
          have cy0 := (cell_row (BOXy.out _ (Byq.out _ BWy2.out)) 0 _ rfl).1
          have cy1 := (cell_row (BOXy.out _ (Byq.out _ BWy2.out)) 1 _ rfl).1
          have cq0 := (cell_row (BOXq.out _ BWy2.out) 0 _ rfl).1
          have cq1 := (cell_row (BOXq.out _ BWy2.out) 1 _ rfl).1
          go_wp2_with fail
          go_meet
          case rel => exact ⟨rfl, BWy2.out⟩
        | true =>
          have CYY := CY.out hok (hss ESB.out)
          have HYY : Hid _ := CYY
          clear CYY
          have BWUq : Hid (Below Uq.heap.size Uq Uq) := Below.refl _ _
          have cb0 := (cell_row (BOXb.out _ (Bbq.out _ BWUq.out)) 0 _ rfl).1
          have cb1 := (cell_row (BOXb.out _ (Bbq.out _ BWUq.out)) 1 _ rfl).1
          have cy0 := (cell_row (BOXy.out _ (Byq.out _ BWUq.out)) 0 _ rfl).1
          have cy1 := (cell_row (BOXy.out _ (Byq.out _ BWUq.out)) 1 _ rfl).1
          have cq0 := (cell_row (BOXq.out _ BWUq.out) 0 _ rfl).1
          have cq1 := (cell_row (BOXq.out _ BWUq.out) 1 _ rfl).1
          go_wp2_with fail
          refine (CW.out Uq BWUq.out).mono ?_
          rintro e y1 ⟨rfl, hb⟩
          have BWy1 : Hid (Below Uq.heap.size Uq y1) := BWUq.out.trans (hb.mono BWUq.out.size)
          clear hb cb0 cb1 cy0 cy1 cq0 cq1
          have cb0 := (cell_row (BOXb.out _ (Bbq.out _ BWy1.out)) 0 _ rfl).1
          have cb1 := (cell_row (BOXb.out _ (Bbq.out _ BWy1.out)) 1 _ rfl).1
          have cy0 := (cell_row (BOXy.out _ (Byq.out _ BWy1.out)) 0 _ rfl).1
          have cy1 := (cell_row (BOXy.out _ (Byq.out _ BWy1.out)) 1 _ rfl).1
          have cq0 := (cell_row (BOXq.out _ BWy1.out) 0 _ rfl).1
          have cq1 := (cell_row (BOXq.out _ BWy1.out) 1 _ rfl).1
          go_wp2_with fail
          refine (CS.out y1 (Bbq.out _ BWy1.out)).mono ?_
          rintro e y2 ⟨rfl, hb⟩
          have BWy2 : Hid (Below Uq.heap.size Uq y2) := BWy1.out.trans (hb.mono BWy1.out.size)
          clear hb cb0 cb1 cy0 cy1 cq0 cq1
          have cb0 := (cell_row (BOXb.out _ (Bbq.out _ BWy2.out)) 0 _ rfl).1
          have cb1 := (cell_row (BOXb.out _ (Bbq.out _ BWy2.out)) 1 _ rfl).1
          have cy0 := (cell_row (BOXy.out _ (Byq.out _ BWy2.out)) 0 _ rfl).1
          have cy1 := (cell_row (BOXy.out _ (Byq.out _ BWy2.out)) 1 _ rfl).1
          have cq0 := (cell_row (BOXq.out _ BWy2.out) 0 _ rfl).1
          have cq1 := (cell_row (BOXq.out _ BWy2.out) 1 _ rfl).1
          go_wp2_with fail
          refine (HYY.out y2 BWy2.out).mono ?_
          rintro e y3 ⟨rfl, hb⟩
          have BWy3 : Hid (Below Uq.heap.size Uq y3) := BWy2.out.trans (hb.mono BWy2.out.size)
          clear hb cb0 cb1 cy0 cy1 cq0 cq1
          have cb0 := (cell_row (BOXb.out _ (Bbq.out _ BWy3.out)) 0 _ rfl).1
          have cb1 := (cell_row (BOXb.out _ (Bbq.out _ BWy3.out)) 1 _ rfl).1
          have cy0 := (cell_row (BOXy.out _ (Byq.out _ BWy3.out)) 0 _ rfl).1
          have cy1 := (cell_row (BOXy.out _ (Byq.out _ BWy3.out)) 1 _ rfl).1
          have cq0 := (cell_row (BOXq.out _ BWy3.out) 0 _ rfl).1
          have cq1 := (cell_row (BOXq.out _ BWy3.out) 1 _ rfl).1
          go_wp2_with fail
          go_meet
          case rel => exact ⟨rfl, BWy3.out⟩
      · skip
        have BWUq : Hid (Below Uq.heap.size Uq Uq) := Below.refl _ _
        have cb0 := (cell_row (BOXb.out _ (Bbq.out _ BWUq.out)) 0 _ rfl).1
        have cb1 := (cell_row (BOXb.out _ (Bbq.out _ BWUq.out)) 1 _ rfl).1
        have cy0 := (cell_row (BOXy.out _ (Byq.out _ BWUq.out)) 0 _ rfl).1
        have cy1 := (cell_row (BOXy.out _ (Byq.out _ BWUq.out)) 1 _ rfl).1
        have cq0 := (cell_row (BOXq.out _ BWUq.out) 0 _ rfl).1
        have cq1 := (cell_row (BOXq.out _ BWUq.out) 1 _ rfl).1
        go_wp2_with fail
        refine (CW.out Uq BWUq.out).mono ?_
        rintro e y1 ⟨rfl, hb⟩
        have BWy1 : Hid (Below Uq.heap.size Uq y1) := BWUq.out.trans (hb.mono BWUq.out.size)
        clear hb cb0 cb1 cy0 cy1 cq0 cq1
        have cb0 := (cell_row (BOXb.out _ (Bbq.out _ BWy1.out)) 0 _ rfl).1
        have cb1 := (cell_row (BOXb.out _ (Bbq.out _ BWy1.out)) 1 _ rfl).1
        have cy0 := (cell_row (BOXy.out _ (Byq.out _ BWy1.out)) 0 _ rfl).1
        have cy1 := (cell_row (BOXy.out _ (Byq.out _ BWy1.out)) 1 _ rfl).1
        have cq0 := (cell_row (BOXq.out _ BWy1.out) 0 _ rfl).1
        have cq1 := (cell_row (BOXq.out _ BWy1.out) 1 _ rfl).1
        go_wp2_with fail
        go_meet
        case rel => exact ⟨rfl, BWy1.out⟩
      · skip
        have BWUq : Hid (Below Uq.heap.size Uq Uq) := Below.refl _ _
        have cb0 := (cell_row (BOXb.out _ (Bbq.out _ BWUq.out)) 0 _ rfl).1
        have cb1 := (cell_row (BOXb.out _ (Bbq.out _ BWUq.out)) 1 _ rfl).1
        have cy0 := (cell_row (BOXy.out _ (Byq.out _ BWUq.out)) 0 _ rfl).1
        have cy1 := (cell_row (BOXy.out _ (Byq.out _ BWUq.out)) 1 _ rfl).1
        have cq0 := (cell_row (BOXq.out _ BWUq.out) 0 _ rfl).1
        have cq1 := (cell_row (BOXq.out _ BWUq.out) 1 _ rfl).1
        go_wp2_with fail
        refine (CW.out Uq BWUq.out).mono ?_
        rintro e y1 ⟨rfl, hb⟩
        have BWy1 : Hid (Below Uq.heap.size Uq y1) := BWUq.out.trans (hb.mono BWUq.out.size)
        clear hb cb0 cb1 cy0 cy1 cq0 cq1
        have cb0 := (cell_row (BOXb.out _ (Bbq.out _ BWy1.out)) 0 _ rfl).1
        have cb1 := (cell_row (BOXb.out _ (Bbq.out _ BWy1.out)) 1 _ rfl).1
        have cy0 := (cell_row (BOXy.out _ (Byq.out _ BWy1.out)) 0 _ rfl).1
        have cy1 := (cell_row (BOXy.out _ (Byq.out _ BWy1.out)) 1 _ rfl).1
        have cq0 := (cell_row (BOXq.out _ BWy1.out) 0 _ rfl).1
        have cq1 := (cell_row (BOXq.out _ BWy1.out) 1 _ rfl).1
        go_wp2_with fail
        go_meet
        case rel => exact ⟨rfl, BWy1.out⟩
    case rest =>
      obtain ⟨rfl, BWC⟩ := hcut
      obtain ⟨U2, hU2⟩ : ∃ u, u = wc := ⟨_, rfl⟩
      rw [← hU2] at BWC ⊢
      have BL2 : Hid (Below w.heap.size w U2) := BLUb.out.trans ((Bbq.out U2 BWC.out).mono BLUb.out.size)
      clear hU2 HCC CW CY CS ESB T0y T1y T0q T1q BOXy BOXq BOXb T0b T1b T2b BLUb SMb TOb XSb MLb BWC Bbq Byq By Bq Bby Bb1 Ly Lq
      go_wp2_with fail
      refine Calls.mono (CDN.out U2 BL2.out) ?_
      rintro e Vp ⟨p0p, m0p, j0p, p1p, m1p, j1p, Dp, xp, ovp, nvp, kvp, Op, rfl, hsz, hx, ho, hat, hb1⟩
      obtain ⟨Up, hU⟩ : ∃ U, U = Vp.alloc (.cells #[.slice p0p m0p j0p, .slice p1p m1p j1p] 26) := ⟨_, rfl⟩
      have EU : Hid (Up = Vp.alloc (.cells #[.slice p0p m0p j0p, .slice p1p m1p j1p] 26)) := hU
      obtain ⟨gp, hgb⟩ : ∃ g, g = Vp.heap.size := ⟨_, rfl⟩
      have EGB : Hid (gp = Vp.heap.size) := hgb
      have bU : Below Vp.heap.size Vp Up := by rw [hU]; exact (Below.refl _ _).alloc (Nat.le_refl _) _
      have BKU : Up.heap[gp]? = some (.cells #[.slice p0p m0p j0p, .slice p1p m1p j1p] 26 (0, 0)) := by rw [hgb, hU]; exact heap_alloc_new Vp _
      have BOXp : Hid (∀ u, Below Up.heap.size Up u → u.heap[gp]? = some (.cells #[.slice p0p m0p j0p, .slice p1p m1p j1p] 26 (0, 0))) := fun u hu => (hu.block gp (Array.getElem?_eq_some_iff.1 BKU).1).trans BKU
      have T0p : Hid (∀ u, Below Up.heap.size Up u → AtL (fun b => b < Up.heap.size) u Dp.1 (.slice p0p m0p j0p)) := fun u hu => ((hat.out.1.same (fun b hb => bU.block b hb.2)).up (fun b hb => Nat.lt_of_lt_of_le hb.2 bU.size)).same (fun b hb => hu.block b hb)
      have T1p : Hid (∀ u, Below Up.heap.size Up u → AtL (fun b => b < Up.heap.size) u Dp.2 (.slice p1p m1p j1p)) := fun u hu => ((hat.out.2.1.same (fun b hb => bU.block b hb.2)).up (fun b hb => Nat.lt_of_lt_of_le hb.2 bU.size)).same (fun b hb => hu.block b hb)
      have T2p : Hid (∀ u, Below Up.heap.size Up u → AtL (fun b => b < Up.heap.size) u Op (.slice ovp nvp kvp)) := fun u hu => ((hat.out.2.2.same (fun b hb => bU.block b hb.2)).up (fun b hb => Nat.lt_of_lt_of_le hb.2 bU.size)).same (fun b hb => hu.block b hb)
      have BLUp : Hid (Below w.heap.size w Up) := (BL2.out.trans (hb1.out.mono BL2.out.size)).trans (bU.mono (Nat.le_trans BL2.out.size hb1.out.size))
      have SMp : Hid (SmD (Dp.1, Dp.2)) := (hsz.mono (show 17 ≤ 64 by omega)).sm
      have TOp : Hid (totL Op ≤ 1048576) := szl_tot ho
      have XSp : Hid (xp.size ≤ 64) := hx
      have MLp : Hid (m1p ≤ 17 ∧ Dp.2.length = m1p) := by
        obtain ⟨_, _, e, _⟩ := id hat.out.2.1
        cases e
        exact ⟨hsz.2.1, rfl⟩
      clear hU hgb bU hat hb1 hsz hx ho BKU
      go_upto_region 13 with fail
      rw [← EU.out, ← EGB.out]
      clear EU EGB
      have c0 := (cell_row (BOXp.out Up (Below.refl _ _)) 0 _ rfl).1
      have c1 := (cell_row (BOXp.out Up (Below.refl _ _)) 1 _ rfl).1
      have CA : Hid (Calls Tryz.prog 12 #[.agg #[.slice p0p m0p j0p, .slice p1p m1p j1p], .string xp, .slice ovp nvp kvp] Up (AnsW Up (entS (Dp.1, Dp.2) xp Op).1 (entS (Dp.1, Dp.2) xp Op).2)) := entP_any (fun b => b < Up.heap.size) Dp.1 Dp.2 Op _ _ _ _ _ _ _ _ _ xp Up (T0p.out Up (Below.refl _ _)) (T1p.out Up (Below.refl _ _)) (T2p.out Up (Below.refl _ _)) (fun b hb => hb) SMp.out.tot TOp.out (by have := XSp.out; omega) (HLD.out Up BLUp.out)
      go_wp2_with fail
      refine Calls.mono CA.out ?_
      rintro e Vs ⟨r0, r1, L, rfl, hp, hmap, hb⟩
      have hon : Own.On (fun b => Up.heap.size ≤ b ∧ b < Vs.heap.size) Vs (entS (Dp.1, Dp.2) xp Op).1 (cs [r0, r1]) := by have := hp.on; rw [hmap] at this; exact this
      have a0 := (at_DShareBook.1 (Own.on_at hon)).1
      have a1 := (at_DShareBook.1 (Own.on_at hon)).2
      have a0 : AtL (fun b => Up.heap.size ≤ b ∧ b < Vs.heap.size) Vs (entS (Dp.1, Dp.2) xp Op).1.1 r0 := a0
      have a1 : AtL (fun b => Up.heap.size ≤ b ∧ b < Vs.heap.size) Vs (entS (Dp.1, Dp.2) xp Op).1.2 r1 := a1
      clear hp hmap hon
      obtain ⟨p0s, j0s, e0, -⟩ := id a0
      obtain ⟨p1s, j1s, e1, -⟩ := id a1
      obtain ⟨m0s, em0⟩ : ∃ n, (entS (Dp.1, Dp.2) xp Op).1.1.length = n := ⟨_, rfl⟩
      obtain ⟨m1s, em1⟩ : ∃ n, (entS (Dp.1, Dp.2) xp Op).1.2.length = n := ⟨_, rfl⟩
      rw [em0] at e0
      rw [em1] at e1
      subst e0
      subst e1
      have Ls : Hid ((entS (Dp.1, Dp.2) xp Op).1.2.length = m1s) := em1
      obtain ⟨Us, hU⟩ : ∃ U, U = Vs.alloc (.cells #[.slice p0s m0s j0s, .slice p1s m1s j1s] 26) := ⟨_, rfl⟩
      have EU : Hid (Us = Vs.alloc (.cells #[.slice p0s m0s j0s, .slice p1s m1s j1s] 26)) := hU
      obtain ⟨gs, hgb⟩ : ∃ g, g = Vs.heap.size := ⟨_, rfl⟩
      have EGB : Hid (gs = Vs.heap.size) := hgb
      have bU : Below Vs.heap.size Vs Us := by rw [hU]; exact (Below.refl _ _).alloc (Nat.le_refl _) _
      have BKU : Us.heap[gs]? = some (.cells #[.slice p0s m0s j0s, .slice p1s m1s j1s] 26 (0, 0)) := by rw [hgb, hU]; exact heap_alloc_new Vs _
      have BOXs : Hid (∀ u, Below Us.heap.size Us u → u.heap[gs]? = some (.cells #[.slice p0s m0s j0s, .slice p1s m1s j1s] 26 (0, 0))) := fun u hu => (hu.block gs (Array.getElem?_eq_some_iff.1 BKU).1).trans BKU
      have T0s : Hid (∀ u, Below Us.heap.size Us u → AtL (fun b => b < Us.heap.size) u (entS (Dp.1, Dp.2) xp Op).1.1 (.slice p0s m0s j0s)) := fun u hu => ((a0.same (fun b hb' => bU.block b hb'.2)).up (fun b hb' => Nat.lt_of_lt_of_le hb'.2 bU.size)).same (fun b hb' => hu.block b hb')
      have T1s : Hid (∀ u, Below Us.heap.size Us u → AtL (fun b => b < Us.heap.size) u (entS (Dp.1, Dp.2) xp Op).1.2 (.slice p1s m1s j1s)) := fun u hu => ((a1.same (fun b hb' => bU.block b hb'.2)).up (fun b hb' => Nat.lt_of_lt_of_le hb'.2 bU.size)).same (fun b hb' => hu.block b hb')
      have Bs : Hid (Below Up.heap.size Up Us) := hb.trans (bU.mono hb.size)
      clear hU hgb bU BKU a0 a1 em0 em1 hb CA
      go_upto_region 14 with fail
      rw [← EU.out, ← EGB.out]
      clear EU EGB
      clear c0 c1
      have c0 := (cell_row (BOXp.out Us Bs.out) 0 _ rfl).1
      have c1 := (cell_row (BOXp.out Us Bs.out) 1 _ rfl).1
      have CA : Hid (Calls Tryz.prog 13 #[.agg #[.slice p0p m0p j0p, .slice p1p m1p j1p], .string xp, .slice ovp nvp kvp] Us fun e w' => ∃ r0 r1, e = .returned (.tuple #[.agg #[r0, r1], .int .i64 (entS (Dp.1, Dp.2) xp Op).2]) ∧ AtL (fun b => Us.heap.size ≤ b ∧ b < w'.heap.size) w' (entS (Dp.1, Dp.2) xp Op).1.1 r0 ∧ AtL (fun b => Us.heap.size ≤ b ∧ b < w'.heap.size) w' (entS (Dp.1, Dp.2) xp Op).1.2 r1 ∧ Below Us.heap.size Us w') := entZ_any (fun b => b < Up.heap.size) Dp.1 Dp.2 _ _ _ _ _ _ xp (fun b => b < Up.heap.size) Op _ _ _ Us (T0p.out Us Bs.out) (T1p.out Us Bs.out) (fun b hb => Nat.lt_of_lt_of_le hb Bs.out.size) (by have := XSp.out; unfold maxLen; omega) (T2p.out Us Bs.out) (fun b hb => Nat.lt_of_lt_of_le hb Bs.out.size)
      go_wp2_with fail
      refine Calls.mono CA.out ?_
      rintro e Vt ⟨r0, r1, rfl, a0, a1, hb⟩
      obtain ⟨p0t, j0t, e0, -⟩ := id a0
      obtain ⟨p1t, j1t, e1, -⟩ := id a1
      obtain ⟨m0t, em0⟩ : ∃ n, (entS (Dp.1, Dp.2) xp Op).1.1.length = n := ⟨_, rfl⟩
      obtain ⟨m1t, em1⟩ : ∃ n, (entS (Dp.1, Dp.2) xp Op).1.2.length = n := ⟨_, rfl⟩
      rw [em0] at e0
      rw [em1] at e1
      subst e0
      subst e1
      have Lt : Hid ((entS (Dp.1, Dp.2) xp Op).1.2.length = m1t) := em1
      obtain ⟨Ut, hU⟩ : ∃ U, U = Vt.alloc (.cells #[.slice p0t m0t j0t, .slice p1t m1t j1t] 26) := ⟨_, rfl⟩
      have EU : Hid (Ut = Vt.alloc (.cells #[.slice p0t m0t j0t, .slice p1t m1t j1t] 26)) := hU
      obtain ⟨gt, hgb⟩ : ∃ g, g = Vt.heap.size := ⟨_, rfl⟩
      have EGB : Hid (gt = Vt.heap.size) := hgb
      have bU : Below Vt.heap.size Vt Ut := by rw [hU]; exact (Below.refl _ _).alloc (Nat.le_refl _) _
      have BKU : Ut.heap[gt]? = some (.cells #[.slice p0t m0t j0t, .slice p1t m1t j1t] 26 (0, 0)) := by rw [hgb, hU]; exact heap_alloc_new Vt _
      have BOXt : Hid (∀ u, Below Ut.heap.size Ut u → u.heap[gt]? = some (.cells #[.slice p0t m0t j0t, .slice p1t m1t j1t] 26 (0, 0))) := fun u hu => (hu.block gt (Array.getElem?_eq_some_iff.1 BKU).1).trans BKU
      have T0t : Hid (∀ u, Below Ut.heap.size Ut u → AtL (fun b => b < Ut.heap.size) u (entS (Dp.1, Dp.2) xp Op).1.1 (.slice p0t m0t j0t)) := fun u hu => ((a0.same (fun b hb' => bU.block b hb'.2)).up (fun b hb' => Nat.lt_of_lt_of_le hb'.2 bU.size)).same (fun b hb' => hu.block b hb')
      have T1t : Hid (∀ u, Below Ut.heap.size Ut u → AtL (fun b => b < Ut.heap.size) u (entS (Dp.1, Dp.2) xp Op).1.2 (.slice p1t m1t j1t)) := fun u hu => ((a1.same (fun b hb' => bU.block b hb'.2)).up (fun b hb' => Nat.lt_of_lt_of_le hb'.2 bU.size)).same (fun b hb' => hu.block b hb')
      have Bt : Hid (Below Us.heap.size Us Ut) := hb.trans (bU.mono hb.size)
      clear hU hgb bU BKU a0 a1 em0 em1 hb CA
      go_upto_region 15 with fail
      rw [← EU.out, ← EGB.out]
      clear EU EGB
      clear c0 c1
      have Bpt : Hid (∀ u, Below Ut.heap.size Ut u → Below Up.heap.size Up u) := fun u hu => (Bs.out.trans (Bt.out.mono Bs.out.size)).trans (hu.mono (Nat.le_trans Bs.out.size Bt.out.size))
      have Bst : Hid (∀ u, Below Ut.heap.size Ut u → Below Us.heap.size Us u) := fun u hu => Bt.out.trans (hu.mono Bt.out.size)
      have CW : Hid (∀ u, Below Ut.heap.size Ut u → Calls Tryz.prog 7 #[.agg #[.slice p0s m0s j0s, .slice p1s m1s j1s], .agg #[.slice p0t m0t j0t, .slice p1t m1t j1t]] u fun e w' => e = .returned (.bool true) ∧ Below u.heap.size u w') := fun u hu => whBook_any _ _ (entS (Dp.1, Dp.2) xp Op).1.1 (entS (Dp.1, Dp.2) xp Op).1.2 _ _ _ _ u (T0s.out u (Bst.out u hu)) (T1s.out u (Bst.out u hu)) (T0t.out u hu) (T1t.out u hu) (fun b hb => Nat.lt_of_lt_of_le hb (Bst.out u hu).size) (fun b hb => Nat.lt_of_lt_of_le hb hu.size)
      have CX : Hid ((entS (Dp.1, Dp.2) xp Op).1 = (Dp.1, Dp.2) → ∀ u, Below Ut.heap.size Ut u → Calls Tryz.prog 7 #[.agg #[.slice p0s m0s j0s, .slice p1s m1s j1s], .agg #[.slice p0p m0p j0p, .slice p1p m1p j1p]] u fun e w' => e = .returned (.bool true) ∧ Below u.heap.size u w') := fun he u hu => by
        have h0 := T0s.out u (Bst.out u hu)
        have h1 := T1s.out u (Bst.out u hu)
        rw [he] at h0 h1
        exact whBook_any _ _ Dp.1 Dp.2 _ _ _ _ u h0 h1 (T0p.out u (Bpt.out u hu)) (T1p.out u (Bpt.out u hu)) (fun b hb => Nat.lt_of_lt_of_le hb (Bst.out u hu).size) (fun b hb => Nat.lt_of_lt_of_le hb (Bpt.out u hu).size)
      obtain ⟨sp, hsp⟩ : ∃ b, (ordS (Dp.1, Dp.2)).2 = b := ⟨_, rfl⟩
      have ESP : Hid ((ordS (Dp.1, Dp.2)).2 = sp) := hsp
      have CS : Hid (∀ u, Below Ut.heap.size Ut u → Calls Tryz.prog 8 #[.agg #[.slice p0p m0p j0p, .slice p1p m1p j1p]] u fun e w' => e = .returned (.bool sp) ∧ Below u.heap.size u w') := fun u hu => by
        have h := safeP_any (fun b => b < Up.heap.size) Dp.1 Dp.2 _ _ _ _ _ _ u (T0p.out u (Bpt.out u hu)) (T1p.out u (Bpt.out u hu)) (fun b hb => Nat.lt_of_lt_of_le hb (Bpt.out u hu).size) SMp.out.tot
        rw [ESP.out] at h
        exact h
      have CY : Hid (BokP (entS (Dp.1, Dp.2) xp Op).1 → (ordS (entS (Dp.1, Dp.2) xp Op).1).2 = (ordS (Dp.1, Dp.2)).2 → ∀ u, Below Ut.heap.size Ut u → Calls Tryz.prog 8 #[.agg #[.slice p0s m0s j0s, .slice p1s m1s j1s]] u fun e w' => e = .returned (.bool sp) ∧ Below u.heap.size u w') := fun hb9 ht u hu => by
        have h := safeP_any (fun b => b < Us.heap.size) (entS (Dp.1, Dp.2) xp Op).1.1 (entS (Dp.1, Dp.2) xp Op).1.2 _ _ _ _ _ _ u (T0s.out u (Bst.out u hu)) (T1s.out u (Bst.out u hu)) (fun b hb => Nat.lt_of_lt_of_le hb (Bst.out u hu).size) (bok_small hb9).1.tot
        rw [show (ordS ((entS (Dp.1, Dp.2) xp Op).1.1, (entS (Dp.1, Dp.2) xp Op).1.2)).2 = sp from ht.trans ESP.out] at h
        exact h
      have HCC : Hid _ := ent_cases (Dp.1, Dp.2) xp Op
      obtain ⟨cd, hcd⟩ : ∃ c, (entS (Dp.1, Dp.2) xp Op).2 = c := ⟨_, rfl⟩
      rw [hcd] at HCC
      rw [hcd]
      clear hcd hsp
      have BLT : Hid (∀ u, Below Ut.heap.size Ut u → Below w.heap.size w u) := fun u hu => BLUp.out.trans ((Bpt.out u hu).mono BLUp.out.size)
      have BWUt : Hid (Below Ut.heap.size Ut Ut) := Below.refl _ _
      rcases HCC.out with ⟨rfl, hok, hsafe, hlen⟩ | rfl | ⟨rfl | rfl | rfl, he⟩
      · skip
        have hln : m1s = m1p + 1 := by have h1 := Ls.out; have h2 := MLp.out.2; have h3 : (entS (Dp.1, Dp.2) xp Op).1.2.length = Dp.2.length + 1 := hlen; omega
        have hmb := MLp.out.1
        have hnq : ((m1s : Int) == (m1p : Int) + 1) = true := by simp; omega
        clear hln
        have hss : (sp == sp) = true := by simp
        have HYY : Hid _ := CY.out hok hsafe
        have cp0 := (cell_row (BOXp.out _ (Bpt.out _ BWUt.out)) 0 _ rfl).1
        have cp1 := (cell_row (BOXp.out _ (Bpt.out _ BWUt.out)) 1 _ rfl).1
        have cs_0 := (cell_row (BOXs.out _ (Bst.out _ BWUt.out)) 0 _ rfl).1
        have cs_1 := (cell_row (BOXs.out _ (Bst.out _ BWUt.out)) 1 _ rfl).1
        have ct0 := (cell_row (BOXt.out _ BWUt.out) 0 _ rfl).1
        have ct1 := (cell_row (BOXt.out _ BWUt.out) 1 _ rfl).1
        have qcp0 := fun d os => cell_regrown cp0 d os
        have qcp1 := fun d os => cell_regrown cp1 d os
        have qcs_0 := fun d os => cell_regrown cs_0 d os
        have qcs_1 := fun d os => cell_regrown cs_1 d os
        have qct0 := fun d os => cell_regrown ct0 d os
        have qct1 := fun d os => cell_regrown ct1 d os
        have QW := fun d os => Calls.regrown_of (CW.out _ (below_regrown Ut d os))
        have QS := fun d os => Calls.regrown_of (HYY.out _ (below_regrown Ut d os))
        have QP := fun d os => Calls.regrown_of (CS.out _ (below_regrown Ut d os))
        clear cp0 cp1 cs_0 cs_1 ct0 ct1
        refine wp_region_quiet_below (by kernel_rfl) (by kernel_rfl) ?_
        repeat (first | go_big_quiet_step (first | (with_reducible exact QW _ _) | (with_reducible exact QS _ _) | (with_reducible exact QP _ _)) | quiet_step (first | (with_reducible exact QW _ _) | (with_reducible exact QS _ _) | (with_reducible exact QP _ _)))
        refine wpQuiet_nil ?_
        intro _ hw'
        obtain ⟨⟨dq, osq⟩, hw''⟩ := hw'
        subst hw''
        have FB := BLT.out _ (below_regrown Ut dq osq)
        go_wp2_with fail
        go_ret
        exact ⟨rfl, FB⟩
      · skip
        have cp0 := (cell_row (BOXp.out _ (Bpt.out _ BWUt.out)) 0 _ rfl).1
        have cp1 := (cell_row (BOXp.out _ (Bpt.out _ BWUt.out)) 1 _ rfl).1
        have cs_0 := (cell_row (BOXs.out _ (Bst.out _ BWUt.out)) 0 _ rfl).1
        have cs_1 := (cell_row (BOXs.out _ (Bst.out _ BWUt.out)) 1 _ rfl).1
        have ct0 := (cell_row (BOXt.out _ BWUt.out) 0 _ rfl).1
        have ct1 := (cell_row (BOXt.out _ BWUt.out) 1 _ rfl).1
        have qcp0 := fun d os => cell_regrown cp0 d os
        have qcp1 := fun d os => cell_regrown cp1 d os
        have qcs_0 := fun d os => cell_regrown cs_0 d os
        have qcs_1 := fun d os => cell_regrown cs_1 d os
        have qct0 := fun d os => cell_regrown ct0 d os
        have qct1 := fun d os => cell_regrown ct1 d os
        have QW := fun d os => Calls.regrown_of (CW.out _ (below_regrown Ut d os))
        clear cp0 cp1 cs_0 cs_1 ct0 ct1
        refine wp_region_quiet_below (by kernel_rfl) (by kernel_rfl) ?_
        repeat (first | go_big_quiet_step (first | (with_reducible exact QW _ _)) | quiet_step (first | (with_reducible exact QW _ _)))
        refine wpQuiet_nil ?_
        intro _ hw'
        obtain ⟨⟨dq, osq⟩, hw''⟩ := hw'
        subst hw''
        have FB := BLT.out _ (below_regrown Ut dq osq)
        go_wp2_with fail
        go_ret
        exact ⟨rfl, FB⟩
      · have HXX : Hid _ := CX.out he
        have cp0 := (cell_row (BOXp.out _ (Bpt.out _ BWUt.out)) 0 _ rfl).1
        have cp1 := (cell_row (BOXp.out _ (Bpt.out _ BWUt.out)) 1 _ rfl).1
        have cs_0 := (cell_row (BOXs.out _ (Bst.out _ BWUt.out)) 0 _ rfl).1
        have cs_1 := (cell_row (BOXs.out _ (Bst.out _ BWUt.out)) 1 _ rfl).1
        have ct0 := (cell_row (BOXt.out _ BWUt.out) 0 _ rfl).1
        have ct1 := (cell_row (BOXt.out _ BWUt.out) 1 _ rfl).1
        have qcp0 := fun d os => cell_regrown cp0 d os
        have qcp1 := fun d os => cell_regrown cp1 d os
        have qcs_0 := fun d os => cell_regrown cs_0 d os
        have qcs_1 := fun d os => cell_regrown cs_1 d os
        have qct0 := fun d os => cell_regrown ct0 d os
        have qct1 := fun d os => cell_regrown ct1 d os
        have QW := fun d os => Calls.regrown_of (CW.out _ (below_regrown Ut d os))
        have QX := fun d os => Calls.regrown_of (HXX.out _ (below_regrown Ut d os))
        clear cp0 cp1 cs_0 cs_1 ct0 ct1
        refine wp_region_quiet_below (by kernel_rfl) (by kernel_rfl) ?_
        repeat (first | go_big_quiet_step (first | (with_reducible exact QW _ _) | (with_reducible exact QX _ _)) | quiet_step (first | (with_reducible exact QW _ _) | (with_reducible exact QX _ _)))
        refine wpQuiet_nil ?_
        intro _ hw'
        obtain ⟨⟨dq, osq⟩, hw''⟩ := hw'
        subst hw''
        have FB := BLT.out _ (below_regrown Ut dq osq)
        go_wp2_with fail
        go_ret
        exact ⟨rfl, FB⟩
      · have HXX : Hid _ := CX.out he
        have cp0 := (cell_row (BOXp.out _ (Bpt.out _ BWUt.out)) 0 _ rfl).1
        have cp1 := (cell_row (BOXp.out _ (Bpt.out _ BWUt.out)) 1 _ rfl).1
        have cs_0 := (cell_row (BOXs.out _ (Bst.out _ BWUt.out)) 0 _ rfl).1
        have cs_1 := (cell_row (BOXs.out _ (Bst.out _ BWUt.out)) 1 _ rfl).1
        have ct0 := (cell_row (BOXt.out _ BWUt.out) 0 _ rfl).1
        have ct1 := (cell_row (BOXt.out _ BWUt.out) 1 _ rfl).1
        have qcp0 := fun d os => cell_regrown cp0 d os
        have qcp1 := fun d os => cell_regrown cp1 d os
        have qcs_0 := fun d os => cell_regrown cs_0 d os
        have qcs_1 := fun d os => cell_regrown cs_1 d os
        have qct0 := fun d os => cell_regrown ct0 d os
        have qct1 := fun d os => cell_regrown ct1 d os
        have QW := fun d os => Calls.regrown_of (CW.out _ (below_regrown Ut d os))
        have QX := fun d os => Calls.regrown_of (HXX.out _ (below_regrown Ut d os))
        clear cp0 cp1 cs_0 cs_1 ct0 ct1
        refine wp_region_quiet_below (by kernel_rfl) (by kernel_rfl) ?_
        repeat (first | go_big_quiet_step (first | (with_reducible exact QW _ _) | (with_reducible exact QX _ _)) | quiet_step (first | (with_reducible exact QW _ _) | (with_reducible exact QX _ _)))
        refine wpQuiet_nil ?_
        intro _ hw'
        obtain ⟨⟨dq, osq⟩, hw''⟩ := hw'
        subst hw''
        have FB := BLT.out _ (below_regrown Ut dq osq)
        go_wp2_with fail
        go_ret
        exact ⟨rfl, FB⟩
      · have HXX : Hid _ := CX.out he
        have cp0 := (cell_row (BOXp.out _ (Bpt.out _ BWUt.out)) 0 _ rfl).1
        have cp1 := (cell_row (BOXp.out _ (Bpt.out _ BWUt.out)) 1 _ rfl).1
        have cs_0 := (cell_row (BOXs.out _ (Bst.out _ BWUt.out)) 0 _ rfl).1
        have cs_1 := (cell_row (BOXs.out _ (Bst.out _ BWUt.out)) 1 _ rfl).1
        have ct0 := (cell_row (BOXt.out _ BWUt.out) 0 _ rfl).1
        have ct1 := (cell_row (BOXt.out _ BWUt.out) 1 _ rfl).1
        have qcp0 := fun d os => cell_regrown cp0 d os
        have qcp1 := fun d os => cell_regrown cp1 d os
        have qcs_0 := fun d os => cell_regrown cs_0 d os
        have qcs_1 := fun d os => cell_regrown cs_1 d os
        have qct0 := fun d os => cell_regrown ct0 d os
        have qct1 := fun d os => cell_regrown ct1 d os
        have QW := fun d os => Calls.regrown_of (CW.out _ (below_regrown Ut d os))
        have QX := fun d os => Calls.regrown_of (HXX.out _ (below_regrown Ut d os))
        clear cp0 cp1 cs_0 cs_1 ct0 ct1
        refine wp_region_quiet_below (by kernel_rfl) (by kernel_rfl) ?_
        repeat (first | go_big_quiet_step (first | (with_reducible exact QW _ _) | (with_reducible exact QX _ _)) | quiet_step (first | (with_reducible exact QW _ _) | (with_reducible exact QX _ _)))
        refine wpQuiet_nil ?_
        intro _ hw'
        obtain ⟨⟨dq, osq⟩, hw''⟩ := hw'
        subst hw''
        have FB := BLT.out _ (below_regrown Ut dq osq)
        go_wp2_with fail
        go_ret
        exact ⟨rfl, FB⟩
end Go.Proofs.YtaejlcanccfmmaaGreatDoor
