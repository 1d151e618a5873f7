/-
  Several texts in one.
-/
import Derived.Test.YtigkkelaadbhcabGreatM33
import Derived.Test.YtigkkelaadbhcabGreatM11
import Derived.Deep.Cut
import Derived.Maps.AppendAt
namespace Go.Proofs.YtigkkelaadbhcabGreat
open Go.RowKit Go.Sort
def ordF (Bs : List DShareBatch) : Nat → List ByteArray → List ByteArray × Bool
  | 0, g => (g, true)
  | n + 1, g => if nxtI Bs g < 0 then ([], false) else ordF Bs n (g ++ [(btN Bs (nxtI Bs g).toNat).1])
noncomputable def ordS (D : DShareBook) : List ByteArray × Bool := if bokB D = true then ordF D.2 D.2.length [] else ([], false)
theorem nxt_lt {Bs : List DShareBatch} {g : List ByteArray} (h : ¬ nxtI Bs g < 0) : ∃ q : Nat, nxtI Bs g = (q : Int) ∧ q < Bs.length := by
  unfold nxtI idxI at h ⊢
  cases e : (List.range Bs.length).findIdx? (freeB Bs g) with
  | none => rw [e] at h; simp at h
  | some i =>
    refine ⟨i, rfl, ?_⟩
    have := List.findIdx?_eq_some_iff_getElem.1 e
    obtain ⟨h1, _⟩ := this
    simpa using h1
def lenV (v : Value) : Nat := match v with
  | .slice _ n _ => n
  | _ => 0
set_option maxRecDepth 100000 in
set_option maxHeartbeats 16000000 in
theorem orderZ_any (S : Nat → Prop) (T : List ByteArray) (Bs : List DShareBatch) (o0 oa : Option Addr) (n0 k0 nb kb : Nat) (w : World) (h0 : AtL S w T (.slice o0 n0 k0)) (h1 : AtL S w Bs (.slice oa nb kb)) (hS : ∀ b, S b → b < w.heap.size) :
    Calls Tryz.prog 60 #[.agg #[.slice o0 n0 k0, .slice oa nb kb]] w fun e w' => ∃ q, e = .returned (.tuple #[q, .bool (ordS (T, Bs)).2]) ∧ Row w' w.heap.size 9 1 eS q (ordS (T, Bs)).1 ∧ Below w.heap.size w w' := by
  have enb : Bs.length = nb := by obtain ⟨_, _, e, _⟩ := h1; cases e; rfl
  have hmx : nb ≤ 9223372036854775807 := by obtain ⟨_, _, e, hf, _⟩ := id h1; cases e; have := hf.1; unfold maxLen at this; omega
  have ENB : Hid (Bs.length ≤ nb ∧ nb ≤ Bs.length) := ⟨by omega, by omega⟩
  have H0 : Hid _ := h0.ups hS
  have H1 : Hid _ := h1.ups hS
  have HS : Hid _ := lt_up hS
  obtain ⟨W, EW, BW, RW, sW⟩ := box_new w #[.slice o0 n0 k0, .slice oa nb kb] 34
  clear enb
  have BOX : Hid (∀ u, Below W.heap.size W u → u.heap[w.heap.size]? = some (.cells #[.slice o0 n0 k0, .slice oa nb kb] 34 (0, 0)) ∧ Below w.heap.size w u) := fun u hu => ⟨(hu.block _ (by omega)).trans RW.out, BW.out.trans (hu.mono (by omega))⟩
  obtain ⟨R, hR⟩ : ∃ R, R = ordS (T, Bs) := ⟨_, rfl⟩
  have HRR : Hid (R = ordS (T, Bs)) := hR
  rw [← hR]
  clear hR
  obtain ⟨W1, hW1⟩ : ∃ W1, W1 = W.alloc (.cells #[] 9) := ⟨_, rfl⟩
  have EW1 : Hid (W1 = W.alloc (.cells #[] 9)) := hW1
  have BW1 : Hid (Below W.heap.size W W1) := by rw [hW1]; exact (Below.refl _ _).alloc (Nat.le_refl _) _
  have G0 : Hid (Row W1 W.heap.size 9 1 eS (.slice (some ⟨W.heap.size, 0, none⟩) 0 0) []) := by
    show World.ownsRow _ _ _ _ _ _ _
    rw [hW1]
    exact own_built (c := #[]) (by omega) (by unfold maxLen; omega) rfl
  have sW1 : W.heap.size + 1 ≤ W1.heap.size := by rw [hW1]; simp
  clear hW1
  have HB := BW1.out
  have y0 := (cell_row (BOX.out W1 HB).1 0 (.slice o0 n0 k0) rfl).1
  have y1 := (cell_row (BOX.out W1 HB).1 1 (.slice oa nb kb) rfl).1
  have CB : Hid (Calls Tryz.prog 97 #[.agg #[.slice o0 n0 k0, .slice oa nb kb]] W1 fun e w' => e = .returned (.bool (bokB (T, Bs))) ∧ Below W1.heap.size W1 w') := bookZ_any S (T, Bs) _ _ W1 (H0.out W1 (BOX.out W1 HB).2) (H1.out W1 (BOX.out W1 HB).2) (HS.out W1 (BOX.out W1 HB).2)
  go_enter Tryz.func60, Tryz.ntmps60
  go_upto_region 1 with fail
  rw [← EW.out]
  go_upto_region 2 with fail
  rw [← EW1.out]
  go_wp2_with fail
  refine CB.out.mono ?_; rintro e u ⟨rfl, hbu⟩
  have BU : Hid (Below W.heap.size W u) := HB.trans (hbu.mono HB.size)
  have GU : Hid (Row u W.heap.size 9 1 eS (.slice (some ⟨W.heap.size, 0, none⟩) 0 0) []) := Row.below G0.out hbu
  clear hbu y0 y1 HB CB
  cases hbk : bokB (T, Bs)
  · have er : R = ([], false) := by rw [HRR.out]; unfold ordS; rw [hbk]; rfl
    subst er
    go_wp2_with fail
    exact bodyPost_ret (v := .tuple #[.slice (some ⟨W.heap.size, 0, none⟩) 0 0, .bool false]) (by simp [results, Tryz.results60, go_sem]) rfl ⟨_, rfl, Row.low GU.out (by omega), (BOX.out u BU.out).2⟩
  have hst : R = ordF Bs Bs.length [] := by rw [HRR.out]; unfold ordS; rw [hbk]; rfl
  have hnb5 : nb ≤ 5 := by have h1 := (bok_iff.1 hbk).len; have h2 := ENB.out; simp only at h1; omega
  go_wp2_with fail
  go_loopw [4] (fun v wr => ∃ (gone : List ByteArray) (og : Option Addr) (kg ng : Nat), v = .slice og ng kg ∧ ng ≤ nb ∧ Hid (gone.length ≤ ng ∧ ng ≤ gone.length) ∧ Hid (Row wr W.heap.size 9 1 eS (.slice og ng kg) gone) ∧ Hid (∀ x ∈ gone, x.size ≤ maxLen) ∧ Hid (R = ordF Bs (Bs.length - gone.length) gone) ∧ Hid (Below W.heap.size W wr)) (fun v _ => nb - lenV v)
  case atStart => exact ⟨[], _, _, 0, rfl, Nat.zero_le _, ⟨Nat.le_refl _, Nat.le_refl _⟩, GU, fun x hx => by simp at hx, hst, BU⟩
  case round =>
    obtain ⟨gone, og, kg, ng, rfl, hng, hgl, hrow, hok, hor, hbel⟩ := hrel
    have HB := hbel.out
    have bwr := (BOX.out wr HB).2
    have hsz := HB.size
    have y0 := (cell_row (BOX.out wr HB).1 0 (.slice o0 n0 k0) rfl).1
    have y1 := (cell_row (BOX.out wr HB).1 1 (.slice oa nb kb) rfl).1
    by_cases hlt : ng < nb
    case neg =>
      have er : R = (gone, true) := by
        rw [hor.out, show Bs.length - gone.length = 0 by have := ENB.out; have := hgl.out; omega]; rfl
      subst er
      go_wp2_with fail
      exact bodyPost_ret (v := .tuple #[.slice og ng kg, .bool true]) (by simp [results, Tryz.results60, go_sem]) rfl ⟨_, rfl, Row.low hrow.out (by omega), bwr⟩
    have hmore : R = if nxtI Bs gone < 0 then ([], false) else ordF Bs (Bs.length - gone.length - 1) (gone ++ [(btN Bs (nxtI Bs gone).toNat).1]) := by
      have h1 := ENB.out
      have h2 := hgl.out
      have h3 := hor.out
      obtain ⟨k, ek⟩ : ∃ k, Bs.length - gone.length = k + 1 := ⟨Bs.length - gone.length - 1, by omega⟩
      rw [ek] at h3 ⊢
      rw [h3]; rfl
    have hlt' := World.ownsRow.lt hrow.out
    have hlow : Hid (∀ qq, (Value.slice og ng kg).ownBlock = some qq → W.heap.size ≤ qq) := fun qq hq => (hlt' qq hq).1
    have AG : AtL (fun b => W.heap.size ≤ b ∧ b < wr.heap.size) wr gone (.slice og ng kg) := flatS.row_at hrow.out (fun q hq => hlt' q hq) (fun x hx => hok.out x hx)
    have CN : Hid (Calls Tryz.prog 98 #[.agg #[.slice o0 n0 k0, .slice oa nb kb], .slice og ng kg] wr fun e w' => e = .returned (.int .i64 (nxtI Bs gone)) ∧ Below wr.heap.size wr w') := nextZ_any S T Bs _ _ _ _ _ _ _ gone og ng kg wr (H0.out wr bwr) (H1.out wr bwr) (HS.out wr bwr) AG (fun b hb => hb.2)
    clear AG hlt'
    go_wp2_with fail
    refine CN.out.mono ?_; rintro e u ⟨rfl, hbu⟩
    have BU2 : Hid (Below W.heap.size W u) := HB.trans (hbu.mono hsz)
    have GU2 : Hid (Row u W.heap.size 9 1 eS (.slice og ng kg) gone) := Row.below hrow.out hbu
    have su := BU2.out.size
    clear hbu y0 y1 CN
    by_cases hneg : nxtI Bs gone < 0
    · have er : R = ([], false) := by rw [hmore, if_pos hneg]
      subst er
      have GE : Row (u.alloc (.cells #[] 9)) w.heap.size 9 1 eS (.slice (some ⟨u.heap.size, 0, none⟩) 0 0) [] := own_built (c := #[]) (by omega) (by unfold maxLen; omega) rfl
      have BE : Below w.heap.size w (u.alloc (.cells #[] 9)) := ((BOX.out u BU2.out).2).alloc (by omega) _
      go_wp2_with fail
      exact bodyPost_ret (v := .tuple #[.slice (some ⟨u.heap.size, 0, none⟩) 0 0, .bool false]) (by simp [results, Tryz.results60, go_sem]) rfl ⟨_, rfl, GE, BE⟩
    obtain ⟨q, eq, hqb⟩ := nxt_lt hneg
    rw [if_neg hneg, eq, Int.toNat_natCast, btN_at hqb] at hmore
    have HMO : Hid _ := hmore
    clear hmore hor
    rw [eq]
    have bu := (BOX.out u BU2.out).2
    obtain ⟨bb, off, o1, n1, k1, o2, n2, k2, rfl, hbS, e0, _, _, _, _, z0⟩ := bat_at (H1.out u bu) q hqb
    have y1 := (cell_row (BOX.out u BU2.out).1 1 (.slice (some ⟨bb, off, none⟩) nb kb) rfl).1
    obtain ⟨f, ef⟩ : ∃ f, Bs[q] = f := ⟨_, rfl⟩
    rw [ef] at e0 z0 HMO
    have hqn : q < nb := by have := ENB.out; omega
    have hng0 : ¬ ((q : Int) < 0) := by omega
    obtain ⟨i0, zz, hi, hz0, hz1, hz2, hz3⟩ := elS.info
    have OWN : Hid ((u.alloc (.cells #[.string f.1] 9)).ownsRow W.heap.size 9 1 (.slice og ng kg) ng (enc 1 eS gone)) := by
      have h1 := Row.below GU2.out ((Below.refl _ _).alloc (Nat.le_refl _) (.cells #[.string f.1] 9))
      have h2 : gone.length = ng := by have := hgl.out; omega
      rw [Row, h2] at h1
      exact h1
    clear hneg
    go_wp2_with (at_builtin; refine wpList_append_own_at _ rfl _ _ 22 rfl W.heap.size 9 i0 zz 1 16 elS.ht hi hz0 hz1 hz2 hz3 (by decide) _ _ _ rfl OWN.out ⟨u.heap.size, 0, none⟩ 1 1 [.string f.1] rfl rfl (cell_one_new _ _ _) (by simp [Value.oneCell']) (by unfold maxLen; omega) (by omega) (by simp; omega) ?_; intro v' u8 hown hgr _ hbk'; have ROW : Row u8 W.heap.size 9 1 eS v' (gone ++ [f.1]) := (by show World.ownsRow _ _ _ _ _ _ _; rw [List.length_append, enc_append, show gone.length = ng by have := hgl.out; omega]; exact hown); have B8 : Below W.heap.size W u8 := (BU2.out.alloc su _).grown hgr (by simp; omega) (fun qq hq => by have := hlow.out qq hq; omega); obtain ⟨ov', kv', hv'⟩ := Row.form ROW; subst hv'; have ROWH : Hid (Row u8 W.heap.size 9 1 eS (.slice ov' (gone ++ [f.1]).length kv') (gone ++ [f.1])) := ROW; have B8H : Hid _ := B8; clear ROW hgr hbk' hown B8)
    go_roundw
    case rel => exact ⟨gone ++ [f.1], ov', kv', _, rfl, by have := hgl.out; omega, ⟨by simp, by simp⟩, (by have h := ROWH; rw [List.length_append] at h; exact h), fun x hx => by
      rcases List.mem_append.1 hx with h | h
      · exact hok.out x h
      · simp at h; rw [h]; exact z0, by
        show R = _
        rw [HMO.out, List.length_append, show Bs.length - (gone.length + [f.1].length) = Bs.length - gone.length - 1 by simp; omega], B8H⟩
    case measure => simp [lenV]; have := hgl.out; omega
end Go.Proofs.YtigkkelaadbhcabGreat

namespace Go.Proofs.YtigkkelaadbhcabGreat
open Go.RowKit Go.Sort
set_option maxRecDepth 100000 in
set_option maxHeartbeats 8000000 in
theorem safeZ_any (S : Nat → Prop) (T : List ByteArray) (Bs : List DShareBatch) (o0 oa : Option Addr) (n0 k0 nb kb : Nat) (w : World) (h0 : AtL S w T (.slice o0 n0 k0)) (h1 : AtL S w Bs (.slice oa nb kb)) (hS : ∀ b, S b → b < w.heap.size) :
    Calls Tryz.prog 35 #[.agg #[.slice o0 n0 k0, .slice oa nb kb]] w fun e w' => e = .returned (.bool (ordS (T, Bs)).2) ∧ Below w.heap.size w w' := by
  go_enter Tryz.func35, Tryz.ntmps35
  go_wp2_with fail
  refine (orderZ_any S T Bs _ _ _ _ _ _ _ (h0.same (Same.of_alloc w _ hS)) (h1.same (Same.of_alloc w _ hS)) (fun b hb => by have := hS b hb; simp; omega)).mono ?_; rintro e u ⟨q, rfl, _, hbu⟩
  go_wp2_with fail
  go_ret
  exact ⟨rfl, ((Below.refl _ _).alloc (Nat.le_refl _) _).trans (hbu.mono (by simp))⟩
end Go.Proofs.YtigkkelaadbhcabGreat

namespace Go.Proofs.YtigkkelaadbhcabGreat
open Go.RowKit Go.Sort
theorem runX_q (S : Nat → Prop) (nm : ByteArray) (r : List DRecPhase) (sl : List DRunSlot) (at_ : ByteArray) (si st : Int) (o1 o2 : Option Addr) (n1 k1 n2 k2 : Nat) (wr : World) (hn : nm.size ≤ maxLen) (hr : AtL S wr r (.slice o1 n1 k1)) (h : AtL S wr sl (.slice o2 n2 k2)) (hS : ∀ b, S b → b < wr.heap.size) (R : Bool) (hR : runB (nm, r, sl, at_, si, st) = R) (d : Nat) (os : Array Obj) :
    Calls Tryz.prog 37 #[.agg #[.string nm, .slice o1 n1 k1, .slice o2 n2 k2, .string at_, .int .i64 si, .int .i64 st]] (grow (redrawn wr d) os) fun e w'' => e = .returned (.bool R) ∧ ∃ p : Regrown, w'' = grow (redrawn wr p.d) p.os :=
  Calls.regrown_of ((runX_any S nm r sl at_ si st o1 o2 n1 k1 n2 k2 _ hn (hr.same (Same.of_below (below_regrown wr d os) hS)) (h.same (Same.of_below (below_regrown wr d os) hS)) (fun b hb => Nat.lt_of_lt_of_le (hS b hb) (below_regrown wr d os).size)).mono fun _ _ ⟨he, hw⟩ => ⟨by subst hR; exact he, hw⟩)
theorem ofX2_q (S : Nat → Prop) (now last : Int) (v2 v3 v5 : Value) (Ba : List DRunBatch) (oa : Option Addr) (nb kb : Nat) (x : ByteArray) (wr : World) (h : AtL S wr Ba (.slice oa nb kb)) (hS : ∀ b, S b → b < wr.heap.size) (R : Int) (hR : ofI Ba x = R) (d : Nat) (os : Array Obj) :
    Calls Tryz.prog 38 #[.agg #[.int .i64 now, .int .i64 last, v2, v3, .slice oa nb kb, v5], .string x] (grow (redrawn wr d) os) fun e w'' => e = .returned (.int .i64 R) ∧ ∃ p : Regrown, w'' = grow (redrawn wr p.d) p.os :=
  Calls.regrown_of ((ofX2_any S now last v2 v3 v5 Ba oa nb kb x _ (h.same (Same.of_below (below_regrown wr d os) hS)) (fun b hb => Nat.lt_of_lt_of_le (hS b hb) (below_regrown wr d os).size)).mono fun _ _ ⟨he, hw⟩ => ⟨by subst hR; exact he, hw⟩)
structure BatR (last : Int) (Ba : List DRunBatch) (i : Nat) (h : i < Ba.length) : Prop where
  run : runB Ba[i] = true
  start : Ba[i].2.2.2.2.2 ≤ last
  asc : ∀ m (hm : m < Ba.length), i = m + 1 → Ba[m].2.2.2.2.2 < Ba[i].2.2.2.2.2
  one : ofI Ba Ba[i].1 = (i : Int)
structure HouP (now last : Int) (T : List ByteArray) (Bs : List DShareBatch) (Ba : List DRunBatch) (Do : List DRunDone) : Prop where
  now_ : inB now 0 100000 = true
  last_ : inB last 0 1000000 = true
  safe : (ordS (T, Bs)).2 = true
  dones : donB now Do = true
  row : ∀ i (h : i < Ba.length), BatR last Ba i h
  shares : shaB Bs Ba = true
noncomputable def houB (now last : Int) (T : List ByteArray) (Bs : List DShareBatch) (Ba : List DRunBatch) (Do : List DRunDone) : Bool := @decide (HouP now last T Bs Ba Do) (Classical.propDecidable _)
theorem hou_yes {now last : Int} {T : List ByteArray} {Bs : List DShareBatch} {Ba : List DRunBatch} {Do : List DRunDone} (h : HouP now last T Bs Ba Do) : houB now last T Bs Ba Do = true := by unfold houB; exact @decide_eq_true _ (Classical.propDecidable _) h
theorem hou_no {now last : Int} {T : List ByteArray} {Bs : List DShareBatch} {Ba : List DRunBatch} {Do : List DRunDone} (h : ¬ HouP now last T Bs Ba Do) : houB now last T Bs Ba Do = false := by unfold houB; exact @decide_eq_false _ (Classical.propDecidable _) h
theorem hou_iff {now last : Int} {T : List ByteArray} {Bs : List DShareBatch} {Ba : List DRunBatch} {Do : List DRunDone} : houB now last T Bs Ba Do = true ↔ HouP now last T Bs Ba Do := by unfold houB; exact @decide_eq_true_iff _ (Classical.propDecidable _)
set_option maxRecDepth 100000 in
set_option maxHeartbeats 16000000 in
theorem houX_any (S : Nat → Prop) (now last : Int) (o2 o3 o4 o5 : Option Addr) (n2 k2 n3 k3 n4 k4 n5 k5 : Nat) (T : List ByteArray) (Bs : List DShareBatch) (Ba : List DRunBatch) (Do : List DRunDone) (w : World) (hT : AtL S w T (.slice o2 n2 k2)) (hB : AtL S w Bs (.slice o3 n3 k3)) (h : AtL S w Ba (.slice o4 n4 k4)) (hD : AtL S w Do (.slice o5 n5 k5)) (hS : ∀ b, S b → b < w.heap.size) :
    Calls Tryz.prog 16 #[.agg #[.int .i64 now, .int .i64 last, .slice o2 n2 k2, .slice o3 n3 k3, .slice o4 n4 k4, .slice o5 n5 k5]] w fun e w' => e = .returned (.bool (houB now last T Bs Ba Do)) ∧ Below w.heap.size w w' := by
  have en4 : Ba.length = n4 := by obtain ⟨_, _, e, _⟩ := h; cases e; rfl
  have hm4 : n4 ≤ 9223372036854775807 := by obtain ⟨_, _, e, hf, _⟩ := id h; cases e; have := hf.1; unfold maxLen at this; omega
  have EN : Hid (Ba.length ≤ n4 ∧ n4 ≤ Ba.length) := ⟨by omega, by omega⟩
  have H2 : Hid _ := hT.ups hS
  have H3 : Hid _ := hB.ups hS
  have H4 : Hid _ := h.ups hS
  have H5 : Hid _ := hD.ups hS
  have HS : Hid _ := lt_up hS
  obtain ⟨W, EW, BW, RW, sW⟩ := box_new w #[.int .i64 now, .int .i64 last, .slice o2 n2 k2, .slice o3 n3 k3, .slice o4 n4 k4, .slice o5 n5 k5] 38
  have BOX : Hid (∀ u, Below W.heap.size W u → u.heap[w.heap.size]? = some (.cells #[.int .i64 now, .int .i64 last, .slice o2 n2 k2, .slice o3 n3 k3, .slice o4 n4 k4, .slice o5 n5 k5] 38 (0, 0)) ∧ Below w.heap.size w u) := fun u hu => ⟨(hu.block _ (by omega)).trans RW.out, BW.out.trans (hu.mono (by omega))⟩
  clear h hT hB hD hS en4
  have h0 := fun u (hu : Below W.heap.size W u) => cell_row (BOX.out u hu).1
  have Y : Hid (∀ u, Below W.heap.size W u → u.cell? ⟨w.heap.size, 0, none⟩ = some (.int .i64 now) ∧ u.cell? ⟨w.heap.size, 1, none⟩ = some (.int .i64 last) ∧ u.cell? ⟨w.heap.size, 2, none⟩ = some (.slice o2 n2 k2) ∧ u.cell? ⟨w.heap.size, 3, none⟩ = some (.slice o3 n3 k3) ∧ u.cell? ⟨w.heap.size, 4, none⟩ = some (.slice o4 n4 k4) ∧ u.cell? ⟨w.heap.size, 5, none⟩ = some (.slice o5 n5 k5)) := fun u hu =>
    ⟨(h0 u hu 0 _ rfl).1, (h0 u hu 1 _ rfl).1, (h0 u hu 2 _ rfl).1, (h0 u hu 3 _ rfl).1, (h0 u hu 4 _ rfl).1, (h0 u hu 5 _ rfl).1⟩
  clear h0
  obtain ⟨V, hV⟩ : ∃ V, V = houB now last T Bs Ba Do := ⟨_, rfl⟩
  have YES : Hid (HouP now last T Bs Ba Do → V = true) := fun h => by rw [hV]; exact hou_yes h
  have NO : Hid (¬ HouP now last T Bs Ba Do → V = false) := fun h => by rw [hV]; exact hou_no h
  rw [← hV]
  clear hV
  obtain ⟨y0, y1, y2, y3, y4, y5⟩ := Y.out W (Below.refl _ _)
  go_enter Tryz.func16, Tryz.ntmps16
  go_upto_region 1 with fail
  rw [← EW.out]
  go_wp2_with fail
  refine (inX_any _ _ _ _).mono ?_; rintro e w1 ⟨rfl, rfl⟩
  cases c0 : inB now 0 100000
  · have er : V = false := NO.out (fun h => by have := h.now_; rw [c0] at this; cases this)
    clear y1 y2 y3 y4 y5
    go_wp2_with fail
    go_ret
    rw [er]
    exact ⟨rfl, BW.out⟩
  go_wp2_with fail
  refine (inX_any _ _ _ _).mono ?_; rintro e w2 ⟨rfl, rfl⟩
  cases c1 : inB last 0 1000000
  · have er : V = false := NO.out (fun h => by have := h.last_; rw [c1] at this; cases this)
    clear y2 y3 y4 y5
    go_wp2_with fail
    go_ret
    rw [er]
    exact ⟨rfl, BW.out⟩
  go_wp2_with fail
  refine (safeZ_any S T Bs o2 o3 n2 k2 n3 k3 w2 (H2.out _ BW.out) (H3.out _ BW.out) (HS.out _ BW.out)).mono ?_; rintro e w3 ⟨rfl, hb3⟩
  have B3 : Hid (Below w2.heap.size w2 w3) := hb3
  have BW3 : Hid (Below w.heap.size w w3) := (BOX.out w3 hb3).2
  clear y0 y1 y2 y3 y4 y5 hb3
  obtain ⟨y0, y1, y2, y3, y4, y5⟩ := Y.out w3 B3.out
  cases c2 : (ordS (T, Bs)).2
  · have er : V = false := NO.out (fun h => by have := h.safe; rw [c2] at this; cases this)
    clear y0 y1 y2 y3 y4 y5
    go_wp2_with fail
    go_ret
    rw [er]
    exact ⟨rfl, BW3.out⟩
  go_wp2_with fail
  refine (donX_any S now last o2 o3 o4 o5 n2 k2 n3 k3 n4 k4 n5 k5 Do w3 (H5.out _ BW3.out) (HS.out _ BW3.out)).mono ?_; rintro e w4 ⟨rfl, hb4⟩
  have B4 : Hid (Below w2.heap.size w2 w4) := B3.out.trans (hb4.mono B3.out.size)
  have BW4 : Hid (Below w.heap.size w w4) := (BOX.out w4 B4.out).2
  clear y0 y1 y2 y3 y4 y5 hb4
  cases c3 : donB now Do
  · have er : V = false := NO.out (fun h => by have := h.dones; rw [c3] at this; cases this)
    go_wp2_with fail
    go_ret
    rw [er]
    exact ⟨rfl, BW4.out⟩
  have TOP : Hid (inB now 0 100000 = true ∧ inB last 0 1000000 = true ∧ (ordS (T, Bs)).2 = true ∧ donB now Do = true) := ⟨c0, c1, c2, c3⟩
  clear c0 c1 c2 c3
  go_wp2_with fail
  go_loopw [3] (fun i wr => ∃ k : Nat, k ≤ n4 ∧ i = .int .i64 k ∧ Hid (∀ j (hj : j < Ba.length), j < k → BatR last Ba j hj) ∧ Hid (Below w2.heap.size w2 wr)) (fun i _ => n4 - (intOf i).toNat)
  case atStart => exact ⟨0, Nat.zero_le _, rfl, fun _ _ h => by omega, B4.out⟩
  case round =>
    obtain ⟨k, hk, rfl, hall, hbel⟩ := hrel
    have hs := hbel.out.size
    have BWR : Hid (Below w.heap.size w wr) := (BOX.out wr hbel.out).2
    obtain ⟨y0, y1, y2, y3, y4, y5⟩ := Y.out wr hbel.out
    by_cases hlt : k < n4
    case neg =>
      go_wp2_with fail
      refine (shaX_any S now last o2 o3 o4 o5 n2 k2 n3 k3 n4 k4 n5 k5 T Bs Ba wr (H2.out wr BWR.out) (H3.out wr BWR.out) (H4.out wr BWR.out) (HS.out wr BWR.out)).mono ?_; rintro e w9 ⟨rfl, hb9⟩
      have B9 : Hid (Below w.heap.size w w9) := BWR.out.trans (hb9.mono BWR.out.size)
      have er : V = shaB Bs Ba := by
        obtain ⟨t0, t1, t2, t3⟩ := TOP.out
        cases c : shaB Bs Ba with
        | false => exact NO.out (fun h => by have := h.shares; rw [c] at this; cases this)
        | true => exact YES.out ⟨t0, t1, t2, t3, fun i hi => hall.out i hi (by have := EN.out; omega), c⟩
      clear hb9 y0 y1 y2 y3 y4 y5
      go_wp2_with fail
      go_ret
      rw [er]
      exact ⟨rfl, B9.out⟩
    have hks : k < Ba.length := by have := EN.out; omega
    obtain ⟨b, off, p1, p2, m1, j1, m2, j2, rfl, hbS, e0, e1, e2, e3, e4, e5, z0, hr, hsl⟩ := rb_at (H4.out wr BWR.out) k hks
    have hbw := HS.out wr BWR.out b hbS
    obtain ⟨f, ef⟩ : ∃ f, Ba[k] = f := ⟨_, rfl⟩
    rw [ef] at e0 e3 e4 e5 z0 hr hsl
    obtain ⟨nm, r, sl, at_, si, st⟩ := f
    simp only at e0 e3 e4 e5 z0 hr hsl
    have EF : Hid (Ba[k] = (nm, r, sl, at_, si, st)) := ef
    have HZ : Hid (nm.size ≤ maxLen) := z0
    obtain ⟨X, hX⟩ : ∃ X, X = wr.alloc (.cells #[.string nm, .slice p1 m1 j1, .slice p2 m2 j2, .string at_, .int .i64 si, .int .i64 st] 52) := ⟨_, rfl⟩
    have EX : Hid (X = wr.alloc (.cells #[.string nm, .slice p1 m1 j1, .slice p2 m2 j2, .string at_, .int .i64 si, .int .i64 st] 52)) := hX
    have CX : Hid (Below wr.heap.size wr X) := by rw [hX]; exact (Below.refl _ _).alloc (Nat.le_refl _) _
    have BXX : Hid (Below w2.heap.size w2 X) := hbel.out.trans (CX.out.mono hs)
    have RX : Hid (X.heap[wr.heap.size]? = some (.cells #[.string nm, .slice p1 m1 j1, .slice p2 m2 j2, .string at_, .int .i64 si, .int .i64 st] 52 (0, 0))) := by rw [hX]; exact heap_alloc_new wr _
    have BDX : Hid (Below w.heap.size w X) := (BOX.out X BXX.out).2
    have HRX : Hid (AtL S X r (.slice p1 m1 j1)) := hr.same (Same.of_below CX.out (HS.out wr BWR.out))
    have HLX : Hid (AtL S X sl (.slice p2 m2 j2)) := hsl.same (Same.of_below CX.out (HS.out wr BWR.out))
    have HBX : Hid (AtL S X Ba (.slice (some ⟨b, off, none⟩) n4 k4)) := H4.out X BDX.out
    have HSX : Hid (∀ b, S b → b < X.heap.size) := HS.out X BDX.out
    clear ef z0 hr hsl hbS hX
    obtain ⟨x0, x1, x2, x3, x4, x5⟩ := Y.out X BXX.out
    have qh0 := fun d os => cell_regrown x0 d os
    have qh1 := fun d os => cell_regrown x1 d os
    have qh2 := fun d os => cell_regrown x2 d os
    have qh3 := fun d os => cell_regrown x3 d os
    have qh4 := fun d os => cell_regrown x4 d os
    have qh5 := fun d os => cell_regrown x5 d os
    have qb0 := fun d os => cell_regrown (cell_row RX.out 0 _ rfl).1 d os
    have qb1 := fun d os => cell_regrown (cell_row RX.out 1 _ rfl).1 d os
    have qb2 := fun d os => cell_regrown (cell_row RX.out 2 _ rfl).1 d os
    have qb3 := fun d os => cell_regrown (cell_row RX.out 3 _ rfl).1 d os
    have qb4 := fun d os => cell_regrown (cell_row RX.out 4 _ rfl).1 d os
    have qb5 := fun d os => cell_regrown (cell_row RX.out 5 _ rfl).1 d os
    go_upto_region 7 with fail
    rw [← EX.out]
    clear e0 e1 e2 e3 e4 e5 y0 y1 y2 y3 y4 y5 x0 x1 x2 x3 x4 x5
    cases c0 : runB (nm, r, sl, at_, si, st)
    · have er : V = false := NO.out (fun h => by
        have := (h.row k hks).run
        rw [EF.out, c0] at this
        cases this)
      go_wp2_with fail
      refine wp_region_quiet_below (by kernel_rfl) (by kernel_rfl) ?_
      repeat (first | go_big_quiet_step (first | (with_reducible exact runX_q S _ _ _ _ _ _ _ _ _ _ _ _ _ HZ.out HRX.out HLX.out HSX.out _ c0 _ _)) | quiet_step (first | (with_reducible exact runX_q S _ _ _ _ _ _ _ _ _ _ _ _ _ HZ.out HRX.out HLX.out HSX.out _ c0 _ _)))
      refine wpQuiet_nil ?_
      intro _ hw'
      obtain ⟨⟨dq, osq⟩, hw''⟩ := hw'
      subst hw''
      go_wp2_with fail
      go_ret
      rw [er]
      exact ⟨rfl, BDX.out.trans ((below_regrown X dq osq).mono BDX.out.size)⟩
    by_cases c1 : last < st
    · have er : V = false := NO.out (fun h => by
        have := (h.row k hks).start
        rw [EF.out] at this
        exact absurd (show st ≤ last from this) (by omega))
      go_wp2_with fail
      refine wp_region_quiet_below (by kernel_rfl) (by kernel_rfl) ?_
      repeat (first | go_big_quiet_step (first | (with_reducible exact runX_q S _ _ _ _ _ _ _ _ _ _ _ _ _ HZ.out HRX.out HLX.out HSX.out _ c0 _ _)) | quiet_step (first | (with_reducible exact runX_q S _ _ _ _ _ _ _ _ _ _ _ _ _ HZ.out HRX.out HLX.out HSX.out _ c0 _ _)))
      refine wpQuiet_nil ?_
      intro _ hw'
      obtain ⟨⟨dq, osq⟩, hw''⟩ := hw'
      subst hw''
      go_wp2_with fail
      go_ret
      rw [er]
      exact ⟨rfl, BDX.out.trans ((below_regrown X dq osq).mono BDX.out.size)⟩
    rcases Nat.eq_zero_or_pos k with rfl | hpos
    · obtain ⟨ov, cO⟩ : ∃ o, ofI Ba nm = o := ⟨_, rfl⟩
      by_cases c4 : ov = ((0 : Nat) : Int)
      · have cO : ofI Ba nm = ((0 : Nat) : Int) := cO.trans c4
        have HD : Hid (BatR last Ba (0) hks) := ⟨by rw [EF.out]; exact c0, by rw [EF.out]; show st ≤ last; omega, fun m hm e => by omega, by rw [EF.out]; exact cO⟩
        clear c4
        go_wp2_with fail
        refine wp_region_quiet_below (by kernel_rfl) (by kernel_rfl) ?_
        repeat (first | go_big_quiet_step (first | (with_reducible exact runX_q S _ _ _ _ _ _ _ _ _ _ _ _ _ HZ.out HRX.out HLX.out HSX.out _ c0 _ _) | (with_reducible exact ofX2_q S _ _ _ _ _ _ _ _ _ _ _ HBX.out HSX.out _ cO _ _)) | quiet_step (first | (with_reducible exact runX_q S _ _ _ _ _ _ _ _ _ _ _ _ _ HZ.out HRX.out HLX.out HSX.out _ c0 _ _) | (with_reducible exact ofX2_q S _ _ _ _ _ _ _ _ _ _ _ HBX.out HSX.out _ cO _ _)))
        refine wpQuiet_nil ?_
        intro _ hw'
        obtain ⟨⟨dq, osq⟩, hw''⟩ := hw'
        subst hw''
        go_wp2_with fail
        go_roundw
        case rel => exact ⟨0 + 1, by omega, by go_num, fun j hj hjk => by
          by_cases e : j = 0
          · subst e; exact HD.out
          · exact hall.out j hj (by omega), BXX.out.trans ((below_regrown X dq osq).mono BXX.out.size)⟩
        case measure => simp [intOf]; omega
      · have er : V = false := NO.out (fun h => by
          have := (h.row (0) hks).one
          rw [EF.out] at this
          exact c4 (cO.symm.trans this))
        have bn : (ov != 0) = true := by rw [bne_iff_ne]; intro e; exact c4 (by rw [e]; simp)
        have bn2 : (ov != ((0 : Nat) : Int)) = true := by rw [bne_iff_ne]; exact c4
        go_wp2_with fail
        refine wp_region_quiet_below (by kernel_rfl) (by kernel_rfl) ?_
        repeat (first | go_big_quiet_step (first | (with_reducible exact runX_q S _ _ _ _ _ _ _ _ _ _ _ _ _ HZ.out HRX.out HLX.out HSX.out _ c0 _ _) | (with_reducible exact ofX2_q S _ _ _ _ _ _ _ _ _ _ _ HBX.out HSX.out _ cO _ _)) | quiet_step (first | (with_reducible exact runX_q S _ _ _ _ _ _ _ _ _ _ _ _ _ HZ.out HRX.out HLX.out HSX.out _ c0 _ _) | (with_reducible exact ofX2_q S _ _ _ _ _ _ _ _ _ _ _ HBX.out HSX.out _ cO _ _)))
        refine wpQuiet_nil ?_
        intro _ hw'
        obtain ⟨⟨dq, osq⟩, hw''⟩ := hw'
        subst hw''
        go_wp2_with fail
        go_ret
        rw [er]
        exact ⟨rfl, BDX.out.trans ((below_regrown X dq osq).mono BDX.out.size)⟩
    · obtain ⟨m, rfl⟩ : ∃ m, k = m + 1 := ⟨k - 1, by omega⟩
      have hms : m < Ba.length := by omega
      obtain ⟨_, _, _, _, _, _, _, _, eo, _, _, _, _, _, _, d5, _⟩ := rb_at HBX.out m hms
      cases eo
      obtain ⟨pt, ept⟩ : ∃ p, Ba[m].2.2.2.2.2 = p := ⟨_, rfl⟩
      rw [ept] at d5
      have EP : Hid (Ba[m].2.2.2.2.2 = pt) := ept
      have qp := fun d os => cell_regrown d5 d os
      have gt0 : decide ((0 : Int) < ((m : Int) + 1)) = true := by rw [decide_eq_true_eq]; omega
      clear d5 ept
      by_cases c3 : st ≤ pt
      · have er : V = false := NO.out (fun h => by
          have := (h.row (m + 1) hks).asc m hms rfl
          rw [EF.out, EP.out] at this
          exact absurd (show pt < st from this) (by omega))
        go_wp2_with fail
        refine wp_region_quiet_below (by kernel_rfl) (by kernel_rfl) ?_
        repeat (first | go_big_quiet_step (first | (with_reducible exact runX_q S _ _ _ _ _ _ _ _ _ _ _ _ _ HZ.out HRX.out HLX.out HSX.out _ c0 _ _)) | quiet_step (first | (with_reducible exact runX_q S _ _ _ _ _ _ _ _ _ _ _ _ _ HZ.out HRX.out HLX.out HSX.out _ c0 _ _)))
        refine wpQuiet_nil ?_
        intro _ hw'
        obtain ⟨⟨dq, osq⟩, hw''⟩ := hw'
        subst hw''
        go_wp2_with fail
        go_ret
        rw [er]
        exact ⟨rfl, BDX.out.trans ((below_regrown X dq osq).mono BDX.out.size)⟩
      · obtain ⟨ov, cO⟩ : ∃ o, ofI Ba nm = o := ⟨_, rfl⟩
        by_cases c4 : ov = ((m + 1 : Nat) : Int)
        · have cO : ofI Ba nm = ((m + 1 : Nat) : Int) := cO.trans c4
          have HD : Hid (BatR last Ba (m + 1) hks) := ⟨by rw [EF.out]; exact c0, by rw [EF.out]; show st ≤ last; omega, fun m' hm e => by
              obtain rfl : m' = m := by omega
              rw [EF.out, EP.out]; show pt < st; omega, by rw [EF.out]; exact cO⟩
          clear c4
          go_wp2_with fail
          refine wp_region_quiet_below (by kernel_rfl) (by kernel_rfl) ?_
          repeat (first | go_big_quiet_step (first | (with_reducible exact runX_q S _ _ _ _ _ _ _ _ _ _ _ _ _ HZ.out HRX.out HLX.out HSX.out _ c0 _ _) | (with_reducible exact ofX2_q S _ _ _ _ _ _ _ _ _ _ _ HBX.out HSX.out _ cO _ _)) | quiet_step (first | (with_reducible exact runX_q S _ _ _ _ _ _ _ _ _ _ _ _ _ HZ.out HRX.out HLX.out HSX.out _ c0 _ _) | (with_reducible exact ofX2_q S _ _ _ _ _ _ _ _ _ _ _ HBX.out HSX.out _ cO _ _)))
          refine wpQuiet_nil ?_
          intro _ hw'
          obtain ⟨⟨dq, osq⟩, hw''⟩ := hw'
          subst hw''
          go_wp2_with fail
          go_roundw
          case rel => exact ⟨m + 1 + 1, by omega, by go_num, fun j hj hjk => by
            by_cases e : j = m + 1
            · subst e; exact HD.out
            · exact hall.out j hj (by omega), BXX.out.trans ((below_regrown X dq osq).mono BXX.out.size)⟩
          case measure => simp [intOf]; omega
        · have er : V = false := NO.out (fun h => by
            have := (h.row (m + 1) hks).one
            rw [EF.out] at this
            exact c4 (cO.symm.trans this))
          have bn : (ov != ((m : Int) + 1)) = true := by rw [bne_iff_ne]; intro e; exact c4 (by rw [e]; simp)
          have bn2 : (ov != ((m + 1 : Nat) : Int)) = true := by rw [bne_iff_ne]; exact c4
          go_wp2_with fail
          refine wp_region_quiet_below (by kernel_rfl) (by kernel_rfl) ?_
          repeat (first | go_big_quiet_step (first | (with_reducible exact runX_q S _ _ _ _ _ _ _ _ _ _ _ _ _ HZ.out HRX.out HLX.out HSX.out _ c0 _ _) | (with_reducible exact ofX2_q S _ _ _ _ _ _ _ _ _ _ _ HBX.out HSX.out _ cO _ _)) | quiet_step (first | (with_reducible exact runX_q S _ _ _ _ _ _ _ _ _ _ _ _ _ HZ.out HRX.out HLX.out HSX.out _ c0 _ _) | (with_reducible exact ofX2_q S _ _ _ _ _ _ _ _ _ _ _ HBX.out HSX.out _ cO _ _)))
          refine wpQuiet_nil ?_
          intro _ hw'
          obtain ⟨⟨dq, osq⟩, hw''⟩ := hw'
          subst hw''
          go_wp2_with fail
          go_ret
          rw [er]
          exact ⟨rfl, BDX.out.trans ((below_regrown X dq osq).mono BDX.out.size)⟩
end Go.Proofs.YtigkkelaadbhcabGreat
