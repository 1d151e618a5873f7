import Derived.Test.YtobchllaopdchaaVpc
import Derived.Test.YtobchllaopdchaaVmo
import Derived.Test.YtobchllaopdchaaXsu
import Derived.Test.YtobchllaopdchaaVpf
namespace Go.Proofs.Ytobchllaopdchaa
open Go.RowKit Go.Sort
theorem ow_names {nm : ByteArray} {r : List DRecPhase} {sl : List DRunSlot} {at_ : ByteArray} {si st : Int} {y : ByteArray} (h : totL sl ≤ 1048576) (hy : y ∈ owL (nm, r, sl, at_, si, st)) : y.size ≤ maxLen := by
  unfold owL at hy
  split at hy
  · exact th_names h hy
  · cases hy
theorem own_things (sl : List DRunSlot) (p : DRecPhase) : thL sl (ownL p.2.1 p.2.2.1 p.2.2.2.1) = thL sl (ofL p) := by
  refine asc_unique _ _ (both_asc _ _ List.Pairwise.nil) (both_asc _ _ List.Pairwise.nil) fun y => ?_
  unfold thL
  rw [both_memI, both_memI, List.mem_map, List.mem_map]
  constructor
  · rintro (h | ⟨z, hz, e⟩)
    · exact Or.inl h
    · exact Or.inr ⟨z, (own_mem p z).1 hz, e⟩
  · rintro (h | ⟨z, hz, e⟩)
    · exact Or.inl h
    · exact Or.inr ⟨z, (own_mem p z).2 hz, e⟩
theorem slotsV (kd : Int) (a b : ByteArray) (n wi : Int) (hk : kd = 1 ∨ kd = 2 ∨ kd = 3 ∨ kd = 4 ∨ kd = 5) : ∃ (t : TypeId) (v : Value) (fn : FuncId) (a0 : Value), phV kd a b n wi = .iface t v ∧ (∀ W, (Go.method 258 t v "loop.example/malthouse/impl.slots").run Try.prog W = .ok (fn, a0) W) ∧ (∀ W, (callFunc fn #[a0]).run Try.prog W = .ok (.enter fn #[a0]) W) ∧
    ∀ w : World, Calls Try.prog fn #[a0] w fun e w' => ∃ q, e = .returned q ∧ Row w' w.heap.size 9 1 eS q (ownL kd a b) ∧ Below w.heap.size w w' := by
  rcases hk with rfl | rfl | rfl | rfl | rfl
  · exact ⟨_, _, 103, .agg #[.string a], ph_1 a b n wi, fun W => by kernel_rfl, fun W => by kernel_rfl, fun w => by rw [own_1 a b (by decide)]; exact slotA_any a w⟩
  · exact ⟨_, _, 107, .agg #[.int .i64 n, .string a, .string b], ph_2 a b n wi, fun W => by kernel_rfl, fun W => by kernel_rfl, fun w => by rw [own_2]; exact slotM_any a b n w⟩
  · exact ⟨_, _, 103, .agg #[.string a], ph_3 a b n wi, fun W => by kernel_rfl, fun W => by kernel_rfl, fun w => by rw [own_1 a b (by decide)]; exact slotA_any a w⟩
  · exact ⟨_, _, 103, .agg #[.string a], ph_4 a b n wi, fun W => by kernel_rfl, fun W => by kernel_rfl, fun w => by rw [own_1 a b (by decide)]; exact slotA_any a w⟩
  · exact ⟨_, _, 103, .agg #[.string a], ph_5 a b n wi, fun W => by kernel_rfl, fun W => by kernel_rfl, fun w => by rw [own_1 a b (by decide)]; exact slotA_any a w⟩
set_option maxRecDepth 100000 in
set_option maxHeartbeats 8000000 in
theorem ownI_any (S : Nat → Prop) (nm : ByteArray) (r : List DRecPhase) (sl : List DRunSlot) (at_ : ByteArray) (si st : Int) (o1 o2 : Option Addr) (n1 k1 n2 k2 : Nat) (w : World) (hn : nm.size ≤ maxLen) (hr : AtL S w r (.slice o1 n1 k1)) (h : AtL S w sl (.slice o2 n2 k2)) (hS : ∀ b, S b → b < w.heap.size) (tr : totL r ≤ 1048576) (ts : totL sl ≤ 1048576) :
    Calls Try.prog 7 #[.agg #[.string nm, .slice o1 n1 k1, .slice o2 n2 k2, .string at_, .int .i64 si, .int .i64 st]] w fun e w' => ∃ q, e = .returned q ∧ Row w' w.heap.size 9 1 eS q (owL (nm, r, sl, at_, si, st)) ∧ Below w.heap.size w w' := by
  have HN : Hid (nm.size ≤ maxLen) := hn
  have TR : Hid (totL r ≤ 1048576) := tr
  have TS : Hid (totL sl ≤ 1048576) := ts
  obtain ⟨G, hG⟩ : ∃ G, G = owL (nm, r, sl, at_, si, st) := ⟨_, rfl⟩
  rw [← hG]
  have TG : Hid (G = if runB (nm, r, sl, at_, si, st) = true then thL sl (ofL (phX r at_)) else []) := hG
  clear hG
  obtain ⟨W, EW, BW, RW, sW⟩ := box_new w #[.string nm, .slice o1 n1 k1, .slice o2 n2 k2, .string at_, .int .i64 si, .int .i64 st] 32
  have BOX : Hid (∀ u, Below W.heap.size W u → u.heap[w.heap.size]? = some (.cells #[.string nm, .slice o1 n1 k1, .slice o2 n2 k2, .string at_, .int .i64 si, .int .i64 st] 32 (0, 0)) ∧ Below w.heap.size w u) := fun u hu => ⟨(hu.block _ (by omega)).trans RW.out, BW.out.trans (hu.mono (by omega))⟩
  have HR : Hid _ := hr.ups hS
  have HA : Hid _ := h.ups hS
  have HS : Hid _ := lt_up hS
  have h0 := fun u (hu : Below W.heap.size W u) => cell_row (BOX.out u hu).1
  have Y : Hid (∀ u, Below W.heap.size W u → u.cell? ⟨w.heap.size, 0, none⟩ = some (.string nm) ∧ u.cell? ⟨w.heap.size, 1, none⟩ = some (.slice o1 n1 k1) ∧ u.cell? ⟨w.heap.size, 2, none⟩ = some (.slice o2 n2 k2) ∧ u.cell? ⟨w.heap.size, 3, none⟩ = some (.string at_) ∧ u.cell? ⟨w.heap.size, 4, none⟩ = some (.int .i64 si) ∧ u.cell? ⟨w.heap.size, 5, none⟩ = some (.int .i64 st)) := fun u hu =>
    ⟨(h0 u hu 0 _ rfl).1, (h0 u hu 1 _ rfl).1, (h0 u hu 2 _ rfl).1, (h0 u hu 3 _ rfl).1, (h0 u hu 4 _ rfl).1, (h0 u hu 5 _ rfl).1⟩
  clear h0
  have PH : Hid (runB (nm, r, sl, at_, si, st) = true → ∃ (k : Nat), atI r at_ = (k : Int) ∧ k < n1 ∧ (phaseB (phX r at_) = true) ∧ ∃ b off, o1 = some ⟨b, off, none⟩ ∧ b < w.heap.size ∧ ∀ u, Below w.heap.size w u → u.cell? ⟨b, off + k * 8, none⟩ = some (.string (phX r at_).1) ∧ u.cell? ⟨b, off + k * 8 + 1, none⟩ = some (.int .i64 (phX r at_).2.1) ∧ u.cell? ⟨b, off + k * 8 + 2, none⟩ = some (.string (phX r at_).2.2.1) ∧ u.cell? ⟨b, off + k * 8 + 3, none⟩ = some (.string (phX r at_).2.2.2.1) ∧ u.cell? ⟨b, off + k * 8 + 4, none⟩ = some (.int .i64 (phX r at_).2.2.2.2.1) ∧ u.cell? ⟨b, off + k * 8 + 5, none⟩ = some (.int .i64 (phX r at_).2.2.2.2.2.1) ∧ u.cell? ⟨b, off + k * 8 + 6, none⟩ = some (.string (phX r at_).2.2.2.2.2.2.1) ∧ u.cell? ⟨b, off + k * 8 + 7, none⟩ = some (.string (phX r at_).2.2.2.2.2.2.2)) := fun hb => by
    have hR : RecP r := (run_rec hb).1
    have h0 : 0 ≤ atI r at_ := by
      unfold runB at hb
      simp only [Bool.and_eq_true, decide_eq_true_eq] at hb
      exact hb.1.2
    rcases at_cases r at_ with e | ⟨k', hk', e, _⟩
    · omega
    obtain ⟨oa, cap, ev, _, hc⟩ := id hr
    obtain ⟨b, off, eo, hbS, cc, hcell, hat⟩ := hc k' hk'
    rw [width_DRecPhase] at hcell
    rw [at_DRecPhase, ← ph_at hk' e] at hat
    obtain ⟨⟨q0, _⟩, ⟨q1, _, _⟩, ⟨q2, _⟩, ⟨q3, _⟩, ⟨q4, _, _⟩, ⟨q5, _, _⟩, ⟨q6, _⟩, ⟨q7, _⟩⟩ := hat
    cases ev
    have hbb := hS b hbS
    refine ⟨k', e, hk', by rw [ph_at hk' e]; exact (step_of hR hk').1, b, off, eo, hbb, fun u hu => ?_⟩
    rw [← q0, ← q1, ← q2, ← q3, ← q4, ← q5, ← q6, ← q7]
    exact ⟨(hu.cell hbb).trans (hcell 0 (by omega)), (hu.cell hbb).trans (hcell 1 (by omega)), (hu.cell hbb).trans (hcell 2 (by omega)), (hu.cell hbb).trans (hcell 3 (by omega)), (hu.cell hbb).trans (hcell 4 (by omega)), (hu.cell hbb).trans (hcell 5 (by omega)), (hu.cell hbb).trans (hcell 6 (by omega)), (hu.cell hbb).trans (hcell 7 (by omega))⟩
  clear h hr hS hn tr ts
  obtain ⟨y0, y1, y2, y3, y4, y5⟩ := Y.out W (Below.refl _ _)
  have szW := BW.out.size
  go_enter Try.func7, Try.ntmps7
  go_upto_region 1 with fail
  rw [← EW.out]
  go_wp2_with fail
  refine (runI_any S nm r sl at_ si st o1 o2 n1 k1 n2 k2 W HN.out (HR.out _ BW.out) (HA.out _ BW.out) (HS.out _ BW.out) TR.out TS.out).mono ?_; rintro e w1 ⟨rfl, hb1⟩
  have B1 : Hid (Below W.heap.size W w1) := hb1
  have BW1 : Hid (Below w.heap.size w w1) := (BOX.out w1 hb1).2
  clear y0 y1 y2 y3 y4 y5 hb1
  obtain ⟨y0, y1, y2, y3, y4, y5⟩ := Y.out w1 B1.out
  cases c : runB (nm, r, sl, at_, si, st)
  · rw [c] at TG
    obtain rfl : G = [] := TG.out
    clear y0 y1 y2 y3 y4 y5 szW
    go_wp2_with fail
    go_ret
    exact ⟨_, rfl, Row.nil _ _ _ _ _, BW1.out⟩
  rw [c, if_pos rfl] at TG
  have HD : Hid ((sl.map (·.1)).Nodup) := run_dist c
  obtain ⟨k, hk, hkn, hph, b, off, rfl, hb, hx⟩ := PH.out c
  have HX : Hid _ := hx
  obtain ⟨p, hp⟩ : ∃ p, p = phX r at_ := ⟨_, rfl⟩
  rw [← hp] at HX TG hph
  have hG : G = thL sl (ofL p) := TG.out
  have hkd := kind_of hph
  have hz := ph_args hph
  rw [← own_things] at hG
  obtain ⟨pn, kd, pa, pb, pc, wi, th, el⟩ := p
  simp only at HX hG hkd hz
  obtain ⟨t, v, fn, a0, hv, hm, hcf, hc⟩ := slotsV kd pa pb pc wi hkd
  obtain ⟨L, hL⟩ : ∃ L, L = ownL kd pa pb := ⟨_, rfl⟩
  rw [← hL] at hG hc
  have hzz : ∀ x ∈ L, OkS x := fun x hx => by
    have : x.size ≤ 8 := by
      rw [hL] at hx
      unfold ownL at hx
      split at hx
      · rename_i h2
        rcases List.mem_cons.1 hx with rfl | hx
        · exact name_le hz.1
        · rcases List.mem_cons.1 hx with rfl | hx
          · exact name_le (hz.2 h2)
          · cases hx
      · rcases List.mem_cons.1 hx with rfl | hx
        · exact name_le hz.1
        · cases hx
    show x.size ≤ maxLen
    exact Nat.le_trans this (by decide)
  have HZ : Hid (∀ x ∈ L, OkS x) := hzz
  have HLL : Hid (L.length ≤ 100000) := by
    show _ ≤ _
    rw [hL]
    unfold ownL
    split <;> simp
  have HC : Hid _ := hc
  subst hG
  have CP : Hid (∀ u, Calls Try.prog 24 #[.agg #[.string pn, .int .i64 kd, .string pa, .string pb, .int .i64 pc, .int .i64 wi, .string th, .string el]] u fun e w' => e = .returned (.iface t v) ∧ Below u.heap.size u w') := fun u => by rw [← hv]; exact phasing_any pn pa pb th el kd pc wi u
  have CA : Hid (∀ u, Below w.heap.size w u → Calls Try.prog 44 #[.slice (some ⟨b, off, none⟩) n1 k1, .string at_] u fun e w' => e = .returned (.int .i64 (k : Int)) ∧ Below u.heap.size u w') := fun u hu => by rw [← hk]; exact phAt_any S r _ at_ u (HR.out u hu) (HS.out u hu)
  clear hL TG hk hp hv hc hph hkd hz hzz szW hx
  have HDR : Hid (Below w1.heap.size w1 w1.drew) := (Below.refl _ _).drew
  have CQ : Hid (∀ u, Below w.heap.size w u → Calls Try.prog 25 #[.agg #[.string nm, .slice (some ⟨b, off, none⟩) n1 k1, .slice o2 n2 k2, .string at_, .int .i64 si, .int .i64 st]] u fun e w' => e = .returned (.agg #[.string pn, .int .i64 kd, .string pa, .string pb, .int .i64 pc, .int .i64 wi, .string th, .string el]) ∧ Below u.heap.size u w') := fun u hu => by
    obtain ⟨x0, x1, x2, x3, x4, x5, x6, x7⟩ := HX.out u hu
    exact phaseM_any nm at_ si st b off n1 k1 k (.slice o2 n2 k2) pn pa pb th el kd pc wi u hkn (Nat.lt_of_lt_of_le hb hu.size) x0 x1 x2 x3 x4 x5 x6 x7 (fun u' hu' => CA.out u' (hu.trans (hu'.mono hu.size)))
  have q0 := fun d os => cell_regrown y0 d os
  have q1 := fun d os => cell_regrown y1 d os
  have q2 := fun d os => cell_regrown y2 d os
  have q3 := fun d os => cell_regrown y3 d os
  have q4 := fun d os => cell_regrown y4 d os
  have q5 := fun d os => cell_regrown y5 d os
  clear y0 y1 y2 y3 y4 y5
  go_wp2_with fail
  refine wp_region_mix 6 [0, 2] (by kernel_rfl) (by kernel_rfl) ?_
  simp only [List.filterMap_cons, List.filterMap_nil, List.getElem?_cons_succ, List.getElem?_cons_zero]
  repeat (first | go_big_quiet_step (fail) | quiet_step (fail))
  refine wpQuiet_nil ?_
  clear q0 q1 q2 q3 q4 q5
  have bdr : Hid (Below w.heap.size w w1.drew) := BW1.out.trans (HDR.out.mono BW1.out.size)
  refine call1 (md := .any) (f := 3) (i := 1) (dc := 7) (fn := 22) ⟨rfl, rfl, rfl, by decide⟩ (by kernel_rfl) ?run ((slotThings_any S sl nm at_ (.slice (some ⟨b, off, none⟩) n1 k1) (.slice o2 n2 k2) si st w1.drew (HA.out _ bdr.out) (HS.out _ bdr.out) HD.out ⟨_, _, _, rfl⟩).mono ?_)
  case run => go_simp
  rintro e u ⟨m, rfl, hm', hM, hb1⟩
  have MM : Hid (Mr u m (thO sl)) := hM
  have C1 : Hid (Below w1.heap.size w1 u) := HDR.out.trans (hb1.mono HDR.out.size)
  have BU : Hid (Below w.heap.size w u) := BW1.out.trans (C1.out.mono BW1.out.size)
  refine ⟨_, rfl, regrown_of_below C1.out, ?_⟩
  clear hb1 hM hm'
  simp only [Act.put, List.setIfInBounds_toArray, List.set_cons_zero, List.set_cons_succ]
  refine call1 (md := .any) (f := 2) (i := 3) (dc := 9) (fn := 25) ⟨rfl, rfl, rfl, by decide⟩ (by kernel_rfl) ?runp ((CQ.out u BU.out).mono ?_)
  case runp => go_simp
  rintro e u' ⟨rfl, hb1⟩
  have C1' : Hid (Below w1.heap.size w1 u') := C1.out.trans (hb1.mono C1.out.size)
  have BU' : Hid (Below w.heap.size w u') := BU.out.trans (hb1.mono BU.out.size)
  have MM' : Hid (Mr u' m (thO sl)) := MM.out.below hb1 MM.out.lt
  refine ⟨_, rfl, regrown_of_below C1'.out, ?_⟩
  clear hb1
  simp only [Act.put, List.setIfInBounds_toArray, List.set_cons_zero, List.set_cons_succ]
  refine call1 (md := .any) (f := 1) (i := 4) (dc := 10) (fn := 24) ⟨rfl, rfl, rfl, by decide⟩ (by kernel_rfl) ?run2 ((CP.out u').mono ?_)
  case run2 => go_simp
  rintro e u2 ⟨rfl, hb2⟩
  have C2 : Hid (Below w1.heap.size w1 u2) := C1'.out.trans (hb2.mono C1'.out.size)
  have BU2 : Hid (Below w.heap.size w u2) := BU'.out.trans (hb2.mono BU'.out.size)
  have M2 : Hid (Mr u2 m (thO sl)) := MM'.out.below hb2 MM'.out.lt
  refine ⟨_, rfl, regrown_of_below C2.out, ?_⟩
  clear hb2
  simp only [Act.put, List.setIfInBounds_toArray, List.set_cons_zero, List.set_cons_succ]
  refine call1 (md := .any) (f := 0) (i := 5) (dc := 11) (fn := fn) (args := #[a0]) ⟨rfl, rfl, rfl, by decide⟩ (by kernel_rfl) ?run3 (Calls.mono (HC.out u2) ?_)
  case run3 => go_simp
  rintro e u3 ⟨q, rfl, hrow, hb3⟩
  have C3 : Hid (Below w1.heap.size w1 u3) := C2.out.trans (hb3.mono C2.out.size)
  have BU3 : Hid (Below w.heap.size w u3) := BU2.out.trans (hb3.mono BU2.out.size)
  have M3 : Hid (Mr u3 m (thO sl)) := M2.out.below hb3 M2.out.lt
  have AL : Hid (AtL (fun b => u2.heap.size ≤ b ∧ b < u3.heap.size) u3 L q) := flatS.row_at hrow (fun g hg => World.ownsRow.lt hrow g hg) HZ.out
  refine ⟨_, rfl, regrown_of_below C3.out, ?_⟩
  clear hb3 hrow
  refine ⟨by kernel_rfl, ?_⟩
  simp only [List.drop_succ_cons, List.drop_zero, Act.put, List.setIfInBounds_toArray, List.set_cons_zero, List.set_cons_succ]
  have s2 := BU3.out.size
  go_wp2_with fail
  refine (things_any _ sl L q m u3 AL.out (fun b hb => hb.2) M3.out HLL.out (thing_small TS.out)).mono ?_; rintro e u4 ⟨q', rfl, hrow, hb4⟩
  have HO : Hid (Row u4 w.heap.size 9 1 eS q' (thL sl L)) := hrow.low s2
  have HB : Hid (Below w.heap.size w u4) := BU3.out.trans (hb4.mono s2)
  clear hrow hb4
  go_wp2_with fail
  go_ret
  exact ⟨_, rfl, HO.out, HB.out⟩
end Go.Proofs.Ytobchllaopdchaa
