/-
  The model's recall: which vessels, and then which outs, may hold any of a lot.
-/
import Derived.Test.YthleodbbppgadaaGreatMt
import Derived.Test.YthleodbbppgadaaGreatNb
namespace Go.Proofs.YthleodbbppgadaaGreat
open Go.RowKit

section
variable {α : Type}
/-- The names of those of some that may hold any of a lot. -/
def recF (nm : α → ByteArray) (may : α → List ByteArray) (x : ByteArray) (l : List α) : List ByteArray := (l.filter fun v => hasB (may v) x).map nm
theorem recF_yes {nm : α → ByteArray} {may : α → List ByteArray} {x : ByteArray} {l : List α} {k : Nat} (h : k < l.length) (hb : hasB (may l[k]) x = true) : recF nm may x (l.take (k + 1)) = recF nm may x (l.take k) ++ [nm l[k]] := by
  simp only [recF, List.take_add_one, List.getElem?_eq_getElem h, Option.toList_some, List.filter_append, List.map_append, List.filter_cons, hb, List.filter_nil, if_true, List.map_cons, List.map_nil]
theorem recF_no {nm : α → ByteArray} {may : α → List ByteArray} {x : ByteArray} {l : List α} {k : Nat} (h : k < l.length) (hb : hasB (may l[k]) x = false) : recF nm may x (l.take (k + 1)) = recF nm may x (l.take k) := by
  simp only [recF, List.take_add_one, List.getElem?_eq_getElem h, Option.toList_some, List.filter_append, List.filter_cons, hb, List.filter_nil, List.append_nil, Bool.false_eq_true, if_false]
theorem recF_len (nm : α → ByteArray) (may : α → List ByteArray) (x : ByteArray) (l : List α) : (recF nm may x l).length ≤ l.length := by
  unfold recF; rw [List.length_map]; exact List.length_filter_le _ _
theorem recF_mem {nm : α → ByteArray} {may : α → List ByteArray} {x y : ByteArray} {l : List α} (h : y ∈ recF nm may x l) : ∃ v ∈ l, y = nm v := by
  unfold recF at h
  obtain ⟨v, hv, rfl⟩ := List.mem_map.1 h
  exact ⟨v, (List.mem_filter.1 hv).1, rfl⟩
end
def recV (x : ByteArray) (l : List DStuffVessel) : List ByteArray := recF (fun v : DStuffVessel => v.1) (fun v => v.2.2.2) x l
def recO (x : ByteArray) (l : List DStuffOut) : List ByteArray := recF (fun v : DStuffOut => v.1) (fun v => v.2.2) x l
/-- All that may hold any of a lot. -/
noncomputable def recL (a : DStuffBook) (x : ByteArray) : List ByteArray := bif bookB a then recV x a.2.2.1 ++ recO x a.2.2.2 else []
theorem tot_lens {a : DStuffBook} (h : Lay.tot a ≤ 1048576) : a.2.2.1.length ≤ 1048576 ∧ a.2.2.2.length ≤ 1048576 := by
  have h1 := totL_len a.2.2.1
  have h2 := totL_len a.2.2.2
  have : Lay.tot a = Lay.tot a.1 + (Lay.tot a.2.1 + (Lay.tot a.2.2.1 + Lay.tot a.2.2.2)) := rfl
  have e1 : Lay.tot a.2.2.1 = totL a.2.2.1 := rfl
  have e2 : Lay.tot a.2.2.2 = totL a.2.2.2 := rfl
  omega
theorem ves_cells {S : Nat → Prop} {w : World} {l : List DStuffVessel} {oa : Option Addr} {cap : Nat} (h : AtL S w l (.slice oa l.length cap)) : ∀ i (h : i < l.length), ∃ b off, oa = some ⟨b, off, none⟩ ∧ S b ∧ w.cell? ⟨b, off + i * 4, none⟩ = some (.string l[i].1) ∧ ∃ v1 v2 v3, w.cell? ⟨b, off + i * 4 + 1, none⟩ = some v1 ∧ w.cell? ⟨b, off + i * 4 + 2, none⟩ = some v2 ∧ w.cell? ⟨b, off + i * 4 + 3, none⟩ = some v3 ∧ AtL S w l[i].2.2.2 v3 := by
  intro i hi
  obtain ⟨_, _, e, _, hc⟩ := h
  obtain ⟨b, off, h1, h2, c, h3, h4⟩ := hc i hi
  rw [at_DStuffVessel] at h4
  cases e
  have e0 := h3 0 (by decide)
  have e1 := h3 1 (by decide)
  have e2 := h3 2 (by decide)
  have e3 := h3 3 (by decide)
  rw [h4.1.1] at e0
  exact ⟨b, off, h1, h2, e0, _, _, _, e1, e2, e3, h4.2.2.2⟩
theorem out_cells {S : Nat → Prop} {w : World} {l : List DStuffOut} {oa : Option Addr} {cap : Nat} (h : AtL S w l (.slice oa l.length cap)) : ∀ i (h : i < l.length), ∃ b off, oa = some ⟨b, off, none⟩ ∧ S b ∧ w.cell? ⟨b, off + i * 3, none⟩ = some (.string l[i].1) ∧ ∃ v1 v2, w.cell? ⟨b, off + i * 3 + 1, none⟩ = some v1 ∧ w.cell? ⟨b, off + i * 3 + 2, none⟩ = some v2 ∧ AtL S w l[i].2.2 v2 := by
  intro i hi
  obtain ⟨_, _, e, _, hc⟩ := h
  obtain ⟨b, off, h1, h2, c, h3, h4⟩ := hc i hi
  rw [at_DStuffOut] at h4
  cases e
  have e0 := h3 0 (by decide)
  have e1 := h3 1 (by decide)
  have e2 := h3 2 (by decide)
  rw [h4.1.1] at e0
  exact ⟨b, off, h1, h2, e0, _, _, e1, e2, h4.2.2⟩

set_option maxRecDepth 100000 in
set_option maxHeartbeats 4000000 in
theorem recS_any (S : Nat → Prop) (a : DStuffBook) (c : Nat → Value) (x : ByteArray) (w : World) (h : Lay.At S w a c) (hS : ∀ b, S b → b < w.heap.size) (hl : Lay.tot a ≤ 1048576) :
    Calls Tryz.prog 6 #[.agg #[c 0, c 1, c 2, c 3], .string x] w fun e w' => ∃ r, e = .returned r ∧ Row w' w.heap.size 9 1 eS r (recL a x) ∧ Below w.heap.size w w' := by
  have hlen := tot_lens hl
  clear hl
  have HA : Hid (Lay.At S w a c) := h
  have h' := h
  rw [at_DStuffBook] at h'
  obtain ⟨_, _, h2, h3⟩ := h'
  obtain ⟨v0, u0⟩ : ∃ v, c 0 = v := ⟨_, rfl⟩
  obtain ⟨v1, u1⟩ : ∃ v, c 1 = v := ⟨_, rfl⟩
  obtain ⟨ov, cv, u2, hnv, _⟩ := id h2
  obtain ⟨oo, co, u3, hno, _⟩ := id h3
  rw [u2] at h2
  rw [u3] at h3
  have HV : Hid _ := ves_cells h2
  have HO : Hid _ := out_cells h3
  have HB : Hid (∀ w', Below w.heap.size w w' → Calls Tryz.prog 20 #[.agg #[c 0, c 1, c 2, c 3]] w' fun e w'' => e = .returned (.bool (bookB a)) ∧ Below w'.heap.size w' w'') := fun w' hb => bookS_any S a c w' (Lay.same HA.out (Same.of_below hb hS)) (fun b hb' => Nat.lt_of_lt_of_le (hS b hb') hb.size)
  rw [u0, u1, u2, u3] at HB
  rw [u0, u1, u2, u3]
  clear u0 u1 u2 u3 h h2 h3 HA
  obtain ⟨nv, env⟩ : ∃ n, a.2.2.1.length = n := ⟨_, rfl⟩
  obtain ⟨no, eno⟩ : ∃ n, a.2.2.2.length = n := ⟨_, rfl⟩
  rw [env] at hlen
  rw [eno] at hlen
  rw [env, eno] at HB
  rw [env, eno]
  have ENV : Hid (a.2.2.1.length = nv) := env
  have ENO : Hid (a.2.2.2.length = no) := eno
  clear env eno hnv hno
  have k0 : Hid (Below (w.heap.size + 1) (w.alloc (.cells #[v0, v1, .slice ov nv cv, .slice oo no co] 36)) ((w.alloc (.cells #[v0, v1, .slice ov nv cv, .slice oo no co] 36)).alloc (.cells #[] 9))) := (Below.refl _ _).alloc (by simp) _
  have r0 : Hid (Row ((w.alloc (.cells #[v0, v1, .slice ov nv cv, .slice oo no co] 36)).alloc (.cells #[] 9)) (w.heap.size + 1) 9 1 eS (.slice (some ⟨w.heap.size + 1, 0, none⟩) 0 0) ([] : List ByteArray)) := by
    have := Row.made (w.alloc (.cells #[v0, v1, .slice ov nv cv, .slice oo no co] 36)) (B := w.heap.size + 1) 9 1 eS (by simp)
    rwa [World.size_alloc] at this
  go_enter Tryz.func6, Tryz.ntmps6
  go_wp2_with fail
  refine (HB.out _ (below_end k0.out)).mono ?_
  rintro e w1 ⟨rfl, hb1⟩
  have k1 : Hid (Below (w.heap.size + 1) (w.alloc (.cells #[v0, v1, .slice ov nv cv, .slice oo no co] 36)) w1) := below_of k0.out hb1
  have r1 : Hid (Row w1 (w.heap.size + 1) 9 1 eS (.slice (some ⟨w.heap.size + 1, 0, none⟩) 0 0) ([] : List ByteArray)) := Row.below r0.out hb1
  clear hb1 r0 k0
  have s1 : w.heap.size + 1 ≤ w1.heap.size := by have := k1.out.size; simpa using this
  cases hB : bookB a
  · go_wp2_with fail
    go_ret
    refine ⟨_, rfl, ?_, below_end k1.out⟩
    unfold recL; rw [hB]
    exact Row.low r1.out (by omega)
  · have RL : Hid (recL a x = recV x a.2.2.1 ++ recO x a.2.2.2) := by show _ = _; unfold recL; rw [hB]; rfl
    clear hB
    go_wp2
    go_loopw [5, 6] (fun r i wr => ∃ k : Nat, k ≤ nv ∧ i = .int .i64 k ∧ Hid (Row wr (w.heap.size + 1) 9 1 eS r (recV x (a.2.2.1.take k))) ∧ Hid (Below (w.heap.size + 1) (w.alloc (.cells #[v0, v1, .slice ov nv cv, .slice oo no co] 36)) wr)) (fun _ i _ => nv - (intOf i).toNat)
    case atStart => exact ⟨0, Nat.zero_le _, rfl, r1, k1⟩
    case round =>
      obtain ⟨k, hk, rfl, hrow, hbel⟩ := hrel
      have hsz : w.heap.size + 1 ≤ wr.heap.size := by have := hbel.out.size; simpa using this
      have x0 := box_at _ _ hbel.out 0 v0 rfl
      have x1 := box_at _ _ hbel.out 1 v1 rfl
      have x2 := box_at _ _ hbel.out 2 (.slice ov nv cv) rfl
      have x3 := box_at _ _ hbel.out 3 (.slice oo no co) rfl
      by_cases hlt : k < nv
      · obtain ⟨b, off, rfl, hbS, c0, v1', v2', v3', _, _, c3, hm⟩ := HV.out k (by have := ENV.out; omega)
        have hbb := hS b hbS
        have d3 := ((below_end hbel.out).cell (p := ⟨b, off + k * 4 + 3, none⟩) hbb).trans c3
        have hm1 : Hid (AtL S wr _ v3') := hm.same (Same.of_below (below_end hbel.out) hS)
        have C0 : Hid (w.cell? ⟨b, off + k * 4, none⟩ = _) := c0
        clear c0 c3 hm
        have hY := recF_yes (nm := fun v : DStuffVessel => v.1) (may := fun v => v.2.2.2) (x := x) (l := a.2.2.1) (k := k) (by have := ENV.out; omega)
        have hN := recF_no (nm := fun v : DStuffVessel => v.1) (may := fun v => v.2.2.2) (x := x) (l := a.2.2.1) (k := k) (by have := ENV.out; omega)
        obtain ⟨f, ef⟩ : ∃ f, a.2.2.1[k]'(by have := ENV.out; omega) = f := ⟨_, rfl⟩
        rw [ef] at hm1 C0 hY hN
        have HYY : Hid _ := hY
        have HNN : Hid _ := hN
        clear hY hN ef
        go_wp2_with fail
        refine (hasS_any S _ _ x _ hm1.out).mono ?_
        rintro e w2 ⟨rfl, hb2⟩
        have k2 : Hid (Below (w.heap.size + 1) (w.alloc _) w2) := below_of hbel.out hb2
        have r2 : Hid (Row w2 (w.heap.size + 1) 9 1 eS _ (recV x (a.2.2.1.take k))) := Row.below hrow.out hb2
        have s2 : w.heap.size + 1 ≤ w2.heap.size := by have := k2.out.size; simpa using this
        have hlk : (recV x (a.2.2.1.take k)).length ≤ k := by have := recF_len (fun v : DStuffVessel => v.1) (fun v => v.2.2.2) x (a.2.2.1.take k); have := List.length_take_le k a.2.2.1; simp only [recV, recO] at *; omega
        clear hb2 hrow hbel hm1 d3 x0 x1 x2 x3
        have y0 := box_at _ _ k2.out 0 v0 rfl
        have y1 := box_at _ _ k2.out 1 v1 rfl
        have y2 := box_at _ _ k2.out 2 (.slice (some ⟨b, off, none⟩) nv cv) rfl
        have y3 := box_at _ _ k2.out 3 (.slice oo no co) rfl
        cases hh : hasB f.2.2.2 x
        · go_wp2_with fail
          go_roundw
          case rel => exact ⟨k + 1, by omega, by go_num, by have h1 := HNN.out hh; show Row _ _ _ _ _ _ _; simp only [recV, recO] at *; rw [h1]; exact r2.out, k2⟩
          case measure => simp [intOf]; omega
        · have d0 := ((below_end k2.out).cell (p := ⟨b, off + k * 4, none⟩) hbb).trans C0.out
          have hsr : Hid (Src (w2.alloc (.cells #[.string f.1] 9)) (.slice (some ⟨w2.heap.size, 0, none⟩) 1 1) 1 1 (enc 1 eS [f.1])) := ⟨rfl, .inr ⟨_, _, rfl, by exact cell_one_new _ _ _⟩⟩
          go_wp2_with (first
            | (at_builtin; refine wpList_app elS rfl _ _ rfl rfl rfl (r2.out.alloc _) hsr.out (flatS.enc_one _) (by unfold maxLen; omega) (by omega) (by simp; omega) ?_; intro v' w3 hown hg hbk))
          go_roundw
          case rel =>
            refine ⟨k + 1, by omega, by go_num, ?_, ((k2.out.alloc (by omega) _).grown hg (by simp; omega) (fun p hp => (World.ownsRow.lt r2.out p hp).1))⟩
            have h1 := HYY.out hh
            show Row _ _ _ _ _ _ _
            simp only [recV, recO] at *
            rw [h1]
            show World.ownsRow _ _ _ _ _ _ _
            rw [List.length_append, enc_append]
            exact hown
          case measure => simp [intOf]; omega
      · obtain rfl : nv = k := by omega
        have htk : Hid (a.2.2.1.take nv = a.2.2.1) := by show _ = _; rw [List.take_of_length_le (by have := ENV.out; omega)]
        go_wp2
        go_loopw [5, 7] (fun r i wr => ∃ k : Nat, k ≤ no ∧ i = .int .i64 k ∧ Hid (Row wr (w.heap.size + 1) 9 1 eS r (recV x a.2.2.1 ++ recO x (a.2.2.2.take k))) ∧ Hid (Below (w.heap.size + 1) (w.alloc (.cells #[v0, v1, .slice ov nv cv, .slice oo no co] 36)) wr)) (fun _ i _ => no - (intOf i).toNat)
        case atStart => exact ⟨0, Nat.zero_le _, rfl, by have := hrow.out; rw [htk.out] at this; simpa [Hid, recO, recF] using this, hbel⟩
        case round =>
          clear hrow hbel hsz htk x0 x1 x2 x3; obtain ⟨k, hk, rfl, hrow, hbel⟩ := hrel
          have hsz : w.heap.size + 1 ≤ wr.heap.size := by have := hbel.out.size; simpa using this
          have x0 := box_at _ _ hbel.out 0 v0 rfl
          have x1 := box_at _ _ hbel.out 1 v1 rfl
          have x2 := box_at _ _ hbel.out 2 (.slice ov nv cv) rfl
          have x3 := box_at _ _ hbel.out 3 (.slice oo no co) rfl
          by_cases hlt : k < no
          · obtain ⟨b, off, rfl, hbS, c0, v1', v2', _, c3, hm⟩ := HO.out k (by have := ENO.out; omega)
            have hbb := hS b hbS
            have d3 := ((below_end hbel.out).cell (p := ⟨b, off + k * 3 + 2, none⟩) hbb).trans c3
            have hm1 : Hid (AtL S wr _ v2') := hm.same (Same.of_below (below_end hbel.out) hS)
            have C0 : Hid (w.cell? ⟨b, off + k * 3, none⟩ = _) := c0
            clear c0 c3 hm
            have hY := recF_yes (nm := fun v : DStuffOut => v.1) (may := fun v => v.2.2) (x := x) (l := a.2.2.2) (k := k) (by have := ENO.out; omega)
            have hN := recF_no (nm := fun v : DStuffOut => v.1) (may := fun v => v.2.2) (x := x) (l := a.2.2.2) (k := k) (by have := ENO.out; omega)
            obtain ⟨f, ef⟩ : ∃ f, a.2.2.2[k]'(by have := ENO.out; omega) = f := ⟨_, rfl⟩
            rw [ef] at hm1 C0 hY hN
            have HYY : Hid _ := hY
            have HNN : Hid _ := hN
            clear hY hN ef
            go_wp2_with fail
            refine (hasS_any S _ _ x _ hm1.out).mono ?_
            rintro e w2 ⟨rfl, hb2⟩
            have k2 : Hid (Below (w.heap.size + 1) (w.alloc _) w2) := below_of hbel.out hb2
            have r2 : Hid (Row w2 (w.heap.size + 1) 9 1 eS _ (recV x a.2.2.1 ++ recO x (a.2.2.2.take k))) := Row.below hrow.out hb2
            have s2 : w.heap.size + 1 ≤ w2.heap.size := by have := k2.out.size; simpa using this
            have hlk : (recV x a.2.2.1 ++ recO x (a.2.2.2.take k)).length ≤ nv + k := by have := recF_len (fun v : DStuffOut => v.1) (fun v => v.2.2) x (a.2.2.2.take k); have := recF_len (fun v : DStuffVessel => v.1) (fun v => v.2.2.2) x a.2.2.1; have := ENV.out; have := List.length_take_le k a.2.2.2; simp only [List.length_append, recV, recO] at *; omega
            clear hb2 hrow hbel hm1 d3 x0 x1 x2 x3
            have y0 := box_at _ _ k2.out 0 v0 rfl
            have y1 := box_at _ _ k2.out 1 v1 rfl
            have y2 := box_at _ _ k2.out 2 (.slice ov nv cv) rfl
            have y3 := box_at _ _ k2.out 3 (.slice (some ⟨b, off, none⟩) no co) rfl
            cases hh : hasB f.2.2 x
            · go_wp2_with fail
              go_roundw
              case rel => exact ⟨k + 1, by omega, by go_num, by have h1 := HNN.out hh; show Row _ _ _ _ _ _ _; simp only [recV, recO] at *; rw [h1]; exact r2.out, k2⟩
              case measure => simp [intOf]; omega
            · have d0 := ((below_end k2.out).cell (p := ⟨b, off + k * 3, none⟩) hbb).trans C0.out
              have hsr : Hid (Src (w2.alloc (.cells #[.string f.1] 9)) (.slice (some ⟨w2.heap.size, 0, none⟩) 1 1) 1 1 (enc 1 eS [f.1])) := ⟨rfl, .inr ⟨_, _, rfl, by exact cell_one_new _ _ _⟩⟩
              go_wp2_with (first
                | (at_builtin; refine wpList_app elS rfl _ _ rfl rfl rfl (r2.out.alloc _) hsr.out (flatS.enc_one _) (by unfold maxLen; omega) (by omega) (by simp; omega) ?_; intro v' w3 hown hg hbk))
              go_roundw
              case rel =>
                refine ⟨k + 1, by omega, by go_num, ?_, ((k2.out.alloc (by omega) _).grown hg (by simp; omega) (fun p hp => (World.ownsRow.lt r2.out p hp).1))⟩
                have h1 := HYY.out hh
                show Row _ _ _ _ _ _ _
                simp only [recV, recO] at *
                rw [h1, ← List.append_assoc]
                show World.ownsRow _ _ _ _ _ _ _
                rw [List.length_append, enc_append]
                exact hown
              case measure => simp [intOf]; omega
          · obtain rfl : no = k := by omega
            have htk : Hid (a.2.2.2.take no = a.2.2.2) := by show _ = _; rw [List.take_of_length_le (by have := ENO.out; omega)]
            go_wp2
            go_ret
            refine ⟨_, rfl, ?_, below_end hbel.out⟩
            have := Row.low hrow.out (B' := w.heap.size) (by omega)
            rw [htk.out] at this
            rw [RL.out]
            exact this

end Go.Proofs.YthleodbbppgadaaGreat
