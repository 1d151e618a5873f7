/-
  The program's RecPrint: the text of a recipe that is ok, the empty text of any other.
-/
import Derived.Test.YthonjmefjmbogacDoorXfp
namespace Go.Proofs.YthonjmefjmbogacDoor
open Go.RowKit

theorem row_pc8 {S : Nat → Prop} {w : World} {r : List DRecPhase} {b off cap : Nat} {n : Nat} (h : AtL S w r (.slice (some ⟨b, off, none⟩) n cap)) : ∀ k (hk : k < r.length),
    w.cell? ⟨b, off + k * 8, none⟩ = some (.string r[k].1) ∧ w.cell? ⟨b, off + k * 8 + 1, none⟩ = some (.int .i64 r[k].2.1) ∧ w.cell? ⟨b, off + k * 8 + 2, none⟩ = some (.string r[k].2.2.1) ∧ w.cell? ⟨b, off + k * 8 + 3, none⟩ = some (.string r[k].2.2.2.1)
    ∧ w.cell? ⟨b, off + k * 8 + 4, none⟩ = some (.int .i64 r[k].2.2.2.2.1) ∧ w.cell? ⟨b, off + k * 8 + 5, none⟩ = some (.int .i64 r[k].2.2.2.2.2.1) ∧ w.cell? ⟨b, off + k * 8 + 6, none⟩ = some (.string r[k].2.2.2.2.2.2.1) ∧ w.cell? ⟨b, off + k * 8 + 7, none⟩ = some (.string r[k].2.2.2.2.2.2.2) := by
  intro k hk
  obtain ⟨oa, cap', ev, hn, hc⟩ := h
  obtain ⟨b', off', hoo, _, cc, hcell, hat⟩ := hc k hk
  obtain ⟨ho1, _, _⟩ : some (⟨b, off, none⟩ : Addr) = oa ∧ n = r.length ∧ cap = cap' := by simpa using ev
  rw [← ho1] at hoo
  cases hoo
  rw [width_DRecPhase] at hcell
  rw [at_DRecPhase] at hat
  obtain ⟨⟨q0, _⟩, ⟨q1, _⟩, ⟨q2, _⟩, ⟨q3, _⟩, ⟨q4, _⟩, ⟨q5, _⟩, ⟨q6, _⟩, ⟨q7, _⟩⟩ := hat
  refine ⟨?_, ?_, ?_, ?_, ?_, ?_, ?_, ?_⟩
  · have := hcell 0 (by omega); rw [q0] at this; exact this
  · have := hcell 1 (by omega); rw [q1] at this; exact this
  · have := hcell 2 (by omega); rw [q2] at this; exact this
  · have := hcell 3 (by omega); rw [q3] at this; exact this
  · have := hcell 4 (by omega); rw [q4] at this; exact this
  · have := hcell 5 (by omega); rw [q5] at this; exact this
  · have := hcell 6 (by omega); rw [q6] at this; exact this
  · have := hcell 7 (by omega); rw [q7] at this; exact this

/-- A row of texts that is not empty: where it lies, and what strings.Join makes of it. -/
theorem join_any {w : World} {B : Nat} {v : Value} {ws : List ByteArray} (h : Row w B 9 1 eS v ws) (h0 : 0 < ws.length) (hz : ∀ s ∈ ws, s.size ≤ 8) (hl : ws.length ≤ 11) (hj : (Lib.join (ws.map (·.data.toList)) [32]).length ≤ 100) :
    Calls Tryd.prog 16 #[v, .string ⟨#[32]⟩] w fun e w' => e = .returned (.string (tx (Lib.join (ws.map (·.data.toList)) [32]))) ∧ Below w.heap.size w w' := by
  have hat := flatS.row_at h (S := fun g => g < w.heap.size) (fun g hg => (World.ownsRow.lt h g hg).2) (fun s hs => by have := hz s hs; show s.size ≤ maxLen; unfold maxLen; omega)
  rcases h.2 with ⟨_, hn⟩ | ⟨g, cap, cur, rfl, _, hg, hnc, _, _, _⟩
  · omega
  · refine Tryd.strings_Join g 0 cap ws ⟨#[32]⟩ w (fun j y hy => ?_) (Array.getElem?_eq_some_iff.1 hg).1 (by omega) hnc (by show (Lib.join (ws.map (·.data.toList)) [32]).length ≤ 140737488355328; omega)
    obtain ⟨hjl, rfl⟩ := List.getElem?_eq_some_iff.1 hy
    obtain ⟨oa, cap', ev, _, hc⟩ := hat
    obtain ⟨b, off, hoo, _, cc, hcell, ha⟩ := hc j hjl
    obtain ⟨ho1, _⟩ : some (⟨g, 0, none⟩ : Addr) = oa ∧ cap = cap' := by simpa using ev
    rw [← ho1] at hoo
    cases hoo
    have := hcell 0 (by show 0 < 1; omega)
    rw [ha.1, show Lay.width ByteArray = 1 from rfl] at this
    simpa using this

set_option maxRecDepth 100000 in
set_option maxHeartbeats 20000000 in
theorem printI_any (S : Nat → Prop) (r : List DRecPhase) (v : Value) (w : World) (h : AtL S w r v) (hS : ∀ b, S b → b < w.heap.size) (ht : totL r ≤ 1048576) (hT : Tb w) :
    Calls Tryd.prog 7 #[v] w fun e w' => e = .returned (.string (tx (recT r))) ∧ Below w.heap.size w w' := by
  have C : Hid _ := okI_any S r v w h hS ht
  have H : Hid (∀ u, Below w.heap.size w u → AtL S u r v) := fun u hu => h.same (Same.of_below hu hS)
  have TW : Hid (∀ u, Below w.heap.size w u → Tb u) := fun u hu => hT.kept hu
  clear h hT hS ht
  cases hr : recB r
  · have e : recT r = [] := by unfold recT; rw [hr]; rfl
    rw [e]
    rw [hr] at C
    go_enter Tryd.func7, Tryd.ntmps7
    go_wp2_with fail
    refine Calls.mono C.out ?_; rintro e w1 ⟨rfl, hb1⟩
    go_wp2_with fail
    go_ret
    exact ⟨rfl, hb1⟩
  · have e : recT r = txt (r.map wdP) := by unfold recT; rw [hr]; rfl
    rw [e]
    rw [hr] at C
    have HR : Hid (RecP r) := rec_iff.1 hr
    have hlr := HR.out.1
    obtain ⟨n, en⟩ : ∃ n, r.length = n := ⟨_, rfl⟩
    have EN : Hid (r.length = n) := en
    obtain ⟨b, off, cap, rfl⟩ : ∃ b off cap, v = .slice (some ⟨b, off, none⟩) n cap := by
      obtain ⟨oa, cap, ev, hx⟩ := H.out w (Below.refl _ _)
      obtain ⟨b, off, hoo, _⟩ := hx.2 0 (by omega)
      exact ⟨b, off, cap, by rw [ev, hoo, en]⟩
    rw [en] at hlr
    clear e en
    have PC : Hid (∀ u, Below w.heap.size w u → ∀ k (hk : k < r.length), _) := fun u hu => row_pc8 (H.out u hu)
    have LE : Hid (∀ k, (txt ((r.map wdP).take k)).length ≤ 1200) := fun k => by
      have h1 := txt_le (r.map wdP) k
      have h2 := txt_len r (ph_mem HR.out)
      have := HR.out.1
      omega
    clear H
    go_enter Tryd.func7, Tryd.ntmps7
    go_wp2_with fail
    refine Calls.mono C.out ?_; rintro e w1 ⟨rfl, hb1⟩
    have B1 : Hid (Below w.heap.size w w1) := hb1
    clear hb1 C
    have BB : Hid (∀ u, Below w1.heap.size w1 u → Below w.heap.size w u) := fun u hu => B1.out.trans (hu.mono B1.out.size)
    have kb : Hid (Below w1.heap.size w1 (w1.alloc (.cells #[.pointer none, .slice none 0 0] 39))) := (Below.refl _ _).alloc (Nat.le_refl _) _
    have HB : Hid (Lib.IsBuilderF 39 5 w1.heap.size w1.heap.size (Lib.byteCells (txt ((r.map wdP).take 0))) (w1.alloc (.cells #[.pointer none, .slice none 0 0] 39))) := Lib.IsBuilderF.of (Lib.fresh_isBuilder 39 5 w1)
    go_wp2_with fail
    go_loopw [11] (fun i wr => ∃ k : Nat, k ≤ n ∧ i = .int .i64 k ∧ Hid (Lib.IsBuilderF 39 5 w1.heap.size w1.heap.size (Lib.byteCells (txt ((r.map wdP).take k))) wr) ∧ Hid (Below w1.heap.size w1 wr)) (fun i _ => n - (intOf i).toNat)
    case atStart => exact ⟨0, Nat.zero_le _, rfl, HB, kb⟩
    case round =>
      clear HB kb
      obtain ⟨k, hk, rfl, hbu, hbel⟩ := hrel
      have hsz := hbel.out.size
      by_cases hlt : k < n
      · have hkr : k < r.length := by have := EN.out; omega
        have hph := (step_of HR.out hkr).1
        have WS : Hid (∀ s ∈ wdP r[k], s.size ≤ 8) := wd_size hph
        have PA : Hid _ := ph_all hph
        have hll := line_len hph
        have WLL : Hid ((r.map wdP)[k]? = some (wdP r[k])) := by show _ = _; rw [List.getElem?_map, List.getElem?_eq_getElem hkr]; rfl
        have hw11 : (wdP r[k]).length ≤ 11 := wd_len _ _ _ _ _ _ _ _
        have hw0 : 0 < (wdP r[k]).length := by unfold wdP wdL; simp
        have WDP : Hid (wdP r[k] = wdL r[k].1 r[k].2.1 r[k].2.2.1 r[k].2.2.2.1 r[k].2.2.2.2.1 r[k].2.2.2.2.2.1 r[k].2.2.2.2.2.2.1 r[k].2.2.2.2.2.2.2) := rfl
        obtain ⟨x0, x1, x2, x3, x4, x5, x6, x7⟩ := PC.out wr (BB.out _ hbel.out) k hkr
        obtain ⟨f, ef⟩ : ∃ f, r[k] = f := ⟨_, rfl⟩
        rw [ef] at x0 x1 x2 x3 x4 x5 x6 x7 WDP PA WS WLL hll hw11 hw0
        clear ef hph
        obtain ⟨nm, kd, a, b', n', wi, th, el⟩ := f
        simp only at x0 x1 x2 x3 x4 x5 x6 x7
        obtain ⟨ws, ews⟩ : ∃ ws, wdP (nm, kd, a, b', n', wi, th, el) = ws := ⟨_, rfl⟩
        rw [ews] at WDP WS WLL hll hw11 hw0
        clear ews
        have K0 : Hid (Below (wr.heap.size + 1) (wr.alloc (.cells #[.string nm, .int .i64 kd, .string a, .string b', .int .i64 n', .int .i64 wi, .string th, .string el] 33)) (wr.alloc (.cells #[.string nm, .int .i64 kd, .string a, .string b', .int .i64 n', .int .i64 wi, .string th, .string el] 33))) := Below.refl _ _
        have p0 := box_at _ _ K0.out 0 (.string nm) rfl
        have p1 := box_at _ _ K0.out 1 (.int .i64 kd) rfl
        have p2 := box_at _ _ K0.out 2 (.string a) rfl
        have p3 := box_at _ _ K0.out 3 (.string b') rfl
        have p4 := box_at _ _ K0.out 4 (.int .i64 n') rfl
        have p5 := box_at _ _ K0.out 5 (.int .i64 wi) rfl
        have p6 := box_at _ _ K0.out 6 (.string th) rfl
        have p7 := box_at _ _ K0.out 7 (.string el) rfl
        have bY : Hid (Below wr.heap.size wr (wr.alloc (.cells #[.string nm, .int .i64 kd, .string a, .string b', .int .i64 n', .int .i64 wi, .string th, .string el] 33))) := (Below.refl _ _).alloc (Nat.le_refl _) _
        have LI : Hid (Calls Tryd.prog 17 #[.agg #[.string nm, .int .i64 kd, .string a, .string b', .int .i64 n', .int .i64 wi, .string th, .string el]] (wr.alloc (.cells #[.string nm, .int .i64 kd, .string a, .string b', .int .i64 n', .int .i64 wi, .string th, .string el] 33)) fun e w' => ∃ v, e = .returned v ∧ Row w' wr.heap.size 9 1 eS v ws ∧ Below wr.heap.size wr w') := by
          obtain ⟨hz, _, hn, hw⟩ := PA.out
          refine (line_any nm kd a b' n' wi th el _ hn.1 hn.2 (by have := hw.1; simp only at this; omega) hw.2 (fun s hs => by have := hz s hs; omega) (TW.out _ (BB.out _ (hbel.out.trans (bY.out.mono hsz))))).mono ?_
          rintro e w' ⟨v, h1, h2, h3⟩
          exact ⟨v, h1, by rw [WDP.out]; exact Row.low h2 (by simp), bY.out.trans (h3.mono (by simp))⟩
        have hj : (Lib.join (ws.map (·.data.toList)) [32]).length ≤ 100 := by
          have : (lineOf ws).length = (Lib.join (ws.map (·.data.toList)) [32]).length + 1 := by simp [lineOf]
          omega
        obtain ⟨J, hJ⟩ : ∃ J, J = tx (Lib.join (ws.map (·.data.toList)) [32]) := ⟨_, rfl⟩
        have hjs : J.size ≤ 100 := by rw [hJ, tx_size]; exact hj
        have hJd : Hid (J.data.toList = Lib.join (ws.map (·.data.toList)) [32]) := by rw [hJ]; exact tx_data _
        have JO : Hid (∀ u v, Row u wr.heap.size 9 1 eS v ws → Calls Tryd.prog 16 #[v, .string ⟨#[32]⟩] u fun e w' => e = .returned (.string J) ∧ Below u.heap.size u w') := fun u v hv => by rw [hJ]; exact join_any hv hw0 WS.out hw11 hj
        clear hJ PA WDP hll hw11 hw0 WS hj
        go_wp2_with fail
        refine Calls.mono LI.out ?_; rintro e w2 ⟨vl, rfl, hrow, hb2⟩
        have hbu2 : Hid (Lib.IsBuilderF 39 5 w1.heap.size w1.heap.size (Lib.byteCells (txt ((r.map wdP).take k))) w2) := builder_below hbu.out hb2
        have hbel2 : Hid (Below w1.heap.size w1 w2) := hbel.out.trans (hb2.mono hsz)
        have JJ : Hid _ := JO.out w2 vl hrow
        clear hrow hb2 LI JO K0 p0 p1 p2 p3 p4 p5 p6 p7 bY
        go_wp2_with fail
        refine Calls.mono JJ.out ?_; rintro e w3 ⟨rfl, hb3⟩
        have hbu3 : Hid (Lib.IsBuilderF 39 5 w1.heap.size w1.heap.size (Lib.byteCells (txt ((r.map wdP).take k))) w3) := builder_below hbu2.out hb3
        have hbel3 : Hid (Below w1.heap.size w1 w3) := hbel2.out.trans (hb3.mono hbel2.out.size)
        have hs3 : w1.heap.size ≤ w3.heap.size := hbel3.out.size
        clear hb3 JJ
        have hl4 : (Lib.byteCells (txt ((r.map wdP).take k))).length + (J ++ ⟨#[10]⟩).size ≤ 140737488355328 := by
          have := LE.out k
          have e1 : (⟨#[10]⟩ : ByteArray).size = 1 := rfl
          rw [ByteArray.size_append]
          simp only [Lib.byteCells, List.length_map]
          omega
        have WR : Hid _ := Tryd.Builder_WriteString_k w1.heap.size w1.heap.size _ (J ++ ⟨#[10]⟩) w3 hbu3.out hl4 hs3
        clear hl4
        go_wp2_with fail
        refine Calls.mono WR.out ?_; rintro e w4 ⟨rfl, hat, hb4, hk4⟩
        have hbu4 : Hid (Lib.IsBuilderF 39 5 w1.heap.size w1.heap.size (Lib.byteCells (txt ((r.map wdP).take (k + 1)))) w4) := by
          have e : Lib.byteCells (txt ((r.map wdP).take (k + 1))) = Lib.byteCells (txt ((r.map wdP).take k)) ++ Lib.strCells (J ++ ⟨#[10]⟩) := by
            rw [txt_take (r.map wdP) k ws WLL.out, Lib.byteCells_append, Lib.strCells_eq]
            congr 1
            rw [ByteArray.data_append, Array.toList_append, hJd.out]; rfl
          rw [e]
          exact .inr hat
        have hbel4 : Hid (Below w1.heap.size w1 w4) := hbel3.out.trans hb4
        clear hat hb4 hk4
        go_wp2_with fail
        go_roundw
        case rel => exact ⟨k + 1, by omega, by go_num, hbu4, hbel4⟩
        case measure => simp [intOf]; omega
      · obtain rfl : n = k := by omega
        have hbuL : Hid (Lib.IsBuilderF 39 5 w1.heap.size w1.heap.size (Lib.byteCells (txt (r.map wdP))) wr) := by
          have := hbu.out
          rw [List.take_of_length_le (by rw [List.length_map, EN.out]; exact Nat.le_refl _)] at this
          exact this
        have ST : Hid _ := Tryd.Builder_String_any_k w1.heap.size w1.heap.size (txt (r.map wdP)) wr hbuL.out hsz
        go_wp2_with fail
        refine Calls.mono ST.out ?_; rintro e w3 ⟨rfl, _, hb3, _⟩
        have hF : Below w.heap.size w w3 := BB.out _ (hbel.out.trans hb3)
        go_wp2_with fail
        go_ret
        exact ⟨rfl, hF⟩

end Go.Proofs.YthonjmefjmbogacDoor
