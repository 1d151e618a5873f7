/-
  Contracts of the program's PlantPrint: the text of a valid plant, and the empty text of any other.
-/
import Derived.Test.YtbdhlcfcmennjabDoorGe
import Derived.Test.YtbdhlcfcmennjabDoorZh
namespace Go.Proofs.YtbdhlcfcmennjabDoor
open Go.RowKit

/-- A line, its words written with one space between. -/
def lineOf (ws : List ByteArray) : List UInt8 := Lib.join (ws.map (·.data.toList)) [32] ++ [10]
def txt (L : List (List ByteArray)) : List UInt8 := (L.map lineOf).flatten
theorem txt_app (L M : List (List ByteArray)) : txt (L ++ M) = txt L ++ txt M := by simp [txt]
theorem txt_one (ws : List ByteArray) : txt [ws] = lineOf ws := by simp [txt]
theorem txt_acc (a : List (List ByteArray)) (g : Nat → List ByteArray) (n : Nat) : txt (accL a g n) = acc (txt a) (fun i => lineOf (g i)) n := by
  simp [txt, accL, acc, Function.comp_def]
theorem lineS (s : ByteArray) : lineOf (wS s) = lnS s := by simp [lineOf, wS, lnS, Lib.join, List.intercalate, tx]
theorem lineF (f : ByteArray × ByteArray) : lineOf (wF f) = lnF f := by simp [lineOf, wF, lnF, Lib.join, List.intercalate, tx]
theorem lineP (x : ByteArray × Int × ByteArray) : lineOf (wP x) = lnP x := by
  unfold wP lnP
  split <;> simp [lineOf, Lib.join, List.intercalate, tx]
theorem lineV (v : ByteArray × ByteArray × ByteArray × ByteArray) : lineOf (wV v) = lnV v := by simp [lineOf, wV, lnV, Lib.join, List.intercalate, tx]
theorem PD.txt_text (D : PD) : txt (D.r4 D.nv) = D.text := by
  simp only [PD.text, PD.l4, PD.l3, PD.l2, PD.l1, PD.r4, PD.r3, PD.r2, PD.r1, txt_acc, lineS, lineF, lineP, lineV]
  rfl
theorem txt_take (L : List (List ByteArray)) (k : Nat) (ws : List ByteArray) (h : L[k]? = some ws) : txt (L.take (k + 1)) = txt (L.take k) ++ lineOf ws := by
  rw [List.take_add_one, h, txt_app]; simp [txt]
theorem txt_le (L : List (List ByteArray)) (k : Nat) : (txt (L.take k)).length ≤ (txt L).length := by
  conv => rhs; rw [← List.take_append_drop k L]
  rw [txt_app, List.length_append]; omega

theorem PD.r4_five (D : PD) (n : Nat) : ∀ ws ∈ D.r4 n, ws.length ≤ 5 := by
  intro ws h
  simp only [PD.r4, PD.r3, PD.r2, PD.r1, accL, List.mem_append, List.mem_map, List.not_mem_nil, false_or] at h
  rcases h with ((⟨i, _, rfl⟩ | ⟨i, _, rfl⟩) | ⟨i, _, rfl⟩) | ⟨i, _, rfl⟩
  · simp [wS]
  · simp [wF]
  · unfold wP; split <;> simp
  · simp [wV]

theorem builder_below {T e : TypeId} {B b : Nat} {bs : List Value} {u u' : World} (h : Lib.IsBuilderF T e B b bs u) (hb : Below u.heap.size u u') : Lib.IsBuilderF T e B b bs u' := by
  have go : ∀ p, Lib.BuilderAtF T e B b p bs u → Lib.BuilderAtF T e B b p bs u' := fun p h => by
    have hlt := h.lt
    obtain ⟨hB, v, hv, hown, hne⟩ := h
    exact ⟨hB, v, (hb.block b hlt).trans hv, hown.kept (row := none) ⟨hb.os, hb.tape, hb.output, hb.size, fun k hk _ => hb.block k hk⟩ (Classical.em _), hne⟩
  rcases h with h | h
  · exact .inl (go _ h)
  · exact .inr (go _ h)
theorem RowAt.kept {w w' : World} {x : Value} {ws : List ByteArray} {b : Nat} (h : RowAt w x ws) (hk : Lib.OthersKept 5 (some b) w w') (hb : ∀ c, w.heap[b]? ≠ some (.cells c 9 (0, 0))) : RowAt w' x ws := by
  obtain ⟨g, hv, hg⟩ := h
  refine ⟨g, hv, hk g _ hg (fun e => ?_) (fun c fz e => ?_)⟩
  · simp only [Option.some.injEq] at e
    subst e; exact hb _ hg
  · simp at e
theorem own_kept {w w' : World} {B n b : Nat} {v : Value} {cs : List Value} (h : w.ownsRow B 22 1 v n cs) (hk : Lib.OthersKept 5 (some b) w w') (hb : ∀ c, w.heap[b]? ≠ some (.cells c 22 (0, 0))) : w'.ownsRow B 22 1 v n cs := by
  refine ⟨h.1, ?_⟩
  rcases h.2 with hn | ⟨g, cap, cur, hv, hB, hg, rest⟩
  · exact .inl hn
  · refine .inr ⟨g, cap, cur, hv, hB, hk g _ hg (fun e => ?_) (fun c fz e => ?_), rest⟩
    · simp only [Option.some.injEq] at e
      subst e; exact hb _ hg
    · simp at e
theorem builder_is {B b : Nat} {bs : List Value} {u : World} (h : Lib.IsBuilderF 57 5 B b bs u) : ∃ c, u.heap[b]? = some (.cells c 57 (0, 0)) := by
  rcases h with ⟨_, v, hv, _⟩ | ⟨_, v, hv, _⟩
  · exact ⟨_, hv⟩
  · exact ⟨_, hv⟩
/-- A cell of a list of rows. -/
theorem own_cell {w : World} {B n : Nat} {v : Value} {cs : List Value} (h : w.ownsRow B 22 1 v n cs) (k : Nat) (hk : k < n) (x : Value) (hx : cs[k]? = some x) : ∃ g cap, v = .slice (some ⟨g, 0, none⟩) n cap ∧ w.cell? ⟨g, k, none⟩ = some x := by
  rcases h.2 with ⟨_, hn⟩ | ⟨g, cap, cur, hv, hB, hg, h1, h2, h3, h4⟩
  · omega
  · refine ⟨g, cap, hv, ?_⟩
    rw [← h4, List.getElem?_take_of_lt (by omega)] at hx
    have : cur[k]? = some x := by simpa using hx
    exact (cell_row hg k x this).1

set_option maxRecDepth 100000 in
set_option maxHeartbeats 1000000 in
theorem printI_no (B : Nat) (v0 v1 v2 v3 : Value) (D : PD) (w : World) (h : PAt B w v0 v1 v2 v3 D) (hB : B ≤ w.heap.size) (hz : D.Sz) (hV : ¬ D.V) :
    Calls Tryd.prog 7 #[.agg #[v0, v1, v2, v3]] w fun e w' => e = .returned (.string (tx [])) ∧ Below w.heap.size w w' := by
  have H : Hid (∀ w', Below w.heap.size w w' → PAt B w' v0 v1 v2 v3 D) := fun w' hb => h.kept hb hB
  have hb0 : Hid (Below w.heap.size w (w.alloc (.cells #[v0, v1, v2, v3] 34))) := (Below.refl _ _).alloc (Nat.le_refl _) _
  clear h
  go_enter Tryd.func7, Tryd.ntmps7
  go_wp2_with fail
  refine (validI_any B v0 v1 v2 v3 D _ (H.out _ hb0.out) (by simp; omega) hz).mono ?_; rintro e w1 ⟨b, rfl, hi, hb1⟩
  have hb : b = false := by
    cases b
    · rfl
    · exact absurd (hi.1 rfl) hV
  subst hb
  go_wp2_with fail
  go_ret
  exact ⟨rfl, hb0.out.trans (hb1.mono (by simp))⟩

set_option maxRecDepth 100000 in
set_option maxHeartbeats 4000000 in
theorem printI_yes (B : Nat) (v0 v1 v2 v3 : Value) (D : PD) (w : World) (h : PAt B w v0 v1 v2 v3 D) (hB : B ≤ w.heap.size) (hz : D.Sz) (hV : D.V) (hT : Tb w) :
    Calls Tryd.prog 7 #[.agg #[v0, v1, v2, v3]] w fun e w' => e = .returned (.string (tx D.text)) ∧ Below w.heap.size w w' := by
  have H : Hid (∀ w', Below w.heap.size w w' → PAt B w' v0 v1 v2 v3 D) := fun w' hb => h.kept hb hB
  have hb0 : Hid (Below w.heap.size w (w.alloc (.cells #[v0, v1, v2, v3] 34))) := (Below.refl _ _).alloc (Nat.le_refl _) _
  clear h
  have HN : Hid D.Nm := hV.nm
  have HT : Hid (Tb w) := hT
  have HV : Hid D.V := hV
  clear hV hT
  go_enter Tryd.func7, Tryd.ntmps7
  go_wp2_with fail
  refine (validI_any B v0 v1 v2 v3 D _ (H.out _ hb0.out) (by simp; omega) hz).mono ?_; rintro e w1 ⟨b, rfl, hi, hb1⟩
  have hb : b = true := hi.2 HV.out
  subst hb
  have k1 : Hid (Below (w.heap.size + 1) (w.alloc (.cells #[v0, v1, v2, v3] 34)) w1) := hb1.mono (by simp)
  have q0 := box_in k1.out 0 _ rfl
  have q1 := box_in k1.out 1 _ rfl
  have q2 := box_in k1.out 2 _ rfl
  have q3 := box_in k1.out 3 _ rfl
  simp only [List.getElem_toArray, List.getElem_cons_zero, List.getElem_cons_succ] at q0 q1 q2 q3
  have s1 : w.heap.size + 1 ≤ w1.heap.size := by have := k1.out.size; simpa using this
  have kb : Hid (Below w1.heap.size w1 (w1.alloc (.cells #[.pointer none, .slice none 0 0] 57))) := (Below.refl _ _).alloc (Nat.le_refl _) _
  have kw : Hid (Below w.heap.size w (w1.alloc (.cells #[.pointer none, .slice none 0 0] 57))) := (below_end k1.out).trans (kb.out.mono (by omega))
  have p0 := cell_past q0 (by omega) (.cells #[.pointer none, .slice none 0 0] 57)
  have p1 := cell_past q1 (by omega) (.cells #[.pointer none, .slice none 0 0] 57)
  have p2 := cell_past q2 (by omega) (.cells #[.pointer none, .slice none 0 0] 57)
  have p3 := cell_past q3 (by omega) (.cells #[.pointer none, .slice none 0 0] 57)
  clear hi hb1
  go_wp2_with fail
  refine (lines_any B v0 v1 v2 v3 D _ (H.out _ kw.out) (by simp; omega) HN.out (HT.out.kept kw.out)).mono ?_; rintro e w2 ⟨v, cs, rfl, hown0, hrows0, hb2⟩
  have HB : Hid (Lib.IsBuilderF 57 5 w1.heap.size w1.heap.size [] w2) := builder_below (Lib.IsBuilderF.of (Lib.fresh_isBuilder 57 5 w1)) hb2
  have hs2 : w1.heap.size + 1 ≤ w2.heap.size := by have := hb2.size; simpa using this
  have k2 : Hid (Below w1.heap.size w1 w2) := kb.out.trans (hb2.mono (by simp))
  have HO : Hid (w2.ownsRow ((w1.alloc (.cells #[.pointer none, .slice none 0 0] 57)).heap.size + 1) 22 1 v (D.r4 D.nv).length cs) := hown0
  have HR : Hid (RowsAt w2 cs (D.r4 D.nv)) := hrows0
  have hlen : (D.r4 D.nv).length ≤ 52 := by
    have := HN.out.ns; have := HN.out.nf; have := HN.out.np; have := HN.out.nv
    rw [PD.r4_len]; omega
  obtain ⟨oa, cap, rfl⟩ : ∃ oa cap, v = .slice oa (D.r4 D.nv).length cap := by
    rcases hown0.2 with ⟨hv, hn⟩ | ⟨g, cp, cur, hv, _⟩
    · exact ⟨none, 0, by rw [hv, hn]⟩
    · exact ⟨_, cp, hv⟩
  clear hown0 hrows0 hb2
  obtain ⟨L, hL⟩ : ∃ L, L = D.r4 D.nv := ⟨_, rfl⟩
  rw [← hL] at HO HR hlen
  have HL : Hid (L = D.r4 D.nv) := hL
  have hT5 : Hid ((txt L).length ≤ 5000) := by
    show (txt L).length ≤ 5000
    rw [hL, PD.txt_text]; exact HN.out.l4 (Nat.le_refl _)
  have H5 : Hid (∀ ws ∈ L, ws.length ≤ 5) := by rw [hL]; exact D.r4_five _
  rw [← hL]
  clear hL
  go_wp2_with fail
  go_loopw [12] (fun i wr => ∃ k : Nat, k ≤ L.length ∧ i = .int .i64 k ∧ Hid (Lib.IsBuilderF 57 5 w1.heap.size w1.heap.size (Lib.byteCells (txt (L.take k))) wr) ∧ Hid (RowsAt wr cs L) ∧ Hid (wr.ownsRow ((w1.alloc (.cells #[.pointer none, .slice none 0 0] 57)).heap.size + 1) 22 1 (.slice oa L.length cap) L.length cs) ∧ Hid (Below w1.heap.size w1 wr)) (fun i _ => L.length - (intOf i).toNat)
  case atStart => exact ⟨0, Nat.zero_le _, rfl, HB, HR, HO, k2⟩
  case round =>
    obtain ⟨k, hk, rfl, hbu, hrows, hown, hbel⟩ := hrel
    have hsz := hbel.out.size
    by_cases hlt : k < L.length
    · obtain ⟨ws, hws⟩ : ∃ ws, L[k]? = some ws := ⟨_, List.getElem?_eq_getElem hlt⟩
      obtain ⟨x, hx, hrow⟩ := hrows.out k ws hws
      obtain ⟨g, cp, hv, hcell⟩ := own_cell hown.out k hlt x hx
      simp only [Value.slice.injEq, true_and] at hv
      obtain ⟨rfl, rfl⟩ := hv
      obtain ⟨bx, rfl, hbx⟩ := hrow
      have HX : Hid (wr.heap[bx]? = some (.cells (ws.map Value.string).toArray 9 (0, 0))) := hbx
      have hj : (lineOf ws).length ≤ 5000 := by
        have h1 := txt_le L (k + 1)
        rw [txt_take L k ws hws, List.length_append] at h1
        have := hT5.out; omega
      have hj0 : (Lib.join (ws.map (·.data.toList)) [32]).length + 1 ≤ 5000 := by simpa [lineOf] using hj
      have hj1 := txt_le L k
      have hws5 : Hid (L[k]? = some ws) := hws
      have h5 : ws.length ≤ 5 := H5.out ws (List.mem_of_getElem? hws)
      obtain ⟨J, hJ⟩ : ∃ J, J = tx (Lib.join (ws.map (·.data.toList)) [32]) := ⟨_, rfl⟩
      have hjs : J.size ≤ 5000 := by rw [hJ, tx_size]; omega
      have hJd : Hid (J.data.toList = Lib.join (ws.map (·.data.toList)) [32]) := by rw [hJ]; exact tx_data _
      have hjoin : Hid (Calls Tryd.prog 22 #[.slice (some ⟨bx, 0, none⟩) ws.length ws.length, .string ⟨#[32]⟩] wr fun e w' => e = .returned (.string J) ∧ Below wr.heap.size wr w') := by
        rw [hJ]
        exact Tryd.strings_Join bx 0 ws.length ws ⟨#[32]⟩ wr (fun j y hy => by rw [Nat.zero_add]; exact (cell_row HX.out j _ (by simp [hy])).1) (Array.getElem?_eq_some_iff.1 HX.out).1 (by omega) (Nat.le_refl _) (by show (Lib.join (ws.map (·.data.toList)) [32]).length ≤ 140737488355328; omega)
      clear hJ
      have H1 : Hid ((txt (L.take k)).length ≤ 5000) := Nat.le_trans hj1 hT5.out
      clear hbx hws hx hj hj0 hj1
      go_wp2_with fail
      refine hjoin.out.mono ?_; rintro e w3 ⟨rfl, hb3⟩
      have hbu3 : Hid (Lib.IsBuilderF 57 5 w1.heap.size w1.heap.size (Lib.byteCells (txt (L.take k))) w3) := builder_below hbu.out hb3
      have hrows3 : Hid (RowsAt w3 cs L) := hrows.out.below hb3
      have hown3 : Hid (w3.ownsRow _ 22 1 (.slice (some ⟨g, 0, none⟩) L.length cap) L.length cs) := own_below hown.out hb3
      have hbel3 : Hid (Below w1.heap.size w1 w3) := hbel.out.trans (hb3.mono hsz)
      have hs3 : w1.heap.size ≤ w3.heap.size := hbel3.out.size
      clear hb3
      go_wp2_with fail
      have hl4 : (Lib.byteCells (txt (L.take k))).length + (J ++ ⟨#[10]⟩).size ≤ 140737488355328 := by
        have := H1.out
        have e1 : (⟨#[10]⟩ : ByteArray).size = 1 := rfl
        rw [ByteArray.size_append]
        simp only [Lib.byteCells, List.length_map]
        omega
      refine (Tryd.Builder_WriteString_k w1.heap.size w1.heap.size _ _ w3 hbu3.out hl4 hs3).mono ?_; rintro e w4 ⟨rfl, hat, hb4, hk4⟩
      obtain ⟨cb, hcb⟩ := builder_is hbu3.out
      have hbu4 : Hid (Lib.IsBuilderF 57 5 w1.heap.size w1.heap.size (Lib.byteCells (txt (L.take (k + 1)))) w4) := by
        have e : Lib.byteCells (txt (L.take (k + 1))) = Lib.byteCells (txt (L.take k)) ++ Lib.strCells (J ++ ⟨#[10]⟩) := by
          rw [txt_take L k ws hws5.out, Lib.byteCells_append, Lib.strCells_eq]
          congr 1
          rw [ByteArray.data_append, Array.toList_append, hJd.out]; rfl
        rw [e]
        exact .inr hat
      have hrows4 : Hid (RowsAt w4 cs L) := fun j ys hy => by
        obtain ⟨x, hx, hr⟩ := hrows3.out j ys hy
        exact ⟨x, hx, hr.kept hk4 (fun c e => by rw [hcb] at e; simp at e)⟩
      have hown4 : Hid (w4.ownsRow _ 22 1 (.slice (some ⟨g, 0, none⟩) L.length cap) L.length cs) := own_kept hown3.out hk4 (fun c e => by rw [hcb] at e; simp at e)
      have hbel4 : Hid (Below w1.heap.size w1 w4) := hbel3.out.trans hb4
      clear hat hb4 hk4 hcb
      go_wp2_with fail
      go_roundw
      case rel => exact ⟨k + 1, by omega, by go_num, hbu4, hrows4, hown4, hbel4⟩
      case measure => simp [intOf]; omega
    · have hkn : k = L.length := by omega
      subst hkn
      rw [List.take_length] at hbu
      go_wp2_with fail
      refine (Tryd.Builder_String_any_k w1.heap.size w1.heap.size (txt L) wr hbu.out hsz).mono ?_; rintro e w3 ⟨rfl, _, hb3, _⟩
      have hF : Below w.heap.size w w3 := (below_end k1.out).trans ((hbel.out.trans hb3).mono (by omega))
      go_wp2_with fail
      go_ret
      exact ⟨by rw [← PD.txt_text, ← HL.out]; rfl, hF⟩

end Go.Proofs.YtbdhlcfcmennjabDoor
