/-
  Lists of names in a list, marked name by name, and whether they still hold the marks.
-/
import Derived.Test.YtbdhlcfcmennjacGreatSg
namespace Go.Proofs.YtbdhlcfcmennjacGreat
open Go.RowKit

theorem pre_le (G : List (List ByteArray)) {i j : Nat} (h : i ≤ j) : pre G i ≤ pre G j := by
  induction j with
  | zero => have : i = 0 := by omega
            subst this; exact Nat.le_refl _
  | succ j ih =>
    by_cases e : i = j + 1
    · subst e; exact Nat.le_refl _
    · have := ih (by omega)
      simp only [pre]; omega

def RowM (w : World) (n g : Nat) : Prop := ∃ cur, w.heap[g]? = some (.cells cur 9 (0, 0)) ∧ n ≤ cur.size
def RowK (w : World) (n g : Nat) (k : Int) : Prop := ∃ cur, w.heap[g]? = some (.cells cur 9 (0, 0)) ∧ n ≤ cur.size ∧ ∀ j, j < n → cur[j]? = some (.string (mkT (k + j)))
theorem RowM.same {w w' : World} {n g : Nat} (h : RowM w n g) (e : w'.heap[g]? = w.heap[g]?) : RowM w' n g := by
  obtain ⟨c, h1, h2⟩ := h; exact ⟨c, e.trans h1, h2⟩
theorem RowM.lt {w : World} {n g : Nat} (h : RowM w n g) : g < w.heap.size := by
  obtain ⟨c, h1, _⟩ := h; exact (Array.getElem?_eq_some_iff.1 h1).1
theorem RowK.same {w w' : World} {n g : Nat} {k : Int} (h : RowK w n g k) (e : w'.heap[g]? = w.heap[g]?) : RowK w' n g k := by
  obtain ⟨c, h1, h2⟩ := h; exact ⟨c, e.trans h1, h2⟩

theorem own_other {B e size n : Nat} {w w' : World} {v : Value} {xs : List Value} (h : w.ownsRow B e size v n xs) (hk : ∀ k, v.ownBlock = some k → w'.heap[k]? = w.heap[k]?) : w'.ownsRow B e size v n xs := by
  refine ⟨h.1, ?_⟩
  rcases h.2 with hn | ⟨g, cap, cur, hv, hbg, hg, rest⟩
  · exact Or.inl hn
  · exact Or.inr ⟨g, cap, cur, hv, hbg, (hk g (by rw [hv]; rfl)).trans hg, rest⟩
theorem Outs.other {g : Nat} {w w' : World} (h : Outs g (g + 1) w w') {k : Nat} (hk : k < w.heap.size) (hne : k ≠ g) : w'.heap[k]? = w.heap[k]? := by
  by_cases e : k < g
  · exact h.bel.block k e
  · exact h.out k (by omega) hk

/-- Where the marking stands behind q lists. -/
structure MarkI (B : Nat) (w wr : World) (v : Value) (G : List (List ByteArray)) (us : List Value) (gs : List Nat) (q : Nat) : Prop where
  bel : Below B w wr
  own : wr.ownsRow B 61 1 v G.length us
  blk : ∀ i, i < G.length → RowM wr (nthL G i).length (nthG gs i)
  don : ∀ i, i < q → RowK wr (nthL G i).length (nthG gs i) (1 + (pre G i : Int))

theorem nod_ne {gs : List Nat} (h : gs.Nodup) {i j : Nat} (hi : i < gs.length) (hj : j < gs.length) (hne : i ≠ j) : nthG gs i ≠ nthG gs j := fun e => by
  have e1 : gs[i] = gs[j] := by simpa [nthG, hi, hj] using e
  exact hne ((List.getElem_inj h).1 e1)

theorem MarkI.step {B : Nat} {w wr w' : World} {v : Value} {G : List (List ByteArray)} {us : List Value} {gs : List Nat} {q : Nat} (h : MarkI B w wr v G us gs q) (hq : q < G.length) (hgl : gs.length = G.length) (hnod : gs.Nodup) (hB : B ≤ nthG gs q)
    (ho : Outs (nthG gs q) (nthG gs q + 1) wr w') (hc : RowK w' (nthL G q).length (nthG gs q) (1 + (pre G q : Int))) : MarkI B w w' v G us gs (q + 1) := by
  have oth : ∀ i, i < G.length → i ≠ q → w'.heap[nthG gs i]? = wr.heap[nthG gs i]? := fun i hi hne => ho.other (h.blk i hi).lt (nod_ne hnod (by omega) (by omega) hne)
  refine ⟨h.bel.trans (ho.bel.mono hB), own_other h.own fun k hk => ho.other ?_ ?_, fun i hi => ?_, fun i hi => ?_⟩
  · exact (h.own.lt k hk).2
  · rintro rfl
    obtain ⟨cur, hg, _⟩ := h.blk q hq
    rcases h.own.2 with ⟨rfl, _⟩ | ⟨g, cap', cur', rfl, _, hgg, _⟩
    · cases hk
    · simp only [Value.ownBlock, Option.some.injEq] at hk
      rw [← hk, hgg] at hg
      simp at hg
  · by_cases e : i = q
    · subst e; obtain ⟨c, h1, h2, _⟩ := hc; exact ⟨c, h1, h2⟩
    · exact (h.blk i hi).same (oth i hi e)
  · by_cases e : i = q
    · subst e; exact hc
    · exact (h.don i (by omega)).same (oth i (by omega) e)

/-- Lists that hold their marks, to read. -/
structure HeldR (B : Nat) (w : World) (v : Value) (G : List (List ByteArray)) (us : List Value) : Prop where
  out : Lst B w v G.length 1 (fun i _ => nthU us i)
  row : ∀ i, i < G.length → Lst B w (nthU us i) (nthL G i).length 1 (cS (mkF (1 + (pre G i : Int))))
theorem HeldR.kept {B B' : Nat} {w w' : World} {v : Value} {G : List (List ByteArray)} {us : List Value} (h : HeldR B w v G us) (hb : Below B' w w') (hB : B ≤ B') : HeldR B w' v G us := ⟨h.out.kept hb hB, fun i hi => (h.row i hi).kept hb hB⟩

theorem RowK.lst {w : World} {n g cap : Nat} {k : Int} (h : RowK w n g k) (hm : n ≤ 1048576) : Lst w.heap.size w (.slice (some ⟨g, 0, none⟩) n cap) n 1 (cS (mkF k)) := by
  obtain ⟨cur, hg, hs, hc⟩ := h
  refine ⟨_, _, rfl, by unfold maxLen; omega, fun i hi => ⟨g, 0, rfl, (Array.getElem?_eq_some_iff.1 hg).1, fun j hj => ?_⟩⟩
  have ej : j = 0 := by omega
  subst ej
  rw [Nat.zero_add, Nat.mul_one, Nat.add_zero]
  exact (cell_row hg i _ (hc i hi)).1

set_option maxRecDepth 100000 in
set_option maxHeartbeats 4000000 in
theorem markSets_any (B : Nat) (v : Value) (G : List (List ByteArray)) (us : List Value) (gs : List Nat) (w : World) (h : SetsO B w v G us gs) (hn : G.length ≤ 1048576) (hT : pre G G.length ≤ 1000000) :
    Calls Tryz.prog 16 #[v, .int .i64 1] w fun e w' => e = .returned (.int .i64 (1 + (pre G G.length : Int))) ∧ Below B w w' ∧ HeldR w'.heap.size w' v G us := by
  have hgl := h.gl
  have hul := h.ul
  have HN : Hid gs.Nodup := h.nod
  have HU : Hid (∀ i, i < G.length → ∃ cap, nthU us i = .slice (some ⟨nthG gs i, 0, none⟩) (nthL G i).length cap ∧ B ≤ nthG gs i) := fun i hi => by
    obtain ⟨cap, cur, hu, hb, _⟩ := h.row i hi
    exact ⟨cap, hu, hb⟩
  have M0 : Hid (MarkI B w w v G us gs 0) := ⟨Below.refl _ _, h.own, fun i hi => by obtain ⟨cap, cur, _, _, hg, hs, _⟩ := h.row i hi; exact ⟨cur, hg, hs⟩, fun i hi => by omega⟩
  obtain ⟨oa, ca, rfl, _, _⟩ := own_lst1 h.own h.ul hn
  clear h
  generalize hN : G.length = N at *
  go_enter Tryz.func16, Tryz.ntmps16
  go_wp2_with fail
  go_loopw [1, 5] (fun k i wr => ∃ q : Nat, q ≤ N ∧ k = .int .i64 (1 + (pre G q : Int)) ∧ i = .int .i64 q ∧ Hid (MarkI B w wr (.slice oa N ca) G us gs q)) (fun _ i _ => N - (intOf i).toNat)
  case atStart => exact ⟨0, Nat.zero_le _, by simp [pre], rfl, M0⟩
  case round =>
    obtain ⟨q, hq, rfl, rfl, hI⟩ := hrel
    by_cases hlq : q < N
    · have L := own_lst1 hI.out.own (by omega) (by omega)
      obtain ⟨oa', ca', hv, _, hc⟩ := L
      rw [hN] at hv hc
      cases hv
      obtain ⟨b, off, rfl, hbB, hc0⟩ := hc q hlq
      have zq := hc0 0 (by omega)
      simp only [Nat.mul_one, Nat.add_zero] at zq
      obtain ⟨cap, hu, hbg⟩ := HU.out q hlq
      have HBG : Hid (B ≤ nthG gs q) := hbg
      have HBK : Hid (RowM wr (nthL G q).length (nthG gs q)) := hI.out.blk q (by omega)
      have hpl := pre_le G (show q + 1 ≤ N by omega)
      simp only [pre] at hpl
      rw [hu] at zq
      clear hc hc0 hbg
      go_wp2_with fail
      obtain ⟨cur, hg, hs⟩ := HBK.out
      refine (mkS_any (nthG gs q) (nthG gs q + 1) (nthG gs q) (nthL G q).length cap cur.size _ cur wr hg rfl (Nat.le_refl _) (Nat.lt_succ_self _) hs (by omega) (by omega)).mono ?_; rintro e w3 ⟨rfl, ho, cur', hg', hs', hm'⟩
      have hI3 : Hid (MarkI B w w3 (.slice (some ⟨b, off, none⟩) N ca) G us gs (q + 1)) := by
        have := hI.out.step (by omega) (by omega) HN.out HBG.out ho ⟨cur', hg', by omega, hm'⟩
        exact this
      clear ho hg' hs' hm' hg hs zq
      go_wp2_with fail
      go_roundw
      case rel => exact ⟨q + 1, by omega, by simp only [pre, Value.int.injEq, true_and]; omega, by go_num, hI3⟩
      case measure => simp [intOf]; omega
    · have e : q = N := by omega
      subst e
      have hd : decide ((q : Int) < (q : Int)) = false := by simp
      go_wp2_with fail
      go_ret
      refine ⟨rfl, hI.out.bel, ?_, fun i hi => ?_⟩
      · have := own_lst1 hI.out.own (by omega) (by omega)
        rw [hN] at this ⊢; exact this
      · obtain ⟨cap, hu, _⟩ := HU.out i (by omega)
        rw [hu]
        exact (hI.out.don i (by omega)).lst (by have := pre_le G (show i + 1 ≤ q by omega); simp only [pre] at this; omega)

set_option maxRecDepth 100000 in
set_option maxHeartbeats 4000000 in
theorem heldSets_any (B : Nat) (v : Value) (G : List (List ByteArray)) (us : List Value) (w : World) (h : HeldR B w v G us) (hB : B ≤ w.heap.size) (hT : pre G G.length ≤ 1000000) :
    Calls Tryz.prog 17 #[v, .int .i64 1] w fun e w' => e = .returned (.int .i64 (1 + (pre G G.length : Int))) ∧ Below w.heap.size w w' := by
  have H : Hid (∀ w', Below w.heap.size w w' → HeldR B w' v G us) := fun w' hb => h.kept hb hB
  obtain ⟨oa, ca, rfl, hn, _⟩ := h.out
  unfold maxLen at hn
  clear h
  generalize hN : G.length = N at *
  go_enter Tryz.func17, Tryz.ntmps17
  go_wp2_with fail
  go_loopw [1, 5] (fun k i wr => ∃ q : Nat, q ≤ N ∧ k = .int .i64 (1 + (pre G q : Int)) ∧ i = .int .i64 q ∧ Hid (Below w.heap.size w wr)) (fun _ i _ => N - (intOf i).toNat)
  case atStart => exact ⟨0, Nat.zero_le _, by simp [pre], rfl, Below.refl _ _⟩
  case round =>
    obtain ⟨q, hq, rfl, rfl, hbel⟩ := hrel
    have hs := hbel.out.size
    by_cases hlq : q < N
    · have L := (H.out wr hbel.out).out
      have HL : Hid (Lst B wr (nthU us q) (nthL G q).length 1 (cS (mkF (1 + (pre G q : Int))))) := (H.out wr hbel.out).row q (by omega)
      obtain ⟨oa', ca', hv, _, hc⟩ := L
      rw [hN] at hv hc
      cases hv
      obtain ⟨b, off, rfl, hbB, hc0⟩ := hc q hlq
      have zq := hc0 0 (by omega)
      simp only [Nat.mul_one, Nat.add_zero] at zq
      have hpl := pre_le G (show q + 1 ≤ N by omega)
      simp only [pre] at hpl
      clear hc hc0
      go_wp2_with fail
      refine (heldS_lst B _ (nthL G q).length _ _ HL.out (by omega) (by omega) (by omega)).mono ?_; rintro e w3 ⟨rfl, hb3⟩
      have k3 : Hid (Below w.heap.size w w3) := hbel.out.trans (hb3.mono hs)
      have hd : decide (1 + (pre G q : Int) + ((nthL G q).length : Int) < 0) = false := by simp; omega
      clear hb3 zq
      go_wp2_with fail
      go_roundw
      case rel => exact ⟨q + 1, by omega, by simp only [pre, Value.int.injEq, true_and]; omega, by go_num, k3⟩
      case measure => simp [intOf]; omega
    · have e : q = N := by omega
      subst e
      go_wp2_with fail
      go_ret
      exact ⟨rfl, hbel.out⟩

end Go.Proofs.YtbdhlcfcmennjacGreat
