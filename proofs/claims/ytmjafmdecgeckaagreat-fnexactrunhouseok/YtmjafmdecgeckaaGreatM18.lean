/-
  Several texts in one.
-/
import Derived.Test.YtmjafmdecgeckaaGreatM11
import Derived.Test.YtmjafmdecgeckaaGreatM17
import Derived.Test.YtmjafmdecgeckaaGreatM4
import Derived.Test.YtmjafmdecgeckaaGreatM8
import Derived.Test.YtmjafmdecgeckaaGreatM16
/-
  Are the slots those of the recipe, each another thing? By the program.
-/
namespace Go.Proofs.YtmjafmdecgeckaaGreat
open Go.RowKit Go.Sort

theorem tot_el {α : Type} [Lay α] {l : List α} {m : Nat} (h : totL l ≤ m) {x : α} (hx : x ∈ l) : Lay.tot x ≤ m := by
  obtain ⟨i, hi, rfl⟩ := List.getElem_of_mem hx
  exact Nat.le_trans (totL_el l i hi) h
theorem thing_small {sl : List DRunSlot} (h : totL sl ≤ 1048576) : ∀ s ∈ sl, s.2.size ≤ 1048576 := fun s hs => by
  have := tot_el h hs
  rw [tot_DRunSlot] at this
  omega

set_option maxRecDepth 100000 in
set_option maxHeartbeats 8000000 in
theorem slotsOkP_any (S : Nat → Prop) (nm at_ : ByteArray) (r : List DRecPhase) (sl : List DRunSlot) (si st : Int) (o1 o2 : Option Addr) (n1 k1 n2 k2 : Nat) (w : World) (hr : AtL S w r (.slice o1 n1 k1)) (h : AtL S w sl (.slice o2 n2 k2)) (hS : ∀ b, S b → b < w.heap.size) (tr : totL r ≤ 1048576) (ts : totL sl ≤ 1048576) (hR : RecP r) :
    Calls Tryz.prog 91 #[.agg #[.string nm, .slice o1 n1 k1, .slice o2 n2 k2, .string at_, .int .i64 si, .int .i64 st]] w fun e w' => e = .returned (.bool (slB r sl)) ∧ Below w.heap.size w w' := by
  have en1 : r.length = n1 := by obtain ⟨_, _, e, _⟩ := hr; cases e; rfl
  have hr0 : 0 < r.length := by have := hR.1; omega
  have hn1 : 0 < n1 := by omega
  have HF := fst_at hr0
  obtain ⟨bb, off, rfl, hbb, e0⟩ : ∃ b off, o1 = some ⟨b, off, none⟩ ∧ b < w.heap.size ∧ w.cell? ⟨b, off, none⟩ = some (.string (fstN r)) := by
    obtain ⟨oa, cap, ev, _, hc⟩ := id hr
    obtain ⟨b, off, eo, hbS, cc, hcell, hat⟩ := hc 0 hr0
    rw [width_DRecPhase] at hcell
    rw [at_DRecPhase, HF] at hat
    cases ev
    exact ⟨b, off, eo, hS b hbS, (hcell 0 (by omega) : w.cell? ⟨b, off, none⟩ = some (cc 0)).trans (by rw [hat.1.1])⟩
  have hfs : (fstN r).size ≤ 1048576 := by
    have := tot_el tr (List.getElem_mem hr0)
    rw [tot_DRecPhase, HF] at this
    omega
  obtain ⟨W, hW⟩ : ∃ W, W = w.alloc (.cells #[.string nm, .slice (some ⟨bb, off, none⟩) n1 k1, .slice o2 n2 k2, .string at_, .int .i64 si, .int .i64 st] 50) := ⟨_, rfl⟩
  have EW : Hid (W = w.alloc (.cells #[.string nm, .slice (some ⟨bb, off, none⟩) n1 k1, .slice o2 n2 k2, .string at_, .int .i64 si, .int .i64 st] 50)) := hW
  have BW : Hid (Below w.heap.size w W) := by rw [hW]; exact (Below.refl _ _).alloc (Nat.le_refl _) _
  have RW : Hid (W.heap[w.heap.size]? = some (.cells #[.string nm, .slice (some ⟨bb, off, none⟩) n1 k1, .slice o2 n2 k2, .string at_, .int .i64 si, .int .i64 st] 50 (0, 0))) := by rw [hW]; exact heap_alloc_new w _
  have sW : w.heap.size + 1 ≤ W.heap.size := by rw [hW]; simp
  clear hW
  have BOX : Hid (∀ u, Below W.heap.size W u → u.heap[w.heap.size]? = some (.cells #[.string nm, .slice (some ⟨bb, off, none⟩) n1 k1, .slice o2 n2 k2, .string at_, .int .i64 si, .int .i64 st] 50 (0, 0)) ∧ Below w.heap.size w u) := fun u hu => ⟨(hu.block _ (by omega)).trans RW.out, BW.out.trans (hu.mono (by omega))⟩
  have HR : Hid (∀ u, Below w.heap.size w u → AtL S u r (.slice (some ⟨bb, off, none⟩) n1 k1)) := fun u hu => hr.same (Same.of_below hu hS)
  have HA : Hid (∀ u, Below w.heap.size w u → AtL S u sl (.slice o2 n2 k2)) := fun u hu => h.same (Same.of_below hu hS)
  have HS : Hid (∀ u, Below w.heap.size w u → ∀ b, S b → b < u.heap.size) := fun u hu b hb => Nat.lt_of_lt_of_le (hS b hb) hu.size
  have h0 := fun u (hu : Below W.heap.size W u) => cell_row (BOX.out u hu).1
  have Y : Hid (∀ u, Below W.heap.size W u → u.cell? ⟨w.heap.size, 0, none⟩ = some (.string nm) ∧ u.cell? ⟨w.heap.size, 1, none⟩ = some (.slice (some ⟨bb, off, none⟩) n1 k1) ∧ u.cell? ⟨w.heap.size, 2, none⟩ = some (.slice o2 n2 k2) ∧ u.cell? ⟨w.heap.size, 3, none⟩ = some (.string at_) ∧ u.cell? ⟨w.heap.size, 4, none⟩ = some (.int .i64 si) ∧ u.cell? ⟨w.heap.size, 5, none⟩ = some (.int .i64 st)) := fun u hu =>
    ⟨(h0 u hu 0 _ rfl).1, (h0 u hu 1 _ rfl).1, (h0 u hu 2 _ rfl).1, (h0 u hu 3 _ rfl).1, (h0 u hu 4 _ rfl).1, (h0 u hu 5 _ rfl).1⟩
  clear h0
  obtain ⟨L, hL⟩ : ∃ L, L = sltF 12 r (fstN r) := ⟨_, rfl⟩
  have hsl : slL r (fstN r) = L := by rw [hL]; unfold slL; rw [rec_yes hR]; rfl
  have hll : L.length ≤ 8192 := by rw [hL]; exact slt_small r (by omega) _
  have ASC : Hid (AscL L) := by rw [hL]; exact slt_asc r 12 _
  have TWO : Hid (slB r sl = true ↔ EqP L sl ∧ (thL sl L).length = L.length) := by rw [hL]; exact slB_two r sl
  have CS : Hid (∀ u, Below w.heap.size w u → Calls Tryz.prog 128 #[.slice (some ⟨bb, off, none⟩) n1 k1, .string (fstN r)] u fun e w' => ∃ q, e = .returned q ∧ OnL (fun b => u.heap.size ≤ b ∧ b < w'.heap.size) w' L q ∧ Below u.heap.size u w') := fun u hu => by
    rw [← hsl]; exact slotsI_any S r _ _ u (HR.out u hu) (HS.out u hu) tr hfs
  have TS : Hid (totL sl ≤ 1048576) := ts
  obtain ⟨R, hRR⟩ : ∃ R, R = slB r sl := ⟨_, rfl⟩
  rw [← hRR] at TWO ⊢
  clear hRR hL hsl h hr HF en1 hr0 hR tr ts hfs hS
  have e1 := (BW.out.cell (p := ⟨bb, off, none⟩) hbb).trans e0
  obtain ⟨y0, y1, y2, y3, y4, y5⟩ := Y.out W (Below.refl _ _)
  have q1 := fun d os => cell_regrown y1 d os
  have qe := fun d os => cell_regrown e1 d os
  have HDR : Hid (Below W.heap.size W W.drew) := (Below.refl _ _).drew
  clear y0 y1 y2 y3 y4 y5 e0 e1
  go_enter Tryz.func91, Tryz.ntmps91
  go_upto_region 1 with fail
  rw [← EW.out]
  refine wp_region_mix 7 [0, 1, 2, 3, 4, 5, 6] (by kernel_rfl) (by kernel_rfl) ?_
  simp only [List.filterMap_cons, List.filterMap_nil, List.getElem?_cons_succ, List.getElem?_cons_zero]
  repeat (first | go_big_quiet_step (fail) | quiet_step (fail))
  refine wpQuiet_nil ?_
  clear q1 qe
  have bdr : Hid (Below w.heap.size w W.drew) := BW.out.trans (HDR.out.mono BW.out.size)
  refine ⟨by kernel_rfl, ?_⟩
  simp only [List.drop_succ_cons, List.drop_zero]
  go_wp2_with fail
  refine (CS.out W.drew bdr.out).mono ?_; rintro e w1 ⟨q, rfl, hq, hb1⟩
  have B1 : Hid (Below W.heap.size W w1) := HDR.out.trans (hb1.mono HDR.out.size)
  have AL : Hid (AtL (fun b => w.heap.size ≤ b ∧ b < w1.heap.size) w1 L q) := hq.at_.up (fun b hb => ⟨Nat.le_trans bdr.out.size hb.1, hb.2⟩)
  obtain ⟨ol, cl, eq, _⟩ := id AL.out
  obtain ⟨nl, enl⟩ : ∃ n, L.length = n := ⟨_, rfl⟩
  have ENL : Hid (L.length ≤ nl ∧ nl ≤ L.length) := ⟨by omega, by omega⟩
  rw [enl] at eq hll
  subst eq
  clear hq hb1 enl
  have BW1 : Hid (Below w.heap.size w w1) := (BOX.out w1 B1.out).2
  obtain ⟨y0, y1, y2, y3, y4, y5⟩ := Y.out w1 B1.out
  go_wp2_with fail
  refine (eqf_any S _ sl L _ _ w1 (HA.out _ BW1.out) AL.out (HS.out _ BW1.out) (fun b hb => hb.2)).mono ?_; rintro e w2 ⟨rfl, hb2⟩
  have B2 : Hid (Below W.heap.size W w2) := B1.out.trans (hb2.mono B1.out.size)
  have C2 : Hid (Below w1.heap.size w1 w2) := hb2
  clear hb2 y0 y1 y2 y3 y4 y5
  have BW2 : Hid (Below w.heap.size w w2) := (BOX.out w2 B2.out).2
  obtain ⟨y0, y1, y2, y3, y4, y5⟩ := Y.out w2 B2.out
  cases c : eqPB L sl
  · have er : R = false := by
      cases hR : R with
      | false => rfl
      | true => have := (TWO.out.1 hR).1; rw [eqp_yes this] at c; cases c
    clear y0 y1 y2 y3 y4 y5
    go_wp2_with fail
    go_ret
    rw [er]
    exact ⟨rfl, BW2.out⟩
  have HE := eqp_iff.1 c
  have HD : Hid ((sl.map (·.1)).Nodup) := HE.dist ASC.out
  have TW : Hid (R = decide ((thL sl L).length = L.length)) := by
    show _ = _
    by_cases hl : (thL sl L).length = L.length
    · rw [decide_eq_true hl]; exact TWO.out.2 ⟨HE, hl⟩
    · rw [decide_eq_false hl]
      cases hR : R with
      | false => rfl
      | true => exact absurd (TWO.out.1 hR).2 hl
  clear HE
  go_wp2_with fail
  refine (slotThings_any S sl nm at_ _ _ si st w2 (HA.out _ BW2.out) (HS.out _ BW2.out) HD.out ⟨_, _, _, rfl⟩).mono ?_; rintro e w3 ⟨m, rfl, hm, hM, hb3⟩
  have MM : Hid (Mr w3 m (thO sl)) := hM
  have C3 : Hid (Below w1.heap.size w1 w3) := C2.out.trans (hb3.mono C2.out.size)
  have BW3 : Hid (Below w.heap.size w w3) := BW2.out.trans (hb3.mono BW2.out.size)
  clear hM hb3 hm y0 y1 y2 y3 y4 y5
  have AL3 : Hid (AtL (fun b => w.heap.size ≤ b ∧ b < w1.heap.size) w3 L (.slice ol nl cl)) := AL.out.same (Same.of_below C3.out (fun b hb => hb.2))
  have s3 := C3.out.size
  go_wp2_with fail
  refine (things_any _ sl L _ m w3 AL3.out (fun b hb => by omega) MM.out (by have := ENL.out; omega) (thing_small TS.out)).mono ?_; rintro e w4 ⟨q, rfl, hrow, hb4⟩
  obtain ⟨o5, c5, hf⟩ := Row.form hrow
  have BW4 : Hid (Below w.heap.size w w4) := BW3.out.trans (hb4.mono BW3.out.size)
  obtain ⟨nt, ent⟩ : ∃ n, (thL sl L).length = n := ⟨_, rfl⟩
  rw [show (bothL [] (L.map (thT sl))).length = nt from ent] at hf
  have hnt : nt ≤ nl := by have := thL_len sl L; have := ENL.out; omega
  have TF : Hid (R = decide (nt = nl)) := by rw [TW.out, ent]; show decide _ = decide _; congr 1; have := ENL.out; apply propext; omega
  subst hf
  clear hrow hb4 ent
  by_cases hl : nt = nl
  · have er : R = true := by rw [TF.out, decide_eq_true hl]
    subst hl
    go_wp2_with fail
    go_ret
    rw [er]
    exact ⟨rfl, BW4.out⟩
  · have er : R = false := by rw [TF.out, decide_eq_false hl]
    have hb : ((nt : Int) == (nl : Int)) = false := by rw [beq_eq_false_iff_ne]; omega
    go_wp2_with fail
    go_ret
    rw [er]
    exact ⟨rfl, BW4.out⟩

theorem th_names {sl : List DRunSlot} (h : totL sl ≤ 1048576) {l : List ByteArray} {y : ByteArray} (hy : y ∈ thL sl l) : y.size ≤ maxLen := by
  rcases both_mem _ _ _ hy with h1 | h1
  · cases h1
  · obtain ⟨z, _, rfl⟩ := List.mem_map.1 h1
    exact Nat.le_trans (thT_size (thing_small h) z) (by decide)

end Go.Proofs.YtmjafmdecgeckaaGreat

/-
  Is a batch ok? By the program.
-/
namespace Go.Proofs.YtmjafmdecgeckaaGreat
open Go.RowKit Go.Sort

theorem pace_in {si v : Int} (h : ¬ si = -1) : (decide (0 ≤ si) && decide (si < v)) = inB si (-1) (v - 1) := by
  have e : inB si (-1) (v - 1) = (decide (-1 ≤ si) && decide (si ≤ v - 1)) := by simp [inB]
  rw [e]
  by_cases h1 : 0 ≤ si
  · rw [decide_eq_true h1, decide_eq_true (by omega : -1 ≤ si)]
    simp only [Bool.true_and]
    congr 1
    exact propext ⟨fun _ => by omega, fun _ => by omega⟩
  · rw [decide_eq_false h1, decide_eq_false (by omega : ¬ -1 ≤ si)]
    rfl
theorem pace_q (nm at_ : ByteArray) (si st : Int) (o1 o2 : Option Addr) (n1 k1 n2 k2 : Nat) (wr : World) (d : Nat) (os : Array Obj) : Calls Tryz.prog 93 #[.agg #[.string nm, .slice o1 n1 k1, .slice o2 n2 k2, .string at_, .int .i64 si, .int .i64 st]] (grow (redrawn wr d) os) fun e w'' => e = .returned (paV si) ∧ ∃ p : Regrown, w'' = grow (redrawn wr p.d) p.os :=
  Calls.regrown_of (pace_any nm at_ si st o1 o2 n1 k1 n2 k2 _)
theorem fitsW_q (wi : Int) (wr : World) (d : Nat) (os : Array Obj) : Calls Tryz.prog 218 #[.agg #[], .int .i64 wi] (grow (redrawn wr d) os) fun e w'' => e = .returned (.bool true) ∧ ∃ p : Regrown, w'' = grow (redrawn wr p.d) p.os :=
  Calls.regrown_of (fitsW_any wi _)
theorem fitsG_q (si wi : Int) (I : Bool) (hI : (decide (0 ≤ si) && decide (si < wi)) = I) (wr : World) (d : Nat) (os : Array Obj) : Calls Tryz.prog 217 #[.agg #[.int .i64 si], .int .i64 wi] (grow (redrawn wr d) os) fun e w'' => e = .returned (.bool I) ∧ ∃ p : Regrown, w'' = grow (redrawn wr p.d) p.os :=
  Calls.regrown_of ((fitsG_any si wi _).mono fun _ _ ⟨he, hw⟩ => ⟨by subst hI; exact he, hw⟩)

set_option maxRecDepth 100000 in
set_option maxHeartbeats 8000000 in
theorem runI_any (S : Nat → Prop) (nm : ByteArray) (r : List DRecPhase) (sl : List DRunSlot) (at_ : ByteArray) (si st : Int) (o1 o2 : Option Addr) (n1 k1 n2 k2 : Nat) (w : World) (hn : nm.size ≤ maxLen) (hr : AtL S w r (.slice o1 n1 k1)) (h : AtL S w sl (.slice o2 n2 k2)) (hS : ∀ b, S b → b < w.heap.size) (tr : totL r ≤ 1048576) (ts : totL sl ≤ 1048576) :
    Calls Tryz.prog 57 #[.agg #[.string nm, .slice o1 n1 k1, .slice o2 n2 k2, .string at_, .int .i64 si, .int .i64 st]] w fun e w' => e = .returned (.bool (runB (nm, r, sl, at_, si, st))) ∧ Below w.heap.size w w' := by
  have hm : ∀ W, (Go.method 376 135 (.agg #[.int .i64 si]) "loop.example/malthouse/impl.fits").run Tryz.prog W = .ok (217, .agg #[.int .i64 si]) W := fun W => by kernel_rfl
  have hna : ∀ W, (Go.nilAhead 376 135 (.agg #[.int .i64 si]) "loop.example/malthouse/impl.fits").run Tryz.prog W = .ok (some false) W := fun W => by kernel_rfl
  have hna2 : ∀ W, (Go.nilAhead 376 168 (.agg #[]) "loop.example/malthouse/impl.fits").run Tryz.prog W = .ok (some false) W := fun W => by kernel_rfl
  have hm2 : ∀ W, (Go.method 376 168 (.agg #[]) "loop.example/malthouse/impl.fits").run Tryz.prog W = .ok (218, .agg #[]) W := fun W => by kernel_rfl
  have HN : Hid (nm.size ≤ maxLen) := hn
  have TR : Hid (totL r ≤ 1048576) := tr
  have TS : Hid (totL sl ≤ 1048576) := ts
  obtain ⟨W, hW⟩ : ∃ W, W = w.alloc (.cells #[.string nm, .slice o1 n1 k1, .slice o2 n2 k2, .string at_, .int .i64 si, .int .i64 st] 50) := ⟨_, rfl⟩
  have EW : Hid (W = w.alloc (.cells #[.string nm, .slice o1 n1 k1, .slice o2 n2 k2, .string at_, .int .i64 si, .int .i64 st] 50)) := hW
  have BW : Hid (Below w.heap.size w W) := by rw [hW]; exact (Below.refl _ _).alloc (Nat.le_refl _) _
  have RW : Hid (W.heap[w.heap.size]? = some (.cells #[.string nm, .slice o1 n1 k1, .slice o2 n2 k2, .string at_, .int .i64 si, .int .i64 st] 50 (0, 0))) := by rw [hW]; exact heap_alloc_new w _
  have sW : w.heap.size + 1 ≤ W.heap.size := by rw [hW]; simp
  clear hW
  have BOX : Hid (∀ u, Below W.heap.size W u → u.heap[w.heap.size]? = some (.cells #[.string nm, .slice o1 n1 k1, .slice o2 n2 k2, .string at_, .int .i64 si, .int .i64 st] 50 (0, 0)) ∧ Below w.heap.size w u) := fun u hu => ⟨(hu.block _ (by omega)).trans RW.out, BW.out.trans (hu.mono (by omega))⟩
  have HR : Hid (∀ u, Below w.heap.size w u → AtL S u r (.slice o1 n1 k1)) := fun u hu => hr.same (Same.of_below hu hS)
  have HA : Hid (∀ u, Below w.heap.size w u → AtL S u sl (.slice o2 n2 k2)) := fun u hu => h.same (Same.of_below hu hS)
  have HS : Hid (∀ u, Below w.heap.size w u → ∀ b, S b → b < u.heap.size) := fun u hu b hb => Nat.lt_of_lt_of_le (hS b hb) hu.size
  have h0 := fun u (hu : Below W.heap.size W u) => cell_row (BOX.out u hu).1
  have Y : Hid (∀ u, Below W.heap.size W u → u.cell? ⟨w.heap.size, 0, none⟩ = some (.string nm) ∧ u.cell? ⟨w.heap.size, 1, none⟩ = some (.slice o1 n1 k1) ∧ u.cell? ⟨w.heap.size, 2, none⟩ = some (.slice o2 n2 k2) ∧ u.cell? ⟨w.heap.size, 3, none⟩ = some (.string at_) ∧ u.cell? ⟨w.heap.size, 4, none⟩ = some (.int .i64 si) ∧ u.cell? ⟨w.heap.size, 5, none⟩ = some (.int .i64 st)) := fun u hu =>
    ⟨(h0 u hu 0 _ rfl).1, (h0 u hu 1 _ rfl).1, (h0 u hu 2 _ rfl).1, (h0 u hu 3 _ rfl).1, (h0 u hu 4 _ rfl).1, (h0 u hu 5 _ rfl).1⟩
  clear h0
  have PH : Hid (∀ k : Nat, atI r at_ = (k : Int) → k < n1 ∧ ∃ b off, o1 = some ⟨b, off, none⟩ ∧ b < w.heap.size ∧ w.cell? ⟨b, off + k * 8 + 5, none⟩ = some (.int .i64 (wiX r at_)) ∧ -9223372036854775808 ≤ wiX r at_ ∧ wiX r at_ ≤ 9223372036854775807) := fun k hk => by
    rcases at_cases r at_ with e | ⟨k', hk', e, _⟩
    · omega
    obtain rfl : k' = k := by omega
    obtain ⟨oa, cap, ev, _, hc⟩ := id hr
    obtain ⟨b, off, eo, hbS, cc, hcell, hat⟩ := hc k' hk'
    rw [width_DRecPhase] at hcell
    rw [at_DRecPhase] at hat
    have ew : wiX r at_ = r[k'].2.2.2.2.2.1 := by unfold wiX; rw [ph_at hk' e]
    cases ev
    refine ⟨hk', b, off, eo, hS b hbS, (hcell 5 (by omega)).trans (by rw [hat.2.2.2.2.2.1.1, ew]), ?_⟩
    rw [ew]
    exact hat.2.2.2.2.2.1.2
  have POS : Hid (recB r = true → 0 ≤ atI r at_ → 1 ≤ wiX r at_) := fun hrb h0 => by
    rcases at_cases r at_ with e | ⟨k', hk', e, _⟩
    · omega
    · have := (ph_name (step_of (rec_iff.1 hrb) hk').1).2.2.1
      have ew : wiX r at_ = r[k'].2.2.2.2.2.1 := by unfold wiX; rw [ph_at hk' e]
      rw [ew]
      omega
  clear h hr hS hn tr ts
  obtain ⟨R, hR⟩ : ∃ R, R = runB (nm, r, sl, at_, si, st) := ⟨_, rfl⟩
  have ER : Hid (R = (nameB nm && recB r && slB r sl && decide (1 ≤ st) && decide (0 ≤ atI r at_) && inB si (-1) (wiX r at_ - 1))) := hR
  rw [← hR]
  clear hR
  obtain ⟨y0, y1, y2, y3, y4, y5⟩ := Y.out W (Below.refl _ _)
  go_enter Tryz.func57, Tryz.ntmps57
  go_upto_region 1 with fail
  rw [← EW.out]
  go_wp2_with fail
  refine (nameI_any nm _ HN.out).mono ?_; rintro e w1 ⟨rfl, hb1⟩
  have B1 : Hid (Below W.heap.size W w1) := hb1
  have BW1 : Hid (Below w.heap.size w w1) := (BOX.out w1 hb1).2
  clear y0 y1 y2 y3 y4 y5 hb1
  obtain ⟨y0, y1, y2, y3, y4, y5⟩ := Y.out w1 B1.out
  cases c0 : nameB nm
  · have er : R = false := by rw [ER.out, c0]; simp
    clear y1 y2 y3 y4 y5
    go_wp2_with fail
    go_ret
    rw [er]
    exact ⟨rfl, BW1.out⟩
  by_cases c3 : st < 1
  · have er : R = false := by rw [ER.out, decide_eq_false (by omega : ¬ 1 ≤ st)]; simp
    go_wp2_with fail
    go_ret
    rw [er]
    exact ⟨rfl, BW1.out⟩
  have c3' : decide (1 ≤ st) = true := decide_eq_true (by omega)
  go_wp2_with fail
  refine (okI_any S r _ w1 (HR.out _ BW1.out) (HS.out _ BW1.out) TR.out).mono ?_; rintro e w2 ⟨rfl, hb2⟩
  have B2 : Hid (Below W.heap.size W w2) := B1.out.trans (hb2.mono B1.out.size)
  clear y0 y1 y2 y3 y4 y5 hb2
  obtain ⟨y0, y1, y2, y3, y4, y5⟩ := Y.out w2 B2.out
  have BW2 : Hid (Below w.heap.size w w2) := (BOX.out w2 B2.out).2
  cases c1 : recB r
  · have er : R = false := by rw [ER.out, c1]; simp
    clear y0 y1 y2 y3 y4 y5
    go_wp2_with fail
    go_ret
    rw [er]
    exact ⟨rfl, BW2.out⟩
  go_wp2_with fail
  refine (slotsOkP_any S nm at_ r sl si st o1 o2 n1 k1 n2 k2 w2 (HR.out _ BW2.out) (HA.out _ BW2.out) (HS.out _ BW2.out) TR.out TS.out (rec_iff.1 c1)).mono ?_; rintro e w3 ⟨rfl, hb3⟩
  have B3 : Hid (Below W.heap.size W w3) := B2.out.trans (hb3.mono B2.out.size)
  clear y0 y1 y2 y3 y4 y5 hb3
  obtain ⟨y0, y1, y2, y3, y4, y5⟩ := Y.out w3 B3.out
  have BW3 : Hid (Below w.heap.size w w3) := (BOX.out w3 B3.out).2
  cases c2 : slB r sl
  · have er : R = false := by rw [ER.out, c2]; simp
    clear y0 y1 y2 y3 y4 y5
    go_wp2_with fail
    go_ret
    rw [er]
    exact ⟨rfl, BW3.out⟩
  go_wp2_with fail
  refine (phAt_any S r _ at_ w3 (HR.out _ BW3.out) (HS.out _ BW3.out)).mono ?_; rintro e w4 ⟨rfl, hb4⟩
  have B4 : Hid (Below W.heap.size W w4) := B3.out.trans (hb4.mono B3.out.size)
  clear y0 y1 y2 y3 y4 y5 hb4
  obtain ⟨y0, y1, y2, y3, y4, y5⟩ := Y.out w4 B4.out
  have BW4 : Hid (Below w.heap.size w w4) := (BOX.out w4 B4.out).2
  have P := POS.out c1
  obtain ⟨ex, hex⟩ : ∃ k : Int, k = atI r at_ := ⟨_, rfl⟩
  by_cases c4 : atI r at_ < 0
  · have er : R = false := by rw [ER.out, decide_eq_false (by omega : ¬ 0 ≤ atI r at_)]; simp
    have d4 : decide (0 ≤ ex) = false := decide_eq_false (by omega)
    rw [← hex]
    clear P hex y0 y1 y2 y3 y5
    go_wp2_with fail
    refine wp_region_quiet_below (by kernel_rfl) (by kernel_rfl) ?_
    repeat (first | go_big_quiet_step (fail) | quiet_step (fail))
    refine wpQuiet_nil ?_
    intro _ hw'
    obtain ⟨⟨dq, osq⟩, hw''⟩ := hw'
    subst hw''
    go_wp2_with fail
    go_ret
    rw [er]
    exact ⟨rfl, BW4.out.trans ((below_regrown w4 dq osq).mono BW4.out.size)⟩
  obtain ⟨k, hk⟩ : ∃ k : Nat, atI r at_ = (k : Int) := ⟨(atI r at_).toNat, by omega⟩
  obtain ⟨hkn, b, off, rfl, hb, ce, hl, hh⟩ := PH.out k hk
  have hpos := P (by omega)
  obtain ⟨v, hv⟩ : ∃ v, v = wiX r at_ := ⟨_, rfl⟩
  rw [← hv] at ce hl hh hpos
  have x5 := (BW4.out.cell (p := ⟨b, off + k * 8 + 5, none⟩) hb).trans ce
  obtain ⟨I, hI⟩ : ∃ I, inB si (-1) (v - 1) = I := ⟨_, rfl⟩
  have er : R = I := by rw [ER.out, c0, c1, c2, c3', decide_eq_true (by omega : 0 ≤ atI r at_), ← hv, hI]; simp
  have q0 := fun d os => cell_regrown y0 d os
  have q1 := fun d os => cell_regrown y1 d os
  have q2 := fun d os => cell_regrown y2 d os
  have q3 := fun d os => cell_regrown y3 d os
  have q4 := fun d os => cell_regrown y4 d os
  have q5 := fun d os => cell_regrown y5 d os
  have qx := fun d os => cell_regrown x5 d os
  rw [hk]
  clear P hex hv x5 ce y0 y1 y2 y3 y4 y5 hk c4
  by_cases c5 : si = -1
  · subst c5
    have hIt : I = true := by rw [← hI]; simp [inB]; omega
    have hp : ∀ d os, Calls Tryz.prog 93 #[.agg #[.string nm, .slice (some ⟨b, off, none⟩) n1 k1, .slice o2 n2 k2, .string at_, .int .i64 (-1), .int .i64 st]] (grow (redrawn w4 d) os) fun e w'' => e = .returned (.iface 168 (.agg #[])) ∧ ∃ p : Regrown, w'' = grow (redrawn w4 p.d) p.os := fun d os => pace_q nm at_ (-1) st _ o2 n1 k1 n2 k2 w4 d os
    go_wp2_with fail
    refine wp_region_quiet_below (by kernel_rfl) (by kernel_rfl) ?_
    repeat (first | go_big_quiet_step (first | (with_reducible exact hp _ _) | (with_reducible exact fitsW_q _ _ _ _)) | quiet_step (first | (with_reducible exact hp _ _) | (with_reducible exact fitsW_q _ _ _ _)))
    refine wpQuiet_nil ?_
    intro _ hw'
    obtain ⟨⟨dq, osq⟩, hw''⟩ := hw'
    subst hw''
    go_wp2_with fail
    go_ret
    rw [er, hIt]
    exact ⟨rfl, BW4.out.trans ((below_regrown w4 dq osq).mono BW4.out.size)⟩
  · have hI2 : (decide (0 ≤ si) && decide (si < v)) = I := by rw [pace_in c5, hI]
    have hp : ∀ d os, Calls Tryz.prog 93 #[.agg #[.string nm, .slice (some ⟨b, off, none⟩) n1 k1, .slice o2 n2 k2, .string at_, .int .i64 si, .int .i64 st]] (grow (redrawn w4 d) os) fun e w'' => e = .returned (.iface 135 (.agg #[.int .i64 si])) ∧ ∃ p : Regrown, w'' = grow (redrawn w4 p.d) p.os := fun d os => by
      rw [← pa_g c5]; exact pace_q nm at_ si st _ o2 n1 k1 n2 k2 w4 d os
    go_wp2_with fail
    refine wp_region_quiet_below (by kernel_rfl) (by kernel_rfl) ?_
    repeat (first | go_big_quiet_step (first | (with_reducible exact hp _ _) | (with_reducible exact fitsG_q _ _ _ hI2 _ _ _)) | quiet_step (first | (with_reducible exact hp _ _) | (with_reducible exact fitsG_q _ _ _ hI2 _ _ _)))
    refine wpQuiet_nil ?_
    intro _ hw'
    obtain ⟨⟨dq, osq⟩, hw''⟩ := hw'
    subst hw''
    go_wp2_with fail
    go_ret
    rw [er]
    exact ⟨rfl, BW4.out.trans ((below_regrown w4 dq osq).mono BW4.out.size)⟩

theorem run_dist {r : List DRecPhase} {sl : List DRunSlot} {nm at_ : ByteArray} {si st : Int} (h : runB (nm, r, sl, at_, si, st) = true) : (sl.map (·.1)).Nodup :=
  ((sl_two (slt_asc r 12 _)).1 (run_rec h).2).1.dist (slt_asc r 12 _)

end Go.Proofs.YtmjafmdecgeckaaGreat
