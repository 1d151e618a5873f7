/-
  The law FnRecCan, walked: whatever the code, the call returns true, and nothing that was there before has turned.
-/
import Derived.Test.YtmccbkmfcldbgabXdk
import Derived.Test.YtmccbkmfcldbgabXdm
import Derived.Test.YtmccbkmfcldbgabXpc
import Derived.Test.YtmccbkmfcldbgabXpe
namespace Go.Proofs.Ytmccbkmfcldbgab
open Go.RowKit Go.Sort

theorem tot_leR {α : Type} [Lay α] {l : List α} {c : Nat} (h : ∀ x ∈ l, Lay.tot x ≤ c) : totL l ≤ l.length + l.length * c := by
  have e : sumTo l l.length = (l.map Lay.tot).sum := by simp [sumTo]
  unfold totL
  rw [e]
  clear e
  induction l with
  | nil => simp
  | cons a l ih =>
    have h1 := h a (by simp)
    have h2 := ih (fun x hx => h x (by simp [hx]))
    simp only [List.map_cons, List.sum_cons, List.length_cons]
    have h3 : (l.length + 1) * c = l.length * c + c := by rw [Nat.add_mul, Nat.one_mul]
    omega
theorem tot_PzL {M : List DRecPhase} (hl : M.length ≤ 14) (h : ∀ x ∈ M, PzL 2000 x) : totL M ≤ 1048576 := by
  have := tot_leR (l := M) (c := 80) (fun x hx => by
    obtain ⟨z1, z2, z3, z4, z5, _⟩ := h x hx
    rw [tot_DRecPhase]
    omega)
  have h2 : M.length * 80 ≤ 14 * 80 := Nat.mul_le_mul_right _ hl
  omega
/-- One of the first so many. -/
def orB (C : Int → Bool) : Nat → Bool
  | 0 => false
  | k + 1 => orB C k || C (k + 1)
theorem or_found (C : Int → Bool) (q : Int) (h0 : 0 ≤ q) (h1 : q < 5) : orB (fun e => e == q && C e) 3 = (inB q 1 3 && C q) := by
  have : q = 0 ∨ q = 1 ∨ q = 2 ∨ q = 3 ∨ q = 4 := by omega
  rcases this with rfl | rfl | rfl | rfl | rfl <;> simp [orB, inB]
theorem or_some (C : Int → Bool) (h : ∃ e : Int, (e = 1 ∨ e = 2 ∨ e = 3) ∧ C e = true) : orB C 3 = true := by
  obtain ⟨e, rfl | rfl | rfl, h⟩ := h <;> simp [orB, h]

set_option maxRecDepth 100000 in
set_option maxHeartbeats 40000000 in
theorem lawC_any (ob : Option Addr) (n cb : Nat) (f : Nat → Int) (w : World) (hn : n ≤ maxLen) (hnc : n ≤ cb) (fb : ∀ i, 0 ≤ f i ∧ f i ≤ 255)
    (ce : ∀ i, i < n → ∃ b off, ob = some ⟨b, off, none⟩ ∧ b < w.heap.size ∧ w.cell? ⟨b, off + i, none⟩ = some (.int .u8 (f i))) :
    Calls Try.prog 3 #[.slice ob n cb] w fun e w' => e = .returned (.bool true) ∧ Below w.heap.size w w' := by
  have hn' := hn
  unfold maxLen at hn'
  by_cases hbig : (1048576 : Int) < (n : Int)
  · go_enter Try.func3, Try.ntmps3
    go_wp2_with fail
    go_ret
    exact ⟨rfl, Below.refl _ _⟩
  have CD : Hid _ := drawC_any ob n cb f w hn hnc fb ce
  clear fb ce hn hnc
  go_enter Try.func3, Try.ntmps3
  go_wp2_with fail
  refine Calls.mono CD.out ?_
  rintro e w1 ⟨v, M, s, q, rfl, hm, hz, hs, q0, q1, RW, B1⟩
  obtain ⟨oo, ko, hf⟩ := Row.form RW.out
  subst hf
  have HT : Hid (totL M ≤ 1048576) := tot_PzL hm hz
  have AT : Hid (∀ u, Below w1.heap.size w1 u → AtL (fun b => w.heap.size ≤ b ∧ b < w1.heap.size) u M (.slice oo M.length ko)) := fun u hu => (flatR.row_at RW.out (fun q hq => World.ownsRow.lt RW.out q hq) (fun x hx => (hz x hx).ok (by omega))).same (Same.of_below hu (fun b hb => hb.2))
  have HS : Hid (∀ u, Below w1.heap.size w1 u → ∀ b, (w.heap.size ≤ b ∧ b < w1.heap.size) → b < u.heap.size) := fun u hu b hb => Nat.lt_of_lt_of_le hb.2 hu.size
  have BQ : Hid (∀ u, Below w1.heap.size w1 u → Below w.heap.size w u) := fun u hu => B1.out.trans (hu.mono B1.out.size)
  have B0 : Hid (Below w1.heap.size w1 w1) := Below.refl _ _
  obtain ⟨nl, hnl⟩ : ∃ nl, M.length = nl := ⟨_, rfl⟩
  have HLK : Hid (M.length = nl) := hnl
  rw [hnl] at AT hm
  rw [hnl]
  clear hnl hz RW CD hs B1
  have C : Hid _ := mayI_any _ M _ s q w1 (AT.out _ B0.out) (HS.out _ B0.out) HT.out
  obtain ⟨can, hcan⟩ : ∃ c, (recB M && inB q 1 3 && canF 12 M s q) = c := ⟨_, rfl⟩
  have HCAN : Hid ((recB M && inB q 1 3 && canF 12 M s q) = can) := hcan
  rw [hcan] at C
  clear hcan
  go_wp2_with fail
  refine Calls.mono C.out ?_; rintro e w2 ⟨rfl, hb⟩
  have B2 : Hid (Below w1.heap.size w1 w2) := hb
  clear hb C
  have C : Hid _ := mayX_any _ M _ s q w2 (AT.out _ B2.out) (HS.out _ B2.out)
  rw [HCAN.out] at C
  go_wp2_with fail
  refine Calls.mono C.out ?_; rintro e w3 ⟨rfl, hb⟩
  have B3 : Hid (Below w1.heap.size w1 w3) := B2.out.trans (hb.mono B2.out.size)
  clear hb C B2
  go_wp2_with fail
  refine (endP_any s _).mono ?_; rintro e' u ⟨rfl, rfl⟩
  go_wp2_with fail
  refine (endX_any s _).mono ?_; rintro e' u2 ⟨rfl, rfl⟩
  go_wp2_with fail
  have C : Hid _ := okX_any _ M _ u2 (AT.out _ B3.out) (HS.out _ B3.out)
  refine Calls.mono C.out ?_; rintro e w4 ⟨rfl, hb⟩
  have B4 : Hid (Below w1.heap.size w1 w4) := B3.out.trans (hb.mono B3.out.size)
  clear hb C B3
  cases hr : recB M
  · obtain rfl : false = can := by rw [← HCAN.out, hr]; rfl
    go_wp2_with fail
    go_ret
    exact ⟨rfl, BQ.out _ B4.out⟩
  · have HR : Hid (RecP M) := rec_iff.1 hr
    have hl := HR.out.1
    obtain ⟨oa, cap, ev, hx⟩ := AT.out w1 B0.out
    obtain ⟨b, off, hoo, hbS, cc, hcell, hat⟩ := hx.2 0 (by omega)
    rw [width_DRecPhase] at hcell
    rw [at_DRecPhase] at hat
    have hc0 : w1.cell? ⟨b, off, none⟩ = some (cc 0) := by simpa using hcell 0 (by omega)
    rw [hat.1.1] at hc0
    obtain ⟨ho1, ho2, ho3⟩ : oo = oa ∧ nl = M.length ∧ ko = cap := by simpa using ev
    obtain rfl : oo = some ⟨b, off, none⟩ := ho1.trans hoo
    clear hx hat hcell ev ho1 ho2 ho3 hoo
    obtain ⟨x0, hx0⟩ : ∃ x, (M[0]'(by omega)).1 = x := ⟨_, rfl⟩
    have SOME : Hid (orB (fun e => canF 12 M x0 e) 3 = true) := or_some _ (by rw [← hx0]; exact some_end HR.out 12 0 (by omega) (by omega))
    replace hc0 : w1.cell? ⟨b, off, none⟩ = some (.string x0) := by rw [← hx0]; exact hc0
    have X0 : Hid (∀ u, Below w1.heap.size w1 u → u.cell? ⟨b, off, none⟩ = some (.string x0)) := fun u hu => (World.cell?_of_block (w := w1) (a := ⟨b, off, none⟩) (hu.block b hbS.2)).trans hc0
    have FND : Hid (orB (fun e => e == q && canF 12 M s e) 3 = can) := by
      rw [or_found (fun e => canF 12 M s e) q q0 q1, ← HCAN.out, hr, Bool.true_and]
      exact rfl
    have hnl : 1 ≤ nl ∧ nl ≤ 12 := by have := HLK.out; omega
    clear hx0 hc0 hl HCAN
    go_wp2_with fail
    go_loopw [7, 8, 9] (fun sm fd i wr => ∃ j : Nat, j ≤ 3 ∧ i = .int .i64 (j + 1) ∧ sm = .bool (orB (fun e => canF 12 M x0 e) j) ∧ fd = .bool (orB (fun e => e == q && canF 12 M s e) j) ∧ Hid (Below w1.heap.size w1 wr)) (fun _ _ i _ => 4 - (intOf i).toNat)
    case atStart => exact ⟨0, by omega, rfl, rfl, rfl, B4⟩
    case round =>
      clear B4
      obtain ⟨j, hj, rfl, rfl, rfl, BW⟩ := hrel
      rcases (by omega : j = 0 ∨ j = 1 ∨ j = 2 ∨ j = 3) with rfl | rfl | rfl | rfl
      · rw [show (((0 : Nat) : Int) + 1) = 1 from rfl]
        clear hj
        have SM : Hid (orB (fun e => canF 12 M x0 e) 1 = (orB (fun e => canF 12 M x0 e) 0 || canF 12 M x0 1)) := rfl
        have FD : Hid (orB (fun e => e == q && canF 12 M s e) 1 = (orB (fun e => e == q && canF 12 M s e) 0 || (((1 : Int) == q) && canF 12 M s 1))) := rfl
        have e0 := X0.out wr BW.out
        have HC1 : Hid ((recB M && inB 1 1 3 && canF 12 M x0 1) = canF 12 M x0 1) := by show _ = _; rw [hr]; simp [inB]
        have C1 : Hid _ := mayI_any _ M _ x0 1 wr (AT.out _ BW.out) (HS.out _ BW.out) HT.out
        have Q1 : Hid (rchF 12 M s ⟨#[103, 111, 111, 100]⟩ = canF 12 M s 1) := rch_can HR.out 1 (by omega) 12 s
        have Q2 : Hid (rchF 12 M s ⟨#[115, 97, 118, 101, 100]⟩ = canF 12 M s 2) := rch_can HR.out 2 (by omega) 12 s
        have Q3 : Hid (rchF 12 M s ⟨#[115, 99, 114, 97, 112, 112, 101, 100]⟩ = canF 12 M s 3) := rch_can HR.out 3 (by omega) 12 s
        have HN : Hid (∀ k : Nat, atI M s = (k : Int) → M.length ≤ k + 12) := fun k _ => by have := HR.out.1; omega
        have T1 : Hid (∀ u, Below w1.heap.size w1 u → Calls Try.prog 10 #[.slice (some ⟨b, off, none⟩) nl ko, .string s, .string ⟨#[103, 111, 111, 100]⟩] u fun e w' => e = .returned (.bool (canF 12 M s 1)) ∧ w' = u) := fun u hu => by rw [← Q1.out]; exact reach_any _ M HR.out _ 12 _ s u (AT.out _ hu) HN.out
        have T2 : Hid (∀ u, Below w1.heap.size w1 u → Calls Try.prog 10 #[.slice (some ⟨b, off, none⟩) nl ko, .string s, .string ⟨#[115, 97, 118, 101, 100]⟩] u fun e w' => e = .returned (.bool (canF 12 M s 2)) ∧ w' = u) := fun u hu => by rw [← Q2.out]; exact reach_any _ M HR.out _ 12 _ s u (AT.out _ hu) HN.out
        have T3 : Hid (∀ u, Below w1.heap.size w1 u → Calls Try.prog 10 #[.slice (some ⟨b, off, none⟩) nl ko, .string s, .string ⟨#[115, 99, 114, 97, 112, 112, 101, 100]⟩] u fun e w' => e = .returned (.bool (canF 12 M s 3)) ∧ w' = u) := fun u hu => by rw [← Q3.out]; exact reach_any _ M HR.out _ 12 _ s u (AT.out _ hu) HN.out
        clear Q1 Q2 Q3 HN
        obtain ⟨b1, h1⟩ : ∃ c, canF 12 M s 1 = c := ⟨_, rfl⟩
        obtain ⟨b2, h2⟩ : ∃ c, canF 12 M s 2 = c := ⟨_, rfl⟩
        obtain ⟨b3, h3⟩ : ∃ c, canF 12 M s 3 = c := ⟨_, rfl⟩
        obtain ⟨c1, h4⟩ : ∃ c, canF 12 M x0 1 = c := ⟨_, rfl⟩
        obtain ⟨o1, h5⟩ : ∃ c, orB (fun e => canF 12 M x0 e) 0 = c := ⟨_, rfl⟩
        obtain ⟨o2, h6⟩ : ∃ c, orB (fun e => e == q && canF 12 M s e) 0 = c := ⟨_, rfl⟩
        rw [h1] at T1
        rw [h2] at T2
        rw [h3] at T3
        rw [h1] at FD
        rw [h4] at SM HC1
        have C1' : Hid (Calls Try.prog 5 #[.slice (some ⟨b, off, none⟩) nl ko, .string x0, .int .i64 1] wr fun e w' => e = .returned (.bool c1) ∧ Below wr.heap.size wr w') := by have := C1.out; rw [h4, HC1.out] at this; exact this
        rw [h5] at SM
        rw [h6] at FD
        rw [h5, h6]
        clear C1 HC1 h1 h2 h3 h4 h5 h6
        cases o1
        · go_wp2_with fail
          refine Calls.mono C1'.out ?_; rintro e' u ⟨rfl, hb⟩
          have BU : Hid (Below w1.heap.size w1 u) := BW.out.trans (hb.mono (by have := BW.out.size; omega))
          clear hb C1' BW e0
          cases o2
          · by_cases hq : q = 1
            · subst hq
              cases b1
              · cases b2
                · cases b3
                  · go_wp2_with fail
                    refine (T1.out _ BU.out).mono ?_; rintro e' u ⟨rfl, rfl⟩
                    go_wp2_with fail
                    refine (T2.out _ BU.out).mono ?_; rintro e' u ⟨rfl, rfl⟩
                    go_wp2_with fail
                    refine (T3.out _ BU.out).mono ?_; rintro e' u ⟨rfl, rfl⟩
                    go_wp2_with fail
                    go_roundw
                    case rel => exact ⟨1, by omega, rfl, by rw [SM.out]; rfl, by rw [FD.out]; rfl, BU⟩
                    case measure => simp [intOf]
                  · go_wp2_with fail
                    refine (T1.out _ BU.out).mono ?_; rintro e' u ⟨rfl, rfl⟩
                    go_wp2_with fail
                    refine (T2.out _ BU.out).mono ?_; rintro e' u ⟨rfl, rfl⟩
                    go_wp2_with fail
                    refine (T3.out _ BU.out).mono ?_; rintro e' u ⟨rfl, rfl⟩
                    go_wp2_with fail
                    go_roundw
                    case rel => exact ⟨1, by omega, rfl, by rw [SM.out]; rfl, by rw [FD.out]; rfl, BU⟩
                    case measure => simp [intOf]
                · cases b3
                  · go_wp2_with fail
                    refine (T1.out _ BU.out).mono ?_; rintro e' u ⟨rfl, rfl⟩
                    go_wp2_with fail
                    refine (T2.out _ BU.out).mono ?_; rintro e' u ⟨rfl, rfl⟩
                    go_wp2_with fail
                    refine (T3.out _ BU.out).mono ?_; rintro e' u ⟨rfl, rfl⟩
                    go_wp2_with fail
                    go_roundw
                    case rel => exact ⟨1, by omega, rfl, by rw [SM.out]; rfl, by rw [FD.out]; rfl, BU⟩
                    case measure => simp [intOf]
                  · go_wp2_with fail
                    refine (T1.out _ BU.out).mono ?_; rintro e' u ⟨rfl, rfl⟩
                    go_wp2_with fail
                    refine (T2.out _ BU.out).mono ?_; rintro e' u ⟨rfl, rfl⟩
                    go_wp2_with fail
                    refine (T3.out _ BU.out).mono ?_; rintro e' u ⟨rfl, rfl⟩
                    go_wp2_with fail
                    go_roundw
                    case rel => exact ⟨1, by omega, rfl, by rw [SM.out]; rfl, by rw [FD.out]; rfl, BU⟩
                    case measure => simp [intOf]
              · go_wp2_with fail
                refine (T1.out _ BU.out).mono ?_; rintro e' u ⟨rfl, rfl⟩
                go_wp2_with fail
                go_roundw
                case rel => exact ⟨1, by omega, rfl, by rw [SM.out]; rfl, by rw [FD.out]; rfl, BU⟩
                case measure => simp [intOf]
            · have hq' : ¬ ((1 : Int) = q) := fun h => hq h.symm
              have hq2 : ((1 : Int) == q) = false := by simp [hq']
              rw [hq2] at FD
              go_wp2_with fail
              go_roundw
              case rel => exact ⟨1, by omega, rfl, by rw [SM.out]; rfl, by rw [FD.out]; rfl, BU⟩
              case measure => simp [intOf]
          · go_wp2_with fail
            go_roundw
            case rel => exact ⟨1, by omega, rfl, by rw [SM.out]; rfl, by rw [FD.out]; rfl, BU⟩
            case measure => simp [intOf]
        · clear C1' e0
          cases o2
          · by_cases hq : q = 1
            · subst hq
              cases b1
              · cases b2
                · cases b3
                  · go_wp2_with fail
                    refine (T1.out _ BW.out).mono ?_; rintro e' u ⟨rfl, rfl⟩
                    go_wp2_with fail
                    refine (T2.out _ BW.out).mono ?_; rintro e' u ⟨rfl, rfl⟩
                    go_wp2_with fail
                    refine (T3.out _ BW.out).mono ?_; rintro e' u ⟨rfl, rfl⟩
                    go_wp2_with fail
                    go_roundw
                    case rel => exact ⟨1, by omega, rfl, by rw [SM.out]; rfl, by rw [FD.out]; rfl, BW⟩
                    case measure => simp [intOf]
                  · go_wp2_with fail
                    refine (T1.out _ BW.out).mono ?_; rintro e' u ⟨rfl, rfl⟩
                    go_wp2_with fail
                    refine (T2.out _ BW.out).mono ?_; rintro e' u ⟨rfl, rfl⟩
                    go_wp2_with fail
                    refine (T3.out _ BW.out).mono ?_; rintro e' u ⟨rfl, rfl⟩
                    go_wp2_with fail
                    go_roundw
                    case rel => exact ⟨1, by omega, rfl, by rw [SM.out]; rfl, by rw [FD.out]; rfl, BW⟩
                    case measure => simp [intOf]
                · cases b3
                  · go_wp2_with fail
                    refine (T1.out _ BW.out).mono ?_; rintro e' u ⟨rfl, rfl⟩
                    go_wp2_with fail
                    refine (T2.out _ BW.out).mono ?_; rintro e' u ⟨rfl, rfl⟩
                    go_wp2_with fail
                    refine (T3.out _ BW.out).mono ?_; rintro e' u ⟨rfl, rfl⟩
                    go_wp2_with fail
                    go_roundw
                    case rel => exact ⟨1, by omega, rfl, by rw [SM.out]; rfl, by rw [FD.out]; rfl, BW⟩
                    case measure => simp [intOf]
                  · go_wp2_with fail
                    refine (T1.out _ BW.out).mono ?_; rintro e' u ⟨rfl, rfl⟩
                    go_wp2_with fail
                    refine (T2.out _ BW.out).mono ?_; rintro e' u ⟨rfl, rfl⟩
                    go_wp2_with fail
                    refine (T3.out _ BW.out).mono ?_; rintro e' u ⟨rfl, rfl⟩
                    go_wp2_with fail
                    go_roundw
                    case rel => exact ⟨1, by omega, rfl, by rw [SM.out]; rfl, by rw [FD.out]; rfl, BW⟩
                    case measure => simp [intOf]
              · go_wp2_with fail
                refine (T1.out _ BW.out).mono ?_; rintro e' u ⟨rfl, rfl⟩
                go_wp2_with fail
                go_roundw
                case rel => exact ⟨1, by omega, rfl, by rw [SM.out]; rfl, by rw [FD.out]; rfl, BW⟩
                case measure => simp [intOf]
            · have hq' : ¬ ((1 : Int) = q) := fun h => hq h.symm
              have hq2 : ((1 : Int) == q) = false := by simp [hq']
              rw [hq2] at FD
              go_wp2_with fail
              go_roundw
              case rel => exact ⟨1, by omega, rfl, by rw [SM.out]; rfl, by rw [FD.out]; rfl, BW⟩
              case measure => simp [intOf]
          · go_wp2_with fail
            go_roundw
            case rel => exact ⟨1, by omega, rfl, by rw [SM.out]; rfl, by rw [FD.out]; rfl, BW⟩
            case measure => simp [intOf]
      · rw [show (((1 : Nat) : Int) + 1) = 2 from rfl]
        clear hj
        have SM : Hid (orB (fun e => canF 12 M x0 e) 2 = (orB (fun e => canF 12 M x0 e) 1 || canF 12 M x0 2)) := rfl
        have FD : Hid (orB (fun e => e == q && canF 12 M s e) 2 = (orB (fun e => e == q && canF 12 M s e) 1 || (((2 : Int) == q) && canF 12 M s 2))) := rfl
        have e0 := X0.out wr BW.out
        have HC1 : Hid ((recB M && inB 2 1 3 && canF 12 M x0 2) = canF 12 M x0 2) := by show _ = _; rw [hr]; simp [inB]
        have C1 : Hid _ := mayI_any _ M _ x0 2 wr (AT.out _ BW.out) (HS.out _ BW.out) HT.out
        have Q1 : Hid (rchF 12 M s ⟨#[103, 111, 111, 100]⟩ = canF 12 M s 1) := rch_can HR.out 1 (by omega) 12 s
        have Q2 : Hid (rchF 12 M s ⟨#[115, 97, 118, 101, 100]⟩ = canF 12 M s 2) := rch_can HR.out 2 (by omega) 12 s
        have Q3 : Hid (rchF 12 M s ⟨#[115, 99, 114, 97, 112, 112, 101, 100]⟩ = canF 12 M s 3) := rch_can HR.out 3 (by omega) 12 s
        have HN : Hid (∀ k : Nat, atI M s = (k : Int) → M.length ≤ k + 12) := fun k _ => by have := HR.out.1; omega
        have T1 : Hid (∀ u, Below w1.heap.size w1 u → Calls Try.prog 10 #[.slice (some ⟨b, off, none⟩) nl ko, .string s, .string ⟨#[103, 111, 111, 100]⟩] u fun e w' => e = .returned (.bool (canF 12 M s 1)) ∧ w' = u) := fun u hu => by rw [← Q1.out]; exact reach_any _ M HR.out _ 12 _ s u (AT.out _ hu) HN.out
        have T2 : Hid (∀ u, Below w1.heap.size w1 u → Calls Try.prog 10 #[.slice (some ⟨b, off, none⟩) nl ko, .string s, .string ⟨#[115, 97, 118, 101, 100]⟩] u fun e w' => e = .returned (.bool (canF 12 M s 2)) ∧ w' = u) := fun u hu => by rw [← Q2.out]; exact reach_any _ M HR.out _ 12 _ s u (AT.out _ hu) HN.out
        have T3 : Hid (∀ u, Below w1.heap.size w1 u → Calls Try.prog 10 #[.slice (some ⟨b, off, none⟩) nl ko, .string s, .string ⟨#[115, 99, 114, 97, 112, 112, 101, 100]⟩] u fun e w' => e = .returned (.bool (canF 12 M s 3)) ∧ w' = u) := fun u hu => by rw [← Q3.out]; exact reach_any _ M HR.out _ 12 _ s u (AT.out _ hu) HN.out
        clear Q1 Q2 Q3 HN
        obtain ⟨b1, h1⟩ : ∃ c, canF 12 M s 1 = c := ⟨_, rfl⟩
        obtain ⟨b2, h2⟩ : ∃ c, canF 12 M s 2 = c := ⟨_, rfl⟩
        obtain ⟨b3, h3⟩ : ∃ c, canF 12 M s 3 = c := ⟨_, rfl⟩
        obtain ⟨c1, h4⟩ : ∃ c, canF 12 M x0 2 = c := ⟨_, rfl⟩
        obtain ⟨o1, h5⟩ : ∃ c, orB (fun e => canF 12 M x0 e) 1 = c := ⟨_, rfl⟩
        obtain ⟨o2, h6⟩ : ∃ c, orB (fun e => e == q && canF 12 M s e) 1 = c := ⟨_, rfl⟩
        rw [h1] at T1
        rw [h2] at T2
        rw [h3] at T3
        rw [h2] at FD
        rw [h4] at SM HC1
        have C1' : Hid (Calls Try.prog 5 #[.slice (some ⟨b, off, none⟩) nl ko, .string x0, .int .i64 2] wr fun e w' => e = .returned (.bool c1) ∧ Below wr.heap.size wr w') := by have := C1.out; rw [h4, HC1.out] at this; exact this
        rw [h5] at SM
        rw [h6] at FD
        rw [h5, h6]
        clear C1 HC1 h1 h2 h3 h4 h5 h6
        cases o1
        · go_wp2_with fail
          refine Calls.mono C1'.out ?_; rintro e' u ⟨rfl, hb⟩
          have BU : Hid (Below w1.heap.size w1 u) := BW.out.trans (hb.mono (by have := BW.out.size; omega))
          clear hb C1' BW e0
          cases o2
          · by_cases hq : q = 2
            · subst hq
              cases b1
              · cases b2
                · cases b3
                  · go_wp2_with fail
                    refine (T1.out _ BU.out).mono ?_; rintro e' u ⟨rfl, rfl⟩
                    go_wp2_with fail
                    refine (T2.out _ BU.out).mono ?_; rintro e' u ⟨rfl, rfl⟩
                    go_wp2_with fail
                    refine (T3.out _ BU.out).mono ?_; rintro e' u ⟨rfl, rfl⟩
                    go_wp2_with fail
                    go_roundw
                    case rel => exact ⟨2, by omega, rfl, by rw [SM.out]; rfl, by rw [FD.out]; rfl, BU⟩
                    case measure => simp [intOf]
                  · go_wp2_with fail
                    refine (T1.out _ BU.out).mono ?_; rintro e' u ⟨rfl, rfl⟩
                    go_wp2_with fail
                    refine (T2.out _ BU.out).mono ?_; rintro e' u ⟨rfl, rfl⟩
                    go_wp2_with fail
                    refine (T3.out _ BU.out).mono ?_; rintro e' u ⟨rfl, rfl⟩
                    go_wp2_with fail
                    go_roundw
                    case rel => exact ⟨2, by omega, rfl, by rw [SM.out]; rfl, by rw [FD.out]; rfl, BU⟩
                    case measure => simp [intOf]
                · go_wp2_with fail
                  refine (T1.out _ BU.out).mono ?_; rintro e' u ⟨rfl, rfl⟩
                  go_wp2_with fail
                  refine (T2.out _ BU.out).mono ?_; rintro e' u ⟨rfl, rfl⟩
                  go_wp2_with fail
                  go_roundw
                  case rel => exact ⟨2, by omega, rfl, by rw [SM.out]; rfl, by rw [FD.out]; rfl, BU⟩
                  case measure => simp [intOf]
              · cases b2
                · cases b3
                  · go_wp2_with fail
                    refine (T1.out _ BU.out).mono ?_; rintro e' u ⟨rfl, rfl⟩
                    go_wp2_with fail
                    refine (T2.out _ BU.out).mono ?_; rintro e' u ⟨rfl, rfl⟩
                    go_wp2_with fail
                    refine (T3.out _ BU.out).mono ?_; rintro e' u ⟨rfl, rfl⟩
                    go_wp2_with fail
                    go_roundw
                    case rel => exact ⟨2, by omega, rfl, by rw [SM.out]; rfl, by rw [FD.out]; rfl, BU⟩
                    case measure => simp [intOf]
                  · go_wp2_with fail
                    refine (T1.out _ BU.out).mono ?_; rintro e' u ⟨rfl, rfl⟩
                    go_wp2_with fail
                    refine (T2.out _ BU.out).mono ?_; rintro e' u ⟨rfl, rfl⟩
                    go_wp2_with fail
                    refine (T3.out _ BU.out).mono ?_; rintro e' u ⟨rfl, rfl⟩
                    go_wp2_with fail
                    go_roundw
                    case rel => exact ⟨2, by omega, rfl, by rw [SM.out]; rfl, by rw [FD.out]; rfl, BU⟩
                    case measure => simp [intOf]
                · go_wp2_with fail
                  refine (T1.out _ BU.out).mono ?_; rintro e' u ⟨rfl, rfl⟩
                  go_wp2_with fail
                  refine (T2.out _ BU.out).mono ?_; rintro e' u ⟨rfl, rfl⟩
                  go_wp2_with fail
                  go_roundw
                  case rel => exact ⟨2, by omega, rfl, by rw [SM.out]; rfl, by rw [FD.out]; rfl, BU⟩
                  case measure => simp [intOf]
            · have hq' : ¬ ((2 : Int) = q) := fun h => hq h.symm
              have hq2 : ((2 : Int) == q) = false := by simp [hq']
              rw [hq2] at FD
              go_wp2_with fail
              go_roundw
              case rel => exact ⟨2, by omega, rfl, by rw [SM.out]; rfl, by rw [FD.out]; rfl, BU⟩
              case measure => simp [intOf]
          · go_wp2_with fail
            go_roundw
            case rel => exact ⟨2, by omega, rfl, by rw [SM.out]; rfl, by rw [FD.out]; rfl, BU⟩
            case measure => simp [intOf]
        · clear C1' e0
          cases o2
          · by_cases hq : q = 2
            · subst hq
              cases b1
              · cases b2
                · cases b3
                  · go_wp2_with fail
                    refine (T1.out _ BW.out).mono ?_; rintro e' u ⟨rfl, rfl⟩
                    go_wp2_with fail
                    refine (T2.out _ BW.out).mono ?_; rintro e' u ⟨rfl, rfl⟩
                    go_wp2_with fail
                    refine (T3.out _ BW.out).mono ?_; rintro e' u ⟨rfl, rfl⟩
                    go_wp2_with fail
                    go_roundw
                    case rel => exact ⟨2, by omega, rfl, by rw [SM.out]; rfl, by rw [FD.out]; rfl, BW⟩
                    case measure => simp [intOf]
                  · go_wp2_with fail
                    refine (T1.out _ BW.out).mono ?_; rintro e' u ⟨rfl, rfl⟩
                    go_wp2_with fail
                    refine (T2.out _ BW.out).mono ?_; rintro e' u ⟨rfl, rfl⟩
                    go_wp2_with fail
                    refine (T3.out _ BW.out).mono ?_; rintro e' u ⟨rfl, rfl⟩
                    go_wp2_with fail
                    go_roundw
                    case rel => exact ⟨2, by omega, rfl, by rw [SM.out]; rfl, by rw [FD.out]; rfl, BW⟩
                    case measure => simp [intOf]
                · go_wp2_with fail
                  refine (T1.out _ BW.out).mono ?_; rintro e' u ⟨rfl, rfl⟩
                  go_wp2_with fail
                  refine (T2.out _ BW.out).mono ?_; rintro e' u ⟨rfl, rfl⟩
                  go_wp2_with fail
                  go_roundw
                  case rel => exact ⟨2, by omega, rfl, by rw [SM.out]; rfl, by rw [FD.out]; rfl, BW⟩
                  case measure => simp [intOf]
              · cases b2
                · cases b3
                  · go_wp2_with fail
                    refine (T1.out _ BW.out).mono ?_; rintro e' u ⟨rfl, rfl⟩
                    go_wp2_with fail
                    refine (T2.out _ BW.out).mono ?_; rintro e' u ⟨rfl, rfl⟩
                    go_wp2_with fail
                    refine (T3.out _ BW.out).mono ?_; rintro e' u ⟨rfl, rfl⟩
                    go_wp2_with fail
                    go_roundw
                    case rel => exact ⟨2, by omega, rfl, by rw [SM.out]; rfl, by rw [FD.out]; rfl, BW⟩
                    case measure => simp [intOf]
                  · go_wp2_with fail
                    refine (T1.out _ BW.out).mono ?_; rintro e' u ⟨rfl, rfl⟩
                    go_wp2_with fail
                    refine (T2.out _ BW.out).mono ?_; rintro e' u ⟨rfl, rfl⟩
                    go_wp2_with fail
                    refine (T3.out _ BW.out).mono ?_; rintro e' u ⟨rfl, rfl⟩
                    go_wp2_with fail
                    go_roundw
                    case rel => exact ⟨2, by omega, rfl, by rw [SM.out]; rfl, by rw [FD.out]; rfl, BW⟩
                    case measure => simp [intOf]
                · go_wp2_with fail
                  refine (T1.out _ BW.out).mono ?_; rintro e' u ⟨rfl, rfl⟩
                  go_wp2_with fail
                  refine (T2.out _ BW.out).mono ?_; rintro e' u ⟨rfl, rfl⟩
                  go_wp2_with fail
                  go_roundw
                  case rel => exact ⟨2, by omega, rfl, by rw [SM.out]; rfl, by rw [FD.out]; rfl, BW⟩
                  case measure => simp [intOf]
            · have hq' : ¬ ((2 : Int) = q) := fun h => hq h.symm
              have hq2 : ((2 : Int) == q) = false := by simp [hq']
              rw [hq2] at FD
              go_wp2_with fail
              go_roundw
              case rel => exact ⟨2, by omega, rfl, by rw [SM.out]; rfl, by rw [FD.out]; rfl, BW⟩
              case measure => simp [intOf]
          · go_wp2_with fail
            go_roundw
            case rel => exact ⟨2, by omega, rfl, by rw [SM.out]; rfl, by rw [FD.out]; rfl, BW⟩
            case measure => simp [intOf]
      · rw [show (((2 : Nat) : Int) + 1) = 3 from rfl]
        clear hj
        have SM : Hid (orB (fun e => canF 12 M x0 e) 3 = (orB (fun e => canF 12 M x0 e) 2 || canF 12 M x0 3)) := rfl
        have FD : Hid (orB (fun e => e == q && canF 12 M s e) 3 = (orB (fun e => e == q && canF 12 M s e) 2 || (((3 : Int) == q) && canF 12 M s 3))) := rfl
        have e0 := X0.out wr BW.out
        have HC1 : Hid ((recB M && inB 3 1 3 && canF 12 M x0 3) = canF 12 M x0 3) := by show _ = _; rw [hr]; simp [inB]
        have C1 : Hid _ := mayI_any _ M _ x0 3 wr (AT.out _ BW.out) (HS.out _ BW.out) HT.out
        have Q1 : Hid (rchF 12 M s ⟨#[103, 111, 111, 100]⟩ = canF 12 M s 1) := rch_can HR.out 1 (by omega) 12 s
        have Q2 : Hid (rchF 12 M s ⟨#[115, 97, 118, 101, 100]⟩ = canF 12 M s 2) := rch_can HR.out 2 (by omega) 12 s
        have Q3 : Hid (rchF 12 M s ⟨#[115, 99, 114, 97, 112, 112, 101, 100]⟩ = canF 12 M s 3) := rch_can HR.out 3 (by omega) 12 s
        have HN : Hid (∀ k : Nat, atI M s = (k : Int) → M.length ≤ k + 12) := fun k _ => by have := HR.out.1; omega
        have T1 : Hid (∀ u, Below w1.heap.size w1 u → Calls Try.prog 10 #[.slice (some ⟨b, off, none⟩) nl ko, .string s, .string ⟨#[103, 111, 111, 100]⟩] u fun e w' => e = .returned (.bool (canF 12 M s 1)) ∧ w' = u) := fun u hu => by rw [← Q1.out]; exact reach_any _ M HR.out _ 12 _ s u (AT.out _ hu) HN.out
        have T2 : Hid (∀ u, Below w1.heap.size w1 u → Calls Try.prog 10 #[.slice (some ⟨b, off, none⟩) nl ko, .string s, .string ⟨#[115, 97, 118, 101, 100]⟩] u fun e w' => e = .returned (.bool (canF 12 M s 2)) ∧ w' = u) := fun u hu => by rw [← Q2.out]; exact reach_any _ M HR.out _ 12 _ s u (AT.out _ hu) HN.out
        have T3 : Hid (∀ u, Below w1.heap.size w1 u → Calls Try.prog 10 #[.slice (some ⟨b, off, none⟩) nl ko, .string s, .string ⟨#[115, 99, 114, 97, 112, 112, 101, 100]⟩] u fun e w' => e = .returned (.bool (canF 12 M s 3)) ∧ w' = u) := fun u hu => by rw [← Q3.out]; exact reach_any _ M HR.out _ 12 _ s u (AT.out _ hu) HN.out
        clear Q1 Q2 Q3 HN
        obtain ⟨b1, h1⟩ : ∃ c, canF 12 M s 1 = c := ⟨_, rfl⟩
        obtain ⟨b2, h2⟩ : ∃ c, canF 12 M s 2 = c := ⟨_, rfl⟩
        obtain ⟨b3, h3⟩ : ∃ c, canF 12 M s 3 = c := ⟨_, rfl⟩
        obtain ⟨c1, h4⟩ : ∃ c, canF 12 M x0 3 = c := ⟨_, rfl⟩
        obtain ⟨o1, h5⟩ : ∃ c, orB (fun e => canF 12 M x0 e) 2 = c := ⟨_, rfl⟩
        obtain ⟨o2, h6⟩ : ∃ c, orB (fun e => e == q && canF 12 M s e) 2 = c := ⟨_, rfl⟩
        rw [h1] at T1
        rw [h2] at T2
        rw [h3] at T3
        rw [h3] at FD
        rw [h4] at SM HC1
        have C1' : Hid (Calls Try.prog 5 #[.slice (some ⟨b, off, none⟩) nl ko, .string x0, .int .i64 3] wr fun e w' => e = .returned (.bool c1) ∧ Below wr.heap.size wr w') := by have := C1.out; rw [h4, HC1.out] at this; exact this
        rw [h5] at SM
        rw [h6] at FD
        rw [h5, h6]
        clear C1 HC1 h1 h2 h3 h4 h5 h6
        cases o1
        · go_wp2_with fail
          refine Calls.mono C1'.out ?_; rintro e' u ⟨rfl, hb⟩
          have BU : Hid (Below w1.heap.size w1 u) := BW.out.trans (hb.mono (by have := BW.out.size; omega))
          clear hb C1' BW e0
          cases o2
          · by_cases hq : q = 3
            · subst hq
              cases b1
              · cases b2
                · cases b3
                  · go_wp2_with fail
                    refine (T1.out _ BU.out).mono ?_; rintro e' u ⟨rfl, rfl⟩
                    go_wp2_with fail
                    refine (T2.out _ BU.out).mono ?_; rintro e' u ⟨rfl, rfl⟩
                    go_wp2_with fail
                    refine (T3.out _ BU.out).mono ?_; rintro e' u ⟨rfl, rfl⟩
                    go_wp2_with fail
                    go_roundw
                    case rel => exact ⟨3, by omega, rfl, by rw [SM.out]; rfl, by rw [FD.out]; rfl, BU⟩
                    case measure => simp [intOf]
                  · go_wp2_with fail
                    refine (T1.out _ BU.out).mono ?_; rintro e' u ⟨rfl, rfl⟩
                    go_wp2_with fail
                    refine (T2.out _ BU.out).mono ?_; rintro e' u ⟨rfl, rfl⟩
                    go_wp2_with fail
                    refine (T3.out _ BU.out).mono ?_; rintro e' u ⟨rfl, rfl⟩
                    go_wp2_with fail
                    go_roundw
                    case rel => exact ⟨3, by omega, rfl, by rw [SM.out]; rfl, by rw [FD.out]; rfl, BU⟩
                    case measure => simp [intOf]
                · cases b3
                  · go_wp2_with fail
                    refine (T1.out _ BU.out).mono ?_; rintro e' u ⟨rfl, rfl⟩
                    go_wp2_with fail
                    refine (T2.out _ BU.out).mono ?_; rintro e' u ⟨rfl, rfl⟩
                    go_wp2_with fail
                    refine (T3.out _ BU.out).mono ?_; rintro e' u ⟨rfl, rfl⟩
                    go_wp2_with fail
                    go_roundw
                    case rel => exact ⟨3, by omega, rfl, by rw [SM.out]; rfl, by rw [FD.out]; rfl, BU⟩
                    case measure => simp [intOf]
                  · go_wp2_with fail
                    refine (T1.out _ BU.out).mono ?_; rintro e' u ⟨rfl, rfl⟩
                    go_wp2_with fail
                    refine (T2.out _ BU.out).mono ?_; rintro e' u ⟨rfl, rfl⟩
                    go_wp2_with fail
                    refine (T3.out _ BU.out).mono ?_; rintro e' u ⟨rfl, rfl⟩
                    go_wp2_with fail
                    go_roundw
                    case rel => exact ⟨3, by omega, rfl, by rw [SM.out]; rfl, by rw [FD.out]; rfl, BU⟩
                    case measure => simp [intOf]
              · cases b2
                · cases b3
                  · go_wp2_with fail
                    refine (T1.out _ BU.out).mono ?_; rintro e' u ⟨rfl, rfl⟩
                    go_wp2_with fail
                    refine (T2.out _ BU.out).mono ?_; rintro e' u ⟨rfl, rfl⟩
                    go_wp2_with fail
                    refine (T3.out _ BU.out).mono ?_; rintro e' u ⟨rfl, rfl⟩
                    go_wp2_with fail
                    go_roundw
                    case rel => exact ⟨3, by omega, rfl, by rw [SM.out]; rfl, by rw [FD.out]; rfl, BU⟩
                    case measure => simp [intOf]
                  · go_wp2_with fail
                    refine (T1.out _ BU.out).mono ?_; rintro e' u ⟨rfl, rfl⟩
                    go_wp2_with fail
                    refine (T2.out _ BU.out).mono ?_; rintro e' u ⟨rfl, rfl⟩
                    go_wp2_with fail
                    refine (T3.out _ BU.out).mono ?_; rintro e' u ⟨rfl, rfl⟩
                    go_wp2_with fail
                    go_roundw
                    case rel => exact ⟨3, by omega, rfl, by rw [SM.out]; rfl, by rw [FD.out]; rfl, BU⟩
                    case measure => simp [intOf]
                · cases b3
                  · go_wp2_with fail
                    refine (T1.out _ BU.out).mono ?_; rintro e' u ⟨rfl, rfl⟩
                    go_wp2_with fail
                    refine (T2.out _ BU.out).mono ?_; rintro e' u ⟨rfl, rfl⟩
                    go_wp2_with fail
                    refine (T3.out _ BU.out).mono ?_; rintro e' u ⟨rfl, rfl⟩
                    go_wp2_with fail
                    go_roundw
                    case rel => exact ⟨3, by omega, rfl, by rw [SM.out]; rfl, by rw [FD.out]; rfl, BU⟩
                    case measure => simp [intOf]
                  · go_wp2_with fail
                    refine (T1.out _ BU.out).mono ?_; rintro e' u ⟨rfl, rfl⟩
                    go_wp2_with fail
                    refine (T2.out _ BU.out).mono ?_; rintro e' u ⟨rfl, rfl⟩
                    go_wp2_with fail
                    refine (T3.out _ BU.out).mono ?_; rintro e' u ⟨rfl, rfl⟩
                    go_wp2_with fail
                    go_roundw
                    case rel => exact ⟨3, by omega, rfl, by rw [SM.out]; rfl, by rw [FD.out]; rfl, BU⟩
                    case measure => simp [intOf]
            · have hq' : ¬ ((3 : Int) = q) := fun h => hq h.symm
              have hq2 : ((3 : Int) == q) = false := by simp [hq']
              rw [hq2] at FD
              go_wp2_with fail
              go_roundw
              case rel => exact ⟨3, by omega, rfl, by rw [SM.out]; rfl, by rw [FD.out]; rfl, BU⟩
              case measure => simp [intOf]
          · go_wp2_with fail
            go_roundw
            case rel => exact ⟨3, by omega, rfl, by rw [SM.out]; rfl, by rw [FD.out]; rfl, BU⟩
            case measure => simp [intOf]
        · clear C1' e0
          cases o2
          · by_cases hq : q = 3
            · subst hq
              cases b1
              · cases b2
                · cases b3
                  · go_wp2_with fail
                    refine (T1.out _ BW.out).mono ?_; rintro e' u ⟨rfl, rfl⟩
                    go_wp2_with fail
                    refine (T2.out _ BW.out).mono ?_; rintro e' u ⟨rfl, rfl⟩
                    go_wp2_with fail
                    refine (T3.out _ BW.out).mono ?_; rintro e' u ⟨rfl, rfl⟩
                    go_wp2_with fail
                    go_roundw
                    case rel => exact ⟨3, by omega, rfl, by rw [SM.out]; rfl, by rw [FD.out]; rfl, BW⟩
                    case measure => simp [intOf]
                  · go_wp2_with fail
                    refine (T1.out _ BW.out).mono ?_; rintro e' u ⟨rfl, rfl⟩
                    go_wp2_with fail
                    refine (T2.out _ BW.out).mono ?_; rintro e' u ⟨rfl, rfl⟩
                    go_wp2_with fail
                    refine (T3.out _ BW.out).mono ?_; rintro e' u ⟨rfl, rfl⟩
                    go_wp2_with fail
                    go_roundw
                    case rel => exact ⟨3, by omega, rfl, by rw [SM.out]; rfl, by rw [FD.out]; rfl, BW⟩
                    case measure => simp [intOf]
                · cases b3
                  · go_wp2_with fail
                    refine (T1.out _ BW.out).mono ?_; rintro e' u ⟨rfl, rfl⟩
                    go_wp2_with fail
                    refine (T2.out _ BW.out).mono ?_; rintro e' u ⟨rfl, rfl⟩
                    go_wp2_with fail
                    refine (T3.out _ BW.out).mono ?_; rintro e' u ⟨rfl, rfl⟩
                    go_wp2_with fail
                    go_roundw
                    case rel => exact ⟨3, by omega, rfl, by rw [SM.out]; rfl, by rw [FD.out]; rfl, BW⟩
                    case measure => simp [intOf]
                  · go_wp2_with fail
                    refine (T1.out _ BW.out).mono ?_; rintro e' u ⟨rfl, rfl⟩
                    go_wp2_with fail
                    refine (T2.out _ BW.out).mono ?_; rintro e' u ⟨rfl, rfl⟩
                    go_wp2_with fail
                    refine (T3.out _ BW.out).mono ?_; rintro e' u ⟨rfl, rfl⟩
                    go_wp2_with fail
                    go_roundw
                    case rel => exact ⟨3, by omega, rfl, by rw [SM.out]; rfl, by rw [FD.out]; rfl, BW⟩
                    case measure => simp [intOf]
              · cases b2
                · cases b3
                  · go_wp2_with fail
                    refine (T1.out _ BW.out).mono ?_; rintro e' u ⟨rfl, rfl⟩
                    go_wp2_with fail
                    refine (T2.out _ BW.out).mono ?_; rintro e' u ⟨rfl, rfl⟩
                    go_wp2_with fail
                    refine (T3.out _ BW.out).mono ?_; rintro e' u ⟨rfl, rfl⟩
                    go_wp2_with fail
                    go_roundw
                    case rel => exact ⟨3, by omega, rfl, by rw [SM.out]; rfl, by rw [FD.out]; rfl, BW⟩
                    case measure => simp [intOf]
                  · go_wp2_with fail
                    refine (T1.out _ BW.out).mono ?_; rintro e' u ⟨rfl, rfl⟩
                    go_wp2_with fail
                    refine (T2.out _ BW.out).mono ?_; rintro e' u ⟨rfl, rfl⟩
                    go_wp2_with fail
                    refine (T3.out _ BW.out).mono ?_; rintro e' u ⟨rfl, rfl⟩
                    go_wp2_with fail
                    go_roundw
                    case rel => exact ⟨3, by omega, rfl, by rw [SM.out]; rfl, by rw [FD.out]; rfl, BW⟩
                    case measure => simp [intOf]
                · cases b3
                  · go_wp2_with fail
                    refine (T1.out _ BW.out).mono ?_; rintro e' u ⟨rfl, rfl⟩
                    go_wp2_with fail
                    refine (T2.out _ BW.out).mono ?_; rintro e' u ⟨rfl, rfl⟩
                    go_wp2_with fail
                    refine (T3.out _ BW.out).mono ?_; rintro e' u ⟨rfl, rfl⟩
                    go_wp2_with fail
                    go_roundw
                    case rel => exact ⟨3, by omega, rfl, by rw [SM.out]; rfl, by rw [FD.out]; rfl, BW⟩
                    case measure => simp [intOf]
                  · go_wp2_with fail
                    refine (T1.out _ BW.out).mono ?_; rintro e' u ⟨rfl, rfl⟩
                    go_wp2_with fail
                    refine (T2.out _ BW.out).mono ?_; rintro e' u ⟨rfl, rfl⟩
                    go_wp2_with fail
                    refine (T3.out _ BW.out).mono ?_; rintro e' u ⟨rfl, rfl⟩
                    go_wp2_with fail
                    go_roundw
                    case rel => exact ⟨3, by omega, rfl, by rw [SM.out]; rfl, by rw [FD.out]; rfl, BW⟩
                    case measure => simp [intOf]
            · have hq' : ¬ ((3 : Int) = q) := fun h => hq h.symm
              have hq2 : ((3 : Int) == q) = false := by simp [hq']
              rw [hq2] at FD
              go_wp2_with fail
              go_roundw
              case rel => exact ⟨3, by omega, rfl, by rw [SM.out]; rfl, by rw [FD.out]; rfl, BW⟩
              case measure => simp [intOf]
          · go_wp2_with fail
            go_roundw
            case rel => exact ⟨3, by omega, rfl, by rw [SM.out]; rfl, by rw [FD.out]; rfl, BW⟩
            case measure => simp [intOf]
      · rw [show (((3 : Nat) : Int) + 1) = 4 from rfl]
        rw [SOME.out, FND.out]
        go_wp2_with fail
        go_ret
        exact ⟨by simp, BQ.out _ BW.out⟩

end Go.Proofs.Ytmccbkmfcldbgab
