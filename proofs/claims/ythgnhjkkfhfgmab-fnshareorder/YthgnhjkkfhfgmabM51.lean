/-
  Several texts in one.
-/
import Derived.Test.YthgnhjkkfhfgmabZdn
import Derived.Test.YthgnhjkkfhfgmabM50
import Derived.Test.YthgnhjkkfhfgmabZmf
import Derived.Test.YthgnhjkkfhfgmabXia
import Derived.Test.YthgnhjkkfhfgmabZrs
import Derived.Test.YthgnhjkkfhfgmabHl
import Derived.Test.YthgnhjkkfhfgmabZrt
import Derived.Test.YthgnhjkkfhfgmabXsr
import Derived.Test.YthgnhjkkfhfgmabLy
import Derived.Test.YthgnhjkkfhfgmabHm
/-
  A book of shares and an order, drawn: DrawShareFits, with what l55Spoil does as a hypothesis.
-/
namespace Go.Proofs.Ythgnhjkkfhfgmab
open Go.RowKit Go.Sort

def DfE (w : World) (e : Ending) (w' : World) : Prop := ∃ (p0 : Option Addr) (m0 j0 : Nat) (p1 : Option Addr) (m1 j1 : Nat) (D : DShareBook) (ov : Option Addr) (nv kv : Nat) (O : List ByteArray), e = .returned (.tuple #[.agg #[.slice p0 m0 j0, .slice p1 m1 j1], .slice ov nv kv]) ∧ SzD 17 D ∧ SmL O ∧ Hid (AtL (fun b => w.heap.size < b ∧ b < w'.heap.size) w' D.1 (.slice p0 m0 j0) ∧ AtL (fun b => w.heap.size < b ∧ b < w'.heap.size) w' D.2 (.slice p1 m1 j1) ∧ AtL (fun b => w.heap.size < b ∧ b < w'.heap.size) w' O (.slice ov nv kv)) ∧ Hid (Below w.heap.size w w')
theorem DfE.of {w : World} {e : Ending} {w' : World} (h : ∃ (p0 : Option Addr) (m0 j0 : Nat) (p1 : Option Addr) (m1 j1 : Nat) (D : DShareBook) (ov : Option Addr) (nv kv : Nat) (O : List ByteArray), e = .returned (.tuple #[.agg #[.slice p0 m0 j0, .slice p1 m1 j1], .slice ov nv kv]) ∧ SzD 17 D ∧ SmL O ∧ Hid (AtL (fun b => w.heap.size < b ∧ b < w'.heap.size) w' D.1 (.slice p0 m0 j0) ∧ AtL (fun b => w.heap.size < b ∧ b < w'.heap.size) w' D.2 (.slice p1 m1 j1) ∧ AtL (fun b => w.heap.size < b ∧ b < w'.heap.size) w' O (.slice ov nv kv)) ∧ Hid (Below w.heap.size w w')) : DfE w e w' := h

/-- Where the drawing stands: the reader, the answer's box, the book in its box. -/
structure FT (R : Nat) (ob : Option Addr) (n cb : Nat) (f : Nat → Int) (w : World) (gb : Nat) (D : DShareBook) (p0 : Option Addr) (m0 j0 : Nat) (p1 : Option Addr) (m1 j1 : Nat) (u : World) (p : Int) : Prop where
  rd : Rd R u ob n cb p f
  res : u.heap[w.heap.size]? = some (.cells #[.slice none 0 0, .slice none 0 0] 26 (0, 0))
  bk : u.heap[gb]? = some (.cells #[.slice p0 m0 j0, .slice p1 m1 j1] 26 (0, 0))
  bel : Below w.heap.size w u
  rl : w.heap.size < R
  rg : R < gb
  a0 : AtL (fun b => w.heap.size < b ∧ b < gb ∧ b ≠ R) u D.1 (.slice p0 m0 j0)
  a1 : AtL (fun b => w.heap.size < b ∧ b < gb ∧ b ≠ R) u D.2 (.slice p1 m1 j1)
section
variable {R : Nat} {ob : Option Addr} {n cb : Nat} {f : Nat → Int} {w : World} {gb : Nat} {D : DShareBook} {p0 : Option Addr} {m0 j0 : Nat} {p1 : Option Addr} {m1 j1 : Nat} {u u' : World} {p p' : Int}
theorem FT.lt (h : FT R ob n cb f w gb D p0 m0 j0 p1 m1 j1 u p) : gb < u.heap.size := (Array.getElem?_eq_some_iff.1 h.bk).1
theorem FT.call (h : FT R ob n cb f w gb D p0 m0 j0 p1 m1 j1 u p) (hr : Rd R u' ob n cb p' f) (hb : But (fun k => k = R) u u') : FT R ob n cb f w gb D p0 m0 j0 p1 m1 j1 u' p' := by
  have l := h.lt
  have r1 := h.rl
  have r2 := h.rg
  exact ⟨hr, (hb.block _ (by omega) (by omega)).trans h.res, (hb.block _ l (by omega)).trans h.bk, h.bel.trans (hb.below (B := w.heap.size) (fun b hb => by omega) (by omega)), r1, r2, h.a0.same (fun b hx => hb.block b (by omega) hx.2.2), h.a1.same (fun b hx => hb.block b (by omega) hx.2.2)⟩
theorem FT.up (h : FT R ob n cb f w gb D p0 m0 j0 p1 m1 j1 u p) (hb : Below (gb + 1) u u') : FT R ob n cb f w gb D p0 m0 j0 p1 m1 j1 u' p := by
  have l := h.lt
  have r1 := h.rl
  have r2 := h.rg
  exact ⟨h.rd.but (fun b hx => hb.block b (by omega)), (hb.block _ (by omega)).trans h.res, (hb.block _ (by omega)).trans h.bk, h.bel.trans (hb.mono (by omega)), r1, r2, h.a0.same (fun b hx => hb.block b (by omega)), h.a1.same (fun b hx => hb.block b (by omega))⟩
end
theorem encS (l : List ByteArray) : enc 1 eS l = l.map Value.string := by
  induction l with
  | nil => rfl
  | cons a l ih => rw [enc_cons, ih]; rfl
theorem row_but {R B : Nat} {u u' : World} {v : Value} {O : List ByteArray} (h : Row u B 9 1 eS v O) (hR : R < B) (hb : But (fun k => k = R) u u') : Row u' B 9 1 eS v O :=
  Row.block h (fun g hg => hb.block g (World.ownsRow.lt h g hg).2 (by have := (World.ownsRow.lt h g hg).1; show ¬ g = R; omega))

set_option maxRecDepth 100000 in
set_option maxHeartbeats 16000000 in
theorem drawF_any (SP : SpoilC) (ob : Option Addr) (n cb : Nat) (f : Nat → Int) (w : World) (hn : n ≤ maxLen) (hnc : n ≤ cb) (fb : ∀ i, 0 ≤ f i ∧ f i ≤ 255)
    (ce : ∀ i, i < n → ∃ b off, ob = some ⟨b, off, none⟩ ∧ b < w.heap.size ∧ w.cell? ⟨b, off + i, none⟩ = some (.int .u8 (f i))) :
    Calls Try.prog 13 #[.slice ob n cb] w fun e w' => DfE w e w' := by
  have HSP : Hid SpoilC := SP
  have HOP : Hid (1 ≤ n → ∃ a, ob = some a) := fun h => by obtain ⟨b, off, h1, _⟩ := ce 0 (by omega); exact ⟨_, h1⟩
  have HCE : Hid _ := ce
  have HFB : Hid _ := fb
  obtain ⟨W, hW⟩ : ∃ W, W = w.alloc (.cells #[.slice none 0 0, .slice none 0 0] 26) := ⟨_, rfl⟩
  have EW : Hid (W = w.alloc (.cells #[.slice none 0 0, .slice none 0 0] 26)) := hW
  have BW : Hid (Below w.heap.size w W) := by rw [hW]; exact (Below.refl _ _).alloc (Nat.le_refl _) _
  have R1 : Hid (W.heap[w.heap.size]? = some (.cells #[.slice none 0 0, .slice none 0 0] 26 (0, 0))) := by rw [hW]; exact heap_alloc_new w _
  have SW : Hid (W.heap.size = w.heap.size + 1) := by rw [hW]; simp [Hid]
  clear ce fb hW SP
  go_enter Try.func13, Try.ntmps13
  go_upto_region 1 with fail
  rw [← EW.out]
  go_wp2_with fail
  refine (open_any ob n cb W hn hnc HOP.out).mono ?_
  rintro e W1 ⟨n', hn1, hn2, rfl, hW1⟩
  obtain ⟨R, hR⟩ : ∃ R, R = W.heap.size := ⟨_, rfl⟩
  have sw := SW.out
  have RD1 : Hid (Rd R W1 ob n' cb 0 f) := by
    rw [hW1, hR]
    refine ⟨heap_alloc_new W _, hn1, by omega, by omega, HFB.out, fun i hi => ?_⟩
    obtain ⟨b, off, h1, h2, h3⟩ := HCE.out i (by omega)
    exact ⟨b, off, h1, by omega, (World.cell?_of_block (w := w) (a := ⟨b, off + i, none⟩) ((Below.heap_alloc W _ b (by omega)).trans (BW.out.block b h2))).trans h3⟩
  have B1 : Hid (Below W.heap.size W W1) := by show Below W.heap.size W W1; rw [hW1]; exact (Below.refl _ _).alloc (Nat.le_refl _) _
  have s1 : W1.heap.size = w.heap.size + 2 := by rw [hW1]; simp; omega
  have rlo : R = w.heap.size + 1 := by omega
  rw [← hR]
  clear hR hW1 hn2 hn hnc HCE HFB HOP
  have RS1 : Hid (W1.heap[w.heap.size]? = some (.cells #[.slice none 0 0, .slice none 0 0] 26 (0, 0))) := (B1.out.block _ (by omega)).trans R1.out
  have BL1 : Hid (Below w.heap.size w W1) := BW.out.trans (B1.out.mono (by omega))
  have HR : Hid (R = w.heap.size + 1) := rlo
  have HS1 : Hid (W1.heap.size = w.heap.size + 2) := s1
  clear R1 B1 BW rlo s1 sw
  go_wp2_with fail
  refine (any_rd HSP.out R ob n' cb f 0 W1 RD1.out (by omega)).mono ?_
  rintro e W2 ⟨p0, m0, j0, p1, m1, j1, D, rfl, hsz, hat, q2, hq2, rd2, bt2⟩
  have rr := HR.out
  have s1 := HS1.out
  have s2 := bt2.out.size
  obtain ⟨gb, hgb⟩ : ∃ g, g = W2.heap.size := ⟨_, rfl⟩
  have EGB : Hid (gb = W2.heap.size) := hgb
  obtain ⟨U, hU⟩ : ∃ U, U = W2.alloc (.cells #[.slice p0 m0 j0, .slice p1 m1 j1] 26) := ⟨_, rfl⟩
  have EU : Hid (U = W2.alloc (.cells #[.slice p0 m0 j0, .slice p1 m1 j1] 26)) := hU
  have bU : Below W2.heap.size W2 U := by rw [hU]; exact (Below.refl _ _).alloc (Nat.le_refl _) _
  have hbt : But (fun k => k = R) W1 U := bt2.out.trans (But.of_below bU)
  have FU0 : Hid (FT R ob n' cb f w gb D p0 m0 j0 p1 m1 j1 U q2) := by
    refine ⟨rd2.out.but (fun b hb => bU.block b (by omega)), (hbt.block _ (by omega) (by omega)).trans RS1.out, ?_, BL1.out.trans (hbt.below (B := w.heap.size) (fun b hb => by omega) (by omega)), by omega, by omega, (hat.out.1.same (fun b hb => bU.block b hb.2)).up (fun b hb => ⟨by omega, by omega, by omega⟩), (hat.out.2.same (fun b hb => bU.block b hb.2)).up (fun b hb => ⟨by omega, by omega, by omega⟩)⟩
    rw [hgb, hU]; exact heap_alloc_new W2 _
  have HSZ : Hid (SzD 17 D) := hsz
  have EM1 : Hid (D.2.length = m1) := by obtain ⟨_, _, e, _⟩ := hat.out.2; cases e; rfl
  have hm1 : m1 ≤ 17 := by have := EM1.out; have := hsz.2.1; omega
  have sgU : Hid (U.heap.size = gb + 1) := by show _ = _; rw [hU, hgb]; simp
  have OF3 : Hid (∀ (V : World) (q : Int), Rd R V ob n' cb q f → q ≤ 90000 → Calls Try.prog 34 #[.pointer (some ⟨R, 0, none⟩), .slice (some ⟨V.heap.size, 0, none⟩) 3 3] (V.alloc (.cells #[.string ⟨#[]⟩, .string ⟨#[97, 108, 101]⟩, .string ⟨#[122, 122]⟩] 9)) fun e w' => ∃ s, s.size ≤ 64 ∧ e = .returned (.string s) ∧ ∃ p', p' ≤ q + 1 ∧ Rd R w' ob n' cb p' f ∧ But (fun k => k = R) V w') := fun V q hV hq => by
    have hr := hV.lt
    refine (of_rd R ob n' cb f q (fun b => b = V.heap.size) ([⟨#[]⟩, ⟨#[97, 108, 101]⟩, ⟨#[122, 122]⟩] : List ByteArray) _ _ (hV.but (fun b hb => Below.heap_alloc _ _ _ (by omega))) hq (lit_at 9 V [⟨#[]⟩, ⟨#[97, 108, 101]⟩, ⟨#[122, 122]⟩] (by unfold maxLen; simp) (by intro s hs; simp at hs; rcases hs with rfl | rfl | rfl <;> (unfold maxLen; decide))) (fun b hb => ⟨by rw [hb]; simp, by omega⟩) (by decide) (by decide)).mono ?_
    rintro e w' ⟨s, hs, he, p', hp', rd, bt⟩
    refine ⟨s, ?_, he, p', hp', rd.out, (But.of_below ((Below.refl _ _).alloc (Nat.le_refl _) _)).trans bt.out⟩
    simp at hs
    rcases hs with rfl | rfl | rfl <;> decide
  have CO : Hid (Calls Try.prog 6 #[.agg #[.slice p0 m0 j0, .slice p1 m1 j1]] U fun e w' => ∃ q, e = .returned (.tuple #[q, .bool (ordS (D.1, D.2)).2]) ∧ Row w' U.heap.size 9 1 eS q (ordS (D.1, D.2)).1 ∧ Below U.heap.size U w') := orderZ_any (fun b => w.heap.size < b ∧ b < gb ∧ b ≠ R) D.1 D.2 p0 p1 m0 j0 m1 j1 U FU0.out.a0 FU0.out.a1 (fun b hb => by have := FU0.out.lt; omega)
  clear hU hgb bU hbt hat hsz rd2 bt2 RS1 RD1 BL1 s2 s1 rr
  go_upto_region 3 with fail
  rw [← EU.out, ← EGB.out]
  clear EU EGB
  have y0 := (cell_row FU0.out.bk 0 _ rfl).1
  have y1 := (cell_row FU0.out.bk 1 _ rfl).1
  go_wp2_with fail
  refine Calls.mono CO.out ?_
  rintro e U2 ⟨vq, rfl, rowq, belq⟩
  clear y0 y1 CO
  have FQ : Hid (FT R ob n' cb f w gb D p0 m0 j0 p1 m1 j1 U2 q2) := FU0.out.up (by have := sgU.out; rw [← this]; exact belq)
  have RQ : Hid (Row U2 (gb + 1) 9 1 eS vq (ordS (D.1, D.2)).1) := by have h := rowq; rw [sgU.out] at h; exact h
  clear rowq belq FU0 sgU
  obtain ⟨ov, kv, ev⟩ := Row.form RQ.out
  subst ev
  obtain ⟨O, eO⟩ : ∃ O, (ordS (D.1, D.2)).1 = O := ⟨_, rfl⟩
  have HO0 : Hid ((ordS (D.1, D.2)).2 = true → SmL O) := fun h => by
    obtain ⟨_, h2, h3⟩ := fit_parts (safe_fits h)
    rw [eO] at h2 h3
    have := HSZ.out.2.1
    refine ⟨by omega, fun x hx => ?_⟩
    obtain ⟨i, hi, rfl⟩ := List.getElem_of_mem hx
    obtain ⟨q, hq, e, _⟩ := h3 i hi
    rw [← e]
    have := (HSZ.out.2.2 _ (List.getElem_mem hq)).1
    omega
  rw [eO] at RQ ⊢
  clear eO
  obtain ⟨nv, env⟩ : ∃ n, O.length = n := ⟨_, rfl⟩
  have ENV : Hid (O.length = nv) := env
  rw [env] at RQ ⊢
  clear env
  cases eo : (ordS (D.1, D.2)).2
  case false =>
    obtain ⟨FU0, _⟩ : Hid (FT R ob n' cb f w gb D p0 m0 j0 p1 m1 j1 U2 q2) ∧ True := ⟨FQ, trivial⟩
    clear FQ RQ HO0 ENV eo
    obtain ⟨V, hV⟩ : ∃ V, V = U2.alloc (.cells #[] 9) := ⟨_, rfl⟩
    have EV : Hid (V = U2.alloc (.cells #[] 9)) := hV
    have FV : Hid (FT R ob n' cb f w gb D p0 m0 j0 p1 m1 j1 V q2) := by rw [hV]; exact FU0.out.up ((Below.refl _ _).alloc (by have := FU0.out.lt; omega) _)
    have RV : Hid (Row V (gb + 1) 9 1 eS (.slice (some ⟨U2.heap.size, 0, none⟩) 0 0) []) := by rw [hV]; exact Row.made _ _ _ _ (by have := FU0.out.lt; omega)
    clear hV FU0
    go_wp2_with fail
    rw [← EV.out]
    clear EV
    generalize U2.heap.size = gu at RV ⊢
    go_loopw [6, 8] (fun v i wr => ∃ (k : Nat) (O : List ByteArray) (g cap : Nat) (pw : Int), k ≤ m1 ∧ i = .int .i64 k ∧ v = .slice (some ⟨g, 0, none⟩) k cap ∧ Hid (O.length = k) ∧ pw ≤ 27000 + k ∧ Hid (FT R ob n' cb f w gb D p0 m0 j0 p1 m1 j1 wr pw) ∧ Hid (Row wr (gb + 1) 9 1 eS (.slice (some ⟨g, 0, none⟩) k cap) O) ∧ Hid (SmL O)) (fun _ i _ => m1 - (intOf i).toNat)
    case atStart => exact ⟨0, [], gu, 0, q2, Nat.zero_le _, rfl, rfl, rfl, by omega, FV, RV, ⟨by simp, fun x hx => by cases hx⟩⟩
    case round =>
      clear FV RV
      obtain ⟨k, O, g, cap, pw, hk, rfl, rfl, hOl, hpw, FU, RU, HO⟩ := hrel
      have y1 := (cell_row FU.out.bk 1 _ rfl).1
      by_cases hlt : k < m1
      case neg =>
        have ENV : Hid (O.length = k) := hOl
        obtain ⟨ov, eov⟩ : ∃ o, o = some (⟨g, 0, none⟩ : Addr) := ⟨_, rfl⟩
        rw [← eov] at RU ⊢
        obtain ⟨nv, env⟩ : ∃ x, x = k := ⟨_, rfl⟩
        obtain ⟨kv, ekv⟩ : ∃ x, x = cap := ⟨_, rfl⟩
        have hkk : ¬ ((k : Int) < (m1 : Int)) := by omega
        have hpu : pw ≤ 28000 := by omega
        go_upto_region 11 with fail
        rw [← env] at ENV RU ⊢
        rw [← ekv] at RU ⊢
        clear eov env ekv hOl y1 hk hlt hkk hpw
        have hnv : nv ≤ 64 := by have := HO.out.1; have := ENV.out; omega
        by_cases hv0 : nv = 0
        · subst hv0
          have RS := FU.out.res
          have bkk := FU.out.bk
          have y0 := (cell_row bkk 0 _ rfl).1
          have y1 := (cell_row bkk 1 _ rfl).1
          have l9 := FU.out.lt
          have r9 := FU.out.rl
          have r8 := FU.out.rg
          have FIN : Hid (((wr.setCell ⟨w.heap.size, 0, none⟩ (.slice p0 m0 j0)).setCell ⟨w.heap.size, 1, none⟩ (.slice p1 m1 j1)).heap[w.heap.size]? = some (.cells #[.slice p0 m0 j0, .slice p1 m1 j1] 26 (0, 0))) := by
            have := set_row (set_row RS 0 (.slice p0 m0 j0)) 1 (.slice p1 m1 j1)
            show _ = _
            rw [this]; rfl
          have OTH : Hid (∀ q, q ≠ w.heap.size → ((wr.setCell ⟨w.heap.size, 0, none⟩ (.slice p0 m0 j0)).setCell ⟨w.heap.size, 1, none⟩ (.slice p1 m1 j1)).heap[q]? = wr.heap[q]?) := fun q hq => (Below.heap_setCell _ _ _ _ hq).trans (Below.heap_setCell _ _ _ _ hq)
          have BEL : Hid (Below w.heap.size w ((wr.setCell ⟨w.heap.size, 0, none⟩ (.slice p0 m0 j0)).setCell ⟨w.heap.size, 1, none⟩ (.slice p1 m1 j1))) := (FU.out.bel.setCell (p := ⟨w.heap.size, 0, none⟩) (Nat.le_refl _) _).setCell (p := ⟨w.heap.size, 1, none⟩) (Nat.le_refl _) _
          have SZF : Hid (((wr.setCell ⟨w.heap.size, 0, none⟩ (.slice p0 m0 j0)).setCell ⟨w.heap.size, 1, none⟩ (.slice p1 m1 j1)).heap.size = wr.heap.size) := by show _ = _; simp [World.setCell]
          have ATO : Hid (AtL (fun b => gb < b ∧ b < wr.heap.size) wr O (.slice ov 0 kv)) := flatS.row_at RU.out (fun b hb => by have := World.ownsRow.lt RU.out b hb; exact ⟨by omega, by omega⟩) (fun x hx => Nat.le_trans (HO.out.2 x hx) (by unfold maxLen; omega))
          obtain ⟨z0, f0⟩ := cell_row RS 0 (.slice none 0 0) rfl
          obtain ⟨z1, f1⟩ := cell_row RS 1 (.slice none 0 0) rfl
          have HL9 : Hid (gb < wr.heap.size ∧ w.heap.size < R ∧ R < gb) := ⟨l9, r9, r8⟩
          clear RS bkk l9 r9 r8
          go_wp2_with fail
          generalize ((wr.setCell ⟨w.heap.size, 0, none⟩ (.slice p0 m0 j0)).setCell ⟨w.heap.size, 1, none⟩ (.slice p1 m1 j1)) = F at FIN OTH BEL SZF ⊢
          have g0 := (cell_row FIN.out 0 (.slice p0 m0 j0) rfl).1
          have g1 := (cell_row FIN.out 1 (.slice p1 m1 j1) rfl).1
          have szf := SZF.out
          have l9 := HL9.out
          exact bodyPost_ret (v := .tuple #[.agg #[.slice p0 m0 j0, .slice p1 m1 j1], .slice ov 0 kv]) (by simp [results, Try.results13, go_sem, g0, g1]) rfl (DfE.of ⟨p0, m0, j0, p1, m1, j1, D, ov, 0, kv, O, rfl, HSZ.out, HO.out, ⟨AtL.up (AtL.same FU.out.a0 (fun b hb => OTH.out b (by omega))) (fun b hb => ⟨by omega, by omega⟩), AtL.up (AtL.same FU.out.a1 (fun b hb => OTH.out b (by omega))) (fun b hb => ⟨by omega, by omega⟩), AtL.up (AtL.same ATO.out (fun b hb => OTH.out b (by omega))) (fun b hb => ⟨by omega, by omega⟩)⟩, BEL⟩)
        have hnp : (0 : Int) < (nv : Int) := by omega
        have hol : 0 < O.length := by have := ENV.out; omega
        obtain ⟨g, cg, eg, hg1, hg2, _⟩ := Row.cell RU.out hol
        obtain ⟨rfl, e8, rfl⟩ : ov = some ⟨g, 0, none⟩ ∧ nv = O.length ∧ kv = cg := by cases eg; exact ⟨rfl, rfl, rfl⟩
        clear eg e8
        go_wp2_with fail
        refine (pick_rd R ob n' cb f pw 12 wr FU.out.rd (by omega) (by omega) (by omega)).mono ?_
        rintro e u6 ⟨z, rfl, hz0, hz1, q6, hq6, rd6, bt6⟩
        have FU6 : Hid (FT R ob n' cb f w gb D p0 m0 j0 p1 m1 j1 u6 q6) := FU.out.call rd6.out bt6.out
        have RU6 : Hid (Row u6 (gb + 1) 9 1 eS (.slice (some ⟨g, 0, none⟩) nv kv) O) := row_but RU.out (by have := FU.out.rg; omega) bt6.out
        clear rd6 bt6 FU RU
        by_cases hz : z = 0
        case neg =>
          obtain ⟨ov, eov⟩ : ∃ o, o = some (⟨g, 0, none⟩ : Addr) := ⟨_, rfl⟩
          rw [← eov] at RU6 ⊢
          clear eov
          have RS := FU6.out.res
          have bkk := FU6.out.bk
          have y0 := (cell_row bkk 0 _ rfl).1
          have y1 := (cell_row bkk 1 _ rfl).1
          have l9 := FU6.out.lt
          have r9 := FU6.out.rl
          have r8 := FU6.out.rg
          have FIN : Hid (((u6.setCell ⟨w.heap.size, 0, none⟩ (.slice p0 m0 j0)).setCell ⟨w.heap.size, 1, none⟩ (.slice p1 m1 j1)).heap[w.heap.size]? = some (.cells #[.slice p0 m0 j0, .slice p1 m1 j1] 26 (0, 0))) := by
            have := set_row (set_row RS 0 (.slice p0 m0 j0)) 1 (.slice p1 m1 j1)
            show _ = _
            rw [this]; rfl
          have OTH : Hid (∀ q, q ≠ w.heap.size → ((u6.setCell ⟨w.heap.size, 0, none⟩ (.slice p0 m0 j0)).setCell ⟨w.heap.size, 1, none⟩ (.slice p1 m1 j1)).heap[q]? = u6.heap[q]?) := fun q hq => (Below.heap_setCell _ _ _ _ hq).trans (Below.heap_setCell _ _ _ _ hq)
          have BEL : Hid (Below w.heap.size w ((u6.setCell ⟨w.heap.size, 0, none⟩ (.slice p0 m0 j0)).setCell ⟨w.heap.size, 1, none⟩ (.slice p1 m1 j1))) := (FU6.out.bel.setCell (p := ⟨w.heap.size, 0, none⟩) (Nat.le_refl _) _).setCell (p := ⟨w.heap.size, 1, none⟩) (Nat.le_refl _) _
          have SZF : Hid (((u6.setCell ⟨w.heap.size, 0, none⟩ (.slice p0 m0 j0)).setCell ⟨w.heap.size, 1, none⟩ (.slice p1 m1 j1)).heap.size = u6.heap.size) := by show _ = _; simp [World.setCell]
          have ATO : Hid (AtL (fun b => gb < b ∧ b < u6.heap.size) u6 O (.slice ov nv kv)) := flatS.row_at RU6.out (fun b hb => by have := World.ownsRow.lt RU6.out b hb; exact ⟨by omega, by omega⟩) (fun x hx => Nat.le_trans (HO.out.2 x hx) (by unfold maxLen; omega))
          obtain ⟨z0, f0⟩ := cell_row RS 0 (.slice none 0 0) rfl
          obtain ⟨z1, f1⟩ := cell_row RS 1 (.slice none 0 0) rfl
          have HL9 : Hid (gb < u6.heap.size ∧ w.heap.size < R ∧ R < gb) := ⟨l9, r9, r8⟩
          clear RS bkk l9 r9 r8
          go_wp2_with fail
          generalize ((u6.setCell ⟨w.heap.size, 0, none⟩ (.slice p0 m0 j0)).setCell ⟨w.heap.size, 1, none⟩ (.slice p1 m1 j1)) = F at FIN OTH BEL SZF ⊢
          have g0 := (cell_row FIN.out 0 (.slice p0 m0 j0) rfl).1
          have g1 := (cell_row FIN.out 1 (.slice p1 m1 j1) rfl).1
          have szf := SZF.out
          have l9 := HL9.out
          exact bodyPost_ret (v := .tuple #[.agg #[.slice p0 m0 j0, .slice p1 m1 j1], .slice ov nv kv]) (by simp [results, Try.results13, go_sem, g0, g1]) rfl (DfE.of ⟨p0, m0, j0, p1, m1, j1, D, ov, nv, kv, O, rfl, HSZ.out, HO.out, ⟨AtL.up (AtL.same FU6.out.a0 (fun b hb => OTH.out b (by omega))) (fun b hb => ⟨by omega, by omega⟩), AtL.up (AtL.same FU6.out.a1 (fun b hb => OTH.out b (by omega))) (fun b hb => ⟨by omega, by omega⟩), AtL.up (AtL.same ATO.out (fun b hb => OTH.out b (by omega))) (fun b hb => ⟨by omega, by omega⟩)⟩, BEL⟩)
        subst hz
        go_wp2_with fail
        refine (pick_rd R ob n' cb f q6 (nv : Int) u6 FU6.out.rd (by omega) (by omega) (by omega)).mono ?_
        rintro e u7 ⟨y, rfl, hy0, hy1, q7, hq7, rd7, bt7⟩
        obtain ⟨k, rfl⟩ : ∃ k : Nat, y = (k : Int) := ⟨y.toNat, by omega⟩
        have FU7 : Hid (FT R ob n' cb f w gb D p0 m0 j0 p1 m1 j1 u7 q7) := FU6.out.call rd7.out bt7.out
        have RU7 : Hid (Row u7 (gb + 1) 9 1 eS (.slice (some ⟨g, 0, none⟩) nv kv) O) := row_but RU6.out (by have := FU6.out.rg; omega) bt7.out
        clear rd7 bt7 FU6 RU6
        go_wp2_with fail
        refine (OF3.out u7 q7 FU7.out.rd (by omega)).mono ?_
        rintro e u8 ⟨s, hs, rfl, q8, hq8, rd8, bt8⟩
        have FU8 : Hid (FT R ob n' cb f w gb D p0 m0 j0 p1 m1 j1 u8 q8) := FU7.out.call rd8 bt8
        have RU8 : Hid (Row u8 (gb + 1) 9 1 eS (.slice (some ⟨g, 0, none⟩) nv kv) O) := row_but RU7.out (by have := FU7.out.rg; omega) bt8
        clear rd8 bt8 FU7 RU7
        have hkn : k < nv := by omega
        have hkl : k < O.length := by have := ENV.out; omega
        have c8 := (Row.cell RU8.out hkl)
        obtain ⟨g', cg', eg', hg1', hg2', hcc⟩ := c8
        obtain ⟨rfl, _⟩ : g = g' ∧ True := ⟨by cases eg'; rfl, trivial⟩
        clear eg'
        obtain ⟨c8, f8⟩ := hcc 0 (by omega)
        have c8' : u8.cell? ⟨g, k, none⟩ = some (.string O[k]) := by simpa [eS] using c8
        have f8' : u8.frozen? ⟨g, k, none⟩ = false := by simpa using f8
        generalize O[k] = old at c8'
        have FU9 : Hid (FT R ob n' cb f w gb D p0 m0 j0 p1 m1 j1 (u8.setCell ⟨g, k, none⟩ (.string s)) q8) := FU8.out.up ((Below.refl _ _).setCell (p := ⟨g, k, none⟩) (by show gb + 1 ≤ g; omega) _)
        have RU9 : Hid (Row (u8.setCell ⟨g, k, none⟩ (.string s)) (gb + 1) 9 1 eS (.slice (some ⟨g, 0, none⟩) nv kv) (O.set k s)) := by
          have h0 : Row u8 (gb + 1) 9 1 eS (.slice (some ⟨g, 0, none⟩) O.length kv) O := by rw [ENV.out]; exact RU8.out
          have h := (Row.put h0 hkl (j := 0) (by omega) (.string s) s (fun q hq => by obtain rfl : q = 0 := (by omega); rfl)).1
          rw [ENV.out] at h
          show Row _ _ _ _ _ _ _
          simpa using h
        have HO9 : Hid (SmL (O.set k s)) := ⟨by rw [List.length_set]; exact HO.out.1, fun x hx => by
          rcases List.mem_or_eq_of_mem_set hx with h | h
          · exact HO.out.2 x h
          · rw [h]; exact hs⟩
        clear c8 f8 hcc hg1' hg2'
        go_upto_region 13 with fail
        generalize u8.setCell ⟨g, k, none⟩ (.string s) = u9 at FU9 RU9 ⊢
        generalize O.set k s = O9 at RU9 HO9
        obtain ⟨ov, eov⟩ : ∃ o, o = some (⟨g, 0, none⟩ : Addr) := ⟨_, rfl⟩
        rw [← eov] at RU9 ⊢
        clear eov c8' f8' FU8 RU8 HO
        have RS := FU9.out.res
        have bkk := FU9.out.bk
        have y0 := (cell_row bkk 0 _ rfl).1
        have y1 := (cell_row bkk 1 _ rfl).1
        have l9 := FU9.out.lt
        have r9 := FU9.out.rl
        have r8 := FU9.out.rg
        have FIN : Hid (((u9.setCell ⟨w.heap.size, 0, none⟩ (.slice p0 m0 j0)).setCell ⟨w.heap.size, 1, none⟩ (.slice p1 m1 j1)).heap[w.heap.size]? = some (.cells #[.slice p0 m0 j0, .slice p1 m1 j1] 26 (0, 0))) := by
          have := set_row (set_row RS 0 (.slice p0 m0 j0)) 1 (.slice p1 m1 j1)
          show _ = _
          rw [this]; rfl
        have OTH : Hid (∀ q, q ≠ w.heap.size → ((u9.setCell ⟨w.heap.size, 0, none⟩ (.slice p0 m0 j0)).setCell ⟨w.heap.size, 1, none⟩ (.slice p1 m1 j1)).heap[q]? = u9.heap[q]?) := fun q hq => (Below.heap_setCell _ _ _ _ hq).trans (Below.heap_setCell _ _ _ _ hq)
        have BEL : Hid (Below w.heap.size w ((u9.setCell ⟨w.heap.size, 0, none⟩ (.slice p0 m0 j0)).setCell ⟨w.heap.size, 1, none⟩ (.slice p1 m1 j1))) := (FU9.out.bel.setCell (p := ⟨w.heap.size, 0, none⟩) (Nat.le_refl _) _).setCell (p := ⟨w.heap.size, 1, none⟩) (Nat.le_refl _) _
        have SZF : Hid (((u9.setCell ⟨w.heap.size, 0, none⟩ (.slice p0 m0 j0)).setCell ⟨w.heap.size, 1, none⟩ (.slice p1 m1 j1)).heap.size = u9.heap.size) := by show _ = _; simp [World.setCell]
        have ATO : Hid (AtL (fun b => gb < b ∧ b < u9.heap.size) u9 O9 (.slice ov nv kv)) := flatS.row_at RU9.out (fun b hb => by have := World.ownsRow.lt RU9.out b hb; exact ⟨by omega, by omega⟩) (fun x hx => Nat.le_trans (HO9.out.2 x hx) (by unfold maxLen; omega))
        obtain ⟨z0, f0⟩ := cell_row RS 0 (.slice none 0 0) rfl
        obtain ⟨z1, f1⟩ := cell_row RS 1 (.slice none 0 0) rfl
        have HL9 : Hid (gb < u9.heap.size ∧ w.heap.size < R ∧ R < gb) := ⟨l9, r9, r8⟩
        clear RS bkk l9 r9 r8
        go_wp2_with fail
        generalize ((u9.setCell ⟨w.heap.size, 0, none⟩ (.slice p0 m0 j0)).setCell ⟨w.heap.size, 1, none⟩ (.slice p1 m1 j1)) = F at FIN OTH BEL SZF ⊢
        have g0 := (cell_row FIN.out 0 (.slice p0 m0 j0) rfl).1
        have g1 := (cell_row FIN.out 1 (.slice p1 m1 j1) rfl).1
        have szf := SZF.out
        have l9 := HL9.out
        exact bodyPost_ret (v := .tuple #[.agg #[.slice p0 m0 j0, .slice p1 m1 j1], .slice ov nv kv]) (by simp [results, Try.results13, go_sem, g0, g1]) rfl (DfE.of ⟨p0, m0, j0, p1, m1, j1, D, ov, nv, kv, O9, rfl, HSZ.out, HO9.out, ⟨AtL.up (AtL.same FU9.out.a0 (fun b hb => OTH.out b (by omega))) (fun b hb => ⟨by omega, by omega⟩), AtL.up (AtL.same FU9.out.a1 (fun b hb => OTH.out b (by omega))) (fun b hb => ⟨by omega, by omega⟩), AtL.up (AtL.same ATO.out (fun b hb => OTH.out b (by omega))) (fun b hb => ⟨by omega, by omega⟩)⟩, BEL⟩)
      have hkl : k < D.2.length := by have := EM1.out; omega
      obtain ⟨bb, off, o1, n1, k1, o2, n2, k2, rfl, hbS, e0, _, _, _, _, _⟩ := bat_at FU.out.a1 k hkl
      have zf : Hid (D.2[k].1.size ≤ 64) := by have := (HSZ.out.2.2 _ (List.getElem_mem hkl)).1; show _ ≤ _; omega
      clear e0
      go_wp2_with fail
      refine (pick_rd R ob n' cb f pw ((k : Int) + 1) wr FU.out.rd (by omega) (by omega) (by omega)).mono ?_
      rintro e u4 ⟨z, rfl, hz0, hz1, q4, hq4, rd4, bt4⟩
      obtain ⟨j, rfl⟩ : ∃ j : Nat, z = (j : Int) := ⟨z.toNat, by omega⟩
      have FU4 : Hid (FT R ob n' cb f w gb D p0 m0 j0 (some ⟨bb, off, none⟩) m1 j1 u4 q4) := FU.out.call rd4.out bt4.out
      have RU4 : Hid (Row u4 (gb + 1) 9 1 eS (.slice (some ⟨g, 0, none⟩) k cap) O) := row_but RU.out (by have := FU.out.rg; omega) bt4.out
      clear rd4 bt4 FU RU y1
      have y1 := (cell_row FU4.out.bk 1 _ rfl).1
      obtain ⟨b', off', _, _, _, _, _, _, e9, _, e0, _, _, _, _, _⟩ := bat_at FU4.out.a1 k hkl
      cases e9
      have own : u4.ownsRow (gb + 1) 9 1 (.slice (some ⟨g, 0, none⟩) O.length cap) O.length (O.map .string) := by
        have h := RU4.out
        rw [Row, encS] at h
        rw [← hOl.out] at h
        exact h
      obtain ⟨hcap, hc⟩ := own_cells own
      rw [hOl.out] at hcap hc
      have HC : Hid (∀ i, i < k → u4.cell? ⟨g, i, none⟩ = some (.string (nthB O i))) := hc
      have hjk : j ≤ k := by omega
      have hkc : (j : Int) ≤ (cap : Int) := by omega
      have hkn : (j : Int) ≤ (k : Int) := by omega
      obtain ⟨x, ex⟩ : ∃ x, D.2[k].1 = x := ⟨_, rfl⟩
      rw [ex] at e0 zf
      have hcap' : k ≤ cap := hcap
      have hk17 : k ≤ 17 := by omega
      clear own hc ex hcap
      go_upto_region 10 with fail
      have qy1 := fun d os => cell_regrown y1 d os
      have qe0 := fun d os => cell_regrown e0 d os
      refine wp_region_mix 17 [1, 2, 3, 5, 6, 7, 8, 9, 10, 13, 14, 15] (by kernel_rfl) (by kernel_rfl) ?_
      simp only [List.filterMap_cons, List.filterMap_nil, List.getElem?_cons_succ, List.getElem?_cons_zero]
      repeat (first | go_big_quiet_step (fail) | quiet_step (fail))
      refine wpQuiet_nil ?_
      refine ins3 (md := .any) (i0 := 0) (i1 := 4) (i2 := 11) (i3 := 12) (i4 := 16) (d0 := 39) (d1 := 43) (d2 := 50) (d3 := 51) (d4 := 55) (k1 := 42) (k2 := 54) (kx := 49) (X := .string x) (t := 23) (e := 9)
        ⟨_, _, _, _, _, ⟨rfl, rfl, rfl, by decide⟩, ⟨rfl, rfl, rfl, by decide⟩, ⟨rfl, rfl, rfl, by decide⟩, ⟨rfl, rfl, rfl, by decide⟩, ⟨rfl, rfl, rfl, by decide⟩, rfl, rfl, rfl, ?run0U2, ?run2U2, by decide, by decide, by kernel_rfl, by kernel_rfl, by kernel_rfl, by kernel_rfl, by kernel_rfl, by kernel_rfl, by kernel_rfl⟩
        elSX (W := u4) ⟨by simp, by simp, by simp, by simp, by simp⟩ rfl rfl rfl (src_take hOl.out hjk HC.out) (src_drop hOl.out hjk hcap' HC.out) rfl ?u1U2 ?u2U2 ?uxU2 (by omega) (by unfold maxLen; omega) ?KU2
      case run0U2 => intro bb ww; go_simp
      case run2U2 =>
        intro bb hx ww
        have hx' : bb.tmps[49]?.getD undef = .string x := by simpa [Act.eval] using hx
        clear hx
        go_simp
      case u1U2 => intro v hv; obtain ⟨_, _, rfl⟩ := List.mem_map.1 hv; rfl
      case u2U2 => intro v hv; obtain ⟨_, _, rfl⟩ := List.mem_map.1 hv; rfl
      case uxU2 => intro v hv; simp [Value.cells] at hv; subst hv; rfl
      case KU2 =>
        intro r0 r1 r2 r3 r4 w4 hown hb4
        refine ⟨by kernel_rfl, ?_⟩
        simp only [List.drop_succ_cons, List.drop_zero]
        have hnk : j + 1 + (k - j) = k + 1 := by omega
        have hcs : (O.take j).map Value.string ++ (Value.string x).cells.toList ++ (O.drop j).map Value.string = (O.take j ++ [x] ++ O.drop j).map .string := by simp [Value.cells]
        rw [hnk, hcs] at hown
        have FU5 : Hid (FT R ob n' cb f w gb D p0 m0 j0 (some ⟨bb, off, none⟩) m1 j1 w4 q4) := FU4.out.up (hb4.mono (by have := FU4.out.lt; omega))
        have len5 : (O.take j ++ [x] ++ O.drop j).length = k + 1 := by have := hOl.out; simp; omega
        have HO5 : Hid (SmL (O.take j ++ [x] ++ O.drop j)) := ⟨by rw [len5]; omega, fun y hy => by
          rcases List.mem_append.1 hy with h | h
          · rcases List.mem_append.1 h with h | h
            · exact HO.out.2 y (List.mem_of_mem_take h)
            · simp at h; rw [h]; exact zf.out
          · exact HO.out.2 y (List.mem_of_mem_drop h)⟩
        rcases id hown.2 with ⟨e5, e6⟩ | ⟨g', cap', cur, rfl, hbg, _⟩
        · exfalso; omega
        have RU5 : Hid (Row w4 (gb + 1) 9 1 eS (.slice (some ⟨g', 0, none⟩) (k + 1) cap') (O.take j ++ [x] ++ O.drop j)) := by
          show World.ownsRow _ _ _ _ _ _ _
          rw [len5, encS]
          exact Go.Joins.ownsRow_le hown (by have := FU4.out.lt; omega)
        have HLEN : Hid ((O.take j ++ [x] ++ O.drop j).length = k + 1) := len5
        clear hown hcs hnk hb4 hbg len5 e0 y1 qy1 qe0
        simp only [Act.put, List.setIfInBounds_toArray, List.set_cons_zero, List.set_cons_succ]
        go_wp2_with fail
        go_roundw
        case rel => exact ⟨k + 1, _, g', cap', q4, by omega, by go_num, rfl, HLEN, by omega, FU5, RU5, HO5⟩
        case measure => simp [intOf]; omega
  have HO : Hid (SmL O) := HO0.out eo
  clear HO0
  go_wp2_with fail
  refine (pick_rd R ob n' cb f q2 2 U2 FQ.out.rd (by omega) (by omega) (by omega)).mono ?_
  rintro e U3 ⟨z, rfl, hz0, hz1, q3, hq3, rd3, bt3⟩
  have F3 : Hid (FT R ob n' cb f w gb D p0 m0 j0 p1 m1 j1 U3 q3) := FQ.out.call rd3.out bt3.out
  have RU : Hid (Row U3 (gb + 1) 9 1 eS (.slice ov nv kv) O) := row_but RQ.out (by have := FQ.out.rg; omega) bt3.out
  clear rd3 bt3 FQ RQ
  by_cases hz : z = 0
  · subst hz
    have FU0 : Hid (FT R ob n' cb f w gb D p0 m0 j0 p1 m1 j1 U3 q3) := F3
    clear F3 RU HO ENV eo
    obtain ⟨V, hV⟩ : ∃ V, V = U3.alloc (.cells #[] 9) := ⟨_, rfl⟩
    have EV : Hid (V = U3.alloc (.cells #[] 9)) := hV
    have FV : Hid (FT R ob n' cb f w gb D p0 m0 j0 p1 m1 j1 V q3) := by rw [hV]; exact FU0.out.up ((Below.refl _ _).alloc (by have := FU0.out.lt; omega) _)
    have RV : Hid (Row V (gb + 1) 9 1 eS (.slice (some ⟨U3.heap.size, 0, none⟩) 0 0) []) := by rw [hV]; exact Row.made _ _ _ _ (by have := FU0.out.lt; omega)
    clear hV FU0
    go_wp2_with fail
    rw [← EV.out]
    clear EV
    generalize U3.heap.size = gu at RV ⊢
    go_loopw [6, 8] (fun v i wr => ∃ (k : Nat) (O : List ByteArray) (g cap : Nat) (pw : Int), k ≤ m1 ∧ i = .int .i64 k ∧ v = .slice (some ⟨g, 0, none⟩) k cap ∧ Hid (O.length = k) ∧ pw ≤ 27000 + k ∧ Hid (FT R ob n' cb f w gb D p0 m0 j0 p1 m1 j1 wr pw) ∧ Hid (Row wr (gb + 1) 9 1 eS (.slice (some ⟨g, 0, none⟩) k cap) O) ∧ Hid (SmL O)) (fun _ i _ => m1 - (intOf i).toNat)
    case atStart => exact ⟨0, [], gu, 0, q3, Nat.zero_le _, rfl, rfl, rfl, by omega, FV, RV, ⟨by simp, fun x hx => by cases hx⟩⟩
    case round =>
      clear FV RV
      obtain ⟨k, O, g, cap, pw, hk, rfl, rfl, hOl, hpw, FU, RU, HO⟩ := hrel
      have y1 := (cell_row FU.out.bk 1 _ rfl).1
      by_cases hlt : k < m1
      case neg =>
        have ENV : Hid (O.length = k) := hOl
        obtain ⟨ov, eov⟩ : ∃ o, o = some (⟨g, 0, none⟩ : Addr) := ⟨_, rfl⟩
        rw [← eov] at RU ⊢
        obtain ⟨nv, env⟩ : ∃ x, x = k := ⟨_, rfl⟩
        obtain ⟨kv, ekv⟩ : ∃ x, x = cap := ⟨_, rfl⟩
        have hkk : ¬ ((k : Int) < (m1 : Int)) := by omega
        have hpu : pw ≤ 28000 := by omega
        go_upto_region 11 with fail
        rw [← env] at ENV RU ⊢
        rw [← ekv] at RU ⊢
        clear eov env ekv hOl y1 hk hlt hkk hpw
        have hnv : nv ≤ 64 := by have := HO.out.1; have := ENV.out; omega
        by_cases hv0 : nv = 0
        · subst hv0
          have RS := FU.out.res
          have bkk := FU.out.bk
          have y0 := (cell_row bkk 0 _ rfl).1
          have y1 := (cell_row bkk 1 _ rfl).1
          have l9 := FU.out.lt
          have r9 := FU.out.rl
          have r8 := FU.out.rg
          have FIN : Hid (((wr.setCell ⟨w.heap.size, 0, none⟩ (.slice p0 m0 j0)).setCell ⟨w.heap.size, 1, none⟩ (.slice p1 m1 j1)).heap[w.heap.size]? = some (.cells #[.slice p0 m0 j0, .slice p1 m1 j1] 26 (0, 0))) := by
            have := set_row (set_row RS 0 (.slice p0 m0 j0)) 1 (.slice p1 m1 j1)
            show _ = _
            rw [this]; rfl
          have OTH : Hid (∀ q, q ≠ w.heap.size → ((wr.setCell ⟨w.heap.size, 0, none⟩ (.slice p0 m0 j0)).setCell ⟨w.heap.size, 1, none⟩ (.slice p1 m1 j1)).heap[q]? = wr.heap[q]?) := fun q hq => (Below.heap_setCell _ _ _ _ hq).trans (Below.heap_setCell _ _ _ _ hq)
          have BEL : Hid (Below w.heap.size w ((wr.setCell ⟨w.heap.size, 0, none⟩ (.slice p0 m0 j0)).setCell ⟨w.heap.size, 1, none⟩ (.slice p1 m1 j1))) := (FU.out.bel.setCell (p := ⟨w.heap.size, 0, none⟩) (Nat.le_refl _) _).setCell (p := ⟨w.heap.size, 1, none⟩) (Nat.le_refl _) _
          have SZF : Hid (((wr.setCell ⟨w.heap.size, 0, none⟩ (.slice p0 m0 j0)).setCell ⟨w.heap.size, 1, none⟩ (.slice p1 m1 j1)).heap.size = wr.heap.size) := by show _ = _; simp [World.setCell]
          have ATO : Hid (AtL (fun b => gb < b ∧ b < wr.heap.size) wr O (.slice ov 0 kv)) := flatS.row_at RU.out (fun b hb => by have := World.ownsRow.lt RU.out b hb; exact ⟨by omega, by omega⟩) (fun x hx => Nat.le_trans (HO.out.2 x hx) (by unfold maxLen; omega))
          obtain ⟨z0, f0⟩ := cell_row RS 0 (.slice none 0 0) rfl
          obtain ⟨z1, f1⟩ := cell_row RS 1 (.slice none 0 0) rfl
          have HL9 : Hid (gb < wr.heap.size ∧ w.heap.size < R ∧ R < gb) := ⟨l9, r9, r8⟩
          clear RS bkk l9 r9 r8
          go_wp2_with fail
          generalize ((wr.setCell ⟨w.heap.size, 0, none⟩ (.slice p0 m0 j0)).setCell ⟨w.heap.size, 1, none⟩ (.slice p1 m1 j1)) = F at FIN OTH BEL SZF ⊢
          have g0 := (cell_row FIN.out 0 (.slice p0 m0 j0) rfl).1
          have g1 := (cell_row FIN.out 1 (.slice p1 m1 j1) rfl).1
          have szf := SZF.out
          have l9 := HL9.out
          exact bodyPost_ret (v := .tuple #[.agg #[.slice p0 m0 j0, .slice p1 m1 j1], .slice ov 0 kv]) (by simp [results, Try.results13, go_sem, g0, g1]) rfl (DfE.of ⟨p0, m0, j0, p1, m1, j1, D, ov, 0, kv, O, rfl, HSZ.out, HO.out, ⟨AtL.up (AtL.same FU.out.a0 (fun b hb => OTH.out b (by omega))) (fun b hb => ⟨by omega, by omega⟩), AtL.up (AtL.same FU.out.a1 (fun b hb => OTH.out b (by omega))) (fun b hb => ⟨by omega, by omega⟩), AtL.up (AtL.same ATO.out (fun b hb => OTH.out b (by omega))) (fun b hb => ⟨by omega, by omega⟩)⟩, BEL⟩)
        have hnp : (0 : Int) < (nv : Int) := by omega
        have hol : 0 < O.length := by have := ENV.out; omega
        obtain ⟨g, cg, eg, hg1, hg2, _⟩ := Row.cell RU.out hol
        obtain ⟨rfl, e8, rfl⟩ : ov = some ⟨g, 0, none⟩ ∧ nv = O.length ∧ kv = cg := by cases eg; exact ⟨rfl, rfl, rfl⟩
        clear eg e8
        go_wp2_with fail
        refine (pick_rd R ob n' cb f pw 12 wr FU.out.rd (by omega) (by omega) (by omega)).mono ?_
        rintro e u6 ⟨z, rfl, hz0, hz1, q6, hq6, rd6, bt6⟩
        have FU6 : Hid (FT R ob n' cb f w gb D p0 m0 j0 p1 m1 j1 u6 q6) := FU.out.call rd6.out bt6.out
        have RU6 : Hid (Row u6 (gb + 1) 9 1 eS (.slice (some ⟨g, 0, none⟩) nv kv) O) := row_but RU.out (by have := FU.out.rg; omega) bt6.out
        clear rd6 bt6 FU RU
        by_cases hz : z = 0
        case neg =>
          obtain ⟨ov, eov⟩ : ∃ o, o = some (⟨g, 0, none⟩ : Addr) := ⟨_, rfl⟩
          rw [← eov] at RU6 ⊢
          clear eov
          have RS := FU6.out.res
          have bkk := FU6.out.bk
          have y0 := (cell_row bkk 0 _ rfl).1
          have y1 := (cell_row bkk 1 _ rfl).1
          have l9 := FU6.out.lt
          have r9 := FU6.out.rl
          have r8 := FU6.out.rg
          have FIN : Hid (((u6.setCell ⟨w.heap.size, 0, none⟩ (.slice p0 m0 j0)).setCell ⟨w.heap.size, 1, none⟩ (.slice p1 m1 j1)).heap[w.heap.size]? = some (.cells #[.slice p0 m0 j0, .slice p1 m1 j1] 26 (0, 0))) := by
            have := set_row (set_row RS 0 (.slice p0 m0 j0)) 1 (.slice p1 m1 j1)
            show _ = _
            rw [this]; rfl
          have OTH : Hid (∀ q, q ≠ w.heap.size → ((u6.setCell ⟨w.heap.size, 0, none⟩ (.slice p0 m0 j0)).setCell ⟨w.heap.size, 1, none⟩ (.slice p1 m1 j1)).heap[q]? = u6.heap[q]?) := fun q hq => (Below.heap_setCell _ _ _ _ hq).trans (Below.heap_setCell _ _ _ _ hq)
          have BEL : Hid (Below w.heap.size w ((u6.setCell ⟨w.heap.size, 0, none⟩ (.slice p0 m0 j0)).setCell ⟨w.heap.size, 1, none⟩ (.slice p1 m1 j1))) := (FU6.out.bel.setCell (p := ⟨w.heap.size, 0, none⟩) (Nat.le_refl _) _).setCell (p := ⟨w.heap.size, 1, none⟩) (Nat.le_refl _) _
          have SZF : Hid (((u6.setCell ⟨w.heap.size, 0, none⟩ (.slice p0 m0 j0)).setCell ⟨w.heap.size, 1, none⟩ (.slice p1 m1 j1)).heap.size = u6.heap.size) := by show _ = _; simp [World.setCell]
          have ATO : Hid (AtL (fun b => gb < b ∧ b < u6.heap.size) u6 O (.slice ov nv kv)) := flatS.row_at RU6.out (fun b hb => by have := World.ownsRow.lt RU6.out b hb; exact ⟨by omega, by omega⟩) (fun x hx => Nat.le_trans (HO.out.2 x hx) (by unfold maxLen; omega))
          obtain ⟨z0, f0⟩ := cell_row RS 0 (.slice none 0 0) rfl
          obtain ⟨z1, f1⟩ := cell_row RS 1 (.slice none 0 0) rfl
          have HL9 : Hid (gb < u6.heap.size ∧ w.heap.size < R ∧ R < gb) := ⟨l9, r9, r8⟩
          clear RS bkk l9 r9 r8
          go_wp2_with fail
          generalize ((u6.setCell ⟨w.heap.size, 0, none⟩ (.slice p0 m0 j0)).setCell ⟨w.heap.size, 1, none⟩ (.slice p1 m1 j1)) = F at FIN OTH BEL SZF ⊢
          have g0 := (cell_row FIN.out 0 (.slice p0 m0 j0) rfl).1
          have g1 := (cell_row FIN.out 1 (.slice p1 m1 j1) rfl).1
          have szf := SZF.out
          have l9 := HL9.out
          exact bodyPost_ret (v := .tuple #[.agg #[.slice p0 m0 j0, .slice p1 m1 j1], .slice ov nv kv]) (by simp [results, Try.results13, go_sem, g0, g1]) rfl (DfE.of ⟨p0, m0, j0, p1, m1, j1, D, ov, nv, kv, O, rfl, HSZ.out, HO.out, ⟨AtL.up (AtL.same FU6.out.a0 (fun b hb => OTH.out b (by omega))) (fun b hb => ⟨by omega, by omega⟩), AtL.up (AtL.same FU6.out.a1 (fun b hb => OTH.out b (by omega))) (fun b hb => ⟨by omega, by omega⟩), AtL.up (AtL.same ATO.out (fun b hb => OTH.out b (by omega))) (fun b hb => ⟨by omega, by omega⟩)⟩, BEL⟩)
        subst hz
        go_wp2_with fail
        refine (pick_rd R ob n' cb f q6 (nv : Int) u6 FU6.out.rd (by omega) (by omega) (by omega)).mono ?_
        rintro e u7 ⟨y, rfl, hy0, hy1, q7, hq7, rd7, bt7⟩
        obtain ⟨k, rfl⟩ : ∃ k : Nat, y = (k : Int) := ⟨y.toNat, by omega⟩
        have FU7 : Hid (FT R ob n' cb f w gb D p0 m0 j0 p1 m1 j1 u7 q7) := FU6.out.call rd7.out bt7.out
        have RU7 : Hid (Row u7 (gb + 1) 9 1 eS (.slice (some ⟨g, 0, none⟩) nv kv) O) := row_but RU6.out (by have := FU6.out.rg; omega) bt7.out
        clear rd7 bt7 FU6 RU6
        go_wp2_with fail
        refine (OF3.out u7 q7 FU7.out.rd (by omega)).mono ?_
        rintro e u8 ⟨s, hs, rfl, q8, hq8, rd8, bt8⟩
        have FU8 : Hid (FT R ob n' cb f w gb D p0 m0 j0 p1 m1 j1 u8 q8) := FU7.out.call rd8 bt8
        have RU8 : Hid (Row u8 (gb + 1) 9 1 eS (.slice (some ⟨g, 0, none⟩) nv kv) O) := row_but RU7.out (by have := FU7.out.rg; omega) bt8
        clear rd8 bt8 FU7 RU7
        have hkn : k < nv := by omega
        have hkl : k < O.length := by have := ENV.out; omega
        have c8 := (Row.cell RU8.out hkl)
        obtain ⟨g', cg', eg', hg1', hg2', hcc⟩ := c8
        obtain ⟨rfl, _⟩ : g = g' ∧ True := ⟨by cases eg'; rfl, trivial⟩
        clear eg'
        obtain ⟨c8, f8⟩ := hcc 0 (by omega)
        have c8' : u8.cell? ⟨g, k, none⟩ = some (.string O[k]) := by simpa [eS] using c8
        have f8' : u8.frozen? ⟨g, k, none⟩ = false := by simpa using f8
        generalize O[k] = old at c8'
        have FU9 : Hid (FT R ob n' cb f w gb D p0 m0 j0 p1 m1 j1 (u8.setCell ⟨g, k, none⟩ (.string s)) q8) := FU8.out.up ((Below.refl _ _).setCell (p := ⟨g, k, none⟩) (by show gb + 1 ≤ g; omega) _)
        have RU9 : Hid (Row (u8.setCell ⟨g, k, none⟩ (.string s)) (gb + 1) 9 1 eS (.slice (some ⟨g, 0, none⟩) nv kv) (O.set k s)) := by
          have h0 : Row u8 (gb + 1) 9 1 eS (.slice (some ⟨g, 0, none⟩) O.length kv) O := by rw [ENV.out]; exact RU8.out
          have h := (Row.put h0 hkl (j := 0) (by omega) (.string s) s (fun q hq => by obtain rfl : q = 0 := (by omega); rfl)).1
          rw [ENV.out] at h
          show Row _ _ _ _ _ _ _
          simpa using h
        have HO9 : Hid (SmL (O.set k s)) := ⟨by rw [List.length_set]; exact HO.out.1, fun x hx => by
          rcases List.mem_or_eq_of_mem_set hx with h | h
          · exact HO.out.2 x h
          · rw [h]; exact hs⟩
        clear c8 f8 hcc hg1' hg2'
        go_upto_region 13 with fail
        generalize u8.setCell ⟨g, k, none⟩ (.string s) = u9 at FU9 RU9 ⊢
        generalize O.set k s = O9 at RU9 HO9
        obtain ⟨ov, eov⟩ : ∃ o, o = some (⟨g, 0, none⟩ : Addr) := ⟨_, rfl⟩
        rw [← eov] at RU9 ⊢
        clear eov c8' f8' FU8 RU8 HO
        have RS := FU9.out.res
        have bkk := FU9.out.bk
        have y0 := (cell_row bkk 0 _ rfl).1
        have y1 := (cell_row bkk 1 _ rfl).1
        have l9 := FU9.out.lt
        have r9 := FU9.out.rl
        have r8 := FU9.out.rg
        have FIN : Hid (((u9.setCell ⟨w.heap.size, 0, none⟩ (.slice p0 m0 j0)).setCell ⟨w.heap.size, 1, none⟩ (.slice p1 m1 j1)).heap[w.heap.size]? = some (.cells #[.slice p0 m0 j0, .slice p1 m1 j1] 26 (0, 0))) := by
          have := set_row (set_row RS 0 (.slice p0 m0 j0)) 1 (.slice p1 m1 j1)
          show _ = _
          rw [this]; rfl
        have OTH : Hid (∀ q, q ≠ w.heap.size → ((u9.setCell ⟨w.heap.size, 0, none⟩ (.slice p0 m0 j0)).setCell ⟨w.heap.size, 1, none⟩ (.slice p1 m1 j1)).heap[q]? = u9.heap[q]?) := fun q hq => (Below.heap_setCell _ _ _ _ hq).trans (Below.heap_setCell _ _ _ _ hq)
        have BEL : Hid (Below w.heap.size w ((u9.setCell ⟨w.heap.size, 0, none⟩ (.slice p0 m0 j0)).setCell ⟨w.heap.size, 1, none⟩ (.slice p1 m1 j1))) := (FU9.out.bel.setCell (p := ⟨w.heap.size, 0, none⟩) (Nat.le_refl _) _).setCell (p := ⟨w.heap.size, 1, none⟩) (Nat.le_refl _) _
        have SZF : Hid (((u9.setCell ⟨w.heap.size, 0, none⟩ (.slice p0 m0 j0)).setCell ⟨w.heap.size, 1, none⟩ (.slice p1 m1 j1)).heap.size = u9.heap.size) := by show _ = _; simp [World.setCell]
        have ATO : Hid (AtL (fun b => gb < b ∧ b < u9.heap.size) u9 O9 (.slice ov nv kv)) := flatS.row_at RU9.out (fun b hb => by have := World.ownsRow.lt RU9.out b hb; exact ⟨by omega, by omega⟩) (fun x hx => Nat.le_trans (HO9.out.2 x hx) (by unfold maxLen; omega))
        obtain ⟨z0, f0⟩ := cell_row RS 0 (.slice none 0 0) rfl
        obtain ⟨z1, f1⟩ := cell_row RS 1 (.slice none 0 0) rfl
        have HL9 : Hid (gb < u9.heap.size ∧ w.heap.size < R ∧ R < gb) := ⟨l9, r9, r8⟩
        clear RS bkk l9 r9 r8
        go_wp2_with fail
        generalize ((u9.setCell ⟨w.heap.size, 0, none⟩ (.slice p0 m0 j0)).setCell ⟨w.heap.size, 1, none⟩ (.slice p1 m1 j1)) = F at FIN OTH BEL SZF ⊢
        have g0 := (cell_row FIN.out 0 (.slice p0 m0 j0) rfl).1
        have g1 := (cell_row FIN.out 1 (.slice p1 m1 j1) rfl).1
        have szf := SZF.out
        have l9 := HL9.out
        exact bodyPost_ret (v := .tuple #[.agg #[.slice p0 m0 j0, .slice p1 m1 j1], .slice ov nv kv]) (by simp [results, Try.results13, go_sem, g0, g1]) rfl (DfE.of ⟨p0, m0, j0, p1, m1, j1, D, ov, nv, kv, O9, rfl, HSZ.out, HO9.out, ⟨AtL.up (AtL.same FU9.out.a0 (fun b hb => OTH.out b (by omega))) (fun b hb => ⟨by omega, by omega⟩), AtL.up (AtL.same FU9.out.a1 (fun b hb => OTH.out b (by omega))) (fun b hb => ⟨by omega, by omega⟩), AtL.up (AtL.same ATO.out (fun b hb => OTH.out b (by omega))) (fun b hb => ⟨by omega, by omega⟩)⟩, BEL⟩)
      have hkl : k < D.2.length := by have := EM1.out; omega
      obtain ⟨bb, off, o1, n1, k1, o2, n2, k2, rfl, hbS, e0, _, _, _, _, _⟩ := bat_at FU.out.a1 k hkl
      have zf : Hid (D.2[k].1.size ≤ 64) := by have := (HSZ.out.2.2 _ (List.getElem_mem hkl)).1; show _ ≤ _; omega
      clear e0
      go_wp2_with fail
      refine (pick_rd R ob n' cb f pw ((k : Int) + 1) wr FU.out.rd (by omega) (by omega) (by omega)).mono ?_
      rintro e u4 ⟨z, rfl, hz0, hz1, q4, hq4, rd4, bt4⟩
      obtain ⟨j, rfl⟩ : ∃ j : Nat, z = (j : Int) := ⟨z.toNat, by omega⟩
      have FU4 : Hid (FT R ob n' cb f w gb D p0 m0 j0 (some ⟨bb, off, none⟩) m1 j1 u4 q4) := FU.out.call rd4.out bt4.out
      have RU4 : Hid (Row u4 (gb + 1) 9 1 eS (.slice (some ⟨g, 0, none⟩) k cap) O) := row_but RU.out (by have := FU.out.rg; omega) bt4.out
      clear rd4 bt4 FU RU y1
      have y1 := (cell_row FU4.out.bk 1 _ rfl).1
      obtain ⟨b', off', _, _, _, _, _, _, e9, _, e0, _, _, _, _, _⟩ := bat_at FU4.out.a1 k hkl
      cases e9
      have own : u4.ownsRow (gb + 1) 9 1 (.slice (some ⟨g, 0, none⟩) O.length cap) O.length (O.map .string) := by
        have h := RU4.out
        rw [Row, encS] at h
        rw [← hOl.out] at h
        exact h
      obtain ⟨hcap, hc⟩ := own_cells own
      rw [hOl.out] at hcap hc
      have HC : Hid (∀ i, i < k → u4.cell? ⟨g, i, none⟩ = some (.string (nthB O i))) := hc
      have hjk : j ≤ k := by omega
      have hkc : (j : Int) ≤ (cap : Int) := by omega
      have hkn : (j : Int) ≤ (k : Int) := by omega
      obtain ⟨x, ex⟩ : ∃ x, D.2[k].1 = x := ⟨_, rfl⟩
      rw [ex] at e0 zf
      have hcap' : k ≤ cap := hcap
      have hk17 : k ≤ 17 := by omega
      clear own hc ex hcap
      go_upto_region 10 with fail
      have qy1 := fun d os => cell_regrown y1 d os
      have qe0 := fun d os => cell_regrown e0 d os
      refine wp_region_mix 17 [1, 2, 3, 5, 6, 7, 8, 9, 10, 13, 14, 15] (by kernel_rfl) (by kernel_rfl) ?_
      simp only [List.filterMap_cons, List.filterMap_nil, List.getElem?_cons_succ, List.getElem?_cons_zero]
      repeat (first | go_big_quiet_step (fail) | quiet_step (fail))
      refine wpQuiet_nil ?_
      refine ins3 (md := .any) (i0 := 0) (i1 := 4) (i2 := 11) (i3 := 12) (i4 := 16) (d0 := 39) (d1 := 43) (d2 := 50) (d3 := 51) (d4 := 55) (k1 := 42) (k2 := 54) (kx := 49) (X := .string x) (t := 23) (e := 9)
        ⟨_, _, _, _, _, ⟨rfl, rfl, rfl, by decide⟩, ⟨rfl, rfl, rfl, by decide⟩, ⟨rfl, rfl, rfl, by decide⟩, ⟨rfl, rfl, rfl, by decide⟩, ⟨rfl, rfl, rfl, by decide⟩, rfl, rfl, rfl, ?run0U3, ?run2U3, by decide, by decide, by kernel_rfl, by kernel_rfl, by kernel_rfl, by kernel_rfl, by kernel_rfl, by kernel_rfl, by kernel_rfl⟩
        elSX (W := u4) ⟨by simp, by simp, by simp, by simp, by simp⟩ rfl rfl rfl (src_take hOl.out hjk HC.out) (src_drop hOl.out hjk hcap' HC.out) rfl ?u1U3 ?u2U3 ?uxU3 (by omega) (by unfold maxLen; omega) ?KU3
      case run0U3 => intro bb ww; go_simp
      case run2U3 =>
        intro bb hx ww
        have hx' : bb.tmps[49]?.getD undef = .string x := by simpa [Act.eval] using hx
        clear hx
        go_simp
      case u1U3 => intro v hv; obtain ⟨_, _, rfl⟩ := List.mem_map.1 hv; rfl
      case u2U3 => intro v hv; obtain ⟨_, _, rfl⟩ := List.mem_map.1 hv; rfl
      case uxU3 => intro v hv; simp [Value.cells] at hv; subst hv; rfl
      case KU3 =>
        intro r0 r1 r2 r3 r4 w4 hown hb4
        refine ⟨by kernel_rfl, ?_⟩
        simp only [List.drop_succ_cons, List.drop_zero]
        have hnk : j + 1 + (k - j) = k + 1 := by omega
        have hcs : (O.take j).map Value.string ++ (Value.string x).cells.toList ++ (O.drop j).map Value.string = (O.take j ++ [x] ++ O.drop j).map .string := by simp [Value.cells]
        rw [hnk, hcs] at hown
        have FU5 : Hid (FT R ob n' cb f w gb D p0 m0 j0 (some ⟨bb, off, none⟩) m1 j1 w4 q4) := FU4.out.up (hb4.mono (by have := FU4.out.lt; omega))
        have len5 : (O.take j ++ [x] ++ O.drop j).length = k + 1 := by have := hOl.out; simp; omega
        have HO5 : Hid (SmL (O.take j ++ [x] ++ O.drop j)) := ⟨by rw [len5]; omega, fun y hy => by
          rcases List.mem_append.1 hy with h | h
          · rcases List.mem_append.1 h with h | h
            · exact HO.out.2 y (List.mem_of_mem_take h)
            · simp at h; rw [h]; exact zf.out
          · exact HO.out.2 y (List.mem_of_mem_drop h)⟩
        rcases id hown.2 with ⟨e5, e6⟩ | ⟨g', cap', cur, rfl, hbg, _⟩
        · exfalso; omega
        have RU5 : Hid (Row w4 (gb + 1) 9 1 eS (.slice (some ⟨g', 0, none⟩) (k + 1) cap') (O.take j ++ [x] ++ O.drop j)) := by
          show World.ownsRow _ _ _ _ _ _ _
          rw [len5, encS]
          exact Go.Joins.ownsRow_le hown (by have := FU4.out.lt; omega)
        have HLEN : Hid ((O.take j ++ [x] ++ O.drop j).length = k + 1) := len5
        clear hown hcs hnk hb4 hbg len5 e0 y1 qy1 qe0
        simp only [Act.put, List.setIfInBounds_toArray, List.set_cons_zero, List.set_cons_succ]
        go_wp2_with fail
        go_roundw
        case rel => exact ⟨k + 1, _, g', cap', q4, by omega, by go_num, rfl, HLEN, by omega, FU5, RU5, HO5⟩
        case measure => simp [intOf]; omega
  have FU : Hid (FT R ob n' cb f w gb D p0 m0 j0 p1 m1 j1 U3 q3) := F3
  clear F3 eo
  have hpu : q3 ≤ 28000 := by omega
  go_upto_region 11 with fail
  have hnv : nv ≤ 64 := by have := HO.out.1; have := ENV.out; omega
  by_cases hv0 : nv = 0
  · subst hv0
    have RS := FU.out.res
    have bkk := FU.out.bk
    have y0 := (cell_row bkk 0 _ rfl).1
    have y1 := (cell_row bkk 1 _ rfl).1
    have l9 := FU.out.lt
    have r9 := FU.out.rl
    have r8 := FU.out.rg
    have FIN : Hid (((U3.setCell ⟨w.heap.size, 0, none⟩ (.slice p0 m0 j0)).setCell ⟨w.heap.size, 1, none⟩ (.slice p1 m1 j1)).heap[w.heap.size]? = some (.cells #[.slice p0 m0 j0, .slice p1 m1 j1] 26 (0, 0))) := by
      have := set_row (set_row RS 0 (.slice p0 m0 j0)) 1 (.slice p1 m1 j1)
      show _ = _
      rw [this]; rfl
    have OTH : Hid (∀ q, q ≠ w.heap.size → ((U3.setCell ⟨w.heap.size, 0, none⟩ (.slice p0 m0 j0)).setCell ⟨w.heap.size, 1, none⟩ (.slice p1 m1 j1)).heap[q]? = U3.heap[q]?) := fun q hq => (Below.heap_setCell _ _ _ _ hq).trans (Below.heap_setCell _ _ _ _ hq)
    have BEL : Hid (Below w.heap.size w ((U3.setCell ⟨w.heap.size, 0, none⟩ (.slice p0 m0 j0)).setCell ⟨w.heap.size, 1, none⟩ (.slice p1 m1 j1))) := (FU.out.bel.setCell (p := ⟨w.heap.size, 0, none⟩) (Nat.le_refl _) _).setCell (p := ⟨w.heap.size, 1, none⟩) (Nat.le_refl _) _
    have SZF : Hid (((U3.setCell ⟨w.heap.size, 0, none⟩ (.slice p0 m0 j0)).setCell ⟨w.heap.size, 1, none⟩ (.slice p1 m1 j1)).heap.size = U3.heap.size) := by show _ = _; simp [World.setCell]
    have ATO : Hid (AtL (fun b => gb < b ∧ b < U3.heap.size) U3 O (.slice ov 0 kv)) := flatS.row_at RU.out (fun b hb => by have := World.ownsRow.lt RU.out b hb; exact ⟨by omega, by omega⟩) (fun x hx => Nat.le_trans (HO.out.2 x hx) (by unfold maxLen; omega))
    obtain ⟨z0, f0⟩ := cell_row RS 0 (.slice none 0 0) rfl
    obtain ⟨z1, f1⟩ := cell_row RS 1 (.slice none 0 0) rfl
    have HL9 : Hid (gb < U3.heap.size ∧ w.heap.size < R ∧ R < gb) := ⟨l9, r9, r8⟩
    clear RS bkk l9 r9 r8
    go_wp2_with fail
    generalize ((U3.setCell ⟨w.heap.size, 0, none⟩ (.slice p0 m0 j0)).setCell ⟨w.heap.size, 1, none⟩ (.slice p1 m1 j1)) = F at FIN OTH BEL SZF ⊢
    have g0 := (cell_row FIN.out 0 (.slice p0 m0 j0) rfl).1
    have g1 := (cell_row FIN.out 1 (.slice p1 m1 j1) rfl).1
    have szf := SZF.out
    have l9 := HL9.out
    exact bodyPost_ret (v := .tuple #[.agg #[.slice p0 m0 j0, .slice p1 m1 j1], .slice ov 0 kv]) (by simp [results, Try.results13, go_sem, g0, g1]) rfl (DfE.of ⟨p0, m0, j0, p1, m1, j1, D, ov, 0, kv, O, rfl, HSZ.out, HO.out, ⟨AtL.up (AtL.same FU.out.a0 (fun b hb => OTH.out b (by omega))) (fun b hb => ⟨by omega, by omega⟩), AtL.up (AtL.same FU.out.a1 (fun b hb => OTH.out b (by omega))) (fun b hb => ⟨by omega, by omega⟩), AtL.up (AtL.same ATO.out (fun b hb => OTH.out b (by omega))) (fun b hb => ⟨by omega, by omega⟩)⟩, BEL⟩)
  have hnp : (0 : Int) < (nv : Int) := by omega
  have hol : 0 < O.length := by have := ENV.out; omega
  obtain ⟨g, cg, eg, hg1, hg2, _⟩ := Row.cell RU.out hol
  obtain ⟨rfl, e8, rfl⟩ : ov = some ⟨g, 0, none⟩ ∧ nv = O.length ∧ kv = cg := by cases eg; exact ⟨rfl, rfl, rfl⟩
  clear eg e8
  go_wp2_with fail
  refine (pick_rd R ob n' cb f q3 12 U3 FU.out.rd (by omega) (by omega) (by omega)).mono ?_
  rintro e u6 ⟨z, rfl, hz0, hz1, q6, hq6, rd6, bt6⟩
  have FU6 : Hid (FT R ob n' cb f w gb D p0 m0 j0 p1 m1 j1 u6 q6) := FU.out.call rd6.out bt6.out
  have RU6 : Hid (Row u6 (gb + 1) 9 1 eS (.slice (some ⟨g, 0, none⟩) nv kv) O) := row_but RU.out (by have := FU.out.rg; omega) bt6.out
  clear rd6 bt6 FU RU
  by_cases hz : z = 0
  case neg =>
    obtain ⟨ov, eov⟩ : ∃ o, o = some (⟨g, 0, none⟩ : Addr) := ⟨_, rfl⟩
    rw [← eov] at RU6 ⊢
    clear eov
    have RS := FU6.out.res
    have bkk := FU6.out.bk
    have y0 := (cell_row bkk 0 _ rfl).1
    have y1 := (cell_row bkk 1 _ rfl).1
    have l9 := FU6.out.lt
    have r9 := FU6.out.rl
    have r8 := FU6.out.rg
    have FIN : Hid (((u6.setCell ⟨w.heap.size, 0, none⟩ (.slice p0 m0 j0)).setCell ⟨w.heap.size, 1, none⟩ (.slice p1 m1 j1)).heap[w.heap.size]? = some (.cells #[.slice p0 m0 j0, .slice p1 m1 j1] 26 (0, 0))) := by
      have := set_row (set_row RS 0 (.slice p0 m0 j0)) 1 (.slice p1 m1 j1)
      show _ = _
      rw [this]; rfl
    have OTH : Hid (∀ q, q ≠ w.heap.size → ((u6.setCell ⟨w.heap.size, 0, none⟩ (.slice p0 m0 j0)).setCell ⟨w.heap.size, 1, none⟩ (.slice p1 m1 j1)).heap[q]? = u6.heap[q]?) := fun q hq => (Below.heap_setCell _ _ _ _ hq).trans (Below.heap_setCell _ _ _ _ hq)
    have BEL : Hid (Below w.heap.size w ((u6.setCell ⟨w.heap.size, 0, none⟩ (.slice p0 m0 j0)).setCell ⟨w.heap.size, 1, none⟩ (.slice p1 m1 j1))) := (FU6.out.bel.setCell (p := ⟨w.heap.size, 0, none⟩) (Nat.le_refl _) _).setCell (p := ⟨w.heap.size, 1, none⟩) (Nat.le_refl _) _
    have SZF : Hid (((u6.setCell ⟨w.heap.size, 0, none⟩ (.slice p0 m0 j0)).setCell ⟨w.heap.size, 1, none⟩ (.slice p1 m1 j1)).heap.size = u6.heap.size) := by show _ = _; simp [World.setCell]
    have ATO : Hid (AtL (fun b => gb < b ∧ b < u6.heap.size) u6 O (.slice ov nv kv)) := flatS.row_at RU6.out (fun b hb => by have := World.ownsRow.lt RU6.out b hb; exact ⟨by omega, by omega⟩) (fun x hx => Nat.le_trans (HO.out.2 x hx) (by unfold maxLen; omega))
    obtain ⟨z0, f0⟩ := cell_row RS 0 (.slice none 0 0) rfl
    obtain ⟨z1, f1⟩ := cell_row RS 1 (.slice none 0 0) rfl
    have HL9 : Hid (gb < u6.heap.size ∧ w.heap.size < R ∧ R < gb) := ⟨l9, r9, r8⟩
    clear RS bkk l9 r9 r8
    go_wp2_with fail
    generalize ((u6.setCell ⟨w.heap.size, 0, none⟩ (.slice p0 m0 j0)).setCell ⟨w.heap.size, 1, none⟩ (.slice p1 m1 j1)) = F at FIN OTH BEL SZF ⊢
    have g0 := (cell_row FIN.out 0 (.slice p0 m0 j0) rfl).1
    have g1 := (cell_row FIN.out 1 (.slice p1 m1 j1) rfl).1
    have szf := SZF.out
    have l9 := HL9.out
    exact bodyPost_ret (v := .tuple #[.agg #[.slice p0 m0 j0, .slice p1 m1 j1], .slice ov nv kv]) (by simp [results, Try.results13, go_sem, g0, g1]) rfl (DfE.of ⟨p0, m0, j0, p1, m1, j1, D, ov, nv, kv, O, rfl, HSZ.out, HO.out, ⟨AtL.up (AtL.same FU6.out.a0 (fun b hb => OTH.out b (by omega))) (fun b hb => ⟨by omega, by omega⟩), AtL.up (AtL.same FU6.out.a1 (fun b hb => OTH.out b (by omega))) (fun b hb => ⟨by omega, by omega⟩), AtL.up (AtL.same ATO.out (fun b hb => OTH.out b (by omega))) (fun b hb => ⟨by omega, by omega⟩)⟩, BEL⟩)
  subst hz
  go_wp2_with fail
  refine (pick_rd R ob n' cb f q6 (nv : Int) u6 FU6.out.rd (by omega) (by omega) (by omega)).mono ?_
  rintro e u7 ⟨y, rfl, hy0, hy1, q7, hq7, rd7, bt7⟩
  obtain ⟨k, rfl⟩ : ∃ k : Nat, y = (k : Int) := ⟨y.toNat, by omega⟩
  have FU7 : Hid (FT R ob n' cb f w gb D p0 m0 j0 p1 m1 j1 u7 q7) := FU6.out.call rd7.out bt7.out
  have RU7 : Hid (Row u7 (gb + 1) 9 1 eS (.slice (some ⟨g, 0, none⟩) nv kv) O) := row_but RU6.out (by have := FU6.out.rg; omega) bt7.out
  clear rd7 bt7 FU6 RU6
  go_wp2_with fail
  refine (OF3.out u7 q7 FU7.out.rd (by omega)).mono ?_
  rintro e u8 ⟨s, hs, rfl, q8, hq8, rd8, bt8⟩
  have FU8 : Hid (FT R ob n' cb f w gb D p0 m0 j0 p1 m1 j1 u8 q8) := FU7.out.call rd8 bt8
  have RU8 : Hid (Row u8 (gb + 1) 9 1 eS (.slice (some ⟨g, 0, none⟩) nv kv) O) := row_but RU7.out (by have := FU7.out.rg; omega) bt8
  clear rd8 bt8 FU7 RU7
  have hkn : k < nv := by omega
  have hkl : k < O.length := by have := ENV.out; omega
  have c8 := (Row.cell RU8.out hkl)
  obtain ⟨g', cg', eg', hg1', hg2', hcc⟩ := c8
  obtain ⟨rfl, _⟩ : g = g' ∧ True := ⟨by cases eg'; rfl, trivial⟩
  clear eg'
  obtain ⟨c8, f8⟩ := hcc 0 (by omega)
  have c8' : u8.cell? ⟨g, k, none⟩ = some (.string O[k]) := by simpa [eS] using c8
  have f8' : u8.frozen? ⟨g, k, none⟩ = false := by simpa using f8
  generalize O[k] = old at c8'
  have FU9 : Hid (FT R ob n' cb f w gb D p0 m0 j0 p1 m1 j1 (u8.setCell ⟨g, k, none⟩ (.string s)) q8) := FU8.out.up ((Below.refl _ _).setCell (p := ⟨g, k, none⟩) (by show gb + 1 ≤ g; omega) _)
  have RU9 : Hid (Row (u8.setCell ⟨g, k, none⟩ (.string s)) (gb + 1) 9 1 eS (.slice (some ⟨g, 0, none⟩) nv kv) (O.set k s)) := by
    have h0 : Row u8 (gb + 1) 9 1 eS (.slice (some ⟨g, 0, none⟩) O.length kv) O := by rw [ENV.out]; exact RU8.out
    have h := (Row.put h0 hkl (j := 0) (by omega) (.string s) s (fun q hq => by obtain rfl : q = 0 := (by omega); rfl)).1
    rw [ENV.out] at h
    show Row _ _ _ _ _ _ _
    simpa using h
  have HO9 : Hid (SmL (O.set k s)) := ⟨by rw [List.length_set]; exact HO.out.1, fun x hx => by
    rcases List.mem_or_eq_of_mem_set hx with h | h
    · exact HO.out.2 x h
    · rw [h]; exact hs⟩
  clear c8 f8 hcc hg1' hg2'
  go_upto_region 13 with fail
  generalize u8.setCell ⟨g, k, none⟩ (.string s) = u9 at FU9 RU9 ⊢
  generalize O.set k s = O9 at RU9 HO9
  obtain ⟨ov, eov⟩ : ∃ o, o = some (⟨g, 0, none⟩ : Addr) := ⟨_, rfl⟩
  rw [← eov] at RU9 ⊢
  clear eov c8' f8' FU8 RU8 HO
  have RS := FU9.out.res
  have bkk := FU9.out.bk
  have y0 := (cell_row bkk 0 _ rfl).1
  have y1 := (cell_row bkk 1 _ rfl).1
  have l9 := FU9.out.lt
  have r9 := FU9.out.rl
  have r8 := FU9.out.rg
  have FIN : Hid (((u9.setCell ⟨w.heap.size, 0, none⟩ (.slice p0 m0 j0)).setCell ⟨w.heap.size, 1, none⟩ (.slice p1 m1 j1)).heap[w.heap.size]? = some (.cells #[.slice p0 m0 j0, .slice p1 m1 j1] 26 (0, 0))) := by
    have := set_row (set_row RS 0 (.slice p0 m0 j0)) 1 (.slice p1 m1 j1)
    show _ = _
    rw [this]; rfl
  have OTH : Hid (∀ q, q ≠ w.heap.size → ((u9.setCell ⟨w.heap.size, 0, none⟩ (.slice p0 m0 j0)).setCell ⟨w.heap.size, 1, none⟩ (.slice p1 m1 j1)).heap[q]? = u9.heap[q]?) := fun q hq => (Below.heap_setCell _ _ _ _ hq).trans (Below.heap_setCell _ _ _ _ hq)
  have BEL : Hid (Below w.heap.size w ((u9.setCell ⟨w.heap.size, 0, none⟩ (.slice p0 m0 j0)).setCell ⟨w.heap.size, 1, none⟩ (.slice p1 m1 j1))) := (FU9.out.bel.setCell (p := ⟨w.heap.size, 0, none⟩) (Nat.le_refl _) _).setCell (p := ⟨w.heap.size, 1, none⟩) (Nat.le_refl _) _
  have SZF : Hid (((u9.setCell ⟨w.heap.size, 0, none⟩ (.slice p0 m0 j0)).setCell ⟨w.heap.size, 1, none⟩ (.slice p1 m1 j1)).heap.size = u9.heap.size) := by show _ = _; simp [World.setCell]
  have ATO : Hid (AtL (fun b => gb < b ∧ b < u9.heap.size) u9 O9 (.slice ov nv kv)) := flatS.row_at RU9.out (fun b hb => by have := World.ownsRow.lt RU9.out b hb; exact ⟨by omega, by omega⟩) (fun x hx => Nat.le_trans (HO9.out.2 x hx) (by unfold maxLen; omega))
  obtain ⟨z0, f0⟩ := cell_row RS 0 (.slice none 0 0) rfl
  obtain ⟨z1, f1⟩ := cell_row RS 1 (.slice none 0 0) rfl
  have HL9 : Hid (gb < u9.heap.size ∧ w.heap.size < R ∧ R < gb) := ⟨l9, r9, r8⟩
  clear RS bkk l9 r9 r8
  go_wp2_with fail
  generalize ((u9.setCell ⟨w.heap.size, 0, none⟩ (.slice p0 m0 j0)).setCell ⟨w.heap.size, 1, none⟩ (.slice p1 m1 j1)) = F at FIN OTH BEL SZF ⊢
  have g0 := (cell_row FIN.out 0 (.slice p0 m0 j0) rfl).1
  have g1 := (cell_row FIN.out 1 (.slice p1 m1 j1) rfl).1
  have szf := SZF.out
  have l9 := HL9.out
  exact bodyPost_ret (v := .tuple #[.agg #[.slice p0 m0 j0, .slice p1 m1 j1], .slice ov nv kv]) (by simp [results, Try.results13, go_sem, g0, g1]) rfl (DfE.of ⟨p0, m0, j0, p1, m1, j1, D, ov, nv, kv, O9, rfl, HSZ.out, HO9.out, ⟨AtL.up (AtL.same FU9.out.a0 (fun b hb => OTH.out b (by omega))) (fun b hb => ⟨by omega, by omega⟩), AtL.up (AtL.same FU9.out.a1 (fun b hb => OTH.out b (by omega))) (fun b hb => ⟨by omega, by omega⟩), AtL.up (AtL.same ATO.out (fun b hb => OTH.out b (by omega))) (fun b hb => ⟨by omega, by omega⟩)⟩, BEL⟩)

end Go.Proofs.Ythgnhjkkfhfgmab

/-
  Laws on a region that draws its order, step by step, in a class of worlds: operations that are not wanted. No program is named here.
-/
namespace Go.Proofs.Ythgnhjkkfhfgmab
open Go.Sort

section
variable {P : Program}
theorem takeHX {C : World → Prop} {Q : Exit → Act → World → Prop} {l : List Oper} {n f : Nat} {listed : Array Bool} {i d : Nat} {oi : Oper} {a : Act} {w : World} (hi : l.toArray[i]? = some oi ∧ oi.dst = some d) (hB : takeB l n listed i = true) (hw : Region.wanted oi (yielded l.toArray a.tmps) = false) (hC : C w)
    (h : anyH P .any l.toArray C n (tailC P Q l n) f (listed.setIfInBounds i true) (a.put (some d) undef) w) : anyH P .any l.toArray C n (tailC P Q l n) (f + 1) listed a w := by
  obtain ⟨h1, h2⟩ := hi
  simp only [takeB, Bool.and_eq_true, decide_eq_true_eq] at hB
  obtain ⟨⟨⟨⟨⟨⟨⟨hsel, hn⟩, hin⟩, hs⟩, hc⟩, hr⟩, hf⟩, hv⟩ := hB
  have hr' : i ∈ Region.ready .any l.toArray listed := by simpa using hr
  refine anyH_first h1 hsel hs hc (by simpa using hn) hin (fun listed a w hL => seqB_ready hL.1) f listed a w hC (inv_of hv) (fun k hk => by rw [getD_replicate_false] at hk; cases hk) (Region.free_spec h1 hf) hr' (.inr ⟨hw, rfl⟩) ?_
  rw [h2]; exact h
end
end Go.Proofs.Ythgnhjkkfhfgmab

/-
  The laws' own search by all orders: it finds one just if there is one.
-/
namespace Go.Proofs.Ythgnhjkkfhfgmab
open Go.RowKit Go.Sort

set_option maxRecDepth 100000 in
set_option maxHeartbeats 8000000 in
theorem hasW_any (S : Nat → Prop) (v : Value) (l : List ByteArray) (x : ByteArray) (w : World) (h : AtL S w l v) :
    Calls Try.prog 29 #[v, .string x] w fun e w' => e = .returned (.bool (hasB l x)) ∧ Below w.heap.size w w' := by
  obtain ⟨oa, cap, rfl, hn, hc⟩ := h
  obtain ⟨n, en⟩ : ∃ n, l.length = n := ⟨_, rfl⟩
  rw [en] at hn
  rw [en]
  unfold maxLen at hn
  have HC : Hid _ := hc
  clear hc
  go_enter Try.func29, Try.ntmps29
  go_wp2
  go_loop [5] (fun i => ∃ k : Nat, k ≤ n ∧ i = .int .i64 k ∧ Hid (∀ j (hj : j < l.length), j < k → (fun f => eqB f x) l[j] = false)) (fun i => n - (intOf i).toNat)
  case atStart => exact ⟨0, Nat.zero_le _, rfl, fun _ _ h => by omega⟩
  case round =>
    obtain ⟨k, hk, rfl, hno⟩ := hrel
    by_cases hlt : k < n
    · obtain ⟨b, off, rfl, hbS, cc, hcell, hat⟩ := HC.out k (by omega)
      rw [width_str] at hcell
      have e0 : w.cell? ⟨b, off + k, none⟩ = some (cc 0) := by simpa using hcell 0 (by omega)
      clear hcell
      rw [at_str] at hat
      rw [hat.1] at e0
      clear hat
      obtain ⟨f, ef⟩ : ∃ f, l[k]'(by omega) = f := ⟨_, rfl⟩
      rw [ef] at e0
      cases c0 : (f.toList == x.toList)
      · have hp : (fun f => eqB f x) (l[k]'(by omega)) = false := by rw [ef]; simp [eqB, c0]
        go_wp2
        go_round
        case rel => exact ⟨k + 1, by omega, by go_num, fun j hj hjk => by
          by_cases e : j = k
          · subst e; exact hp
          · exact hno.out j hj (by omega)⟩
        case measure => simp [intOf]; omega
      · have hp : (fun f => eqB f x) (l[k]'(by omega)) = true := by rw [ef]; simp [eqB, c0]
        go_wp2
        have hr : hasB l x = true := any_yes (p := fun f => eqB f x) (by omega) hp
        rw [hr]
        go_ret
        exact ⟨rfl, (Below.refl _ _)⟩
    · have hkn : k = n := by omega
      subst hkn
      go_wp2
      go_ret
      have hr : hasB l x = false := any_no (p := fun f => eqB f x) (fun j hj => hno.out j hj (by omega))
      rw [hr]
      exact ⟨rfl, (Below.refl _ _)⟩

theorem sme_no {D : DShareBook} {m : Nat} {g : List ByteArray} (h : ∀ j, j < D.2.length → (!(hasB g (btN D.2 j).1) && smeF D m (g ++ [(btN D.2 j).1])) = false) : smeF D (m + 1) g = false := by
  rw [smeF, List.any_eq_false]
  intro j hj
  rw [h j (List.mem_range.1 hj)]
  simp
theorem sme_yes {D : DShareBook} {m : Nat} {g : List ByteArray} {q : Nat} (hq : q < D.2.length) (h : (!(hasB g (btN D.2 q).1) && smeF D m (g ++ [(btN D.2 q).1])) = true) : smeF D (m + 1) g = true := by
  rw [smeF, List.any_eq_true]
  exact ⟨q, List.mem_range.2 hq, h⟩
theorem cell_new1 (w : World) (s : ByteArray) : (w.alloc (.cells #[.string s] 9)).cell? ⟨w.heap.size, 0, none⟩ = some (.string s) := (cell_row (heap_alloc_new w _) 0 (.string s) rfl).1
theorem src_one {w : World} {g : Nat} {s : ByteArray} (h : w.cell? ⟨g, 0, none⟩ = some (.string s)) : Src w (.slice (some ⟨g, 0, none⟩) 1 1) 1 1 [.string s] := by
  refine ⟨rfl, .inr ⟨_, _, rfl, fun j u hj => ?_⟩⟩
  cases j with
  | zero => simp at hj; subst hj; simpa [Addr.add] using h
  | succ j => simp at hj

set_option maxRecDepth 100000 in
set_option maxHeartbeats 16000000 in
theorem some_any (S : Nat → Prop) (T : List ByteArray) (Bs : List DShareBatch) (hsm : SmD (T, Bs)) (o0 oa : Option Addr) (n0 k0 nb kb : Nat) : ∀ (m : Nat) (SG : Nat → Prop) (gone : List ByteArray) (og : Option Addr) (ng kg : Nat) (w : World), AtL S w T (.slice o0 n0 k0) → AtL S w Bs (.slice oa nb kb) → (∀ b, S b → b < w.heap.size) → AtL SG w gone (.slice og ng kg) → (∀ b, SG b → b < w.heap.size) → gone.length + m = Bs.length → SmL gone →
    Calls Try.prog 11 #[.agg #[.slice o0 n0 k0, .slice oa nb kb], .slice og ng kg] w fun e w' => e = .returned (.bool (smeF (T, Bs) m gone)) ∧ Below w.heap.size w w' := by
  intro m
  induction m with
  | zero =>
    intro SG gone og ng kg w h0 h1 hS hG hSG hl hsg
    have enb : Bs.length = nb := by obtain ⟨_, _, e, _⟩ := h1; cases e; rfl
    have eng : gone.length = ng := by obtain ⟨_, _, e, _⟩ := hG; cases e; rfl
    obtain rfl : nb = ng := by omega
    have hmx : nb ≤ 64 := by have := hsg.1; omega
    have H0 : Hid (∀ u, Below w.heap.size w u → AtL S u T (.slice o0 n0 k0)) := fun u hu => h0.same (Same.of_below hu hS)
    have H1 : Hid (∀ u, Below w.heap.size w u → AtL S u Bs (.slice oa nb kb)) := fun u hu => h1.same (Same.of_below hu hS)
    have HS : Hid (∀ u, Below w.heap.size w u → ∀ b, S b → b < u.heap.size) := fun u hu b hb => Nat.lt_of_lt_of_le (hS b hb) hu.size
    have CF : Hid (∀ u, Below w.heap.size w u → Calls Try.prog 12 #[.agg #[.slice o0 n0 k0, .slice oa nb kb], .slice og nb kg] u fun e w' => e = .returned (.bool (fitsB (T, Bs) gone)) ∧ Below u.heap.size u w') := fun u hu => fitsP_any S T Bs o0 oa n0 k0 nb kb SG gone og nb kg u (H0.out u hu) (H1.out u hu) (HS.out u hu) hsm.tot (hG.same (Same.of_below hu hSG)) (fun b hb => Nat.lt_of_lt_of_le (hSG b hb) hu.size) (by have := hsg.tot; omega)
    obtain ⟨W, hW⟩ : ∃ W, W = w.alloc (.cells #[.slice o0 n0 k0, .slice oa nb kb] 26) := ⟨_, rfl⟩
    have EW : Hid (W = w.alloc (.cells #[.slice o0 n0 k0, .slice oa nb kb] 26)) := hW
    have BW : Hid (Below w.heap.size w W) := by rw [hW]; exact (Below.refl _ _).alloc (Nat.le_refl _) _
    have RW : Hid (W.heap[w.heap.size]? = some (.cells #[.slice o0 n0 k0, .slice oa nb kb] 26 (0, 0))) := by rw [hW]; exact heap_alloc_new w _
    have HR : Hid (smeF (T, Bs) 0 gone = fitsB (T, Bs) gone) := by show _ = _; rw [smeF]
    clear hW enb eng hG h0 h1 hl hsg
    rw [HR.out]
    go_enter Try.func11, Try.ntmps11
    go_upto_region 1 with fail
    rw [← EW.out]
    have y0 := (cell_row RW.out 0 (.slice o0 n0 k0) rfl).1
    have y1 := (cell_row RW.out 1 (.slice oa nb kb) rfl).1
    go_wp2_with fail
    refine (CF.out W BW.out).mono ?_
    rintro e u ⟨rfl, hbu⟩
    go_wp2_with fail
    go_ret
    exact ⟨rfl, BW.out.trans (hbu.mono BW.out.size)⟩
  | succ m ih =>
    intro SG gone og ng kg w h0 h1 hS hG hSG hl hsg
    have IH : Hid _ := ih
    clear ih
    have enb : Bs.length = nb := by obtain ⟨_, _, e, _⟩ := h1; cases e; rfl
    have eng : gone.length = ng := by obtain ⟨_, _, e, _⟩ := hG; cases e; rfl
    have hmx : nb ≤ 64 := by have := hsm.2.1; simp only at this; omega
    have hgx : ng ≤ 64 := by omega
    have hne : ¬ ((ng : Int) = (nb : Int)) := by omega
    have ENB : Hid (Bs.length ≤ nb ∧ nb ≤ Bs.length) := ⟨by omega, by omega⟩
    have ENG : Hid (gone.length ≤ ng ∧ ng ≤ gone.length) := ⟨by omega, by omega⟩
    have HL : Hid (gone.length + (m + 1) = Bs.length) := hl
    have HSG2 : Hid (SmL gone) := hsg
    have HSM : Hid (SmD (T, Bs)) := hsm
    have H0 : Hid (∀ u, Below w.heap.size w u → AtL S u T (.slice o0 n0 k0)) := fun u hu => h0.same (Same.of_below hu hS)
    have H1 : Hid (∀ u, Below w.heap.size w u → AtL S u Bs (.slice oa nb kb)) := fun u hu => h1.same (Same.of_below hu hS)
    have HS : Hid (∀ u, Below w.heap.size w u → ∀ b, S b → b < u.heap.size) := fun u hu b hb => Nat.lt_of_lt_of_le (hS b hb) hu.size
    have HG : Hid (∀ u, Below w.heap.size w u → AtL SG u gone (.slice og ng kg)) := fun u hu => hG.same (Same.of_below hu hSG)
    obtain ⟨W, hW⟩ : ∃ W, W = w.alloc (.cells #[.slice o0 n0 k0, .slice oa nb kb] 26) := ⟨_, rfl⟩
    have EW : Hid (W = w.alloc (.cells #[.slice o0 n0 k0, .slice oa nb kb] 26)) := hW
    have BW : Hid (Below w.heap.size w W) := by rw [hW]; exact (Below.refl _ _).alloc (Nat.le_refl _) _
    have RW : Hid (W.heap[w.heap.size]? = some (.cells #[.slice o0 n0 k0, .slice oa nb kb] 26 (0, 0))) := by rw [hW]; exact heap_alloc_new w _
    have sW : w.heap.size + 1 ≤ W.heap.size := by rw [hW]; simp
    obtain ⟨R, hR⟩ : ∃ R, smeF (T, Bs) (m + 1) gone = R := ⟨_, rfl⟩
    have HR : Hid (smeF (T, Bs) (m + 1) gone = R) := hR
    rw [hR]
    obtain ⟨PJ, hPJ⟩ : ∃ P : Nat → Bool, ∀ j, P j = (!(hasB gone (btN Bs j).1) && smeF (T, Bs) m (gone ++ [(btN Bs j).1])) := ⟨_, fun _ => rfl⟩
    have HPJ : Hid (∀ j, PJ j = (!(hasB gone (btN Bs j).1) && smeF (T, Bs) m (gone ++ [(btN Bs j).1]))) := hPJ
    clear hW enb eng hG h0 h1 hl hsg hsm hR hPJ
    have BOX : Hid (∀ u, Below W.heap.size W u → u.heap[w.heap.size]? = some (.cells #[.slice o0 n0 k0, .slice oa nb kb] 26 (0, 0)) ∧ Below w.heap.size w u) := fun u hu => ⟨(hu.block _ (by omega)).trans RW.out, BW.out.trans (hu.mono (by omega))⟩
    go_enter Try.func11, Try.ntmps11
    go_upto_region 1 with fail
    rw [← EW.out]
    have y1 := (cell_row RW.out 1 (.slice oa nb kb) rfl).1
    go_wp2_with fail
    clear y1
    go_loopw [5] (fun i wr => ∃ q : Nat, q ≤ nb ∧ i = .int .i64 q ∧ Hid (∀ j, j < q → PJ j = false) ∧ Hid (Below W.heap.size W wr)) (fun i _ => nb - (intOf i).toNat)
    case atStart => exact ⟨0, Nat.zero_le _, rfl, fun _ h => by omega, Below.refl _ _⟩
    case round =>
    obtain ⟨q, hq, rfl, hall, hbel⟩ := hrel
    have HB := hbel.out
    have bwr := (BOX.out wr HB).2
    have hsz := HB.size
    have y1 := (cell_row (BOX.out wr HB).1 1 (.slice oa nb kb) rfl).1
    by_cases hlt : q < nb
    case neg =>
      go_wp2_with fail
      go_ret
      rw [← HR.out, sme_no (fun j hj => by rw [← HPJ.out j]; exact hall.out j (by have := ENB.out; simp only at hj; omega))]
      exact ⟨rfl, bwr⟩
    have hqb : q < Bs.length := by have := ENB.out; omega
    have stepq : PJ q = false → Hid (∀ j, j < q + 1 → PJ j = false) := fun hw0 j hj => by
      by_cases e : j = q
      · subst e; exact hw0
      · exact hall.out j (by omega)
    have STEPQ : Hid (PJ q = false → Hid (∀ j, j < q + 1 → PJ j = false)) := stepq
    clear stepq
    obtain ⟨bb, off, o1, n1, k1, o2, n2, k2, rfl, hbS, e0, _, _, _, _, z0⟩ := bat_at (H1.out wr bwr) q hqb
    have hbb := HS.out wr bwr bb hbS
    obtain ⟨f, ef⟩ : ∃ f, Bs[q] = f := ⟨_, rfl⟩
    have zf : f.1.size ≤ 64 := by rw [← ef]; exact (HSM.out.2.2 _ (List.getElem_mem hqb)).1
    rw [ef] at e0
    have HFR : Hid (PJ q = (!(hasB gone f.1) && smeF (T, Bs) m (gone ++ [f.1]))) := by show _ = _; rw [HPJ.out q, btN_at hqb, ef]
    have Y0 : Hid (∀ v, Below wr.heap.size wr v → v.cell? ⟨w.heap.size, 0, none⟩ = some (.slice o0 n0 k0)) := fun v hv => (hv.cell (p := ⟨w.heap.size, 0, none⟩) (by show w.heap.size < _; omega)).trans (cell_row (BOX.out wr HB).1 0 (.slice o0 n0 k0) rfl).1
    have Y1 : Hid (∀ v, Below wr.heap.size wr v → v.cell? ⟨w.heap.size, 1, none⟩ = some (.slice (some ⟨bb, off, none⟩) nb kb)) := fun v hv => (hv.cell (p := ⟨w.heap.size, 1, none⟩) (by show w.heap.size < _; omega)).trans y1
    have E0 : Hid (∀ v, Below wr.heap.size wr v → v.cell? ⟨bb, off + q * 3, none⟩ = some (.string f.1)) := fun v hv => (hv.cell (p := ⟨bb, off + q * 3, none⟩) hbb).trans e0
    have CD : Hid (Below wr.heap.size wr wr.drew) := (Below.refl _ _).drew
    have CH : Hid (∀ v, Below wr.heap.size wr v → Calls Try.prog 29 #[.slice og ng kg, .string f.1] v fun e w' => e = .returned (.bool (hasB gone f.1)) ∧ Below v.heap.size v w') := fun v hv => hasW_any SG _ gone f.1 v (HG.out v (bwr.trans (hv.mono bwr.size)))
    have A13 : Hid (∀ X g, Below wr.heap.size wr X → Row X wr.heap.size 9 1 eS (.slice (some ⟨g, 0, none⟩) 0 0) [] → ∃ v' X', (Builtin.append_ #[23, 23] 23 #[.slice (some ⟨g, 0, none⟩) 0 0, .slice og ng kg]).run Try.prog X = .ok v' X' ∧ Row X' wr.heap.size 9 1 eS v' gone ∧ Below X.heap.size X X') := fun X g hX hr => by
      obtain ⟨v', X', h1, h2, h3⟩ := app_newM (P := Try.prog) elS hr hX.size (flatS.src (HG.out X (bwr.trans (hX.mono bwr.size)))) (by have := ENG.out; unfold maxLen; omega) (by have := ENG.out; omega) 23
      exact ⟨v', X', h1, h2, h3⟩
    have A21 : Hid (∀ X v35 g2, Below wr.heap.size wr X → Row X wr.heap.size 9 1 eS v35 gone → X.cell? ⟨g2, 0, none⟩ = some (.string f.1) → ∃ v' X', (Builtin.append_ #[23, 23] 23 #[v35, .slice (some ⟨g2, 0, none⟩) 1 1]).run Try.prog X = .ok v' X' ∧ Row X' wr.heap.size 9 1 eS v' (gone ++ [f.1]) ∧ Below wr.heap.size wr X') := fun X v35 g2 hX hr hc => by
      obtain ⟨v', X', h1, h2, h3, _⟩ := run_app (P := Try.prog) elS hr (src_one hc) (by simp [Value.oneCell']) (by have := ENG.out; unfold maxLen; omega) (by have := ENG.out; omega) hX.size 23
      refine ⟨v', X', h1, ?_, hX.grown h3 hX.size (fun k hk => (World.ownsRow.lt hr k hk).1)⟩
      show World.ownsRow _ _ _ _ _ _ _
      rw [List.length_append, enc_append]
      exact h2
    have CR : Hid (∀ X ov n' kv, Below wr.heap.size wr X → Row X wr.heap.size 9 1 eS (.slice ov n' kv) (gone ++ [f.1]) → Calls Try.prog 11 #[.agg #[.slice o0 n0 k0, .slice (some ⟨bb, off, none⟩) nb kb], .slice ov n' kv] X fun e w' => e = .returned (.bool (smeF (T, Bs) m (gone ++ [f.1]))) ∧ Below X.heap.size X w') := fun X ov n' kv hX hr => by
      have hXw := bwr.trans (hX.mono bwr.size)
      have hz : SmL (gone ++ [f.1]) := ⟨by have := HL.out; have := ENB.out; rw [List.length_append]; simp; omega, fun x hx => by
        rcases List.mem_append.1 hx with h | h
        · exact HSG2.out.2 x h
        · simp at h; rw [h]; exact zf⟩
      exact IH.out (fun b => wr.heap.size ≤ b ∧ b < X.heap.size) (gone ++ [f.1]) ov n' kv X (H0.out X hXw) (H1.out X hXw) (HS.out X hXw) (flatS.row_at hr (fun b hb => World.ownsRow.lt hr b hb) (fun x hx => Nat.le_trans (hz.2 x hx) (by unfold maxLen; omega))) (fun b hb => hb.2) (by have := HL.out; rw [List.length_append]; simp; omega) hz
    have hfr := HFR.out
    have HZF : Hid (f.1.size ≤ 64) := zf
    clear e0 ef z0 hbS zf hfr
    go_upto_region 6 with fail
    clear y1
    refine wp_region_movesC (fun v => Below wr.heap.size wr v) 23 [] (by kernel_rfl) (by kernel_rfl) CD.out ?_
    simp only [List.filterMap_nil, movD]
    refine takeHQ (f := 22) (i := 0) (.slice og ng kg) ⟨rfl, rfl⟩ (by kernel_rfl) rfl (CD.out) ?t1 ?_
    case t1 => intro v hv; go_simp
    simp only [Act.put, List.setIfInBounds_toArray, List.set_cons_zero, List.set_cons_succ]
    refine takeHQ (f := 21) (i := 1) (.pointer (some ⟨w.heap.size, 1, none⟩)) ⟨rfl, rfl⟩ (by kernel_rfl) rfl (CD.out) ?t2 ?_
    case t2 => intro v hv; go_simp
    simp only [Act.put, List.setIfInBounds_toArray, List.set_cons_zero, List.set_cons_succ]
    refine takeHQ (f := 20) (i := 2) (.slice (some ⟨bb, off, none⟩) nb kb) ⟨rfl, rfl⟩ (by kernel_rfl) rfl (CD.out) ?t3 ?_
    case t3 => intro v hv; have c1 := Y1.out v hv; go_simp
    simp only [Act.put, List.setIfInBounds_toArray, List.set_cons_zero, List.set_cons_succ]
    refine takeHQ (f := 19) (i := 3) (.int .i64 q) ⟨rfl, rfl⟩ (by kernel_rfl) rfl (CD.out) ?t4 ?_
    case t4 => intro v hv; go_simp
    simp only [Act.put, List.setIfInBounds_toArray, List.set_cons_zero, List.set_cons_succ]
    refine takeHQ (f := 18) (i := 4) (.pointer (some ⟨bb, off + q * 3, none⟩)) ⟨rfl, rfl⟩ (by kernel_rfl) rfl (CD.out) ?t5 ?_
    case t5 => intro v hv; go_simp
    simp only [Act.put, List.setIfInBounds_toArray, List.set_cons_zero, List.set_cons_succ]
    refine takeHQ (f := 17) (i := 5) (.pointer (some ⟨bb, off + q * 3, none⟩)) ⟨rfl, rfl⟩ (by kernel_rfl) rfl (CD.out) ?t6 ?_
    case t6 => intro v hv; go_simp
    simp only [Act.put, List.setIfInBounds_toArray, List.set_cons_zero, List.set_cons_succ]
    refine takeHQ (f := 16) (i := 6) (.string f.1) ⟨rfl, rfl⟩ (by kernel_rfl) rfl (CD.out) ?t7 ?_
    case t7 => intro v hv; have c2 := E0.out v hv; go_simp
    simp only [Act.put, List.setIfInBounds_toArray, List.set_cons_zero, List.set_cons_succ]
    refine callHd (f := 15) (i := 7) ⟨rfl, rfl⟩ (by decide) (by kernel_rfl) rfl ?rc7 (Calls.mono (CH.out wr.drew CD.out) ?_)
    case rc7 => go_simp
    rintro e u1 ⟨rfl, hb1⟩
    have CU : Hid (Below wr.heap.size wr u1) := CD.out.trans (hb1.mono CD.out.size)
    clear hb1
    refine ⟨_, rfl, CU.out, ?_⟩
    simp only [Act.put, List.setIfInBounds_toArray, List.set_cons_zero, List.set_cons_succ]
    cases c0 : hasB gone f.1
    case true =>
      refine takeHQ (f := 14) (i := 8) (.bool false) ⟨rfl, rfl⟩ (by kernel_rfl) rfl (CU.out) ?t101 ?_
      case t101 => intro v hv; go_simp
      simp only [Act.put, List.setIfInBounds_toArray, List.set_cons_zero, List.set_cons_succ]
      refine takeHQ (f := 13) (i := 9) (.bool false) ⟨rfl, rfl⟩ (by kernel_rfl) rfl (CU.out) ?t102 ?_
      case t102 => intro v hv; go_simp
      simp only [Act.put, List.setIfInBounds_toArray, List.set_cons_zero, List.set_cons_succ]
      refine takeHX (f := 12) (i := 10) ⟨rfl, rfl⟩ (by kernel_rfl) rfl (CU.out) ?_
      simp only [Act.put, List.setIfInBounds_toArray, List.set_cons_zero, List.set_cons_succ]
      refine takeHX (f := 11) (i := 11) ⟨rfl, rfl⟩ (by kernel_rfl) rfl (CU.out) ?_
      simp only [Act.put, List.setIfInBounds_toArray, List.set_cons_zero, List.set_cons_succ]
      refine takeHX (f := 10) (i := 12) ⟨rfl, rfl⟩ (by kernel_rfl) rfl (CU.out) ?_
      simp only [Act.put, List.setIfInBounds_toArray, List.set_cons_zero, List.set_cons_succ]
      refine takeHX (f := 9) (i := 13) ⟨rfl, rfl⟩ (by kernel_rfl) rfl (CU.out) ?_
      simp only [Act.put, List.setIfInBounds_toArray, List.set_cons_zero, List.set_cons_succ]
      refine takeHX (f := 8) (i := 14) ⟨rfl, rfl⟩ (by kernel_rfl) rfl (CU.out) ?_
      simp only [Act.put, List.setIfInBounds_toArray, List.set_cons_zero, List.set_cons_succ]
      refine takeHX (f := 7) (i := 15) ⟨rfl, rfl⟩ (by kernel_rfl) rfl (CU.out) ?_
      simp only [Act.put, List.setIfInBounds_toArray, List.set_cons_zero, List.set_cons_succ]
      refine takeHX (f := 6) (i := 16) ⟨rfl, rfl⟩ (by kernel_rfl) rfl (CU.out) ?_
      simp only [Act.put, List.setIfInBounds_toArray, List.set_cons_zero, List.set_cons_succ]
      refine takeHX (f := 5) (i := 17) ⟨rfl, rfl⟩ (by kernel_rfl) rfl (CU.out) ?_
      simp only [Act.put, List.setIfInBounds_toArray, List.set_cons_zero, List.set_cons_succ]
      refine takeHX (f := 4) (i := 18) ⟨rfl, rfl⟩ (by kernel_rfl) rfl (CU.out) ?_
      simp only [Act.put, List.setIfInBounds_toArray, List.set_cons_zero, List.set_cons_succ]
      refine takeHX (f := 3) (i := 19) ⟨rfl, rfl⟩ (by kernel_rfl) rfl (CU.out) ?_
      simp only [Act.put, List.setIfInBounds_toArray, List.set_cons_zero, List.set_cons_succ]
      refine takeHX (f := 2) (i := 20) ⟨rfl, rfl⟩ (by kernel_rfl) rfl (CU.out) ?_
      simp only [Act.put, List.setIfInBounds_toArray, List.set_cons_zero, List.set_cons_succ]
      refine takeHX (f := 1) (i := 21) ⟨rfl, rfl⟩ (by kernel_rfl) rfl (CU.out) ?_
      simp only [Act.put, List.setIfInBounds_toArray, List.set_cons_zero, List.set_cons_succ]
      refine takeHX (f := 0) (i := 22) ⟨rfl, rfl⟩ (by kernel_rfl) rfl (CU.out) ?_
      simp only [Act.put, List.setIfInBounds_toArray, List.set_cons_zero, List.set_cons_succ]
      refine ⟨by kernel_rfl, ?_⟩
      simp only [List.drop_succ_cons, List.drop_zero]
      have hw0 : PJ q = false := by rw [HFR.out, c0]; rfl
      have B1 : Hid (Below W.heap.size W u1) := HB.trans (CU.out.mono hsz)
      go_wp2_with fail
      go_roundw
      case rel => exact ⟨q + 1, by omega, by go_num, STEPQ.out hw0, B1⟩
      case measure => simp [intOf]; omega
    refine takeHQ (f := 14) (i := 8) (.bool true) ⟨rfl, rfl⟩ (by kernel_rfl) rfl (CU.out) ?t201 ?_
    case t201 => intro v hv; go_simp
    simp only [Act.put, List.setIfInBounds_toArray, List.set_cons_zero, List.set_cons_succ]
    refine takeHQ (f := 13) (i := 9) (.bool true) ⟨rfl, rfl⟩ (by kernel_rfl) rfl (CU.out) ?t202 ?_
    case t202 => intro v hv; go_simp
    simp only [Act.put, List.setIfInBounds_toArray, List.set_cons_zero, List.set_cons_succ]
    refine takeHQ (f := 12) (i := 10) (.agg #[.slice o0 n0 k0, .slice (some ⟨bb, off, none⟩) nb kb]) ⟨rfl, rfl⟩ (by kernel_rfl) rfl (CU.out) ?t203 ?_
    case t203 => intro v hv; have c0 := Y0.out v hv; have c1 := Y1.out v hv; go_simp
    simp only [Act.put, List.setIfInBounds_toArray, List.set_cons_zero, List.set_cons_succ]
    refine takeHQ (f := 11) (i := 12) (.slice og ng kg) ⟨rfl, rfl⟩ (by kernel_rfl) rfl (CU.out) ?t204 ?_
    case t204 => intro v hv; go_simp
    simp only [Act.put, List.setIfInBounds_toArray, List.set_cons_zero, List.set_cons_succ]
    refine takeHQ (f := 10) (i := 14) (.pointer (some ⟨w.heap.size, 1, none⟩)) ⟨rfl, rfl⟩ (by kernel_rfl) rfl (CU.out) ?t205 ?_
    case t205 => intro v hv; go_simp
    simp only [Act.put, List.setIfInBounds_toArray, List.set_cons_zero, List.set_cons_succ]
    refine takeHQ (f := 9) (i := 15) (.slice (some ⟨bb, off, none⟩) nb kb) ⟨rfl, rfl⟩ (by kernel_rfl) rfl (CU.out) ?t206 ?_
    case t206 => intro v hv; have c1 := Y1.out v hv; go_simp
    simp only [Act.put, List.setIfInBounds_toArray, List.set_cons_zero, List.set_cons_succ]
    refine takeHQ (f := 8) (i := 16) (.int .i64 q) ⟨rfl, rfl⟩ (by kernel_rfl) rfl (CU.out) ?t207 ?_
    case t207 => intro v hv; go_simp
    simp only [Act.put, List.setIfInBounds_toArray, List.set_cons_zero, List.set_cons_succ]
    refine takeHQ (f := 7) (i := 17) (.pointer (some ⟨bb, off + q * 3, none⟩)) ⟨rfl, rfl⟩ (by kernel_rfl) rfl (CU.out) ?t208 ?_
    case t208 => intro v hv; go_simp
    simp only [Act.put, List.setIfInBounds_toArray, List.set_cons_zero, List.set_cons_succ]
    refine takeHQ (f := 6) (i := 18) (.pointer (some ⟨bb, off + q * 3, none⟩)) ⟨rfl, rfl⟩ (by kernel_rfl) rfl (CU.out) ?t209 ?_
    case t209 => intro v hv; go_simp
    simp only [Act.put, List.setIfInBounds_toArray, List.set_cons_zero, List.set_cons_succ]
    refine takeHQ (f := 5) (i := 19) (.string f.1) ⟨rfl, rfl⟩ (by kernel_rfl) rfl (CU.out) ?t210 ?_
    case t210 => intro v hv; have c2 := E0.out v hv; go_simp
    simp only [Act.put, List.setIfInBounds_toArray, List.set_cons_zero, List.set_cons_succ]
    refine twoH (f := 4) 11 20 (by kernel_rfl) ⟨by decide, by decide⟩ ?brA ?brB
    case brA =>
      have CA : Below wr.heap.size wr (u1.alloc (.cells #[] 9)) := CU.out.alloc CU.out.size _
      refine stepHd (.slice (some ⟨u1.heap.size, 0, none⟩) 0 0) (u1.alloc (.cells #[] 9)) ⟨rfl, rfl⟩ rfl ?rA ⟨CA, ?_⟩
      case rA => go_simp
      simp only [Act.put, List.setIfInBounds_toArray, List.set_cons_zero, List.set_cons_succ]
      have rowA : Row (u1.alloc (.cells #[] 9)) wr.heap.size 9 1 eS (.slice (some ⟨u1.heap.size, 0, none⟩) 0 0) [] := Row.made u1 _ _ _ CU.out.size
      refine twoH (f := 3) 13 20 (by kernel_rfl) ⟨by decide, by decide⟩ ?brA1 ?brA2
      case brA1 =>
        obtain ⟨v35, X2, hr13, row2, bel2⟩ := A13.out _ _ CA rowA
        have C2 : Below wr.heap.size wr X2 := CA.trans (bel2.mono CA.size)
        refine stepHd v35 X2 ⟨rfl, rfl⟩ rfl (exec_runM rfl rfl rfl hr13) ⟨C2, ?_⟩
        simp only [Act.put, List.setIfInBounds_toArray, List.set_cons_zero, List.set_cons_succ]
        refine oneHd (f := 2) (i := 20) (.slice (some ⟨X2.heap.size, 0, none⟩) 1 1) (X2.alloc (.cells #[.string f.1] 9)) ⟨rfl, rfl⟩ (by decide) (by kernel_rfl) rfl ?rB (C2.alloc C2.size _) ?_
        case rB => go_simp
        simp only [Act.put, List.setIfInBounds_toArray, List.set_cons_zero, List.set_cons_succ]
        obtain ⟨v43, X4, hr21, row4, CX4⟩ := A21.out (X2.alloc (.cells #[.string f.1] 9)) _ _ (C2.alloc C2.size _) (Row.below row2 ((Below.refl _ _).alloc (Nat.le_refl _) _)) (cell_new1 X2 f.1)
        refine oneHd (f := 1) (i := 21) v43 X4 ⟨rfl, rfl⟩ (by decide) (by kernel_rfl) rfl (exec_runM rfl rfl rfl hr21) CX4 ?_
        simp only [Act.put, List.setIfInBounds_toArray, List.set_cons_zero, List.set_cons_succ]
        obtain ⟨ov, kv, hv43⟩ := Row.form row4
        subst hv43
        refine callHd (f := 0) (i := 22) ⟨rfl, rfl⟩ (by decide) (by kernel_rfl) rfl ?rc22 (Calls.mono (CR.out X4 _ _ _ CX4 row4) ?_)
        case rc22 => go_simp
        rintro e X5 ⟨rfl, hb5⟩
        have C5 : Hid (Below wr.heap.size wr X5) := CX4.trans (hb5.mono CX4.size)
        refine ⟨_, rfl, C5.out, ?_⟩
        simp only [Act.put, List.setIfInBounds_toArray, List.set_cons_zero, List.set_cons_succ]
        refine ⟨by kernel_rfl, ?_⟩
        simp only [List.drop_succ_cons, List.drop_zero]
        have B5 : Hid (Below W.heap.size W X5) := HB.trans (C5.out.mono hsz)
        clear hb5 hr21 row4 CX4 C5
        cases c1 : smeF (T, Bs) m (gone ++ [f.1])
        · have hw0 : PJ q = false := by rw [HFR.out, c0, c1]; rfl
          go_wp2_with fail
          go_roundw
          case rel => exact ⟨q + 1, by omega, by go_num, STEPQ.out hw0, B5⟩
          case measure => simp [intOf]; omega
        · have hw0 : PJ q = true := by rw [HFR.out, c0, c1]; rfl
          go_wp2_with fail
          go_ret
          rw [← HR.out, sme_yes (D := (T, Bs)) hqb (by rw [← HPJ.out q]; exact hw0)]
          exact ⟨rfl, (BOX.out X5 B5.out).2⟩
      case brA2 =>
        refine stepHd (.slice (some ⟨(u1.alloc (.cells #[] 9)).heap.size, 0, none⟩) 1 1) ((u1.alloc (.cells #[] 9)).alloc (.cells #[.string f.1] 9)) ⟨rfl, rfl⟩ rfl ?rC ⟨CA.alloc CA.size _, ?_⟩
        case rC => go_simp
        simp only [Act.put, List.setIfInBounds_toArray, List.set_cons_zero, List.set_cons_succ]
        have rowB : Row ((u1.alloc (.cells #[] 9)).alloc (.cells #[.string f.1] 9)) wr.heap.size 9 1 eS (.slice (some ⟨u1.heap.size, 0, none⟩) 0 0) [] := Row.below rowA ((Below.refl _ _).alloc (Nat.le_refl _) _)
        obtain ⟨v35, X2, hr13, row2, bel2⟩ := A13.out _ _ (CA.alloc CA.size _) rowB
        have C2 : Below wr.heap.size wr X2 := (CA.alloc CA.size _).trans (bel2.mono (CA.alloc CA.size _).size)
        refine oneHd (f := 2) (i := 13) v35 X2 ⟨rfl, rfl⟩ (by decide) (by kernel_rfl) rfl (exec_runM rfl rfl rfl hr13) C2 ?_
        simp only [Act.put, List.setIfInBounds_toArray, List.set_cons_zero, List.set_cons_succ]
        obtain ⟨v43, X4, hr21, row4, CX4⟩ := A21.out X2 _ _ C2 row2 ((bel2.cell (p := ⟨(u1.alloc (.cells #[] 9)).heap.size, 0, none⟩) (by show (u1.alloc (.cells #[] 9)).heap.size < _; simp)).trans (cell_new1 (u1.alloc (.cells #[] 9)) f.1))
        refine oneHd (f := 1) (i := 21) v43 X4 ⟨rfl, rfl⟩ (by decide) (by kernel_rfl) rfl (exec_runM rfl rfl rfl hr21) CX4 ?_
        simp only [Act.put, List.setIfInBounds_toArray, List.set_cons_zero, List.set_cons_succ]
        obtain ⟨ov, kv, hv43⟩ := Row.form row4
        subst hv43
        refine callHd (f := 0) (i := 22) ⟨rfl, rfl⟩ (by decide) (by kernel_rfl) rfl ?rc22 (Calls.mono (CR.out X4 _ _ _ CX4 row4) ?_)
        case rc22 => go_simp
        rintro e X5 ⟨rfl, hb5⟩
        have C5 : Hid (Below wr.heap.size wr X5) := CX4.trans (hb5.mono CX4.size)
        refine ⟨_, rfl, C5.out, ?_⟩
        simp only [Act.put, List.setIfInBounds_toArray, List.set_cons_zero, List.set_cons_succ]
        refine ⟨by kernel_rfl, ?_⟩
        simp only [List.drop_succ_cons, List.drop_zero]
        have B5 : Hid (Below W.heap.size W X5) := HB.trans (C5.out.mono hsz)
        clear hb5 hr21 row4 CX4 C5
        cases c1 : smeF (T, Bs) m (gone ++ [f.1])
        · have hw0 : PJ q = false := by rw [HFR.out, c0, c1]; rfl
          go_wp2_with fail
          go_roundw
          case rel => exact ⟨q + 1, by omega, by go_num, STEPQ.out hw0, B5⟩
          case measure => simp [intOf]; omega
        · have hw0 : PJ q = true := by rw [HFR.out, c0, c1]; rfl
          go_wp2_with fail
          go_ret
          rw [← HR.out, sme_yes (D := (T, Bs)) hqb (by rw [← HPJ.out q]; exact hw0)]
          exact ⟨rfl, (BOX.out X5 B5.out).2⟩
    case brB =>
      have CB : Below wr.heap.size wr (u1.alloc (.cells #[.string f.1] 9)) := CU.out.alloc CU.out.size _
      refine stepHd (.slice (some ⟨u1.heap.size, 0, none⟩) 1 1) (u1.alloc (.cells #[.string f.1] 9)) ⟨rfl, rfl⟩ rfl ?rD ⟨CB, ?_⟩
      case rD => go_simp
      simp only [Act.put, List.setIfInBounds_toArray, List.set_cons_zero, List.set_cons_succ]
      refine oneHd (f := 3) (i := 11) (.slice (some ⟨(u1.alloc (.cells #[.string f.1] 9)).heap.size, 0, none⟩) 0 0) ((u1.alloc (.cells #[.string f.1] 9)).alloc (.cells #[] 9)) ⟨rfl, rfl⟩ (by decide) (by kernel_rfl) rfl ?rE (CB.alloc CB.size _) ?_
      case rE => go_simp
      simp only [Act.put, List.setIfInBounds_toArray, List.set_cons_zero, List.set_cons_succ]
      have rowA : Row ((u1.alloc (.cells #[.string f.1] 9)).alloc (.cells #[] 9)) wr.heap.size 9 1 eS (.slice (some ⟨(u1.alloc (.cells #[.string f.1] 9)).heap.size, 0, none⟩) 0 0) [] := Row.made _ _ _ _ CB.size
      obtain ⟨v35, X2, hr13, row2, bel2⟩ := A13.out _ _ (CB.alloc CB.size _) rowA
      have C2 : Below wr.heap.size wr X2 := (CB.alloc CB.size _).trans (bel2.mono (CB.alloc CB.size _).size)
      refine oneHd (f := 2) (i := 13) v35 X2 ⟨rfl, rfl⟩ (by decide) (by kernel_rfl) rfl (exec_runM rfl rfl rfl hr13) C2 ?_
      simp only [Act.put, List.setIfInBounds_toArray, List.set_cons_zero, List.set_cons_succ]
      obtain ⟨v43, X4, hr21, row4, CX4⟩ := A21.out X2 _ _ C2 row2 (((Below.refl _ _).alloc (Nat.le_refl _) _ |>.trans (bel2.mono (by simp))).cell (p := ⟨u1.heap.size, 0, none⟩) (by show u1.heap.size < _; simp) |>.trans (cell_new1 u1 f.1))
      refine oneHd (f := 1) (i := 21) v43 X4 ⟨rfl, rfl⟩ (by decide) (by kernel_rfl) rfl (exec_runM rfl rfl rfl hr21) CX4 ?_
      simp only [Act.put, List.setIfInBounds_toArray, List.set_cons_zero, List.set_cons_succ]
      obtain ⟨ov, kv, hv43⟩ := Row.form row4
      subst hv43
      refine callHd (f := 0) (i := 22) ⟨rfl, rfl⟩ (by decide) (by kernel_rfl) rfl ?rc22 (Calls.mono (CR.out X4 _ _ _ CX4 row4) ?_)
      case rc22 => go_simp
      rintro e X5 ⟨rfl, hb5⟩
      have C5 : Hid (Below wr.heap.size wr X5) := CX4.trans (hb5.mono CX4.size)
      refine ⟨_, rfl, C5.out, ?_⟩
      simp only [Act.put, List.setIfInBounds_toArray, List.set_cons_zero, List.set_cons_succ]
      refine ⟨by kernel_rfl, ?_⟩
      simp only [List.drop_succ_cons, List.drop_zero]
      have B5 : Hid (Below W.heap.size W X5) := HB.trans (C5.out.mono hsz)
      clear hb5 hr21 row4 CX4 C5
      cases c1 : smeF (T, Bs) m (gone ++ [f.1])
      · have hw0 : PJ q = false := by rw [HFR.out, c0, c1]; rfl
        go_wp2_with fail
        go_roundw
        case rel => exact ⟨q + 1, by omega, by go_num, STEPQ.out hw0, B5⟩
        case measure => simp [intOf]; omega
      · have hw0 : PJ q = true := by rw [HFR.out, c0, c1]; rfl
        go_wp2_with fail
        go_ret
        rw [← HR.out, sme_yes (D := (T, Bs)) hqb (by rw [← HPJ.out q]; exact hw0)]
        exact ⟨rfl, (BOX.out X5 B5.out).2⟩

end Go.Proofs.Ythgnhjkkfhfgmab

/-
  The laws' own comparing of two lists of texts that hold the same.
-/
namespace Go.Proofs.Ythgnhjkkfhfgmab
open Go.RowKit Go.Sort

set_option maxRecDepth 100000 in
set_option maxHeartbeats 4000000 in
theorem whTexts_any (S S' : Nat → Prop) (l : List ByteArray) (va vb : Value) (w : World) (ha : AtL S w l va) (hb : AtL S' w l vb) (hS : ∀ b, S b → b < w.heap.size) (hS' : ∀ b, S' b → b < w.heap.size) :
    Calls Try.prog 7 #[va, vb] w fun e w' => e = .returned (.bool true) ∧ Below w.heap.size w w' := by
  obtain ⟨oa, ca, rfl, hn, hca⟩ := ha
  obtain ⟨ob, cb, rfl, _, hcb⟩ := hb
  obtain ⟨n, en⟩ : ∃ n, l.length = n := ⟨_, rfl⟩
  rw [en] at hn
  rw [en]
  unfold maxLen at hn
  have HA : Hid _ := hca
  have HB : Hid _ := hcb
  clear hca hcb
  go_enter Try.func7, Try.ntmps7
  go_wp2
  go_loopw [5] (fun i wr => ∃ k : Nat, k ≤ n ∧ i = .int .i64 k ∧ Hid (Below w.heap.size w wr)) (fun i _ => n - (intOf i).toNat)
  case atStart => exact ⟨0, Nat.zero_le _, rfl, Below.refl _ _⟩
  case round =>
    obtain ⟨k, hk, rfl, hbel⟩ := hrel
    have hs := hbel.out.size
    by_cases hlt : k < n
    · obtain ⟨ba, fa, rfl, hba, cc, hxa, hata⟩ := HA.out k (by omega)
      obtain ⟨bb, fb, rfl, hbb, dd, hxb, hatb⟩ := HB.out k (by omega)
      have hba' := hS ba hba
      have hbb' := hS' bb hbb
      rw [width_str] at hxa hxb
      have a0 : wr.cell? ⟨ba, fa + k, none⟩ = some (cc 0) := (hbel.out.cell (p := ⟨ba, fa + k, none⟩) (by show ba < _; omega)).trans (by simpa using hxa 0 (by omega))
      have c0 : wr.cell? ⟨bb, fb + k, none⟩ = some (dd 0) := (hbel.out.cell (p := ⟨bb, fb + k, none⟩) (by show bb < _; omega)).trans (by simpa using hxb 0 (by omega))
      rw [at_str] at hata hatb
      rw [hata.1] at a0
      rw [hatb.1] at c0
      clear hata hatb
      clear hxa hxb
      have qa0 := fun d os => cell_regrown a0 d os
      have qc0 := fun d os => cell_regrown c0 d os
      go_wp2
      refine wp_region_quiet_below (by kernel_rfl) (by kernel_rfl) ?_
      repeat (first | go_big_quiet_step (fail) | quiet_step (fail))
      refine wpQuiet_nil ?_
      intro _ hw'
      obtain ⟨⟨dq, osq⟩, hw''⟩ := hw'
      subst hw''
      go_wp2
      go_roundw
      case rel => exact ⟨k + 1, by omega, by go_num, hbel.out.trans ((below_regrown _ dq osq).mono hs)⟩
      case measure => simp [intOf]; omega
    · go_wp2
      go_ret
      exact ⟨rfl, hbel.out⟩

end Go.Proofs.Ythgnhjkkfhfgmab
