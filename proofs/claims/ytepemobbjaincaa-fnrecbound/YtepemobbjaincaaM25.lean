/-
  Several texts in one.
-/
import Derived.Test.YtepemobbjaincaaXdi
/-
  Any recipe is drawn, and where it begins.
-/
namespace Go.Proofs.Ytepemobbjaincaa
open Go.RowKit Go.Sort

/-- What is answered by the drawing of any recipe. -/
def AnE (R : Nat) (ob : Option Addr) (n cb : Nat) (f : Nat → Int) (p : Int) (w : World) (e : Ending) (w' : World) : Prop := ∃ v M, e = .returned v ∧ M.length ≤ 14 ∧ (∀ x ∈ M, PzL 2000 x) ∧ ∃ p', p' ≤ p + 3000 ∧ Hid (Rd R w' ob n cb p' f) ∧ Hid (But (fun q => q = R) w w') ∧ Hid (Row w' w.heap.size 32 8 eR v M)
theorem AnE.of {R : Nat} {ob : Option Addr} {n cb : Nat} {f : Nat → Int} {p : Int} {w : World} {e : Ending} {w' : World} (h : ∃ v M, e = .returned v ∧ M.length ≤ 14 ∧ (∀ x ∈ M, PzL 2000 x) ∧ ∃ p', p' ≤ p + 3000 ∧ Hid (Rd R w' ob n cb p' f) ∧ Hid (But (fun q => q = R) w w') ∧ Hid (Row w' w.heap.size 32 8 eR v M)) : AnE R ob n cb f p w e w' := h

set_option maxRecDepth 100000 in
set_option maxHeartbeats 4000000 in
theorem any_rd (R : Nat) (ob : Option Addr) (n cb : Nat) (f : Nat → Int) (p : Int) (w : World) (h : Rd R w ob n cb p f) (hp : p ≤ 50000) :
    Calls Try.prog 33 #[.pointer (some ⟨R, 0, none⟩)] w fun e w' => AnE R ob n cb f p w e w' := by
  have rlt := h.lt
  have C : Hid _ := recipe_rd R ob n cb f p w h (by omega)
  clear h
  go_enter Try.func33, Try.ntmps33
  go_wp2_with fail
  refine Calls.mono C.out ?_
  rintro e W1 ⟨v, L, rfl, h1, h2, p1, hp1, D1⟩
  clear C
  obtain ⟨oo, ko, hf⟩ := Row.form D1.out.row
  subst hf
  obtain ⟨nl, hnl⟩ : ∃ nl, L.length = nl := ⟨_, rfl⟩
  have HLK : Hid (L.length = nl) := hnl
  rw [hnl] at h1 h2 D1
  rw [hnl]
  clear hnl
  have C : Hid _ := pick_rd R ob n cb f p1 24 W1 D1.out.rd (by omega) (by omega) (by omega)
  go_wp2_with fail
  refine Calls.mono C.out ?_
  rintro e W2 ⟨z, rfl, z0, z1, p2, hp2, RD2, bt⟩
  have D2 : Hid (Dr R ob n cb f w (w.heap.size + 1) W2 p2 (.slice oo nl ko) L) := D1.out.call RD2.out bt.out
  clear C bt RD2 D1
  have whi := D2.out.hi
  rcases (show z = 0 ∨ z = 1 ∨ 2 ≤ z by omega) with rfl | rfl | hz
  · have C : Hid _ := spoilL_rd R ob n cb f p2 (fun b => w.heap.size + 1 ≤ b ∧ b < W2.heap.size) L oo nl ko W2 D2.out.rd (by omega) (flatR.row_at D2.out.row (fun q hq => World.ownsRow.lt D2.out.row q hq) (fun x hx => (D2.out.pz x hx).ok (by omega))) (fun b hb => ⟨hb.2, by omega⟩) h1 h2 D2.out.pz
    go_wp2_with fail
    refine Calls.mono C.out ?_
    rintro e W3 ⟨v3, M, rfl, hm, hz, p3, hp3, RD3, BT3, RW3⟩
    have BT : Hid (But (fun q => q = R) w W3) := D2.out.but.trans BT3.out
    have RW : Hid (Row W3 w.heap.size 32 8 eR v3 M) := RW3.out.low (by omega)
    have HZM : Hid (∀ x ∈ M, PzL 2000 x) := hz
    clear C BT3 RW3 D2 hz
    obtain ⟨o3, k3, hf3⟩ := Row.form RW.out
    subst hf3
    go_wp2_with fail
    go_ret
    exact AnE.of ⟨_, M, rfl, hm, HZM.out, p3, by omega, RD3, BT, RW⟩
  · go_wp2_with fail
    go_ret
    exact AnE.of ⟨_, [], rfl, by simp, (fun _ h => by cases h), p2, by omega, D2.out.rd.but (fun b hb => Below.heap_alloc W2 _ b (by have := D2.out.rd.lt; omega)), but_alloc D2.out.but _, Row.made W2 32 8 eR (by omega)⟩
  · have hz0 : (z == 0) = false := by simp; omega
    have hz1 : (z == 1) = false := by simp; omega
    go_wp2_with fail
    go_ret
    exact AnE.of ⟨_, L, rfl, by have := HLK.out; omega, fun x hx => (D2.out.pz x hx).up (by omega), p2, by omega, D2.out.rd, D2.out.but, D2.out.row.low (by omega)⟩

set_option maxRecDepth 100000 in
set_option maxHeartbeats 4000000 in
theorem from_rd (R : Nat) (ob : Option Addr) (n cb : Nat) (f : Nat → Int) (p : Int) (S : Nat → Prop) (L : List DRecPhase) (ol : Option Addr) (nl cl : Nat) (w : World) (h : Rd R w ob n cb p f) (hp : p ≤ 80000) (hat : AtL S w L (.slice ol nl cl)) (hS : ∀ b, S b → b < w.heap.size ∧ b ≠ R) (h2 : nl ≤ 14) (hz : ∀ x ∈ L, PzL 2000 x) :
    Calls Try.prog 34 #[.pointer (some ⟨R, 0, none⟩), .slice ol nl cl] w fun e w' => ∃ s, s.size ≤ 16 ∧ e = .returned (.string s) ∧ ∃ p', p' ≤ p + 5 ∧ Hid (Rd R w' ob n cb p' f) ∧ Hid (But (fun q => q = R) w w') := by
  have rlt := h.lt
  have HN : Hid (L.length = nl) := by obtain ⟨_, _, e, _⟩ := hat; injection e with _ e _; exact e.symm
  have HL : Hid (AtL S w L (.slice ol nl cl)) := hat
  have HS : Hid (∀ b, S b → b < w.heap.size ∧ b ≠ R) := hS
  have HZ : Hid (∀ x ∈ L, PzL 2000 x) := hz
  have RW : Hid (Rd R w ob n cb p f) := h
  clear hat hS hz h
  by_cases h0 : nl = 0
  · subst h0
    go_enter Try.func34, Try.ntmps34
    go_upto_region 3 with fail
    have hL := lit_at 9 w ([⟨#[103, 111, 111, 100]⟩, ⟨#[115, 99, 114, 97, 112, 112, 101, 100]⟩, ⟨#[110, 111, 110, 101]⟩, ⟨#[]⟩] : List ByteArray) (by unfold maxLen; decide) (fun s hs => Nat.le_trans (((fun s hs => by simp only [List.mem_cons, List.not_mem_nil, or_false] at hs; rcases hs with rfl | rfl | rfl | rfl <;> decide : ∀ s ∈ ([⟨#[103, 111, 111, 100]⟩, ⟨#[115, 99, 114, 97, 112, 112, 101, 100]⟩, ⟨#[110, 111, 110, 101]⟩, ⟨#[]⟩] : List ByteArray), s.size ≤ 16)) s hs) (by decide))
    have C : Hid _ := of_rd R ob n cb f p (fun b => b = w.heap.size) ([⟨#[103, 111, 111, 100]⟩, ⟨#[115, 99, 114, 97, 112, 112, 101, 100]⟩, ⟨#[110, 111, 110, 101]⟩, ⟨#[]⟩] : List ByteArray) _ (w.alloc (.cells #[.string ⟨#[103, 111, 111, 100]⟩, .string ⟨#[115, 99, 114, 97, 112, 112, 101, 100]⟩, .string ⟨#[110, 111, 110, 101]⟩, .string ⟨#[]⟩] 9)) (RW.out.but (fun b hb => Below.heap_alloc w _ b (by omega))) (by omega) hL (fun b hb => by subst hb; simp; omega) (by decide) (by decide)
    clear hL
    go_wp2_with fail
    refine Calls.mono C.out ?_
    rintro e W9 ⟨s, hs, rfl, p9, hp9, RD9, bt⟩
    have sz := ((fun s hs => by simp only [List.mem_cons, List.not_mem_nil, or_false] at hs; rcases hs with rfl | rfl | rfl | rfl <;> decide : ∀ s ∈ ([⟨#[103, 111, 111, 100]⟩, ⟨#[115, 99, 114, 97, 112, 112, 101, 100]⟩, ⟨#[110, 111, 110, 101]⟩, ⟨#[]⟩] : List ByteArray), s.size ≤ 16)) s hs
    clear C hs
    go_wp2_with fail
    go_ret
    exact ⟨s, sz, rfl, p9, by omega, RD9, (but_alloc (But.refl _ w) _).trans bt.out⟩
  have d0 : (0 : Int) < (nl : Int) := by omega
  have C : Hid _ := pick_rd R ob n cb f p 8 w RW.out (by omega) (by omega) (by omega)
  go_enter Try.func34, Try.ntmps34
  go_wp2_with fail
  refine Calls.mono C.out ?_
  rintro e W1 ⟨z, rfl, z0, z1, p1, hp1, RD1, BT1⟩
  have rlt1 := RD1.out.lt
  clear C
  by_cases hz : 0 < z
  · have C : Hid _ := pick_rd R ob n cb f p1 nl W1 RD1.out (by omega) (by omega) (by omega)
    go_wp2_with fail
    refine Calls.mono C.out ?_
    rintro e W2 ⟨y, rfl, y0, y1, p2, hp2, RD2, BT2⟩
    clear C
    obtain ⟨i, rfl⟩ := Int.eq_ofNat_of_zero_le y0
    obtain ⟨b0, off0, s, hol, e0, sz⟩ : ∃ b0 off0 s, ol = some ⟨b0, off0, none⟩ ∧ W2.cell? ⟨b0, off0 + i * 8, none⟩ = some (.string s) ∧ s.size ≤ 16 := by
      obtain ⟨oa, c, e, hn, hc⟩ := HL.out
      injection e with e1 e2 e3
      have hiL : i < L.length := by have := HN.out; omega
      obtain ⟨b0, off0, h1, h2, cc, h3, h4⟩ := hc i hiL
      have e0 := h3 0 (by decide)
      rw [width_DRecPhase, Nat.add_zero] at e0
      rw [at_DRecPhase] at h4
      rw [h4.1.1] at e0
      exact ⟨b0, off0, _, e1.trans h1, (World.cell?_of_block (w := w) (a := ⟨b0, off0 + i * 8, none⟩) ((BT1.out.trans BT2.out).block b0 (HS.out b0 h2).1 (HS.out b0 h2).2)).trans e0, (HZ.out _ (List.getElem_mem hiL)).1⟩
    subst hol
    have BT : Hid (But (fun q => q = R) w W2) := BT1.out.trans BT2.out
    clear BT1 BT2
    go_wp2_with fail
    go_ret
    exact ⟨s, sz, rfl, p2, by omega, RD2, BT⟩
  · have hz00 : z = 0 := by omega
    subst hz00
    go_upto_region 3 with fail
    have hL := lit_at 9 W1 ([⟨#[103, 111, 111, 100]⟩, ⟨#[115, 99, 114, 97, 112, 112, 101, 100]⟩, ⟨#[110, 111, 110, 101]⟩, ⟨#[]⟩] : List ByteArray) (by unfold maxLen; decide) (fun s hs => Nat.le_trans (((fun s hs => by simp only [List.mem_cons, List.not_mem_nil, or_false] at hs; rcases hs with rfl | rfl | rfl | rfl <;> decide : ∀ s ∈ ([⟨#[103, 111, 111, 100]⟩, ⟨#[115, 99, 114, 97, 112, 112, 101, 100]⟩, ⟨#[110, 111, 110, 101]⟩, ⟨#[]⟩] : List ByteArray), s.size ≤ 16)) s hs) (by decide))
    have C : Hid _ := of_rd R ob n cb f p1 (fun b => b = W1.heap.size) ([⟨#[103, 111, 111, 100]⟩, ⟨#[115, 99, 114, 97, 112, 112, 101, 100]⟩, ⟨#[110, 111, 110, 101]⟩, ⟨#[]⟩] : List ByteArray) _ (W1.alloc (.cells #[.string ⟨#[103, 111, 111, 100]⟩, .string ⟨#[115, 99, 114, 97, 112, 112, 101, 100]⟩, .string ⟨#[110, 111, 110, 101]⟩, .string ⟨#[]⟩] 9)) (RD1.out.but (fun b hb => Below.heap_alloc W1 _ b (by omega))) (by omega) hL (fun b hb => by subst hb; simp; omega) (by decide) (by decide)
    clear hL
    go_wp2_with fail
    refine Calls.mono C.out ?_
    rintro e W9 ⟨s, hs, rfl, p9, hp9, RD9, bt⟩
    have sz := ((fun s hs => by simp only [List.mem_cons, List.not_mem_nil, or_false] at hs; rcases hs with rfl | rfl | rfl | rfl <;> decide : ∀ s ∈ ([⟨#[103, 111, 111, 100]⟩, ⟨#[115, 99, 114, 97, 112, 112, 101, 100]⟩, ⟨#[110, 111, 110, 101]⟩, ⟨#[]⟩] : List ByteArray), s.size ≤ 16)) s hs
    clear C hs
    go_wp2_with fail
    go_ret
    exact ⟨s, sz, rfl, p9, by omega, RD9, (but_alloc BT1.out _).trans bt.out⟩

end Go.Proofs.Ytepemobbjaincaa

/-
  The recipe that the law FnRecBound draws.
-/
namespace Go.Proofs.Ytepemobbjaincaa
open Go.RowKit Go.Sort

/-- What is answered by the drawing of a recipe and of where it begins. -/
def DsE (w : World) (e : Ending) (w' : World) : Prop := ∃ v M s, e = .returned (.tuple #[v, .string s]) ∧ M.length ≤ 14 ∧ (∀ x ∈ M, PzL 2000 x) ∧ s.size ≤ 16 ∧ Hid (Row w' w.heap.size 32 8 eR v M) ∧ Hid (Below w.heap.size w w')
theorem DsE.of {w : World} {e : Ending} {w' : World} (h : ∃ v M s, e = .returned (.tuple #[v, .string s]) ∧ M.length ≤ 14 ∧ (∀ x ∈ M, PzL 2000 x) ∧ s.size ≤ 16 ∧ Hid (Row w' w.heap.size 32 8 eR v M) ∧ Hid (Below w.heap.size w w')) : DsE w e w' := h

set_option maxRecDepth 100000 in
set_option maxHeartbeats 4000000 in
theorem drawS_any (ob : Option Addr) (n cb : Nat) (f : Nat → Int) (w : World) (hn : n ≤ maxLen) (hnc : n ≤ cb) (fb : ∀ i, 0 ≤ f i ∧ f i ≤ 255)
    (ce : ∀ i, i < n → ∃ b off, ob = some ⟨b, off, none⟩ ∧ b < w.heap.size ∧ w.cell? ⟨b, off + i, none⟩ = some (.int .u8 (f i))) :
    Calls Try.prog 13 #[.slice ob n cb] w fun e w' => DsE w e w' := by
  have HOP : Hid (1 ≤ n → ∃ a, ob = some a) := fun h => by obtain ⟨b, off, h1, _⟩ := ce 0 (by omega); exact ⟨_, h1⟩
  have HCE : Hid _ := ce
  have HFB : Hid _ := fb
  clear ce fb
  go_enter Try.func13, Try.ntmps13
  go_wp2_with fail
  refine (open_any ob n cb w hn hnc HOP.out).mono ?_
  rintro e W1 ⟨n', hn1, hn2, rfl, hW1⟩
  obtain ⟨R, hR⟩ : ∃ R, R = w.heap.size := ⟨_, rfl⟩
  have hrd : Rd R W1 ob n' cb 0 f := by
    rw [hW1, hR]
    refine ⟨heap_alloc_new w _, hn1, by omega, by omega, HFB.out, fun i hi => ?_⟩
    obtain ⟨b, off, h1, h2, h3⟩ := HCE.out i (by omega)
    exact ⟨b, off, h1, by omega, (World.cell?_of_block (w := w) (a := ⟨b, off + i, none⟩) (Below.heap_alloc w _ b (by omega))).trans h3⟩
  have RD1 : Hid (Rd R W1 ob n' cb 0 f) := hrd
  have B1 : Hid (Below w.heap.size w W1) := by show Below w.heap.size w W1; rw [hW1]; exact (Below.refl _ _).alloc (Nat.le_refl _) _
  have s1 : w.heap.size + 1 ≤ W1.heap.size := by rw [hW1]; simp
  have rlo : w.heap.size ≤ R ∧ R ≤ w.heap.size := by omega
  rw [← hR]
  clear hR hW1 hrd hn2 hn hnc HCE HFB HOP
  have C : Hid _ := any_rd R ob n' cb f 0 W1 RD1.out (by omega)
  go_wp2_with fail
  refine Calls.mono C.out ?_
  rintro e W2 ⟨v, M, rfl, hm, hz, p2, hp2, RD2, BT2, RW2⟩
  have HZ : Hid (∀ x ∈ M, PzL 2000 x) := hz
  clear C hz RD1
  obtain ⟨oo, ko, hf⟩ := Row.form RW2.out
  subst hf
  obtain ⟨nl, hnl⟩ : ∃ nl, M.length = nl := ⟨_, rfl⟩
  have HLK : Hid (M.length = nl) := hnl
  rw [hnl] at hm RW2
  rw [hnl]
  clear hnl
  have s2 := BT2.out.size
  have C : Hid _ := from_rd R ob n' cb f p2 (fun b => W1.heap.size ≤ b ∧ b < W2.heap.size) M oo nl ko W2 RD2.out (by omega) (flatR.row_at RW2.out (fun q hq => World.ownsRow.lt RW2.out q hq) (fun x hx => (HZ.out x hx).ok (by omega))) (fun b hb => ⟨hb.2, by omega⟩) hm HZ.out
  go_wp2_with fail
  refine Calls.mono C.out ?_
  rintro e W3 ⟨s, sz, rfl, p3, _, RD3, BT3⟩
  have BT3' : Hid (But (fun q => q = R) W1 W3) := BT2.out.trans BT3.out
  have RW3 : Hid (Row W3 W1.heap.size 32 8 eR (.slice oo nl ko) M) := Row.block RW2.out (fun q hq => BT3.out.block q (World.ownsRow.lt RW2.out q hq).2 (by have := (World.ownsRow.lt RW2.out q hq).1; omega))
  clear C RD2 BT2 BT3 RW2
  have RW4 : Hid (Row W3 w.heap.size 32 8 eR (.slice oo nl ko) M) := Row.low RW3.out (by omega)
  have BE : Hid (Below w.heap.size w W3) := B1.out.trans (BT3'.out.below (B := w.heap.size) (fun b hb => by omega) (by omega))
  clear RD3 BT3' RW3
  go_wp2_with fail
  exact bodyPost_ret (v := .tuple #[.slice oo nl ko, .string s]) (by simp [results, Try.results13, go_sem]) rfl (DsE.of ⟨_, M, s, rfl, by have := HLK.out; omega, HZ.out, sz, RW4, BE⟩)

end Go.Proofs.Ytepemobbjaincaa
