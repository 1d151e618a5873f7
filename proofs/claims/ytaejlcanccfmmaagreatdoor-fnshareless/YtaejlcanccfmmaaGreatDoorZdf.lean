import Derived.Test.YtaejlcanccfmmaaGreatDoorM19
import Derived.Test.YtaejlcanccfmmaaGreatDoorM26
namespace Go.Proofs.YtaejlcanccfmmaaGreatDoor
open Go.RowKit Go.Sort
structure DoI (R gb gr gd : Nat) (w u : World) (ob : Option Addr) (n cb : Nat) (p : Int) (f : Nat → Int) (v0 v1 : Value) (kd : Int) (x : ByteArray) (vl : Value) (nd : List ByteArray) : Prop where
  bk : u.heap[gb]? = some (.cells #[v0, v1] 26 (0, 0))
  rs : u.heap[gr]? = some (.cells #[.int .i64 0, .string ⟨#[]⟩, .slice none 0 0] 59 (0, 0))
  dx : u.heap[gd]? = some (.cells #[.int .i64 kd, .string x, vl] 59 (0, 0))
  row : Row u w.heap.size 9 1 eS vl nd
  nz : SzL 65 nd
  xz : x.size ≤ 64
  rd : Rd R u ob n cb p f
  bt : But (fun k => k = R) w u
  lo : R < w.heap.size ∧ w.heap.size ≤ gb ∧ gb < gr ∧ gr < gd
section
variable {R gb gr gd : Nat} {w u u' : World} {ob : Option Addr} {n cb : Nat} {p p' : Int} {f : Nat → Int} {v0 v1 : Value} {kd : Int} {x : ByteArray} {vl : Value} {nd : List ByteArray}
theorem DoI.call (h : DoI R gb gr gd w u ob n cb p f v0 v1 kd x vl nd) (hb : But (fun k => k = R) u u') (hr : Rd R u' ob n cb p' f) : DoI R gb gr gd w u' ob n cb p' f v0 v1 kd x vl nd := by
  have lo := h.lo
  have l1 := (Array.getElem?_eq_some_iff.1 h.bk).1
  have l2 := (Array.getElem?_eq_some_iff.1 h.rs).1
  have l3 := (Array.getElem?_eq_some_iff.1 h.dx).1
  exact ⟨(hb.block gb l1 (by omega)).trans h.bk, (hb.block gr l2 (by omega)).trans h.rs, (hb.block gd l3 (by omega)).trans h.dx, Row.block h.row (fun q hq => by have := World.ownsRow.lt h.row q hq; exact hb.block q this.2 (by omega)), h.nz, h.xz, hr, h.bt.trans hb, lo⟩
theorem DoI.put (h : DoI R gb gr gd w u ob n cb p f v0 v1 kd x vl nd) {j : Nat} {v : Value} {kd' : Int} {x' : ByteArray} {vl' : Value} {nd' : List ByteArray} (hd : (#[.int .i64 kd, .string x, vl] : Array Value).setIfInBounds j v = #[.int .i64 kd', .string x', vl']) (hr : Row u w.heap.size 9 1 eS vl' nd') (hn : SzL 65 nd') (hx : x'.size ≤ 64) : DoI R gb gr gd w (u.setCell ⟨gd, j, none⟩ v) ob n cb p f v0 v1 kd' x' vl' nd' := by
  have lo := h.lo
  have oth : ∀ q, q ≠ gd → (u.setCell ⟨gd, j, none⟩ v).heap[q]? = u.heap[q]? := fun q hq => Below.heap_setCell _ _ _ _ hq
  refine ⟨(oth gb (by omega)).trans h.bk, (oth gr (by omega)).trans h.rs, by rw [set_row h.dx j v, hd], Row.block hr (fun q hq => oth q (fun e => ?_)), hn, hx, h.rd.but (fun b hb => oth b (by omega)), but_new h.bt (by omega) j v, lo⟩
  obtain ⟨c, hc⟩ := Row.typed hr q hq
  subst e
  rw [h.dx] at hc
  injection hc with h1
  injection h1 with _ h2
  revert h2
  decide
end
structure DkW (R B : Nat) (w : World) (D : DShareBook) (v0 v1 : Value) : Prop where
  a0 : AtL (fun b => b < B ∧ b ≠ R) w D.1 v0
  a1 : AtL (fun b => b < B ∧ b ≠ R) w D.2 v1
theorem but_sam {R : Nat} {w u : World} (h : But (fun k => k = R) w u) : Same (fun b => b < w.heap.size ∧ b ≠ R) w u := fun b hb => h.block b hb.1 hb.2
set_option maxRecDepth 100000 in
set_option maxHeartbeats 32000000 in
theorem does_rd (R : Nat) (ob : Option Addr) (n cb : Nat) (f : Nat → Int) (p : Int) (D : DShareBook) (o0 oa : Option Addr) (n0 k0 nb kb : Nat) (w : World) (h : Rd R w ob n cb p f) (hp : p ≤ 75000) (hD : Dk R w D (.slice o0 n0 k0) (.slice oa nb kb)) (hsz : SzD 64 D) :
    Calls Tryz.prog 30 #[.pointer (some ⟨R, 0, none⟩), .agg #[.slice o0 n0 k0, .slice oa nb kb]] w fun e w' => ∃ kd x on nn kn nd, e = .returned (.agg #[.int .i64 kd, .string x, .slice on nn kn]) ∧ x.size ≤ 64 ∧ SzL 65 nd ∧ Hid (Row w' w.heap.size 9 1 eS (.slice on nn kn) nd) ∧ ∃ p', p' ≤ p + 1100 ∧ Hid (Rd R w' ob n cb p' f) ∧ Hid (But (fun k => k = R) w w') := by
  have rlt := h.lt
  have en0 : D.1.length = n0 := by obtain ⟨_, _, e, _⟩ := hD.a0; cases e; rfl
  have enb : D.2.length = nb := by obtain ⟨_, _, e, _⟩ := hD.a1; cases e; rfl
  have hn0 : n0 ≤ 64 := by have := hsz.1.1; omega
  have hnb : nb ≤ 64 := by have := hsz.2.1; omega
  have EN0 : Hid (D.1.length = n0) := en0
  have ENB : Hid (D.2.length = nb) := enb
  have HD : Hid (∀ u, But (fun k => k = R) w u → DkW R w.heap.size u D (.slice o0 n0 k0) (.slice oa nb kb)) := fun u hu => ⟨hD.a0.same (but_sam hu), hD.a1.same (but_sam hu)⟩
  have HSZ : Hid (SzD 64 D) := hsz
  clear en0 enb hD hsz
  obtain ⟨W, hW⟩ : ∃ W, W = (w.alloc (.cells #[.slice o0 n0 k0, .slice oa nb kb] 26)).alloc (.cells #[.int .i64 0, .string ⟨#[]⟩, .slice none 0 0] 59) := ⟨_, rfl⟩
  have EW : Hid (W = (w.alloc (.cells #[.slice o0 n0 k0, .slice oa nb kb] 26)).alloc (.cells #[.int .i64 0, .string ⟨#[]⟩, .slice none 0 0] 59)) := hW
  have BW : Hid (Below w.heap.size w W) := by rw [hW]; exact ((Below.refl _ _).alloc (Nat.le_refl _) _).alloc (by simp) _
  have R1 : Hid (W.heap[w.heap.size]? = some (.cells #[.slice o0 n0 k0, .slice oa nb kb] 26 (0, 0))) := by rw [hW]; exact (Below.heap_alloc _ _ _ (by simp)).trans (heap_alloc_new w _)
  have R2 : Hid (W.heap[w.heap.size + 1]? = some (.cells #[.int .i64 0, .string ⟨#[]⟩, .slice none 0 0] 59 (0, 0))) := by rw [hW]; exact alloc_atR _ (by simp)
  have sW : w.heap.size + 2 ≤ W.heap.size := by rw [hW]; simp
  have RD0 : Hid (Rd R W ob n cb p f) := h.but (fun b hb => BW.out.block b (by omega))
  clear hW h
  have NAMES : Hid (∀ V, R < V.heap.size → Rd R V ob n cb p f → ∀ q, q ≤ 90000 → True) := fun _ _ _ _ _ => trivial
  clear NAMES
  have OFN : Hid (∀ (V : World) (q : Int), Rd R V ob n cb q f → q ≤ 90000 → Calls Tryz.prog 28 #[.pointer (some ⟨R, 0, none⟩), .slice (some ⟨V.heap.size, 0, none⟩) 5 5] (V.alloc (.cells #[.string ⟨#[97, 108, 101]⟩, .string ⟨#[98]⟩, .string ⟨#[99, 45, 99]⟩, .string ⟨#[100, 97, 114, 107]⟩, .string ⟨#[120, 57]⟩] 9)) fun e w' => ∃ s, s.size ≤ 64 ∧ e = .returned (.string s) ∧ ∃ p', p' ≤ q + 1 ∧ Rd R w' ob n cb p' f ∧ But (fun k => k = R) V w') := fun V q hV hq => by
    have hr := hV.lt
    refine (of_rd R ob n cb f q (fun b => b = V.heap.size) [⟨#[97, 108, 101]⟩, ⟨#[98]⟩, ⟨#[99, 45, 99]⟩, ⟨#[100, 97, 114, 107]⟩, ⟨#[120, 57]⟩] _ _ (hV.but (fun b hb => Below.heap_alloc _ _ _ (by omega))) hq (lit_at 9 V [⟨#[97, 108, 101]⟩, ⟨#[98]⟩, ⟨#[99, 45, 99]⟩, ⟨#[100, 97, 114, 107]⟩, ⟨#[120, 57]⟩] (by unfold maxLen; simp) (by intro s hs; simp at hs; rcases hs with rfl | rfl | rfl | rfl | rfl <;> (unfold maxLen; decide))) (fun b hb => ⟨by rw [hb]; simp, by omega⟩) (by decide) (by decide)).mono ?_
    rintro e w' ⟨s, hs, he, p', hp', rd, bt⟩
    refine ⟨s, ?_, he, p', hp', rd.out, (But.of_below ((Below.refl _ _).alloc (Nat.le_refl _) _)).trans bt.out⟩
    simp at hs
    rcases hs with rfl | rfl | rfl | rfl | rfl <;> decide
  go_enter Tryz.func30, Tryz.ntmps30
  go_upto_region 1 with fail
  rw [← EW.out]
  go_wp2_with fail
  refine (names5_any W).mono ?_
  rintro e w1 ⟨rfl, hw1⟩
  subst hw1
  go_wp2_with fail
  refine (OFN.out W p RD0.out (by omega)).mono ?_
  rintro e w2 ⟨s, hs, rfl, p2, hp2, rd2, bt2⟩
  have s2 := bt2.size
  obtain ⟨U, hU⟩ : ∃ U, U = w2.alloc (.cells #[.int .i64 2, .string s, .slice none 0 0] 59) := ⟨_, rfl⟩
  have EU : Hid (U = w2.alloc (.cells #[.int .i64 2, .string s, .slice none 0 0] 59)) := hU
  have bU : But (fun k => k = R) w2 U := by rw [hU]; exact but_alloc (But.refl _ _) _
  obtain ⟨gd, hgd⟩ : ∃ g, g = w2.heap.size := ⟨_, rfl⟩
  have EGD : Hid (gd = w2.heap.size) := hgd
  have RU : U.heap[gd]? = some (.cells #[.int .i64 2, .string s, .slice none 0 0] 59 (0, 0)) := by rw [hgd, hU]; exact heap_alloc_new w2 _
  have bWU : But (fun k => k = R) W U := bt2.trans bU
  have I0 : Hid (DoI R w.heap.size (w.heap.size + 1) gd w U ob n cb p2 f (.slice o0 n0 k0) (.slice oa nb kb) 2 s (.slice none 0 0) []) := ⟨(bWU.block _ (by omega) (by omega)).trans R1.out, (bWU.block _ (by omega) (by omega)).trans R2.out, RU, Row.nil _ _ _ _ _, SzL.nil 65, hs, rd2.but (fun b hb => by rw [hU]; exact Below.heap_alloc _ _ _ (by have := rd2.lt; omega)), (But.of_below BW.out).trans bWU, ⟨rlt, Nat.le_refl _, by omega, by omega⟩⟩
  clear hU bU RU bWU rd2 bt2 R1 R2 RD0 hgd
  go_upto_region 2 with fail
  rw [← EU.out, ← EGD.out]
  rename_i K1 hK1 K0 hK0
  have REST1 : Hid (∀ (a1 a2 a6 a7 a8 a9 a10 a11 a12 a13 a14 a15 a16 a17 a18 a19 a20 a21 a22 a23 a24 a25 a26 a27 a28 a29 a30 a31 a32 a33 a34 a35 a36 a37 a38 a39 a40 a41 a42 a43 a44 a45 a46 a47 a48 a49 a50 a51 a52 a53 a54 a55 a56 a57 a58 a59 a60 a61 a62 a63 a64 a65 a66 a67 a68 a69 a70 a71 a72 a73 a74 a75 a76 a77 a78 a79 a80 a81 a82 a83 a84 a85 a86 a87 a88 a89 a90 a91 a92 a93 a94 : Value) (u : World) (q : Int) (x : ByteArray), q ≤ p + 4 → DoI R w.heap.size (w.heap.size + 1) gd w u ob n cb q f (.slice o0 n0 k0) (.slice oa nb kb) 2 x (.slice none 0 0) [] → K1 { tmps := #[.pointer (some ⟨R, 0, none⟩), a1, a2, .pointer (some ⟨w.heap.size, 0, none⟩), .pointer (some ⟨w.heap.size + 1, 0, none⟩), .pointer (some ⟨gd, 0, none⟩), a6, a7, a8, a9, a10, a11, a12, a13, a14, a15, a16, a17, a18, a19, a20, a21, a22, a23, a24, a25, a26, a27, a28, a29, a30, a31, a32, a33, a34, a35, a36, a37, a38, a39, a40, a41, a42, a43, a44, a45, a46, a47, a48, a49, a50, a51, a52, a53, a54, a55, a56, a57, a58, a59, a60, a61, a62, a63, a64, a65, a66, a67, a68, a69, a70, a71, a72, a73, a74, a75, a76, a77, a78, a79, a80, a81, a82, a83, a84, a85, a86, a87, a88, a89, a90, a91, a92, a93, a94], defers := [] } u) := by
    intro a1 a2 a6 a7 a8 a9 a10 a11 a12 a13 a14 a15 a16 a17 a18 a19 a20 a21 a22 a23 a24 a25 a26 a27 a28 a29 a30 a31 a32 a33 a34 a35 a36 a37 a38 a39 a40 a41 a42 a43 a44 a45 a46 a47 a48 a49 a50 a51 a52 a53 a54 a55 a56 a57 a58 a59 a60 a61 a62 a63 a64 a65 a66 a67 a68 a69 a70 a71 a72 a73 a74 a75 a76 a77 a78 a79 a80 a81 a82 a83 a84 a85 a86 a87 a88 a89 a90 a91 a92 a93 a94 u q x hq hI
    refine hK1 _ _ ?_
    clear hK1 hK0 K0
    have I1 : Hid (DoI R w.heap.size (w.heap.size + 1) gd w u ob n cb q f (.slice o0 n0 k0) (.slice oa nb kb) 2 x (.slice none 0 0) []) := hI
    have HK := HD.out u hI.bt
    have y0 := (cell_row hI.bk 0 (.slice o0 n0 k0) rfl).1
    have y1 := (cell_row hI.bk 1 (.slice oa nb kb) rfl).1
    have y2 := (cell_row hI.dx 1 (.string x) rfl).1
    have CA : Hid _ := atZ_any (fun b => b < w.heap.size ∧ b ≠ R) D.1 D.2 o0 oa n0 k0 nb kb x u HK.a0 HK.a1 (fun b hb => Nat.lt_of_lt_of_le hb.1 hI.bt.size)
    clear hI HK
    go_upto_region 4 with fail
    go_wp2_with fail
    refine Calls.mono CA.out ?_
    rintro e w3 ⟨rfl, hb3⟩
    have hI3 := I1.out.call (But.of_below hb3) (I1.out.rd.but (fun b hb => hb3.block b (by have := I1.out.rd.lt; omega)))
    have I3 : Hid (DoI R w.heap.size (w.heap.size + 1) gd w w3 ob n cb q f (.slice o0 n0 k0) (.slice oa nb kb) 2 x (.slice none 0 0) []) := hI3
    clear hI3 hb3 CA y0 y1 y2
    have y0 := (cell_row I3.out.bk 0 (.slice o0 n0 k0) rfl).1
    go_upto_region 6 with fail
    rename_i K2 hK2 Kc hKc
    have REST2 : Hid (∀ (a1 a2 a6 a8 a9 a10 a11 a12 a13 a14 a15 a16 a17 a18 a19 a20 a21 a22 a23 a24 a25 a26 a27 a28 a29 a30 a31 a32 a33 a34 a35 a36 a37 a38 a39 a40 a41 a42 a43 a44 a45 a46 a47 a48 a49 a50 a51 a52 a53 a54 a55 a56 a57 a58 a59 a60 a61 a62 a63 a64 a65 a66 a67 a68 a69 a70 a71 a72 a73 a74 a75 a76 a77 a78 a79 a80 a81 a82 a83 a84 a85 a86 a87 a88 a89 a90 a91 a92 a93 a94 : Value) (ol : Option Addr) (nl kl : Nat) (Lx : List ByteArray) (u : World) (q : Int) (x : ByteArray), q ≤ p + 4 → DoI R w.heap.size (w.heap.size + 1) gd w u ob n cb q f (.slice o0 n0 k0) (.slice oa nb kb) 2 x (.slice none 0 0) [] → SzL 64 Lx → (∀ v, But (fun k => k = R) w v → AtL (fun b => b < w.heap.size ∧ b ≠ R) v Lx (.slice ol nl kl)) → K2 { tmps := #[.pointer (some ⟨R, 0, none⟩), a1, a2, .pointer (some ⟨w.heap.size, 0, none⟩), .pointer (some ⟨w.heap.size + 1, 0, none⟩), .pointer (some ⟨gd, 0, none⟩), a6, .slice ol nl kl, a8, a9, a10, a11, a12, a13, a14, a15, a16, a17, a18, a19, a20, a21, a22, a23, a24, a25, a26, a27, a28, a29, a30, a31, a32, a33, a34, a35, a36, a37, a38, a39, a40, a41, a42, a43, a44, a45, a46, a47, a48, a49, a50, a51, a52, a53, a54, a55, a56, a57, a58, a59, a60, a61, a62, a63, a64, a65, a66, a67, a68, a69, a70, a71, a72, a73, a74, a75, a76, a77, a78, a79, a80, a81, a82, a83, a84, a85, a86, a87, a88, a89, a90, a91, a92, a93, a94], defers := [] } u) := by
      intro a1 a2 a6 a8 a9 a10 a11 a12 a13 a14 a15 a16 a17 a18 a19 a20 a21 a22 a23 a24 a25 a26 a27 a28 a29 a30 a31 a32 a33 a34 a35 a36 a37 a38 a39 a40 a41 a42 a43 a44 a45 a46 a47 a48 a49 a50 a51 a52 a53 a54 a55 a56 a57 a58 a59 a60 a61 a62 a63 a64 a65 a66 a67 a68 a69 a70 a71 a72 a73 a74 a75 a76 a77 a78 a79 a80 a81 a82 a83 a84 a85 a86 a87 a88 a89 a90 a91 a92 a93 a94 ol nl kl Lx u q x hq hI hLz hLa
      refine hK2 _ _ ?_
      clear hK2 hKc Kc
      have I4 : Hid (DoI R w.heap.size (w.heap.size + 1) gd w u ob n cb q f (.slice o0 n0 k0) (.slice oa nb kb) 2 x (.slice none 0 0) []) := hI
      have HLZ : Hid (SzL 64 Lx) := hLz
      have HLA : Hid (∀ v, But (fun k => k = R) w v → AtL (fun b => b < w.heap.size ∧ b ≠ R) v Lx (.slice ol nl kl)) := hLa
      have enl : Lx.length = nl := by obtain ⟨_, _, e, _⟩ := hLa w (But.refl _ _); cases e; rfl
      have hnl : nl ≤ 64 := by have := hLz.1; omega
      clear hI hLz hLa enl
      go_upto_region 8 with fail
      rename_i K3 hK3 Kb hKb
      have REST3 : Hid (∀ (a1 a2 a6 a7 a8 a9 a10 a11 a12 a13 a14 a15 a16 a17 a18 a19 a20 a21 a22 a23 a24 a25 a26 a27 a28 a29 a30 a31 a32 a33 a34 a35 a36 a37 a38 a39 a40 a41 a42 a43 a44 a45 a46 a47 a48 a49 a50 a51 a52 a53 a54 a55 a56 a57 a58 a59 a60 a61 a62 a63 a64 a65 a66 a67 a68 a69 a70 a71 a72 a73 a74 a75 a76 a77 a78 a79 a80 a81 a82 a83 a84 a85 a86 a87 a88 a89 a90 a91 a92 a93 a94 : Value) (kd : Int) (od : Option Addr) (md jd : Nat) (nd : List ByteArray) (u : World) (q : Int) (x : ByteArray), q ≤ p + 1006 → DoI R w.heap.size (w.heap.size + 1) gd w u ob n cb q f (.slice o0 n0 k0) (.slice oa nb kb) kd x (.slice od md jd) nd → nd.length ≤ 64 → K3 { tmps := #[.pointer (some ⟨R, 0, none⟩), a1, a2, .pointer (some ⟨w.heap.size, 0, none⟩), .pointer (some ⟨w.heap.size + 1, 0, none⟩), .pointer (some ⟨gd, 0, none⟩), a6, a7, a8, a9, a10, a11, a12, a13, a14, a15, a16, a17, a18, a19, a20, a21, a22, a23, a24, a25, a26, a27, a28, a29, a30, a31, a32, a33, a34, a35, a36, a37, a38, a39, a40, a41, a42, a43, a44, a45, a46, a47, a48, a49, a50, a51, a52, a53, a54, a55, a56, a57, a58, a59, a60, a61, a62, a63, a64, a65, a66, a67, a68, a69, a70, a71, a72, a73, a74, a75, a76, a77, a78, a79, a80, a81, a82, a83, a84, a85, a86, a87, a88, a89, a90, a91, a92, a93, a94], defers := [] } u) := by
        intro a1 a2 a6 a7 a8 a9 a10 a11 a12 a13 a14 a15 a16 a17 a18 a19 a20 a21 a22 a23 a24 a25 a26 a27 a28 a29 a30 a31 a32 a33 a34 a35 a36 a37 a38 a39 a40 a41 a42 a43 a44 a45 a46 a47 a48 a49 a50 a51 a52 a53 a54 a55 a56 a57 a58 a59 a60 a61 a62 a63 a64 a65 a66 a67 a68 a69 a70 a71 a72 a73 a74 a75 a76 a77 a78 a79 a80 a81 a82 a83 a84 a85 a86 a87 a88 a89 a90 a91 a92 a93 a94 kd od md jd nd u q x hq hI hnd
        refine hK3 _ _ ?_
        clear hK3 hKb Kb
        have I5 : Hid (DoI R w.heap.size (w.heap.size + 1) gd w u ob n cb q f (.slice o0 n0 k0) (.slice oa nb kb) kd x (.slice od md jd) nd) := hI
        have HND : Hid (nd.length ≤ 64) := hnd
        clear hI hnd
        go_upto_region 21 with fail
        rename_i K4 hK4 Kd hKd
        have REST4 : Hid (∀ (a1 a2 a6 a7 a8 a9 a10 a11 a12 a13 a14 a15 a16 a17 a18 a19 a20 a21 a22 a23 a24 a25 a26 a27 a28 a29 a30 a31 a32 a33 a34 a35 a36 a37 a38 a39 a40 a41 a42 a43 a44 a45 a46 a47 a48 a49 a50 a51 a52 a53 a54 a55 a56 a57 a58 a59 a60 a61 a62 a63 a64 a65 a66 a67 a68 a69 a70 a71 a72 a73 a74 a75 a76 a77 a78 a79 a80 a81 a82 a83 a84 a85 a86 a87 a88 a89 a90 a91 a92 a93 a94 : Value) (kd : Int) (od : Option Addr) (md jd : Nat) (nd : List ByteArray) (u : World) (q : Int) (x : ByteArray), q ≤ p + 1008 → DoI R w.heap.size (w.heap.size + 1) gd w u ob n cb q f (.slice o0 n0 k0) (.slice oa nb kb) kd x (.slice od md jd) nd → K4 { tmps := #[.pointer (some ⟨R, 0, none⟩), a1, a2, .pointer (some ⟨w.heap.size, 0, none⟩), .pointer (some ⟨w.heap.size + 1, 0, none⟩), .pointer (some ⟨gd, 0, none⟩), a6, a7, a8, a9, a10, a11, a12, a13, a14, a15, a16, a17, a18, a19, a20, a21, a22, a23, a24, a25, a26, a27, a28, a29, a30, a31, a32, a33, a34, a35, a36, a37, a38, a39, a40, a41, a42, a43, a44, a45, a46, a47, a48, a49, a50, a51, a52, a53, a54, a55, a56, a57, a58, a59, a60, a61, a62, a63, a64, a65, a66, a67, a68, a69, a70, a71, a72, a73, a74, a75, a76, a77, a78, a79, a80, a81, a82, a83, a84, a85, a86, a87, a88, a89, a90, a91, a92, a93, a94], defers := [] } u) := by
          intro a1 a2 a6 a7 a8 a9 a10 a11 a12 a13 a14 a15 a16 a17 a18 a19 a20 a21 a22 a23 a24 a25 a26 a27 a28 a29 a30 a31 a32 a33 a34 a35 a36 a37 a38 a39 a40 a41 a42 a43 a44 a45 a46 a47 a48 a49 a50 a51 a52 a53 a54 a55 a56 a57 a58 a59 a60 a61 a62 a63 a64 a65 a66 a67 a68 a69 a70 a71 a72 a73 a74 a75 a76 a77 a78 a79 a80 a81 a82 a83 a84 a85 a86 a87 a88 a89 a90 a91 a92 a93 a94 kd od md jd nd u q x hq hI
          refine hK4 _ _ ?_
          have c0 := (cell_row hI.dx 0 (.int .i64 kd) rfl).1
          have c1 := (cell_row hI.dx 1 (.string x) rfl).1
          have c2 := (cell_row hI.dx 2 (.slice od md jd) rfl).1
          obtain ⟨z0, f0⟩ := cell_row hI.rs 0 (.int .i64 0) rfl
          obtain ⟨z1, f1⟩ := cell_row hI.rs 1 (.string ⟨#[]⟩) rfl
          obtain ⟨z2, f2⟩ := cell_row hI.rs 2 (.slice none 0 0) rfl
          have I6 : Hid (DoI R w.heap.size (w.heap.size + 1) gd w u ob n cb q f (.slice o0 n0 k0) (.slice oa nb kb) kd x (.slice od md jd) nd) := hI
          have FIN : Hid ((((u.setCell ⟨w.heap.size + 1, 0, none⟩ (.int .i64 kd)).setCell ⟨w.heap.size + 1, 1, none⟩ (.string x)).setCell ⟨w.heap.size + 1, 2, none⟩ (.slice od md jd)).heap[w.heap.size + 1]? = some (.cells #[.int .i64 kd, .string x, .slice od md jd] 59 (0, 0))) := by
            have := set_row (set_row (set_row hI.rs 0 (.int .i64 kd)) 1 (.string x)) 2 (.slice od md jd)
            show _ = _
            rw [this]; rfl
          have OTH : Hid (∀ b, b ≠ w.heap.size + 1 → (((u.setCell ⟨w.heap.size + 1, 0, none⟩ (.int .i64 kd)).setCell ⟨w.heap.size + 1, 1, none⟩ (.string x)).setCell ⟨w.heap.size + 1, 2, none⟩ (.slice od md jd)).heap[b]? = u.heap[b]?) := fun b hb => (Below.heap_setCell _ _ _ _ hb).trans ((Below.heap_setCell _ _ _ _ hb).trans (Below.heap_setCell _ _ _ _ hb))
          have BBT : Hid (But (fun k => k = R) w (((u.setCell ⟨w.heap.size + 1, 0, none⟩ (.int .i64 kd)).setCell ⟨w.heap.size + 1, 1, none⟩ (.string x)).setCell ⟨w.heap.size + 1, 2, none⟩ (.slice od md jd))) := but_new (but_new (but_new hI.bt (by omega) 0 _) (by omega) 1 _) (by omega) 2 _
          clear hI
          go_wp2_with fail
          generalize (((u.setCell ⟨w.heap.size + 1, 0, none⟩ (.int .i64 kd)).setCell ⟨w.heap.size + 1, 1, none⟩ (.string x)).setCell ⟨w.heap.size + 1, 2, none⟩ (.slice od md jd)) = F at FIN OTH BBT ⊢
          have g0 := (cell_row FIN.out 0 (.int .i64 kd) rfl).1
          have g1 := (cell_row FIN.out 1 (.string x) rfl).1
          have g2 := (cell_row FIN.out 2 (.slice od md jd) rfl).1
          refine bodyPost_ret (v := .agg #[.int .i64 kd, .string x, .slice od md jd]) (by simp [results, Tryz.results30, go_sem, g0, g1, g2]) rfl ⟨kd, x, _, _, _, nd, rfl, I6.out.xz, I6.out.nz, Row.block I6.out.row (fun b hb => OTH.out b (fun e => ?_)), q, by omega, I6.out.rd.but (fun b hb => OTH.out b (by omega)), BBT⟩
          obtain ⟨c, hc⟩ := Row.typed I6.out.row b hb
          subst e
          rw [I6.out.rs] at hc
          injection hc with h1
          injection h1 with _ h2
          revert h2
          decide
        clear hK4
        go_wp2_with fail
        refine (pick_rd R ob n cb f q 24 u I5.out.rd (by omega) (by omega) (by omega)).mono ?_
        rintro e u1 ⟨z, rfl, hz0, hz1, q1, hq1, rdn, btn⟩
        have I6 : Hid (DoI R w.heap.size (w.heap.size + 1) gd w u1 ob n cb q1 f (.slice o0 n0 k0) (.slice oa nb kb) kd x (.slice od md jd) nd) := I5.out.call btn.out rdn.out
        clear rdn btn I5
        by_cases hz : z = 0
        · subst hz
          go_upto_region 23 with fail
          have lt1 := I6.out.rd.lt
          have HDX : Hid (u1.drew.heap[gd]? = some (.cells #[.int .i64 kd, .string x, .slice od md jd] 59 (0, 0))) := I6.out.dx
          refine wp_region_movesC (fun v => v.heap[gd]? = some (.cells #[.int .i64 kd, .string x, .slice od md jd] 59 (0, 0))) 7 [] (by kernel_rfl) (by kernel_rfl) HDX.out ?_
          simp only [List.filterMap_nil, movD]
          refine takeHQ (f := 6) (i := 0) (.pointer (some ⟨gd, 2, none⟩)) ⟨rfl, rfl⟩ (by kernel_rfl) rfl (HDX.out) ?r0 ?_
          case r0 => intro v hv; go_simp
          simp only [Act.put, List.setIfInBounds_toArray, List.set_cons_zero, List.set_cons_succ]
          refine takeHQ (f := 5) (i := 1) (.slice od md jd) ⟨rfl, rfl⟩ (by kernel_rfl) rfl (HDX.out) ?r1 ?_
          case r1 => intro v hv; have c2 := (cell_row hv 2 _ rfl).1; go_simp
          simp only [Act.put, List.setIfInBounds_toArray, List.set_cons_zero, List.set_cons_succ]
          refine takeHQ (f := 4) (i := 2) (.pointer (some ⟨R, 0, none⟩)) ⟨rfl, rfl⟩ (by kernel_rfl) rfl (HDX.out) ?r2 ?_
          case r2 => intro v hv; go_simp
          simp only [Act.put, List.setIfInBounds_toArray, List.set_cons_zero, List.set_cons_succ]
          obtain ⟨V, hV⟩ : ∃ V, V = u1.drew.alloc (.cells (([⟨#[]⟩, ⟨#[97]⟩, ⟨#[122, 122]⟩, ⟨#[116, 117, 110]⟩] : List ByteArray).map Value.string).toArray 9) := ⟨_, rfl⟩
          have bV : Below u1.heap.size u1 V := by rw [hV]; exact ((Below.refl _ _).drew).alloc (Nat.le_refl _) _
          have dV : V.heap[gd]? = some (.cells #[.int .i64 kd, .string x, .slice od md jd] 59 (0, 0)) := (bV.block gd (Array.getElem?_eq_some_iff.1 I6.out.dx).1).trans I6.out.dx
          refine oneHd (f := 3) (i := 3) (.slice (some ⟨u1.drew.heap.size, 0, none⟩) 4 4) V ⟨rfl, rfl⟩ (by decide) (by kernel_rfl) rfl ?r3 dV ?_
          case r3 => rw [hV]; go_simp
          simp only [Act.put, List.setIfInBounds_toArray, List.set_cons_zero, List.set_cons_succ]
          have hat : AtL (fun b => b = u1.drew.heap.size) V ([⟨#[]⟩, ⟨#[97]⟩, ⟨#[122, 122]⟩, ⟨#[116, 117, 110]⟩] : List ByteArray) (.slice (some ⟨u1.drew.heap.size, 0, none⟩) 4 4) := by rw [hV]; exact lit_at 9 u1.drew [⟨#[]⟩, ⟨#[97]⟩, ⟨#[122, 122]⟩, ⟨#[116, 117, 110]⟩] (by unfold maxLen; simp) (by intro s hs; simp at hs; rcases hs with rfl | rfl | rfl | rfl <;> (unfold maxLen; decide))
          have rdV : Rd R V ob n cb q1 f := I6.out.rd.but (fun b hb => bV.block b (by omega))
          have szd : u1.drew.heap.size = u1.heap.size := rfl
          have szV : u1.heap.size < V.heap.size := by rw [hV]; simp
          refine callHd (f := 2) (i := 4) ⟨rfl, rfl⟩ (by decide) (by kernel_rfl) rfl ?r4 ((of_rd R ob n cb f q1 (fun b => b = u1.drew.heap.size) _ _ V rdV (by omega) hat (fun b hb => ⟨by omega, by omega⟩) (by decide) (by decide)).mono ?_)
          case r4 => go_simp
          rintro e V2 ⟨s1, hs1, rfl, q2, hq2, rd2, bt2⟩
          have gdl := (Array.getElem?_eq_some_iff.1 dV).1
          have d2 : V2.heap[gd]? = some (.cells #[.int .i64 kd, .string x, .slice od md jd] 59 (0, 0)) := (bt2.out.block gd gdl (by have := I6.out.lo; omega)).trans dV
          refine ⟨_, rfl, d2, ?_⟩
          simp only [Act.put, List.setIfInBounds_toArray, List.set_cons_zero, List.set_cons_succ]
          have s1z : s1.size ≤ 65 := by simp at hs1; rcases hs1 with rfl | rfl | rfl | rfl <;> decide
          have hbu : But (fun k => k = R) u1 V2 := (But.of_below bV).trans bt2.out
          have I7 : Hid (DoI R w.heap.size (w.heap.size + 1) gd w V2 ob n cb q2 f (.slice o0 n0 k0) (.slice oa nb kb) kd x (.slice od md jd) nd) := I6.out.call hbu rd2.out
          obtain ⟨V3, hV3⟩ : ∃ X, X = V2.alloc (.cells #[.string s1] 9) := ⟨_, rfl⟩
          have b3 : Below V2.heap.size V2 V3 := by rw [hV3]; exact (Below.refl _ _).alloc (Nat.le_refl _) _
          have d3 : V3.heap[gd]? = some (.cells #[.int .i64 kd, .string x, .slice od md jd] 59 (0, 0)) := (b3.block gd (Array.getElem?_eq_some_iff.1 d2).1).trans d2
          refine oneHd (f := 1) (i := 5) (.slice (some ⟨V2.heap.size, 0, none⟩) 1 1) V3 ⟨rfl, rfl⟩ (by decide) (by kernel_rfl) rfl ?r5 d3 ?_
          case r5 => rw [hV3]; go_simp
          simp only [Act.put, List.setIfInBounds_toArray, List.set_cons_zero, List.set_cons_succ]
          have HSRC : Src V3 (.slice (some ⟨V2.heap.size, 0, none⟩) 1 1) 1 1 [.string s1] := by rw [hV3]; exact own_src4 (own_built (base := 0) (size := 1) (k := 1) (Nat.zero_le _) (by unfold maxLen; omega) rfl)
          have rd3 := rd2.out.but (w' := V3) (fun b hb => b3.block b (by have := rd2.out.lt; omega))
          have I8 : Hid (DoI R w.heap.size (w.heap.size + 1) gd w V3 ob n cb q2 f (.slice o0 n0 k0) (.slice oa nb kb) kd x (.slice od md jd) nd) := I7.out.call (But.of_below b3) rd3
          have hmd : nd.length = md := by obtain ⟨_, _, e⟩ := Row.form I8.out.row; cases e; rfl
          have hown : V3.ownsRow w.heap.size 9 1 (.slice od md jd) md (enc 1 eS nd) := by have h1 := I8.out.row; rw [Row, hmd] at h1; exact h1
          have hnd := HND.out
          obtain ⟨v', V4, hrun, ho4, hg4, hbk4⟩ := run_app (P := Tryz.prog) elS hown HSRC (by intro z hz; simp at hz; subst hz; rfl) (by unfold maxLen; omega) (by omega) (by have := I8.out.bt.size; omega) 23
          have d4 : V4.heap[gd]? = some (.cells #[.int .i64 kd, .string x, .slice od md jd] 59 (0, 0)) := (hg4.block gd (Array.getElem?_eq_some_iff.1 d3).1 (fun e => by
            obtain ⟨c, hc⟩ := Row.typed I8.out.row gd e.symm
            rw [d3] at hc
            injection hc with h1
            injection h1 with _ h2
            revert h2
            decide)).trans d3
          refine oneHd (f := 0) (i := 6) v' V4 ⟨rfl, rfl⟩ (by decide) (by kernel_rfl) rfl ?r6 d4 ?_
          case r6 => exact exec_runM rfl (by simp [Act.eval]) (by simp [Act.eval]) hrun
          simp only [Act.put, List.setIfInBounds_toArray, List.set_cons_zero, List.set_cons_succ]
          refine ⟨by kernel_rfl, ?_⟩
          simp only [List.drop_succ_cons, List.drop_zero]
          obtain ⟨ov, cv, rfl⟩ := row_shape4 ho4
          have hrow4 : Row V4 w.heap.size 9 1 eS (.slice ov (md + 1) cv) (nd ++ [s1]) := by
            show World.ownsRow _ _ _ _ _ _ _
            rw [List.length_append, enc_append, hmd]
            exact ho4
          have low : ∀ b, (Value.slice od md jd).ownBlock = some b → w.heap.size ≤ b := fun b hb => (World.ownsRow.lt I8.out.row b hb).1
          have hbt4 : But (fun k => k = R) w V4 := I8.out.bt.grownZ hg4 (fun b hb => low b hb)
          have lo := I8.out.lo
          have kp : ∀ b, b < V3.heap.size → (∀ c, V3.heap[b]? ≠ some (.cells c 9 (0, 0))) → V4.heap[b]? = V3.heap[b]? := fun b hb hn => hg4.block b hb (fun e => by
            obtain ⟨c, hc⟩ := Row.typed I8.out.row b e.symm
            exact hn c hc)
          have k4 : V4.heap[w.heap.size]? = V3.heap[w.heap.size]? := kp _ (Array.getElem?_eq_some_iff.1 I8.out.bk).1 (fun c hc => by rw [I8.out.bk] at hc; injection hc with h1; injection h1 with _ h2; revert h2; decide)
          have k5 : V4.heap[w.heap.size + 1]? = V3.heap[w.heap.size + 1]? := kp _ (Array.getElem?_eq_some_iff.1 I8.out.rs).1 (fun c hc => by rw [I8.out.rs] at hc; injection hc with h1; injection h1 with _ h2; revert h2; decide)
          have oth : ∀ b, b ≠ gd → (V4.setCell ⟨gd, 2, none⟩ (.slice ov (md + 1) cv)).heap[b]? = V4.heap[b]? := fun b hb => Below.heap_setCell _ _ _ _ hb
          have I9 : Hid (DoI R w.heap.size (w.heap.size + 1) gd w (V4.setCell ⟨gd, 2, none⟩ (.slice ov (md + 1) cv)) ob n cb q2 f (.slice o0 n0 k0) (.slice oa nb kb) kd x (.slice ov (md + 1) cv) (nd ++ [s1])) := by
            refine ⟨(oth _ (by omega)).trans (k4.trans I8.out.bk), (oth _ (by omega)).trans (k5.trans I8.out.rs), by rw [set_row d4 2 _]; rfl, Row.block hrow4 (fun b hb => oth b (fun e => ?_)), ⟨by rw [List.length_append]; show nd.length + 1 ≤ 65; omega, fun y hy => ?_⟩, I8.out.xz, (rd3.but (w' := V4) (fun b hb => hg4.block b (by have := rd3.lt; omega) (fun e => by have := low b e.symm; omega))).but (fun b hb => oth b (by omega)), but_new hbt4 (by omega) 2 _, lo⟩
            · obtain ⟨c, hc⟩ := Row.typed hrow4 b hb
              subst e
              rw [d4] at hc
              injection hc with h1
              injection h1 with _ h2
              revert h2
              decide
            · rcases List.mem_append.1 hy with hy | hy
              · exact I8.out.nz.2 y hy
              · rw [List.mem_singleton.1 hy]; exact s1z
          obtain ⟨zz, ff⟩ := cell_row d4 2 _ rfl
          clear hown hrun ho4 hg4 hbk4 d4 hrow4 oth k4 k5 kp hbt4
          go_wp2_with fail
          exact REST4.out _ _ _ _ _ _ _ _ _ _ _ _ _ _ _ _ _ _ _ _ _ _ _ _ _ _ _ _ _ _ _ _ _ _ _ _ _ _ _ _ _ _ _ _ _ _ _ _ _ _ _ _ _ _ _ _ _ _ _ _ _ _ _ _ _ _ _ _ _ _ _ _ _ _ _ _ _ _ _ _ _ _ _ _ _ _ _ _ _ _ _ _ _ _ _ _ _ _ _ (by omega) I9.out
        by_cases hz1' : z = 1
        · subst hz1'
          have OF3 := of_rd R ob n cb f q1 (fun b => b = u1.heap.size) ([⟨#[]⟩, ⟨#[65]⟩, ⟨#[122, 122]⟩] : List ByteArray) (.slice (some ⟨u1.heap.size, 0, none⟩) 3 3) _ (I6.out.rd.but (w' := u1.alloc (.cells #[.string ⟨#[]⟩, .string ⟨#[65]⟩, .string ⟨#[122, 122]⟩] 9)) (fun b hb => Below.heap_alloc _ _ _ (by have := I6.out.rd.lt; omega))) (by omega) (lit_at 9 u1 [⟨#[]⟩, ⟨#[65]⟩, ⟨#[122, 122]⟩] (by unfold maxLen; simp) (by intro s hs; simp at hs; rcases hs with rfl | rfl | rfl <;> (unfold maxLen; decide))) (fun b hb => ⟨by rw [hb]; simp, by have := I6.out.rd.lt; omega⟩) (by decide) (by decide)
          have HOF : Hid _ := OF3
          clear OF3 hz
          go_wp2_with fail
          refine Calls.mono HOF.out ?_
          rintro e V2 ⟨s1, hs1, rfl, q2, hq2, rd2, bt2⟩
          have I7 : Hid (DoI R w.heap.size (w.heap.size + 1) gd w V2 ob n cb q2 f (.slice o0 n0 k0) (.slice oa nb kb) kd x (.slice od md jd) nd) := I6.out.call ((But.of_below ((Below.refl _ _).alloc (Nat.le_refl _) _)).trans bt2.out) rd2.out
          have I8 : Hid (DoI R w.heap.size (w.heap.size + 1) gd w (V2.setCell ⟨gd, 1, none⟩ (.string s1)) ob n cb q2 f (.slice o0 n0 k0) (.slice oa nb kb) kd s1 (.slice od md jd) nd) := I7.out.put (j := 1) rfl I7.out.row I7.out.nz (by simp at hs1; rcases hs1 with rfl | rfl | rfl <;> decide)
          obtain ⟨zz, ff⟩ := cell_row I7.out.dx 1 (.string x) rfl
          clear HOF rd2 bt2 hs1
          go_wp2_with fail
          exact REST4.out _ _ _ _ _ _ _ _ _ _ _ _ _ _ _ _ _ _ _ _ _ _ _ _ _ _ _ _ _ _ _ _ _ _ _ _ _ _ _ _ _ _ _ _ _ _ _ _ _ _ _ _ _ _ _ _ _ _ _ _ _ _ _ _ _ _ _ _ _ _ _ _ _ _ _ _ _ _ _ _ _ _ _ _ _ _ _ _ _ _ _ _ _ _ _ _ _ _ _ (by omega) I8.out
        · go_wp2_with fail
          exact REST4.out _ _ _ _ _ _ _ _ _ _ _ _ _ _ _ _ _ _ _ _ _ _ _ _ _ _ _ _ _ _ _ _ _ _ _ _ _ _ _ _ _ _ _ _ _ _ _ _ _ _ _ _ _ _ _ _ _ _ _ _ _ _ _ _ _ _ _ _ _ _ _ _ _ _ _ _ _ _ _ _ _ _ _ _ _ _ _ _ _ _ _ _ _ _ _ _ _ _ _ (by omega) I6.out
      clear hK3
      go_wp2_with fail
      refine (pick_rd R ob n cb f q 9 u I4.out.rd (by omega) (by omega) (by omega)).mono ?_
      rintro e u1 ⟨z, rfl, hz0, hz1, q1, hq1, rdn, btn⟩
      have I5 : Hid (DoI R w.heap.size (w.heap.size + 1) gd w u1 ob n cb q1 f (.slice o0 n0 k0) (.slice oa nb kb) 2 x (.slice none 0 0) []) := I4.out.call btn.out rdn.out
      clear rdn btn I4
      have X1 : Hid (DoI R w.heap.size (w.heap.size + 1) gd w (u1.setCell ⟨gd, 0, none⟩ (.int .i64 1)) ob n cb q1 f (.slice o0 n0 k0) (.slice oa nb kb) 1 x (.slice none 0 0) []) := I5.out.put (j := 0) rfl I5.out.row I5.out.nz I5.out.xz
      have X3 : Hid (DoI R w.heap.size (w.heap.size + 1) gd w (u1.setCell ⟨gd, 0, none⟩ (.int .i64 3)) ob n cb q1 f (.slice o0 n0 k0) (.slice oa nb kb) 3 x (.slice none 0 0) []) := I5.out.put (j := 0) rfl I5.out.row I5.out.nz I5.out.xz
      have X4 : Hid (DoI R w.heap.size (w.heap.size + 1) gd w (u1.setCell ⟨gd, 0, none⟩ (.int .i64 4)) ob n cb q1 f (.slice o0 n0 k0) (.slice oa nb kb) 4 x (.slice none 0 0) []) := I5.out.put (j := 0) rfl I5.out.row I5.out.nz I5.out.xz
      obtain ⟨zz0, ff0⟩ := cell_row I5.out.dx 0 (.int .i64 2) rfl
      by_cases h012 : z = 0 ∨ z = 1 ∨ z = 2
      · rcases h012 with rfl | rfl | rfl
        all_goals
          go_wp2_with fail
          generalize u1.setCell ⟨gd, 0, none⟩ (.int .i64 1) = X at X1 ⊢
          refine (names5_any X).mono ?_
          rintro e w1 ⟨rfl, hw1⟩
          subst hw1
          go_wp2_with fail
          refine (OFN.out X q1 X1.out.rd (by omega)).mono ?_
          rintro e V2 ⟨s1, hs1, rfl, q2, hq2, rd2, bt2⟩
          have I7 : Hid (DoI R w.heap.size (w.heap.size + 1) gd w V2 ob n cb q2 f (.slice o0 n0 k0) (.slice oa nb kb) 1 x (.slice none 0 0) []) := X1.out.call bt2 rd2
          have I8 : Hid (DoI R w.heap.size (w.heap.size + 1) gd w (V2.setCell ⟨gd, 1, none⟩ (.string s1)) ob n cb q2 f (.slice o0 n0 k0) (.slice oa nb kb) 1 s1 (.slice none 0 0) []) := I7.out.put (j := 1) rfl I7.out.row I7.out.nz hs1
          obtain ⟨zz, ff⟩ := cell_row I7.out.dx 1 (.string x) rfl
          have y0 := (cell_row I8.out.bk 0 (.slice o0 n0 k0) rfl).1
          clear rd2 bt2
          go_wp2_with fail
          refine (some_rd R ob n cb f q2 (fun b => b < w.heap.size ∧ b ≠ R) _ _ _ _ 2 _ I8.out.rd (by omega) ((HD.out _ I8.out.bt).a0) (fun b hb => ⟨Nat.lt_of_lt_of_le hb.1 I8.out.bt.size, hb.2⟩) (by omega) (by omega) (by omega)).mono ?_
          rintro e V5 ⟨v5, M, rfl, hM1, hM2, hrow5, q5, hq5, rd5, bt5⟩
          obtain ⟨o5, c5, rfl⟩ := Row.form hrow5.out
          have J1 : Hid (DoI R w.heap.size (w.heap.size + 1) gd w V5 ob n cb q5 f (.slice o0 n0 k0) (.slice oa nb kb) 1 s1 (.slice none 0 0) []) := I8.out.call bt5.out rd5.out
          have J2 : Hid (DoI R w.heap.size (w.heap.size + 1) gd w (V5.setCell ⟨gd, 2, none⟩ (.slice o5 M.length c5)) ob n cb q5 f (.slice o0 n0 k0) (.slice oa nb kb) 1 s1 (.slice o5 M.length c5) M) := J1.out.put (j := 2) rfl (Row.low hrow5.out (by have := I8.out.bt.size; omega)) (SzL.mono ⟨by have := hM1; omega, fun s hs => (HSZ.out.1).2 s (hM2 s hs)⟩ (by omega)) J1.out.xz
          obtain ⟨zz5, ff5⟩ := cell_row J1.out.dx 2 (.slice none 0 0) rfl
          clear rd5 bt5 hrow5
          go_wp2_with fail
          exact REST3.out _ _ _ _ _ _ _ _ _ _ _ _ _ _ _ _ _ _ _ _ _ _ _ _ _ _ _ _ _ _ _ _ _ _ _ _ _ _ _ _ _ _ _ _ _ _ _ _ _ _ _ _ _ _ _ _ _ _ _ _ _ _ _ _ _ _ _ _ _ _ _ _ _ _ _ _ _ _ _ _ _ _ _ _ _ _ _ _ _ _ _ _ _ _ _ _ _ _ _ (by omega) J2.out (by omega)
      by_cases h3 : z = 3
      · subst h3
        clear h012
        go_wp2_with fail
        refine (some_rd R ob n cb f q1 (fun b => b < w.heap.size ∧ b ≠ R) _ _ _ _ 2 _ X3.out.rd (by omega) (HLA.out _ X3.out.bt) (fun b hb => ⟨Nat.lt_of_lt_of_le hb.1 X3.out.bt.size, hb.2⟩) (by omega) (by omega) (by omega)).mono ?_
        rintro e V5 ⟨v5, M, rfl, hM1, hM2, hrow5, q5, hq5, rd5, bt5⟩
        obtain ⟨o5, c5, rfl⟩ := Row.form hrow5.out
        have J1 : Hid (DoI R w.heap.size (w.heap.size + 1) gd w V5 ob n cb q5 f (.slice o0 n0 k0) (.slice oa nb kb) 3 x (.slice none 0 0) []) := X3.out.call bt5.out rd5.out
        have J2 : Hid (DoI R w.heap.size (w.heap.size + 1) gd w (V5.setCell ⟨gd, 2, none⟩ (.slice o5 M.length c5)) ob n cb q5 f (.slice o0 n0 k0) (.slice oa nb kb) 3 x (.slice o5 M.length c5) M) := J1.out.put (j := 2) rfl (Row.low hrow5.out (by have := X3.out.bt.size; omega)) (SzL.mono ⟨by have := hM1; omega, fun s hs => (HLZ.out).2 s (hM2 s hs)⟩ (by omega)) J1.out.xz
        obtain ⟨zz5, ff5⟩ := cell_row J1.out.dx 2 (.slice none 0 0) rfl
        clear rd5 bt5 hrow5
        go_wp2_with fail
        exact REST3.out _ _ _ _ _ _ _ _ _ _ _ _ _ _ _ _ _ _ _ _ _ _ _ _ _ _ _ _ _ _ _ _ _ _ _ _ _ _ _ _ _ _ _ _ _ _ _ _ _ _ _ _ _ _ _ _ _ _ _ _ _ _ _ _ _ _ _ _ _ _ _ _ _ _ _ _ _ _ _ _ _ _ _ _ _ _ _ _ _ _ _ _ _ _ _ _ _ _ _ (by omega) J2.out (by omega)
      by_cases h4 : z = 4
      · subst h4
        clear h012 h3
        go_wp2_with fail
        exact REST3.out _ _ _ _ _ _ _ _ _ _ _ _ _ _ _ _ _ _ _ _ _ _ _ _ _ _ _ _ _ _ _ _ _ _ _ _ _ _ _ _ _ _ _ _ _ _ _ _ _ _ _ _ _ _ _ _ _ _ _ _ _ _ _ _ _ _ _ _ _ _ _ _ _ _ _ _ _ _ _ _ _ _ _ _ _ _ _ _ _ _ _ _ _ _ _ _ _ _ _ (by omega) X4.out (by simp)
      have n0' : ¬ z = 0 := fun e => h012 (.inl e)
      have n1' : ¬ z = 1 := fun e => h012 (.inr (.inl e))
      have n2' : ¬ z = 2 := fun e => h012 (.inr (.inr e))
      clear h012
      go_wp2_with fail
      refine (some_rd R ob n cb f q1 (fun b => b < w.heap.size ∧ b ≠ R) _ _ _ _ 2 _ I5.out.rd (by omega) (HLA.out _ I5.out.bt) (fun b hb => ⟨Nat.lt_of_lt_of_le hb.1 I5.out.bt.size, hb.2⟩) (by omega) (by omega) (by omega)).mono ?_
      rintro e V5 ⟨v5, M, rfl, hM1, hM2, hrow5, q5, hq5, rd5, bt5⟩
      obtain ⟨o5, c5, rfl⟩ := Row.form hrow5.out
      have J1 : Hid (DoI R w.heap.size (w.heap.size + 1) gd w V5 ob n cb q5 f (.slice o0 n0 k0) (.slice oa nb kb) 2 x (.slice none 0 0) []) := I5.out.call bt5.out rd5.out
      have J2 : Hid (DoI R w.heap.size (w.heap.size + 1) gd w (V5.setCell ⟨gd, 2, none⟩ (.slice o5 M.length c5)) ob n cb q5 f (.slice o0 n0 k0) (.slice oa nb kb) 2 x (.slice o5 M.length c5) M) := J1.out.put (j := 2) rfl (Row.low hrow5.out (by have := I5.out.bt.size; omega)) (SzL.mono ⟨by have := hM1; omega, fun s hs => (HLZ.out).2 s (hM2 s hs)⟩ (by omega)) J1.out.xz
      obtain ⟨zz5, ff5⟩ := cell_row J1.out.dx 2 (.slice none 0 0) rfl
      clear rd5 bt5 hrow5
      go_wp2_with fail
      exact REST3.out _ _ _ _ _ _ _ _ _ _ _ _ _ _ _ _ _ _ _ _ _ _ _ _ _ _ _ _ _ _ _ _ _ _ _ _ _ _ _ _ _ _ _ _ _ _ _ _ _ _ _ _ _ _ _ _ _ _ _ _ _ _ _ _ _ _ _ _ _ _ _ _ _ _ _ _ _ _ _ _ _ _ _ _ _ _ _ _ _ _ _ _ _ _ _ _ _ _ _ (by omega) J2.out (by omega)
    clear hK2
    have y1 := (cell_row I3.out.bk 1 (.slice oa nb kb) rfl).1
    by_cases hneg : atZI D.2 x < 0
    · have hn2 : ¬ (0 ≤ atZI D.2 x) := by omega
      go_wp2_with fail
      exact REST2.out _ _ _ _ _ _ _ _ _ _ _ _ _ _ _ _ _ _ _ _ _ _ _ _ _ _ _ _ _ _ _ _ _ _ _ _ _ _ _ _ _ _ _ _ _ _ _ _ _ _ _ _ _ _ _ _ _ _ _ _ _ _ _ _ _ _ _ _ _ _ _ _ _ _ _ _ _ _ _ _ _ _ _ _ _ _ _ _ _ _ _ _ _ _ _ _ _ hq I3.out HSZ.out.1 (fun v hv => (HD.out v hv).a0)
    · obtain ⟨qq, eq, hqq⟩ := at_lt hneg
      rw [eq]
      clear hneg
      obtain ⟨bb, off, o1, n1, k1, o2, n2, k2, hoa, hbb, c0, c1, c2, A1, A2, hz⟩ := bat_at (HD.out w (But.refl _ _)).a1 qq hqq
      have HA2 : Hid (∀ v, But (fun k => k = R) w v → AtL (fun b => b < w.heap.size ∧ b ≠ R) v D.2[qq].2.2 (.slice o2 n2 k2)) := fun v hv => A2.same (but_sam hv)
      have c2' := Same.cell (but_sam I3.out.bt) hbb c2
      have hqn : qq < nb := by have := ENB.out; omega
      have HQ : Hid (qq < D.2.length) := hqq
      clear c0 c1 c2 A1 A2 hz eq hbb
      subst hoa
      go_wp2_with fail
      exact REST2.out _ _ _ _ _ _ _ _ _ _ _ _ _ _ _ _ _ _ _ _ _ _ _ _ _ _ _ _ _ _ _ _ _ _ _ _ _ _ _ _ _ _ _ _ _ _ _ _ _ _ _ _ _ _ _ _ _ _ _ _ _ _ _ _ _ _ _ _ _ _ _ _ _ _ _ _ _ _ _ _ _ _ _ _ _ _ _ _ _ _ _ _ _ _ _ _ _ hq I3.out (HSZ.out.2.2 _ (List.getElem_mem hqq)).2.2 HA2.out
  clear hK1
  have y1 := (cell_row I0.out.bk 1 (.slice oa nb kb) rfl).1
  by_cases hb0 : nb = 0
  · subst hb0
    go_wp2_with fail
    exact REST1.out _ _ _ _ _ _ _ _ _ _ _ _ _ _ _ _ _ _ _ _ _ _ _ _ _ _ _ _ _ _ _ _ _ _ _ _ _ _ _ _ _ _ _ _ _ _ _ _ _ _ _ _ _ _ _ _ _ _ _ _ _ _ _ _ _ _ _ _ _ _ _ _ _ _ _ _ _ _ _ _ _ _ _ _ _ _ _ _ _ _ _ _ _ _ (by omega) I0.out
  go_wp2_with fail
  refine (pick_rd R ob n cb f p2 8 U I0.out.rd (by omega) (by omega) (by omega)).mono ?_
  rintro e u1 ⟨z, rfl, hz0, hz1, q1, hq1, rdn, btn⟩
  have I1 : Hid (DoI R w.heap.size (w.heap.size + 1) gd w u1 ob n cb q1 f (.slice o0 n0 k0) (.slice oa nb kb) 2 s (.slice none 0 0) []) := I0.out.call btn.out rdn.out
  clear rdn btn I0 y1
  by_cases hz : z = 0
  · subst hz
    go_wp2_with fail
    exact REST1.out _ _ _ _ _ _ _ _ _ _ _ _ _ _ _ _ _ _ _ _ _ _ _ _ _ _ _ _ _ _ _ _ _ _ _ _ _ _ _ _ _ _ _ _ _ _ _ _ _ _ _ _ _ _ _ _ _ _ _ _ _ _ _ _ _ _ _ _ _ _ _ _ _ _ _ _ _ _ _ _ _ _ _ _ _ _ _ _ _ _ _ _ _ _ (by omega) I1.out
  have hzp : 0 < z := by omega
  go_upto_region 3 with fail
  have HBK : Hid (u1.drew.heap[w.heap.size]? = some (.cells #[.slice o0 n0 k0, .slice oa nb kb] 26 (0, 0))) := I1.out.bk
  refine wp_region_movesC (fun v => v.heap[w.heap.size]? = some (.cells #[.slice o0 n0 k0, .slice oa nb kb] 26 (0, 0))) 7 [] (by kernel_rfl) (by kernel_rfl) HBK.out ?_
  simp only [List.filterMap_nil, movD]
  refine takeHQ (f := 6) (i := 0) (.pointer (some ⟨w.heap.size, 1, none⟩)) ⟨rfl, rfl⟩ (by kernel_rfl) rfl (HBK.out) ?r0 ?_
  case r0 => intro v hv; go_simp
  simp only [Act.put, List.setIfInBounds_toArray, List.set_cons_zero, List.set_cons_succ]
  refine takeHQ (f := 5) (i := 1) (.slice oa nb kb) ⟨rfl, rfl⟩ (by kernel_rfl) rfl (HBK.out) ?r1 ?_
  case r1 => intro v hv; have c1 := (cell_row hv 1 _ rfl).1; go_simp
  simp only [Act.put, List.setIfInBounds_toArray, List.set_cons_zero, List.set_cons_succ]
  refine takeHQ (f := 4) (i := 2) (.pointer (some ⟨R, 0, none⟩)) ⟨rfl, rfl⟩ (by kernel_rfl) rfl (HBK.out) ?r2 ?_
  case r2 => intro v hv; go_simp
  simp only [Act.put, List.setIfInBounds_toArray, List.set_cons_zero, List.set_cons_succ]
  refine takeHQ (f := 3) (i := 3) (.pointer (some ⟨w.heap.size, 1, none⟩)) ⟨rfl, rfl⟩ (by kernel_rfl) rfl (HBK.out) ?r3 ?_
  case r3 => intro v hv; go_simp
  simp only [Act.put, List.setIfInBounds_toArray, List.set_cons_zero, List.set_cons_succ]
  refine takeHQ (f := 2) (i := 4) (.slice oa nb kb) ⟨rfl, rfl⟩ (by kernel_rfl) rfl (HBK.out) ?r4 ?_
  case r4 => intro v hv; have c1 := (cell_row hv 1 _ rfl).1; go_simp
  simp only [Act.put, List.setIfInBounds_toArray, List.set_cons_zero, List.set_cons_succ]
  refine takeHQ (f := 1) (i := 5) (.int .i64 nb) ⟨rfl, rfl⟩ (by kernel_rfl) rfl (HBK.out) ?r5 ?_
  case r5 => intro v hv; go_simp
  simp only [Act.put, List.setIfInBounds_toArray, List.set_cons_zero, List.set_cons_succ]
  have rdd : Rd R u1.drew ob n cb q1 f := I1.out.rd.but (fun b hb => rfl)
  refine callHd (f := 0) (i := 6) ⟨rfl, rfl⟩ (by decide) (by kernel_rfl) rfl ?r6 ((pick_rd R ob n cb f q1 nb u1.drew rdd (by omega) (by omega) (by omega)).mono ?_)
  case r6 => go_simp
  rintro e V2 ⟨y, rfl, hy0, hy1, q2, hq2, rd2, bt2⟩
  obtain ⟨k, rfl⟩ : ∃ k : Nat, y = (k : Int) := ⟨y.toNat, by omega⟩
  have hbu : But (fun k => k = R) u1 V2 := (But.of_below ((Below.refl u1.heap.size u1).drew)).trans bt2.out
  have I2 : Hid (DoI R w.heap.size (w.heap.size + 1) gd w V2 ob n cb q2 f (.slice o0 n0 k0) (.slice oa nb kb) 2 s (.slice none 0 0) []) := I1.out.call hbu rd2.out
  refine ⟨_, rfl, I2.out.bk, ?_⟩
  simp only [Act.put, List.setIfInBounds_toArray, List.set_cons_zero, List.set_cons_succ]
  refine ⟨by kernel_rfl, ?_⟩
  simp only [List.drop_succ_cons, List.drop_zero]
  have hkb : k < nb := by omega
  have hkl : k < D.2.length := by have := ENB.out; omega
  obtain ⟨bb, off, o1, n1, k1, o2, n2, k2, hoa, hbb, c0, c1, c2, A1, A2, hz⟩ := bat_at (HD.out V2 I2.out.bt).a1 k hkl
  have HS : Hid (D.2[k].1.size ≤ 64) := (HSZ.out.2.2 _ (List.getElem_mem hkl)).1
  generalize D.2[k].1 = nm at c0 HS
  have I3 : Hid (DoI R w.heap.size (w.heap.size + 1) gd w (V2.setCell ⟨gd, 1, none⟩ (.string nm)) ob n cb q2 f (.slice o0 n0 k0) (.slice oa nb kb) 2 nm (.slice none 0 0) []) := I2.out.put (j := 1) rfl I2.out.row I2.out.nz HS.out
  obtain ⟨zz, ff⟩ := cell_row I2.out.dx 1 (.string s) rfl
  clear c1 c2 A1 A2 hz hbb rd2 bt2 hbu rdd
  subst hoa
  go_wp2_with fail
  exact REST1.out _ _ _ _ _ _ _ _ _ _ _ _ _ _ _ _ _ _ _ _ _ _ _ _ _ _ _ _ _ _ _ _ _ _ _ _ _ _ _ _ _ _ _ _ _ _ _ _ _ _ _ _ _ _ _ _ _ _ _ _ _ _ _ _ _ _ _ _ _ _ _ _ _ _ _ _ _ _ _ _ _ _ _ _ _ _ _ _ _ _ _ _ _ _ (by omega) I3.out
end Go.Proofs.YtaejlcanccfmmaaGreatDoor
