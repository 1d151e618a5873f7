import Derived.Test.YtaejlcanccfmmaaGreatDoorZdh
import Derived.Test.YtaejlcanccfmmaaGreatDoorM26
namespace Go.Proofs.YtaejlcanccfmmaaGreatDoor
open Go.RowKit Go.Sort
set_option maxRecDepth 100000 in
set_option maxHeartbeats 32000000 in
theorem wild_rd (R : Nat) (ob : Option Addr) (n cb : Nat) (f : Nat → Int) (p : Int) (T : List ByteArray) (o0 : Option Addr) (n0 k0 : Nat) (w : World) (h : Rd R w ob n cb p f) (hp : p ≤ 70000) (hT : AtL (fun b => b < w.heap.size ∧ b ≠ R) w T (.slice o0 n0 k0)) (hTz : SzL 5 T) :
    Calls Tryz.prog 62 #[.pointer (some ⟨R, 0, none⟩), .agg #[.slice o0 n0 k0, .slice none 0 0]] w fun e w' => ∃ (o1 : Option Addr) (n1 k1 : Nat) (Bs : List DShareBatch), e = .returned (.agg #[.slice o0 n0 k0, .slice o1 n1 k1]) ∧ SzD 16 (T, Bs) ∧ Hid (AtL (fun b => w.heap.size ≤ b ∧ b < w'.heap.size) w' Bs (.slice o1 n1 k1)) ∧ ∃ p', p' ≤ p + 5100 ∧ Hid (Rd R w' ob n cb p' f) ∧ Hid (But (fun k => k = R) w w') := by
  have rlt := h.lt
  have en0 : T.length = n0 := by obtain ⟨_, _, e, _⟩ := hT; cases e; rfl
  have hn0 : n0 ≤ 5 := by have := hTz.1; omega
  have HT : Hid (∀ u, But (fun k => k = R) w u → AtL (fun b => b < w.heap.size ∧ b ≠ R) u T (.slice o0 n0 k0)) := fun u hu => hT.same (fun b hb => hu.block b hb.1 hb.2)
  have HTZ : Hid (SzL 5 T) := hTz
  clear en0 hT hTz
  obtain ⟨W, hW⟩ : ∃ W, W = (w.alloc (.cells #[.slice o0 n0 k0, .slice none 0 0] 26)).alloc (.cells #[.slice none 0 0, .slice none 0 0] 26) := ⟨_, rfl⟩
  have EW : Hid (W = (w.alloc (.cells #[.slice o0 n0 k0, .slice none 0 0] 26)).alloc (.cells #[.slice none 0 0, .slice none 0 0] 26)) := hW
  have BW : Hid (Below w.heap.size w W) := by rw [hW]; exact ((Below.refl _ _).alloc (Nat.le_refl _) _).alloc (by simp) _
  have R1 : Hid (W.heap[w.heap.size]? = some (.cells #[.slice o0 n0 k0, .slice none 0 0] 26 (0, 0))) := by rw [hW]; exact (Below.heap_alloc _ _ _ (by simp)).trans (heap_alloc_new w _)
  have R2 : Hid (W.heap[w.heap.size + 1]? = some (.cells #[.slice none 0 0, .slice none 0 0] 26 (0, 0))) := by rw [hW]; exact alloc_atR _ (by simp)
  have sW : w.heap.size + 2 ≤ W.heap.size := by rw [hW]; simp
  have RD0 : Hid (Rd R W ob n cb p f) := h.but (fun b hb => BW.out.block b (by omega))
  clear hW h
  go_enter Tryz.func62, Tryz.ntmps62
  go_upto_region 1 with fail
  rw [← EW.out]
  go_wp2_with fail
  refine (names5_any W).mono ?_
  rintro e w1 ⟨rfl, hw1⟩
  obtain ⟨gn, hgn⟩ : ∃ g, g = W.heap.size := ⟨_, rfl⟩
  rw [← hgn]
  have N1 : w1.heap[gn]? = some (.cells (NM5.map Value.string).toArray 9 (0, 0)) := by rw [hw1, hgn]; exact heap_alloc_new W _
  have b1 : Below W.heap.size W w1 := by rw [hw1]; exact (Below.refl _ _).alloc (Nat.le_refl _) _
  have s1 : w1.heap.size = gn + 1 := by rw [hw1, hgn]; simp
  have rn : Row w1 W.heap.size 9 1 eS (.slice (some ⟨gn, 0, none⟩) 5 5) NM5 := by
    rw [hw1, hgn]
    exact own_built (base := W.heap.size) (size := 1) (k := 5) (Nat.le_refl _) (by unfold maxLen; omega) rfl
  clear hw1
  obtain ⟨U, hU⟩ : ∃ U, U = w1.alloc (.cells #[] 9) := ⟨_, rfl⟩
  have EU : Hid (U = w1.alloc (.cells #[] 9)) := hU
  have b2 : Below w1.heap.size w1 U := by rw [hU]; exact (Below.refl _ _).alloc (Nat.le_refl _) _
  have rt : Row U w1.heap.size 9 1 eS (.slice (some ⟨w1.heap.size, 0, none⟩) 0 0) [] := by rw [hU]; exact Row.made w1 9 1 eS (Nat.le_refl _)
  have bU : Below W.heap.size W U := b1.trans (b2.mono (by omega))
  have lW1 := (Array.getElem?_eq_some_iff.1 R1.out).1
  have fm0 : Fam w.heap.size w1 [(.slice (some ⟨gn, 0, none⟩) 5 5, NM5)] := (Fam.nil (u := W)).add (by omega) Fam.nil rn
  have I0 : Hid (WI R w.heap.size gn w U ob n cb p f (.slice o0 n0 k0) (.slice none 0 0) (.slice (some ⟨w1.heap.size, 0, none⟩) 0 0) [] [] []) := ⟨(bU.block _ lW1).trans R1.out, (bU.block _ (by omega)).trans R2.out, (b2.block _ (by omega)).trans N1, Row.nil _ _ _ _ _, fm0.add (by omega) (fm0.below b2) rt, (fun x hx => nomatch hx), (fun x hx => nomatch hx), RD0.out.but (fun b hb => bU.block b (by omega)), (But.of_below BW.out).trans (But.of_below bU), by have := b2.size; omega⟩
  have szU : Hid (w1.heap.size = gn + 1) := s1
  clear hU b2 rt bU fm0 rn N1 b1 R1 R2 RD0 hgn lW1 s1
  go_upto_region 3 with fail
  rw [← EU.out]
  go_wp2_with fail
  go_loopw [6, 7] (fun tk i wr => ∃ (k : Nat) (pk : Int) (o1 : Option Addr) (n1 k1 : Nat) (ot : Option Addr) (nt kt : Nat) (M : List ByteArray) (L : List HB), k ≤ 5 ∧ i = .int .i64 k ∧ pk ≤ p + k * 1010 ∧ tk = .slice ot nt kt ∧ nt ≤ 5 * k ∧ n1 ≤ k ∧ Hid (M.length = nt ∧ L.length = n1) ∧ Hid (WI R w.heap.size gn w wr ob n cb pk f (.slice o0 n0 k0) (.slice o1 n1 k1) (.slice ot nt kt) M L [])) (fun _ i _ => 5 - (intOf i).toNat)
  case atStart => exact ⟨0, p, none, 0, 0, _, 0, 0, [], [], by omega, rfl, by omega, rfl, by omega, by omega, ⟨rfl, rfl⟩, I0⟩
  case round =>
    obtain ⟨k, pk, o1, n1, k1, ot, nt, kt, M, L, hk, rfl, hpk, rfl, hnt, hn1, hlen, HW⟩ := hrel
    by_cases hlt : k < 5
    case neg =>
      have hI := HW.out
      have x0 := (cell_row hI.bk 0 (.slice o0 n0 k0) rfl).1
      have x1 := (cell_row hI.bk 1 (.slice o1 n1 k1) rfl).1
      obtain ⟨z0, f0⟩ := cell_row hI.rs 0 (.slice none 0 0) rfl
      obtain ⟨z1, f1⟩ := cell_row hI.rs 1 (.slice none 0 0) rfl
      have FIN : Hid (((wr.setCell ⟨w.heap.size + 1, 0, none⟩ (.slice o0 n0 k0)).setCell ⟨w.heap.size + 1, 1, none⟩ (.slice o1 n1 k1)).heap[w.heap.size + 1]? = some (.cells #[.slice o0 n0 k0, .slice o1 n1 k1] 26 (0, 0))) := by
        have := set_row (set_row hI.rs 0 (.slice o0 n0 k0)) 1 (.slice o1 n1 k1)
        show _ = _
        rw [this]; rfl
      have OTH : Hid (∀ q, q ≠ w.heap.size + 1 → ((wr.setCell ⟨w.heap.size + 1, 0, none⟩ (.slice o0 n0 k0)).setCell ⟨w.heap.size + 1, 1, none⟩ (.slice o1 n1 k1)).heap[q]? = wr.heap[q]?) := fun q hq => (Below.heap_setCell _ _ _ _ hq).trans (Below.heap_setCell _ _ _ _ hq)
      have BBT : Hid (But (fun k => k = R) w ((wr.setCell ⟨w.heap.size + 1, 0, none⟩ (.slice o0 n0 k0)).setCell ⟨w.heap.size + 1, 1, none⟩ (.slice o1 n1 k1))) := but_new (but_new hI.bt (by omega) 0 _) (by omega) 1 _
      have SZF : Hid (((wr.setCell ⟨w.heap.size + 1, 0, none⟩ (.slice o0 n0 k0)).setCell ⟨w.heap.size + 1, 1, none⟩ (.slice o1 n1 k1)).heap.size = wr.heap.size) := by show _ = _; simp [World.setCell]
      clear hI
      go_wp2_with fail
      generalize ((wr.setCell ⟨w.heap.size + 1, 0, none⟩ (.slice o0 n0 k0)).setCell ⟨w.heap.size + 1, 1, none⟩ (.slice o1 n1 k1)) = F at FIN OTH BBT SZF ⊢
      have g0 := (cell_row FIN.out 0 (.slice o0 n0 k0) rfl).1
      have g1 := (cell_row FIN.out 1 (.slice o1 n1 k1) rfl).1
      have rsl := HW.out.rs
      have neS : ∀ (q : Nat) (c' : Array Value) (t : TypeId), t ≠ 26 → wr.heap[q]? = some (.cells c' t (0, 0)) → q ≠ w.heap.size + 1 := fun q c' t ht hc e => by
        subst e
        rw [rsl] at hc
        injection hc with h1
        injection h1 with _ h2
        exact ht h2.symm
      have FR : ∀ x ∈ flatH L, Row F w.heap.size 9 1 eS x.1 x.2 := fun x hx => by
        have hr := HW.out.fm.row x (List.mem_cons_of_mem _ (List.mem_append.2 (.inr (List.mem_cons_of_mem _ hx))))
        refine Row.block hr (fun q hq => ?_)
        obtain ⟨c, hc⟩ := Row.typed hr q hq
        exact OTH.out q (neS q c _ (by decide) hc)
      have FB : BsO w.heap.size F (.slice o1 n1 k1) L := ⟨Row.block HW.out.ro (fun q hq => by
        obtain ⟨c, hc⟩ := Row.typed HW.out.ro q hq
        exact OTH.out q (neS q c _ (by decide) hc)), fun x hx => by
        have hz := HW.out.zl x hx
        have m16 : 16 ≤ maxLen := by unfold maxLen; omega
        exact ⟨FR _ (flatH_mem hx).1, FR _ (flatH_mem hx).2, Nat.le_trans hz.1 m16, fun s hs => Nat.le_trans (hz.2.1.2 s hs) m16, fun s hs => Nat.le_trans (hz.2.2.2 s hs) m16⟩⟩
      refine bodyPost_ret (v := .agg #[.slice o0 n0 k0, .slice o1 n1 k1]) (by simp [results, Tryz.results62, go_sem, g0, g1]) rfl ⟨o1, n1, k1, L.map dH, rfl, ⟨HTZ.out.mono (by omega), by show (L.map dH).length ≤ 16; rw [List.length_map]; have := hlen.out; omega, fun g hg => ?_⟩, FB.at_, pk, by omega, HW.out.rd.but (fun b hb => OTH.out b (by omega)), BBT⟩
      obtain ⟨x, hx, rfl⟩ := List.mem_map.1 hg
      exact HW.out.zl x hx
    go_wp2_with fail
    refine (pick_rd R ob n cb f pk 4 wr HW.out.rd (by omega) (by omega) (by omega)).mono ?_
    rintro e u1 ⟨z, rfl, hz0, hz1, q1, hq1, rdn, btn⟩
    have I1 : Hid (WI R w.heap.size gn w u1 ob n cb q1 f (.slice o0 n0 k0) (.slice o1 n1 k1) (.slice ot nt kt) M L []) := HW.out.call btn.out rdn.out
    clear rdn btn HW
    by_cases hz : z = 0
    · subst hz
      go_wp2_with fail
      go_roundw
      case rel => exact ⟨k + 1, q1, o1, n1, k1, ot, nt, kt, M, L, by omega, by go_num, by omega, rfl, by omega, by omega, hlen, I1⟩
      case measure => simp [intOf]; omega
    go_upto_region 7 with fail
    rename_i K7 hK7
    have REST7 : Hid (∀ (a9 a12 a13 a14 a15 a16 a17 a18 a19 a20 a21 a22 a23 a24 a25 a26 a27 a28 a29 a30 a31 a32 a33 a34 a35 a36 a37 a38 a39 a40 a41 a42 a43 a44 a45 a46 a47 a48 a49 a50 a51 a52 a53 a54 a55 a56 a57 a58 a59 a60 a61 a62 a63 a64 a65 a66 a67 a68 a69 a70 a71 a72 a73 : Value) (y : ByteArray) (gx : Nat) (V : World) (q2 : Int) (on : Option Addr) (nn kn : Nat) (N : List ByteArray), q2 ≤ q1 + 1000 → nn ≤ 5 → N.length = nn → WJ R w.heap.size gn gx w V ob n cb q2 f (.slice o0 n0 k0) (.slice o1 n1 k1) (.slice ot nt kt) M L y (.slice none 0 0) [] (.slice on nn kn) N → K7 { tmps := #[.pointer (some ⟨R, 0, none⟩), .agg #[.slice o0 n0 k0, .slice none 0 0], undef, .pointer (some ⟨w.heap.size, 0, none⟩), .pointer (some ⟨w.heap.size + 1, 0, none⟩), .slice (some ⟨gn, 0, none⟩) 5 5, .slice ot nt kt, .int .i64 (k : Int), .pointer (some ⟨gx, 0, none⟩), a9, .slice (some ⟨gn, 0, none⟩) 5 5, .slice (some ⟨w1.heap.size, 0, none⟩) 0 0, a12, a13, a14, a15, a16, a17, a18, a19, a20, a21, a22, a23, a24, a25, a26, a27, a28, a29, a30, a31, a32, a33, a34, a35, a36, a37, a38, a39, a40, a41, a42, a43, a44, a45, a46, a47, a48, a49, a50, a51, a52, a53, a54, a55, a56, a57, a58, a59, a60, a61, a62, a63, a64, a65, a66, a67, a68, a69, a70, a71, a72, a73, undef], defers := [] } V) := by
      intro a9 a12 a13 a14 a15 a16 a17 a18 a19 a20 a21 a22 a23 a24 a25 a26 a27 a28 a29 a30 a31 a32 a33 a34 a35 a36 a37 a38 a39 a40 a41 a42 a43 a44 a45 a46 a47 a48 a49 a50 a51 a52 a53 a54 a55 a56 a57 a58 a59 a60 a61 a62 a63 a64 a65 a66 a67 a68 a69 a70 a71 a72 a73 y gx V q2 on nn kn N hq2 hnn enn hJ
      refine hK7 _ _ ?_
      clear hK7 I1
      have J0 : Hid (WJ R w.heap.size gn gx w V ob n cb q2 f (.slice o0 n0 k0) (.slice o1 n1 k1) (.slice ot nt kt) M L y (.slice none 0 0) [] (.slice on nn kn) N) := hJ
      have ENN : Hid (N.length = nn) := enn
      clear hJ enn
      go_wp2_with fail
      go_loopw [6, 9] (fun tk i wr => ∃ (j : Nat) (pj : Int) (ot : Option Addr) (nt kt : Nat) (M : List ByteArray) (oh : Option Addr) (nh kh : Nat) (H : List ByteArray), j ≤ nn ∧ i = .int .i64 j ∧ pj ≤ q2 + j ∧ tk = .slice ot nt kt ∧ nt ≤ 5 * k + j ∧ nh ≤ j ∧ Hid (M.length = nt ∧ H.length = nh) ∧ Hid (WJ R w.heap.size gn gx w wr ob n cb pj f (.slice o0 n0 k0) (.slice o1 n1 k1) (.slice ot nt kt) M L y (.slice oh nh kh) H (.slice on nn kn) N)) (fun _ i _ => nn - (intOf i).toNat)
      case atStart => exact ⟨0, q2, ot, nt, kt, M, none, 0, 0, [], by omega, rfl, by omega, rfl, by omega, by omega, ⟨hlen.out.1, rfl⟩, J0⟩
      case round =>
        clear J0
        obtain ⟨j, pj, ot', nt', kt', M', oh, nh, kh, H, hj, rfl, hpj, rfl, hnt', hnh, hlen', HJ⟩ := hrel
        have x2 := (cell_row HJ.out.bx 2 (.slice on nn kn) rfl).1
        by_cases hltj : j < nn
        case neg =>
          have x0 := (cell_row HJ.out.bx 0 (.string y) rfl).1
          have x1 := (cell_row HJ.out.bx 1 (.slice oh nh kh) rfl).1
          have y1 := (cell_row HJ.out.wi.bk 1 (.slice o1 n1 k1) rfl).1
          have bX3 : Below wr.heap.size wr (wr.alloc (.cells #[.string y, .slice oh nh kh, .slice on nn kn] 43)) := (Below.refl _ _).alloc (Nat.le_refl _) _
          have J3 : Hid (WJ R w.heap.size gn gx w (wr.alloc (.cells #[.string y, .slice oh nh kh, .slice on nn kn] 43)) ob n cb pj f (.slice o0 n0 k0) (.slice o1 n1 k1) (.slice ot' nt' kt') M' L y (.slice oh nh kh) H (.slice on nn kn) N) := HJ.out.below bX3
          have HSRC : Hid (Src (wr.alloc (.cells #[.string y, .slice oh nh kh, .slice on nn kn] 43)) (.slice (some ⟨wr.heap.size, 0, none⟩) 1 1) 1 3 [.string y, .slice oh nh kh, .slice on nn kn]) := own_src4 (own_built (base := 0) (size := 3) (k := 1) (Nat.zero_le _) (by unfold maxLen; omega) rfl)
          have HOWN : Hid ((wr.alloc (.cells #[.string y, .slice oh nh kh, .slice on nn kn] 43)).ownsRow w.heap.size 43 3 (.slice o1 n1 k1) n1 (enc 3 eH L)) := by
            have h9 := J3.out.wi.ro
            rw [Row, hlen.out.2] at h9
            exact h9
          have HONE : Hid (∀ z ∈ ([.string y, .slice oh nh kh, .slice on nn kn] : List Value), z.oneCell' = true) := by intro z hz; simp at hz; rcases hz with rfl | rfl | rfl <;> rfl
          have HSZ : Hid (w.heap.size ≤ (wr.alloc (.cells #[.string y, .slice oh nh kh, .slice on nn kn] 43)).heap.size) := by have := J3.out.wi.lo; show _ ≤ _; omega
          clear bX3
          go_wp2_with (first
            | (at_builtin; refine wpList_app elB rfl _ _ rfl rfl rfl HOWN.out HSRC.out HONE.out (by unfold maxLen; omega) (by omega) HSZ.out ?_; intro v' u8 hown hgr0 _; obtain ⟨ov', kv', rfl⟩ := row_shape4 hown; have hgr : (wr.alloc (.cells #[.string y, .slice oh nh kh, .slice on nn kn] 43)).grownBy u8 (Value.slice o1 n1 k1).ownBlock := hgr0; have hdn := J3.out.done hgr (vb := .slice ov' (n1 + 1) kv') (by rw [hlen.out.2]; exact hown); have hb8 := hdn.1; have I8 : Hid _ := hdn.2; obtain ⟨zc8, zf8⟩ := cell_row hb8 1 _ rfl; clear hdn hb8 hgr hgr0 hown))
          go_roundw
          case rel => exact ⟨k + 1, pj, ov', n1 + 1, kv', ot', nt', kt', M', _, by omega, by go_num, by omega, rfl, by omega, by omega, ⟨hlen'.out.1, by rw [List.length_append, hlen.out.2]; rfl⟩, I8⟩
          case measure => simp [intOf]; omega
        have hjl : j < N.length := by have := ENN.out; omega
        have m16 : 16 ≤ maxLen := by unfold maxLen; omega
        have NAT : Hid (∀ (u : World) (q : Int) (tk : Value) (M2 : List ByteArray) (hv : Value) (H2 : List ByteArray), WJ R w.heap.size gn gx w u ob n cb q f (.slice o0 n0 k0) (.slice o1 n1 k1) tk M2 L y hv H2 (.slice on nn kn) N → AtL (fun b => b < u.heap.size ∧ b ≠ R) u N (.slice on nn kn)) := fun u q tk M2 hv H2 hJ => row_dk (hJ.wi.fm.row (.slice on nn kn, N) (by simp)) rlt (fun s hs => Nat.le_trans (hJ.nz.2 s hs) m16)
        obtain ⟨bn, fn, e9, _, cj⟩ := atl_strO (NAT.out wr pj _ _ _ _ HJ.out) j hjl
        have HCE : Hid (∀ (u : World) (q : Int) (tk : Value) (M2 : List ByteArray) (hv : Value) (H2 : List ByteArray), WJ R w.heap.size gn gx w u ob n cb q f (.slice o0 n0 k0) (.slice o1 n1 k1) tk M2 L y hv H2 (.slice on nn kn) N → u.cell? ⟨bn, fn + j, none⟩ = some (.string N[j])) := fun u q tk M2 hv H2 hJ => by
          obtain ⟨bn', fn', e8, _, cj'⟩ := atl_strO (NAT.out u q tk M2 hv H2 hJ) j hjl
          rw [e9] at e8
          cases e8
          exact cj'
        have HSJ : Hid (N[j].size ≤ 16) := HJ.out.nz.2 _ (List.getElem_mem hjl)
        subst e9
        generalize N[j] = sj at cj HCE HSJ
        clear NAT hjl
        have TAT : Hid (AtL (fun b => b < wr.heap.size ∧ b ≠ R) wr M' (.slice ot' nt' kt')) := row_dk HJ.out.wi.fm.head rlt (fun s hs => Nat.le_trans (HJ.out.wi.zm s hs) m16)
        go_wp2_with fail
        refine (hasZ_any _ _ M' sj wr TAT.out).mono ?_
        rintro e u2 ⟨rfl, hb2⟩
        have J2 : Hid (WJ R w.heap.size gn gx w u2 ob n cb pj f (.slice o0 n0 k0) (.slice o1 n1 k1) (.slice ot' nt' kt') M' L y (.slice oh nh kh) H (.slice (some ⟨bn, fn, none⟩) nn kn) N) := HJ.out.below hb2
        clear hb2 HJ TAT cj x2
        by_cases hh : hasB M' sj = true
        · rw [hh]
          clear hh
          go_wp2_with fail
          go_roundw
          case rel => exact ⟨j + 1, pj, ot', nt', kt', M', oh, nh, kh, H, by omega, by go_num, by omega, rfl, by omega, by omega, hlen', J2⟩
          case measure => simp [intOf]; omega
        have hf : hasB M' sj = false := by simpa using hh
        rw [hf]
        clear hh hf
        go_wp2_with fail
        refine (pick_rd R ob n cb f pj 2 u2 J2.out.wi.rd (by omega) (by omega) (by omega)).mono ?_
        rintro e u3 ⟨z2, rfl, hz20, hz21, q3, hq3, rdn, btn⟩
        have J3 : Hid (WJ R w.heap.size gn gx w u3 ob n cb q3 f (.slice o0 n0 k0) (.slice o1 n1 k1) (.slice ot' nt' kt') M' L y (.slice oh nh kh) H (.slice (some ⟨bn, fn, none⟩) nn kn) N) := J2.out.call btn.out rdn.out
        clear rdn btn J2
        by_cases hz2 : z2 = 0
        case neg =>
          go_wp2_with fail
          go_roundw
          case rel => exact ⟨j + 1, q3, ot', nt', kt', M', oh, nh, kh, H, by omega, by go_num, by omega, rfl, by omega, by omega, hlen', J3⟩
          case measure => simp [intOf]; omega
        subst hz2
        have x2 := (cell_row J3.out.bx 2 (.slice (some ⟨bn, fn, none⟩) nn kn) rfl).1
        have cj := HCE.out u3 q3 _ _ _ _ J3.out
        have bA : Below u3.heap.size u3 (u3.alloc (.cells #[.string sj] 9)) := (Below.refl _ _).alloc (Nat.le_refl _) _
        have J4 : Hid (WJ R w.heap.size gn gx w (u3.alloc (.cells #[.string sj] 9)) ob n cb q3 f (.slice o0 n0 k0) (.slice o1 n1 k1) (.slice ot' nt' kt') M' L y (.slice oh nh kh) H (.slice (some ⟨bn, fn, none⟩) nn kn) N) := J3.out.below bA
        have HSRC : Hid (Src (u3.alloc (.cells #[.string sj] 9)) (.slice (some ⟨u3.heap.size, 0, none⟩) 1 1) 1 1 [.string sj]) := own_src4 (own_built (base := 0) (size := 1) (k := 1) (Nat.zero_le _) (by unfold maxLen; omega) rfl)
        have HOWN : Hid ((u3.alloc (.cells #[.string sj] 9)).ownsRow w.heap.size 9 1 (.slice ot' nt' kt') nt' (enc 1 eS M')) := by
          have h9 := J4.out.wi.fm.head
          rw [Row, hlen'.out.1] at h9
          exact h9
        have HONE : Hid (∀ z ∈ ([.string sj] : List Value), z.oneCell' = true) := by intro z hz; simp at hz; rw [hz]; rfl
        have HSZ : Hid (w.heap.size ≤ (u3.alloc (.cells #[.string sj] 9)).heap.size) := by have := J4.out.wi.lo; show _ ≤ _; omega
        clear bA
        go_wp2_with (first
          | (at_builtin; refine wpList_app elS rfl _ _ rfl rfl rfl HOWN.out HSRC.out HONE.out (by unfold maxLen; omega) (by omega) HSZ.out ?_; intro v' u8 hown hgr0 hbk0; obtain ⟨ov', kv', rfl⟩ := row_shape4 hown; have hgr : (u3.alloc (.cells #[.string sj] 9)).grownBy u8 (Value.slice ot' nt' kt').ownBlock := hgr0; have ROW8 : Row u8 w.heap.size 9 1 eS (.slice ov' (nt' + 1) kv') (M' ++ [sj]) := (by show World.ownsRow _ _ _ _ _ _ _; rw [List.length_append, enc_append, hlen'.out.1]; exact hown); have J8 : Hid _ := J4.out.appT hgr ROW8 hbk0 (fun s hs => (List.mem_append.1 hs).elim (fun h => J4.out.wi.zm s h) (fun h => (by rw [List.mem_singleton.1 h]; exact HSJ.out))); clear hgr hgr0 hown ROW8 hbk0))
        clear x2 cj J3 J4 HSRC HOWN HONE HSZ
        have x1 := (cell_row J8.out.bx 1 (.slice oh nh kh) rfl).1
        have x2 := (cell_row J8.out.bx 2 (.slice (some ⟨bn, fn, none⟩) nn kn) rfl).1
        have cj := HCE.out u8 q3 _ _ _ _ J8.out
        have r1 := fun d os => cell_regrown x1 d os
        have r2 := fun d os => cell_regrown x2 d os
        have r3 := fun d os => cell_regrown cj d os
        refine wp_region_mix 8 [0, 1, 2, 3, 4, 5, 6] (by kernel_rfl) (by kernel_rfl) ?_
        simp only [List.filterMap_cons, List.filterMap_nil, List.getElem?_cons_succ, List.getElem?_cons_zero]
        repeat (first | go_big_quiet_step (fail) | quiet_step (fail))
        refine wpQuiet_nil ?_
        clear r1 r2 r3 x1 x2 cj
        have hdr : Below u8.heap.size u8 u8.drew := (Below.refl _ _).drew
        refine anyC_step (f := 0) [7] (by kernel_rfl) (by simp) (one_list ⟨by decide, _, rfl, rfl, .slice (some ⟨u8.drew.heap.size, 0, none⟩) 1 1, u8.drew.alloc (.cells #[.string sj] 9), ?runb, regrown_of_below (hdr.alloc hdr.size _), ?_⟩)
        case runb => go_simp
        refine ⟨by kernel_rfl, ?_⟩
        simp only [List.drop_succ_cons, List.drop_zero]
        simp only [Act.put, List.setIfInBounds_toArray]
        obtain ⟨X3, hX3⟩ : ∃ X, X = u8.drew.alloc (.cells #[.string sj] 9) := ⟨_, rfl⟩
        have bX3 : Below u8.heap.size u8 X3 := by rw [hX3]; exact hdr.alloc hdr.size _
        have JX : Hid _ := J8.out.below bX3
        have HSRC : Hid (Src X3 (.slice (some ⟨u8.drew.heap.size, 0, none⟩) 1 1) 1 1 [.string sj]) := by rw [hX3]; exact own_src4 (own_built (base := 0) (size := 1) (k := 1) (Nat.zero_le _) (by unfold maxLen; omega) rfl)
        have HOWN : Hid (X3.ownsRow w.heap.size 9 1 (.slice oh nh kh) nh (enc 1 eS H)) := by
          have h9 : Row X3 w.heap.size 9 1 eS (.slice oh nh kh) H := JX.out.wi.fm.row (.slice oh nh kh, H) (by simp)
          rw [Row, hlen'.out.2] at h9
          exact h9
        have HONE : Hid (∀ z ∈ ([.string sj] : List Value), z.oneCell' = true) := by intro z hz; simp at hz; rw [hz]; rfl
        have HSZ : Hid (w.heap.size ≤ X3.heap.size) := by have := JX.out.wi.lo; show _ ≤ _; omega
        rw [← hX3]
        clear hX3 hdr bX3 J8
        go_wp2_with (first
          | (at_builtin; refine wpList_app elS rfl _ _ rfl rfl rfl HOWN.out HSRC.out HONE.out (by unfold maxLen; omega) (by omega) HSZ.out ?_; intro v'' u9 hown hgr0 hbk0; obtain ⟨ow, kw, rfl⟩ := row_shape4 hown; have hgr : X3.grownBy u9 (Value.slice oh nh kh).ownBlock := hgr0; have ROW9 : Row u9 w.heap.size 9 1 eS (.slice ow (nh + 1) kw) (H ++ [sj]) := (by show World.ownsRow _ _ _ _ _ _ _; rw [List.length_append, enc_append, hlen'.out.2]; exact hown); have hap := JX.out.appH hgr ROW9 hbk0 ⟨(by rw [List.length_append]; have := hlen'.out.2; show H.length + 1 ≤ 16; omega), fun s hs => (List.mem_append.1 hs).elim (fun h => JX.out.hz.2 s h) (fun h => (by rw [List.mem_singleton.1 h]; exact HSJ.out))⟩; have hb9 := hap.1; have J9 : Hid _ := hap.2; obtain ⟨zc9, zf9⟩ := cell_row hb9 1 _ rfl; clear hap hb9 hgr hgr0 hown ROW9 hbk0))
        go_roundw
        case rel => exact ⟨j + 1, q3, ov', nt' + 1, kv', M' ++ [sj], ow, nh + 1, kw, H ++ [sj], by omega, by go_num, by omega, rfl, by omega, by omega, ⟨by rw [List.length_append, hlen'.out.1]; rfl, by rw [List.length_append, hlen'.out.2]; rfl⟩, J9⟩
        case measure => simp [intOf]; omega
    clear hK7
    obtain ⟨y, hy, hyz⟩ : ∃ y : ByteArray, (∀ v : World, v.heap[gn]? = some (.cells (NM5.map Value.string).toArray 9 (0, 0)) → v.cell? ⟨gn, k, none⟩ = some (.string y)) ∧ y.size ≤ 16 := by
      match k, hlt with
      | 0, _ => exact ⟨⟨#[97, 108, 101]⟩, fun v hv => (cell_row hv 0 _ rfl).1, by decide⟩
      | 1, _ => exact ⟨⟨#[98]⟩, fun v hv => (cell_row hv 1 _ rfl).1, by decide⟩
      | 2, _ => exact ⟨⟨#[99, 45, 99]⟩, fun v hv => (cell_row hv 2 _ rfl).1, by decide⟩
      | 3, _ => exact ⟨⟨#[100, 97, 114, 107]⟩, fun v hv => (cell_row hv 3 _ rfl).1, by decide⟩
      | 4, _ => exact ⟨⟨#[120, 57]⟩, fun v hv => (cell_row hv 4 _ rfl).1, by decide⟩
    have HY : Hid (y.size ≤ 16) := hyz
    have HYN : Hid _ := hy
    have hdr : Below u1.heap.size u1 u1.drew := (Below.refl _ _).drew
    obtain ⟨D1, hD1⟩ : ∃ D, D = u1.drew := ⟨_, rfl⟩
    have ED : Hid (D1 = u1.drew) := hD1
    have ID : Hid (WI R w.heap.size gn w D1 ob n cb q1 f (.slice o0 n0 k0) (.slice o1 n1 k1) (.slice ot nt kt) M L []) := by rw [hD1]; exact I1.out.below hdr
    have HCW : Hid (∀ (v : World) (q : Int) (X : List Vl), WI R w.heap.size gn w v ob n cb q f (.slice o0 n0 k0) (.slice o1 n1 k1) (.slice ot nt kt) M L X → v.cell? ⟨gn, k, none⟩ = some (.string y) ∧ v.cell? ⟨w.heap.size, 0, none⟩ = some (.slice o0 n0 k0)) := fun v q X h => ⟨hy v h.nm, (cell_row h.bk 0 (.slice o0 n0 k0) rfl).1⟩
    have HC : Hid (D1.cell? ⟨gn, k, none⟩ = some (.string y) ∧ D1.cell? ⟨w.heap.size, 0, none⟩ = some (.slice o0 n0 k0)) := HCW.out D1 q1 _ ID.out
    have CALL : Hid (∀ (v : World), WI R w.heap.size gn w v ob n cb q1 f (.slice o0 n0 k0) (.slice o1 n1 k1) (.slice ot nt kt) M L [] → Calls Tryz.prog 26 #[.pointer (some ⟨R, 0, none⟩), .slice o0 n0 k0, .int .i64 2] v fun e w' => ∃ (on : Option Addr) (nn kn : Nat) (N : List ByteArray) (q2 : Int), e = .returned (.slice on nn kn) ∧ q2 ≤ q1 + 1000 ∧ nn ≤ 5 ∧ N.length = nn ∧ SzL 16 N ∧ But (fun k => k = R) v w' ∧ WI R w.heap.size gn w w' ob n cb q2 f (.slice o0 n0 k0) (.slice o1 n1 k1) (.slice ot nt kt) M L [(.slice on nn kn, N)]) := fun v hv => by
      refine (some_rd R ob n cb f q1 (fun b => b < w.heap.size ∧ b ≠ R) T o0 n0 k0 2 v hv.rd (by omega) (HT.out _ hv.bt) (fun b hb => ⟨Nat.lt_of_lt_of_le hb.1 hv.bt.size, hb.2⟩) (by omega) (by omega) (by omega)).mono ?_
      rintro e V2 ⟨vn, N, rfl, hN1, hN2, hrowN, q2, hq2, rd2, bt2⟩
      obtain ⟨on, kn, rfl⟩ := Row.form hrowN.out
      exact ⟨on, N.length, kn, N, q2, rfl, hq2, by omega, rfl, ⟨by omega, fun s hs => Nat.le_trans (HTZ.out.2 s (hN2 s hs)) (by omega)⟩, bt2.out, hv.addN (hv.call bt2.out rd2.out) hrowN.out⟩
    have ALO : Hid (∀ (v : World) (q : Int) (X : List Vl), WI R w.heap.size gn w v ob n cb q f (.slice o0 n0 k0) (.slice o1 n1 k1) (.slice ot nt kt) M L X → WI R w.heap.size gn w (v.alloc (.cells #[.string ⟨#[]⟩, .slice none 0 0, .slice none 0 0] 43)) ob n cb q f (.slice o0 n0 k0) (.slice o1 n1 k1) (.slice ot nt kt) M L X ∧ (Value.slice o1 n1 k1).ownBlock ≠ some v.heap.size ∧ w.heap.size ≤ v.heap.size) := fun v q X h => ⟨h.below ((Below.refl _ _).alloc (Nat.le_refl _) _), fun e => by have := (World.ownsRow.lt h.ro _ e).2; omega, h.bt.size⟩
    clear hy hyz hdr hD1 I1
    refine wp_region_movesC (fun v => v.cell? ⟨gn, k, none⟩ = some (.string y) ∧ v.cell? ⟨w.heap.size, 0, none⟩ = some (.slice o0 n0 k0)) 10 [] (by kernel_rfl) (by kernel_rfl) (by rw [← ED.out]; exact HC.out) ?_
    rw [← ED.out]
    simp only [List.filterMap_nil, movD]
    refine takeHQ (f := 9) (i := 0) (.slice (some ⟨gn, 0, none⟩) 5 5) ⟨rfl, rfl⟩ (by kernel_rfl) rfl (HC.out) ?r0 ?_
    case r0 => intro v hv; go_simp
    simp only [Act.put, List.setIfInBounds_toArray, List.set_cons_zero, List.set_cons_succ]
    refine takeHQ (f := 8) (i := 1) (.int .i64 k) ⟨rfl, rfl⟩ (by kernel_rfl) rfl (HC.out) ?r1 ?_
    case r1 => intro v hv; go_simp
    simp only [Act.put, List.setIfInBounds_toArray, List.set_cons_zero, List.set_cons_succ]
    refine takeHQ (f := 7) (i := 2) (.pointer (some ⟨gn, k, none⟩)) ⟨rfl, rfl⟩ (by kernel_rfl) rfl (HC.out) ?r2 ?_
    case r2 => intro v hv; go_simp
    simp only [Act.put, List.setIfInBounds_toArray, List.set_cons_zero, List.set_cons_succ]
    refine takeHQ (f := 6) (i := 3) (.string y) ⟨rfl, rfl⟩ (by kernel_rfl) rfl (HC.out) ?r3 ?_
    case r3 => intro v hv; have c1 := hv.1; go_simp
    simp only [Act.put, List.setIfInBounds_toArray, List.set_cons_zero, List.set_cons_succ]
    refine takeHQ (f := 5) (i := 4) (.pointer (some ⟨R, 0, none⟩)) ⟨rfl, rfl⟩ (by kernel_rfl) rfl (HC.out) ?r4 ?_
    case r4 => intro v hv; go_simp
    simp only [Act.put, List.setIfInBounds_toArray, List.set_cons_zero, List.set_cons_succ]
    refine takeHQ (f := 4) (i := 5) (.pointer (some ⟨w.heap.size, 0, none⟩)) ⟨rfl, rfl⟩ (by kernel_rfl) rfl (HC.out) ?r5 ?_
    case r5 => intro v hv; go_simp
    simp only [Act.put, List.setIfInBounds_toArray, List.set_cons_zero, List.set_cons_succ]
    refine takeHQ (f := 3) (i := 6) (.slice o0 n0 k0) ⟨rfl, rfl⟩ (by kernel_rfl) rfl (HC.out) ?r6 ?_
    case r6 => intro v hv; have c1 := hv.2; go_simp
    simp only [Act.put, List.setIfInBounds_toArray, List.set_cons_zero, List.set_cons_succ]
    refine twoH (f := 2) 7 9 (by kernel_rfl) ⟨by decide, by decide⟩ ?brA ?brB
    case brA =>
      refine stepHc ⟨rfl, rfl⟩ rfl ?r7 ((CALL.out D1 ID.out).mono ?_)
      case r7 => go_simp
      rintro e V2 ⟨on, nn, kn, N, q2, rfl, hq2, hnn, hNl, hNz, hbt, hwi⟩
      refine ⟨_, rfl, HCW.out V2 q2 _ hwi, ?_⟩
      simp only [Act.put, List.setIfInBounds_toArray, List.set_cons_zero, List.set_cons_succ]
      have C2 := HCW.out V2 q2 _ hwi
      have C3 := HCW.out _ q2 _ (ALO.out V2 q2 _ hwi).1
      refine twoH (f := 1) 8 9 (by kernel_rfl) ⟨by decide, by decide⟩ ?brA1 ?brA2
      case brA1 =>
        refine stepHd (.agg #[.string y, .slice none 0 0, .slice on nn kn]) V2 ⟨rfl, rfl⟩ rfl ?r8 ⟨C2, ?_⟩
        case r8 => go_simp
        simp only [Act.put, List.setIfInBounds_toArray, List.set_cons_zero, List.set_cons_succ]
        refine oneHd (f := 0) (i := 9) (.pointer (some ⟨V2.heap.size, 0, none⟩)) (V2.alloc (.cells #[.string ⟨#[]⟩, .slice none 0 0, .slice none 0 0] 43)) ⟨rfl, rfl⟩ (by decide) (by kernel_rfl) rfl ?r9 C3 ?_
        case r9 => go_simp
        simp only [Act.put, List.setIfInBounds_toArray, List.set_cons_zero, List.set_cons_succ]
        refine ⟨by kernel_rfl, ?_⟩
        simp only [List.drop_succ_cons, List.drop_zero]
        obtain ⟨V9, hV9⟩ : ∃ V, V = V2.alloc (.cells #[.string ⟨#[]⟩, .slice none 0 0, .slice none 0 0] 43) := ⟨_, rfl⟩
        obtain ⟨gx, hgx⟩ : ∃ g, g = V2.heap.size := ⟨_, rfl⟩
        have W9 : Hid (WI R w.heap.size gn w V9 ob n cb q2 f (.slice o0 n0 k0) (.slice o1 n1 k1) (.slice ot nt kt) M L [(.slice on nn kn, N)]) := by rw [hV9]; exact (ALO.out V2 q2 _ hwi).1
        have X9 : V9.heap[gx]? = some (.cells #[.string ⟨#[]⟩, .slice none 0 0, .slice none 0 0] 43 (0, 0)) := by rw [hV9, hgx]; exact heap_alloc_new V2 _
        have J9 : Hid _ := W9.out.mk3 X9 (y := y) (by rw [hgx]; exact (ALO.out V2 q2 _ hwi).2.2) (by rw [hgx]; exact (ALO.out V2 q2 _ hwi).2.1) HY.out hNz
        obtain ⟨z0, f0⟩ := cell_row X9 0 _ rfl
        obtain ⟨z1, f1⟩ := cell_row X9 1 _ rfl
        obtain ⟨z2, f2⟩ := cell_row X9 2 _ rfl
        rw [← hV9, ← hgx]
        clear hV9 hgx X9
        go_wp2_with fail
        exact REST7.out _ _ _ _ _ _ _ _ _ _ _ _ _ _ _ _ _ _ _ _ _ _ _ _ _ _ _ _ _ _ _ _ _ _ _ _ _ _ _ _ _ _ _ _ _ _ _ _ _ _ _ _ _ _ _ _ _ _ _ _ _ _ _ y gx _ q2 on nn kn N hq2 hnn hNl J9.out
      case brA2 =>
        refine stepHd (.pointer (some ⟨V2.heap.size, 0, none⟩)) (V2.alloc (.cells #[.string ⟨#[]⟩, .slice none 0 0, .slice none 0 0] 43)) ⟨rfl, rfl⟩ rfl ?r9 ⟨C3, ?_⟩
        case r9 => go_simp
        simp only [Act.put, List.setIfInBounds_toArray, List.set_cons_zero, List.set_cons_succ]
        refine oneHd (f := 0) (i := 8) (.agg #[.string y, .slice none 0 0, .slice on nn kn]) (V2.alloc (.cells #[.string ⟨#[]⟩, .slice none 0 0, .slice none 0 0] 43)) ⟨rfl, rfl⟩ (by decide) (by kernel_rfl) rfl ?r8 C3 ?_
        case r8 => go_simp
        simp only [Act.put, List.setIfInBounds_toArray, List.set_cons_zero, List.set_cons_succ]
        refine ⟨by kernel_rfl, ?_⟩
        simp only [List.drop_succ_cons, List.drop_zero]
        obtain ⟨V9, hV9⟩ : ∃ V, V = V2.alloc (.cells #[.string ⟨#[]⟩, .slice none 0 0, .slice none 0 0] 43) := ⟨_, rfl⟩
        obtain ⟨gx, hgx⟩ : ∃ g, g = V2.heap.size := ⟨_, rfl⟩
        have W9 : Hid (WI R w.heap.size gn w V9 ob n cb q2 f (.slice o0 n0 k0) (.slice o1 n1 k1) (.slice ot nt kt) M L [(.slice on nn kn, N)]) := by rw [hV9]; exact (ALO.out V2 q2 _ hwi).1
        have X9 : V9.heap[gx]? = some (.cells #[.string ⟨#[]⟩, .slice none 0 0, .slice none 0 0] 43 (0, 0)) := by rw [hV9, hgx]; exact heap_alloc_new V2 _
        have J9 : Hid _ := W9.out.mk3 X9 (y := y) (by rw [hgx]; exact (ALO.out V2 q2 _ hwi).2.2) (by rw [hgx]; exact (ALO.out V2 q2 _ hwi).2.1) HY.out hNz
        obtain ⟨z0, f0⟩ := cell_row X9 0 _ rfl
        obtain ⟨z1, f1⟩ := cell_row X9 1 _ rfl
        obtain ⟨z2, f2⟩ := cell_row X9 2 _ rfl
        rw [← hV9, ← hgx]
        clear hV9 hgx X9
        go_wp2_with fail
        exact REST7.out _ _ _ _ _ _ _ _ _ _ _ _ _ _ _ _ _ _ _ _ _ _ _ _ _ _ _ _ _ _ _ _ _ _ _ _ _ _ _ _ _ _ _ _ _ _ _ _ _ _ _ _ _ _ _ _ _ _ _ _ _ _ _ y gx _ q2 on nn kn N hq2 hnn hNl J9.out
    case brB =>
      have AD := ALO.out D1 q1 _ ID.out
      refine stepHd (.pointer (some ⟨D1.heap.size, 0, none⟩)) (D1.alloc (.cells #[.string ⟨#[]⟩, .slice none 0 0, .slice none 0 0] 43)) ⟨rfl, rfl⟩ rfl ?r9 ⟨HCW.out _ q1 _ AD.1, ?_⟩
      case r9 => go_simp
      simp only [Act.put, List.setIfInBounds_toArray, List.set_cons_zero, List.set_cons_succ]
      refine callHd (f := 1) (i := 7) ⟨rfl, rfl⟩ (by decide) (by kernel_rfl) rfl ?r7 ((CALL.out _ AD.1).mono ?_)
      case r7 => go_simp
      rintro e V2 ⟨on, nn, kn, N, q2, rfl, hq2, hnn, hNl, hNz, hbt, hwi⟩
      refine ⟨_, rfl, HCW.out V2 q2 _ hwi, ?_⟩
      simp only [Act.put, List.setIfInBounds_toArray, List.set_cons_zero, List.set_cons_succ]
      have BX2 : V2.heap[D1.heap.size]? = some (.cells #[.string ⟨#[]⟩, .slice none 0 0, .slice none 0 0] 43 (0, 0)) := (hbt.block _ (by simp) (fun e => by have e' : D1.heap.size = R := e; have := AD.2.2; omega)).trans (heap_alloc_new D1 _)
      refine oneHd (f := 0) (i := 8) (.agg #[.string y, .slice none 0 0, .slice on nn kn]) V2 ⟨rfl, rfl⟩ (by decide) (by kernel_rfl) rfl ?r8 (HCW.out V2 q2 _ hwi) ?_
      case r8 => go_simp
      simp only [Act.put, List.setIfInBounds_toArray, List.set_cons_zero, List.set_cons_succ]
      refine ⟨by kernel_rfl, ?_⟩
      simp only [List.drop_succ_cons, List.drop_zero]
      obtain ⟨V9, hV9⟩ : ∃ V, V = V2 := ⟨_, rfl⟩
      obtain ⟨gx, hgx⟩ : ∃ g, g = D1.heap.size := ⟨_, rfl⟩
      have W9 : Hid (WI R w.heap.size gn w V9 ob n cb q2 f (.slice o0 n0 k0) (.slice o1 n1 k1) (.slice ot nt kt) M L [(.slice on nn kn, N)]) := by rw [hV9]; exact hwi
      have X9 : V9.heap[gx]? = some (.cells #[.string ⟨#[]⟩, .slice none 0 0, .slice none 0 0] 43 (0, 0)) := by rw [hV9, hgx]; exact BX2
      have J9 : Hid _ := W9.out.mk3 X9 (y := y) (by rw [hgx]; exact AD.2.2) (by rw [hgx]; exact AD.2.1) HY.out hNz
      obtain ⟨z0, f0⟩ := cell_row X9 0 _ rfl
      obtain ⟨z1, f1⟩ := cell_row X9 1 _ rfl
      obtain ⟨z2, f2⟩ := cell_row X9 2 _ rfl
      rw [← hV9, ← hgx]
      clear hV9 hgx X9
      go_wp2_with fail
      exact REST7.out _ _ _ _ _ _ _ _ _ _ _ _ _ _ _ _ _ _ _ _ _ _ _ _ _ _ _ _ _ _ _ _ _ _ _ _ _ _ _ _ _ _ _ _ _ _ _ _ _ _ _ _ _ _ _ _ _ _ _ _ _ _ _ y gx _ q2 on nn kn N hq2 hnn hNl J9.out
end Go.Proofs.YtaejlcanccfmmaaGreatDoor
