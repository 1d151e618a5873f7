import Derived.Test.YtaejlcanccfmmaaGreatDoorM11
import Derived.Test.YtaejlcanccfmmaaGreatDoorHzb
namespace Go.Proofs.YtaejlcanccfmmaaGreatDoor
open Go.RowKit Go.Sort
theorem own_built3 {w : World} {t : TypeId} {c : Array Value} {n k B : Nat} (hB : B ≤ w.heap.size) (hn : n ≤ maxLen) (hc : c.size = n * k) : (w.alloc (.cells c t)).ownsRow B t k (.slice (some ⟨w.heap.size, 0, none⟩) n n) n c.toList := by
  refine ⟨by simpa using hc, .inr ⟨w.heap.size, n, c, rfl, hB, heap_alloc_new w _, Nat.le_refl _, hn, by simp [hc], ?_⟩⟩
  rw [List.take_of_length_le (by simp [hc])]
theorem own_src3 {base e size n : Nat} {w : World} {v : Value} {xs : List Value} (h : w.ownsRow base e size v n xs) : Src w v n size xs := by
  refine ⟨h.1, ?_⟩
  rcases h.2 with ⟨rfl, hn⟩ | ⟨g, cap, cur, rfl, hb, hg, hc, hm, hs, ht⟩
  · exact .inl ⟨rfl, hn⟩
  · refine .inr ⟨_, _, rfl, fun j u hj => ?_⟩
    rw [add_at, Nat.zero_add]
    have hjl : j < n * size := by
      have := (List.getElem?_eq_some_iff.1 hj).1
      rw [h.1] at this; exact this
    have : cur.toList[j]? = some u := by
      rw [← ht, List.getElem?_take_of_lt hjl] at hj; exact hj
    have e : cur[j]? = some u := by simpa using this
    simp only [World.cell?, hg, e]; rfl
theorem row_shape3 {w : World} {base e size n : Nat} {v : Value} {xs : List Value} (h : w.ownsRow base e size v n xs) : ∃ oa cap, v = .slice oa n cap := by
  rcases h.2 with ⟨rfl, rfl⟩ | ⟨g, cap, cur, rfl, _⟩
  · exact ⟨_, _, rfl⟩
  · exact ⟨_, _, rfl⟩
set_option maxRecDepth 100000 in
set_option maxHeartbeats 16000000 in
theorem leavingOf_any (S : Nat → Prop) (T : List ByteArray) (Bs : List DShareBatch) (o0 oa : Option Addr) (n0 k0 nb kb : Nat) (w : World) (h0 : AtL S w T (.slice o0 n0 k0)) (h1 : AtL S w Bs (.slice oa nb kb)) (hS : ∀ b, S b → b < w.heap.size) (hok : BokP (T, Bs)) :
    Calls Tryz.prog 37 #[.agg #[.slice o0 n0 k0, .slice oa nb kb]] w fun e w' => ∃ g v, e = .returned (.pointer (some ⟨g, 0, none⟩)) ∧ Lv w.heap.size w' g v (lvL T Bs []) (freM T Bs []) ∧ Below w.heap.size w w' := by
  have H0 : Hid _ := h0.ups hS
  have H1 : Hid _ := h1.ups hS
  have HS : Hid _ := lt_up hS
  have enb : Bs.length = nb := by obtain ⟨_, _, e, _⟩ := h1; cases e; rfl
  have ENB : Hid (Bs.length ≤ nb ∧ nb ≤ Bs.length) := ⟨by omega, by omega⟩
  have hnb5 : nb ≤ 5 := by have := hok.len; simp only at this; omega
  have OK : Hid (BokP (T, Bs)) := hok
  have N8 : Hid (T.length ≤ 8) := (bok_things hok).1
  have ND : Hid T.Nodup := (bok_things hok).2
  clear h0 h1 enb hok
  obtain ⟨W, EW, BW, RW, sW⟩ := box_new w #[.slice o0 n0 k0, .slice oa nb kb] 26
  have y0 := (cell_row RW.out 0 (.slice o0 n0 k0) rfl).1
  have BT : Hid (Calls Tryz.prog 54 #[.slice o0 n0 k0, .slice o0 n0 k0] W fun e w' => e = .returned (.int .u32 (hasM T T : Nat)) ∧ w' = W) := bits_any S _ _ T T W (H0.out W BW.out) (H0.out W BW.out) N8.out ND.out ND.out (fun _ h => h)
  obtain ⟨f0, hf0⟩ : ∃ f, f = hasM T T := ⟨_, rfl⟩
  have EF0 : Hid (f0 = hasM T T) := hf0
  rw [← hf0] at BT
  clear hf0
  obtain ⟨U, hU⟩ : ∃ U, U = W.alloc (.cells #[.slice none 0 0, .int .u32 (f0 : Nat)] 102) := ⟨_, rfl⟩
  have EU : Hid (U = W.alloc (.cells #[.slice none 0 0, .int .u32 (f0 : Nat)] 102)) := hU
  have BU : Hid (Below w.heap.size w U) := by rw [hU]; exact BW.out.alloc (by omega) _
  obtain ⟨g, hg⟩ : ∃ g, g = W.heap.size := ⟨_, rfl⟩
  have EG : Hid (g = W.heap.size) := hg
  have hgw : w.heap.size ≤ g := by omega
  have LU : Hid (Lv w.heap.size U g (.slice none 0 0) (lvL T (Bs.take 0) []) (freM T (Bs.take 0) [])) := by
    refine ⟨Row.nil _ _ _ _ _, ?_, hgw⟩
    rw [hU, hg, free_none, ← EF0.out]
    exact heap_alloc_new W _
  have RU : Hid (U.heap[w.heap.size]? = some (.cells #[.slice o0 n0 k0, .slice oa nb kb] 26 (0, 0))) := by
    rw [hU]; exact (Below.heap_alloc W _ _ (by omega)).trans RW.out
  clear hU hg
  go_enter Tryz.func37, Tryz.ntmps37
  go_upto_region 1 with fail
  rw [← EW.out]
  go_wp2_with fail
  refine BT.out.mono ?_
  rintro e w1 ⟨rfl, rfl⟩
  go_upto_region 3 with fail
  rw [← EU.out]
  have y1 := (cell_row RU.out 1 (.slice oa nb kb) rfl).1
  rw [← EG.out]
  clear y0
  go_wp2_with fail
  clear y1
  go_loopw [17] (fun i wr => ∃ k : Nat, k ≤ nb ∧ i = .int .i64 k ∧ Hid (∃ v, Lv w.heap.size wr g v (lvL T (Bs.take k) []) (freM T (Bs.take k) [])) ∧ Hid (Below w.heap.size w wr)) (fun i _ => nb - (intOf i).toNat)
  case atStart => exact ⟨0, Nat.zero_le _, rfl, ⟨_, LU.out⟩, BU⟩
  case round =>
    obtain ⟨k, hk, rfl, hlv, hbel⟩ := hrel
    by_cases hlt : k < nb
    case neg =>
      go_wp2_with fail
      go_ret
      obtain ⟨v, hl⟩ := hlv.out
      have e : Bs.take k = Bs := List.take_of_length_le (by have := ENB.out; omega)
      rw [e] at hl
      exact ⟨g, v, rfl, hl, hbel.out⟩
    have hkb : k < Bs.length := by have := ENB.out; omega
    obtain ⟨v, hl⟩ := hlv.out
    have LR : Hid (Lv w.heap.size wr g v (lvL T (Bs.take k) []) (freM T (Bs.take k) [])) := hl
    clear hl hlv
    obtain ⟨bb, off, o1, n1, k1, o2, n2, k2, rfl, hbS, e0, e1, e2, a1, a2, z0⟩ := bat_at (H1.out wr hbel.out) k hkb
    have hbb := HS.out wr hbel.out bb hbS
    obtain ⟨⟨q1, s1⟩, ⟨q2, s2⟩⟩ := bok_lists OK.out k hkb
    obtain ⟨hs, hhs⟩ : ∃ x, x = hasM T Bs[k].2.1 := ⟨_, rfl⟩
    obtain ⟨nd, hnd⟩ : ∃ x, x = hasM T Bs[k].2.2 := ⟨_, rfl⟩
    have hs8 : hs < 256 := by rw [hhs]; exact hasM_lt N8.out _
    have nd8 : nd < 256 := by rw [hnd]; exact hasM_lt N8.out _
    obtain ⟨fr, hfr⟩ : ∃ x, x = freM T (Bs.take k) [] := ⟨_, rfl⟩
    have fr8 : fr < 256 := by rw [hfr]; exact freM_lt N8.out _ _
    obtain ⟨fn, hfn⟩ : ∃ x, x = freM T (Bs.take (k + 1)) [] := ⟨_, rfl⟩
    have hsum : fn + hs = fr := by rw [hfn, hhs, hfr]; exact free_next OK.out hkb
    have HSUM : Hid (fn + hs = fr) := hsum
    have hle : hs ≤ fr := by omega
    clear hsum
    have SN : Hid (lvL T (Bs.take (k + 1)) [] = lvL T (Bs.take k) [] ++ [(hs, nd, false)]) := by rw [hhs, hnd]; exact lv_snoc k hkb
    have ELN : Hid ((lvL T (Bs.take k) []).length = k) := by show _ = _; rw [lv_len, List.length_take]; omega
    rw [← hfr] at LR
    obtain ⟨nm, enm⟩ : ∃ x, Bs[k].1 = x := ⟨_, rfl⟩
    rw [enm] at e0
    have HC1 : Hid (∀ u, Below wr.heap.size wr u → Calls Tryz.prog 54 #[.slice o1 n1 k1, .slice o0 n0 k0] u fun e w' => e = .returned (.int .u32 (hs : Nat)) ∧ w' = u) := fun u hu => by
      rw [hhs]
      exact bits_any S _ _ _ T u (a1.same (Same.of_below hu (HS.out wr hbel.out))) (H0.out u (hbel.out.trans (hu.mono hbel.out.size))) N8.out ND.out q1 s1
    have HC2 : Hid (∀ u, Below wr.heap.size wr u → Calls Tryz.prog 54 #[.slice o2 n2 k2, .slice o0 n0 k0] u fun e w' => e = .returned (.int .u32 (nd : Nat)) ∧ w' = u) := fun u hu => by
      rw [hnd]
      exact bits_any S _ _ _ T u (a2.same (Same.of_below hu (HS.out wr hbel.out))) (H0.out u (hbel.out.trans (hu.mono hbel.out.size))) N8.out ND.out q2 s2
    have EFN : Hid (fn = freM T (Bs.take (k + 1)) []) := hfn
    clear a1 a2 q1 s1 q2 s2 hhs hnd hfr hfn enm z0
    obtain ⟨X, EX, BX, RX, sX⟩ := box_new wr #[.string nm, .slice o1 n1 k1, .slice o2 n2 k2] 43
    go_upto_region 6 with fail
    rw [← EX.out]
    clear e0 e1 e2
    have r1 := fun d os => cell_regrown (cell_row RX.out 1 (.slice o1 n1 k1) rfl).1 d os
    have r2 := fun d os => cell_regrown (cell_row RX.out 2 (.slice o2 n2 k2) rfl).1 d os
    go_wp2_with fail
    have hdr : Hid (Below X.heap.size X X.drew) := (Below.refl _ _).drew
    refine wp_region_head 10 [0, 1, 2, 4, 5, 6] (by kernel_rfl) (by kernel_rfl) ?_
    simp only [List.filterMap_cons, List.filterMap_nil, List.getElem?_cons_succ, List.getElem?_cons_zero]
    repeat (first | go_big_quiet_step (fail) | quiet_step (fail))
    refine wpQuiet_nil ?_
    clear r1 r2
    refine chainH_box0 (g := 0) (fun a0 o k a u => Below X.heap.size X u ∧ (∀ p, o = some p → u.heap[p]? = some (.cells #[.int .u32 0, .int .u32 0, .bool false] 104 (0, 0)) ∧ X.heap.size ≤ p) ∧ (match k with
      | 0 => a = bx 7 o a0
      | 1 => a = bx 7 o (a0.put (some 24) (.int .u32 (hs : Nat)))
      | 2 => a = bx 7 o ((a0.put (some 24) (.int .u32 (hs : Nat))).put (some 28) (.int .u32 (nd : Nat)))
      | _ => a = bx 7 o (((a0.put (some 24) (.int .u32 (hs : Nat))).put (some 28) (.int .u32 (nd : Nat))).put (some 29) (.agg #[.int .u32 (hs : Nat), .int .u32 (nd : Nat), .bool false])))) [3, 7, 8] 9 7 _ #[.int .u32 0, .int .u32 0, .bool false] 104 ⟨rfl, rfl, rfl, by decide⟩ (by decide) (by decide) ?exa (by kernel_rfl) ?hal ?hs ?h0 ?he ?he1
    case exa => intro b u; go_simp
    case h0 => exact ⟨hdr.out, fun p hp => (by cases hp), rfl⟩
    case hal =>
      intro k b u h
      obtain ⟨hb, _, h⟩ := h
      have hal := hb.alloc hb.size (.cells #[.int .u32 0, .int .u32 0, .bool false] 104)
      refine ⟨regrown_of_below hal, hal, fun p hp => (by cases hp; exact ⟨heap_alloc_new u _, hb.size⟩), ?_⟩
      match k, h with
      | 0, h => subst h; rfl
      | 1, h => subst h; rfl
      | 2, h => subst h; rfl
      | _ + 3, h => subst h; rfl
    case hs =>
      intro o j hj b u h
      obtain ⟨hb, hp, h⟩ := h
      have hbr : Below wr.heap.size wr u := BX.out.trans (hb.mono (by omega))
      have : j = 0 ∨ j = 1 ∨ j = 2 := (by simp at hj; omega)
      rcases this with rfl | rfl | rfl
      · simp only at h
        subst h
        refine stepH_call (fn := 54) (args := #[.slice o1 n1 k1, .slice o0 n0 k0]) rfl (wanted_none rfl _) (by cases o <;> simp only [bx, Act.put, List.setIfInBounds_toArray, List.set_cons_zero, List.set_cons_succ] <;> go_simp) ((HC1.out u hbr).mono fun e w' ⟨he, hw'⟩ => ⟨_, he, by rw [hw']; exact regrown_of_below hb, by rw [hw']; exact hb, by rw [hw']; exact hp, bx_put (by decide) o _ _⟩)
      · simp only at h
        subst h
        refine stepH_call (fn := 54) (args := #[.slice o2 n2 k2, .slice o0 n0 k0]) rfl (wanted_none rfl _) (by cases o <;> simp only [bx, Act.put, List.setIfInBounds_toArray, List.set_cons_zero, List.set_cons_succ] <;> go_simp) ((HC2.out u hbr).mono fun e w' ⟨he, hw'⟩ => ⟨_, he, by rw [hw']; exact regrown_of_below hb, by rw [hw']; exact hb, by rw [hw']; exact hp, bx_put (by decide) o _ _⟩)
      · simp only at h
        subst h
        refine stepH_value (.agg #[.int .u32 (hs : Nat), .int .u32 (nd : Nat), .bool false]) u rfl (wanted_none rfl _) (by cases o <;> simp only [bx, Act.put, List.setIfInBounds_toArray, List.set_cons_zero, List.set_cons_succ] <;> go_simp) ⟨regrown_of_below hb, hb, hp, bx_put (by decide) o _ _⟩
    case he =>
      intro b u h
      obtain ⟨hb, _, h⟩ := h
      obtain rfl : b = _ := h
      have hbu : Below X.heap.size X (u.alloc (.cells #[.int .u32 0, .int .u32 0, .bool false] 104)) := hb.alloc hb.size _
      have row : (u.alloc (.cells #[.int .u32 0, .int .u32 0, .bool false] 104)).heap[u.heap.size]? = some (.cells #[.int .u32 0, .int .u32 0, .bool false] 104 (0, 0)) := heap_alloc_new u _
      refine oneH (f := 0) (i := 9) (.pointer (some ⟨u.heap.size, 0, none⟩)) (u.alloc (.cells #[.int .u32 0, .int .u32 0, .bool false] 104)) ⟨rfl, by decide⟩ (by kernel_rfl) (wanted_none rfl _) ?run (regrown_of_below hbu) ?_
      case run => go_simp
      have hge := hb.size
      clear hb
      generalize u.alloc (.cells #[.int .u32 0, .int .u32 0, .bool false] 104) = w6 at hbu row ⊢
      generalize u.heap.size = p6 at row hge ⊢
      refine ⟨by kernel_rfl, ?_⟩
      simp only [List.drop_succ_cons, List.drop_zero, bx, Act.put, List.setIfInBounds_toArray, List.set_cons_zero, List.set_cons_succ]
      obtain ⟨e0, f0⟩ := cell_row row 0 _ rfl
      obtain ⟨e1, f1⟩ := cell_row row 1 _ rfl
      obtain ⟨e2, f2⟩ := cell_row row 2 _ rfl
      have fin := set_row (set_row (set_row row 0 (.int .u32 (hs : Nat))) 1 (.int .u32 (nd : Nat))) 2 (.bool false)
      have bF := ((hbu.setCell (p := ⟨p6, 0, none⟩) hge (.int .u32 (hs : Nat))).setCell (p := ⟨p6, 1, none⟩) hge (.int .u32 (nd : Nat))).setCell (p := ⟨p6, 2, none⟩) hge (.bool false)
      go_upto_region 7 with fail
      have R7 : Hid ((((w6.setCell ⟨p6, 0, none⟩ (.int .u32 (hs : Nat))).setCell ⟨p6, 1, none⟩ (.int .u32 (nd : Nat))).setCell ⟨p6, 2, none⟩ (.bool false)).heap[p6]? = some (.cells #[.int .u32 (hs : Nat), .int .u32 (nd : Nat), .bool false] 104 (0, 0))) := fin
      have B7 : Hid (Below X.heap.size X (((w6.setCell ⟨p6, 0, none⟩ (.int .u32 (hs : Nat))).setCell ⟨p6, 1, none⟩ (.int .u32 (nd : Nat))).setCell ⟨p6, 2, none⟩ (.bool false))) := bF
      clear fin bF e0 f0 e1 f1 e2 f2 row hbu
      generalize (((w6.setCell ⟨p6, 0, none⟩ (.int .u32 (hs : Nat))).setCell ⟨p6, 1, none⟩ (.int .u32 (nd : Nat))).setCell ⟨p6, 2, none⟩ (.bool false)) = w7 at R7 B7 ⊢
      have BR7 : Hid (Below wr.heap.size wr w7) := BX.out.trans (B7.out.mono (by omega))
      have L7 : Hid (Lv w.heap.size w7 g v (lvL T (Bs.take k) []) fr) := LR.out.below BR7.out
      have s7 := BR7.out.size
      have sw := hbel.out.size
      have g7 := L7.out.lt
      have p7 := (Array.getElem?_eq_some_iff.1 R7.out).1
      have gp : g ≠ p6 := by have := LR.out.lt; omega
      obtain ⟨ov, kv, hv⟩ := Row.form L7.out.row
      rw [ELN.out] at hv
      subst hv
      obtain ⟨y0, z0⟩ := cell_row L7.out.box 0 _ rfl
      obtain ⟨x0, _⟩ := cell_row R7.out 0 _ rfl
      obtain ⟨x1, _⟩ := cell_row R7.out 1 _ rfl
      obtain ⟨x2, _⟩ := cell_row R7.out 2 _ rfl
      have HOWN : Hid ((w7.alloc (.cells #[.int .u32 (hs : Nat), .int .u32 (nd : Nat), .bool false] 104)).ownsRow w.heap.size 104 3 (.slice ov k kv) k (enc 3 eG (lvL T (Bs.take k) []))) := by
        have h1 := Row.below L7.out.row ((Below.refl _ _).alloc (Nat.le_refl _) (.cells #[.int .u32 (hs : Nat), .int .u32 (nd : Nat), .bool false] 104))
        rw [Row, ELN.out] at h1
        exact h1
      have HSRC : Hid (Src (w7.alloc (.cells #[.int .u32 (hs : Nat), .int .u32 (nd : Nat), .bool false] 104)) (.slice (some ⟨w7.heap.size, 0, none⟩) 1 1) 1 3 [.int .u32 (hs : Nat), .int .u32 (nd : Nat), .bool false]) := own_src3 (own_built3 (B := 0) (Nat.zero_le _) (by unfold maxLen; omega) rfl)
      have HONE : Hid (∀ z ∈ ([.int .u32 (hs : Nat), .int .u32 (nd : Nat), .bool false] : List Value), z.oneCell' = true) := by intro z hz; simp at hz; rcases hz with rfl | rfl | rfl <;> rfl
      go_upto_region 8 with (first
        | (at_builtin; refine wpList_app elG rfl _ _ rfl rfl rfl HOWN.out HSRC.out HONE.out (by unfold maxLen; omega) (by omega) (by simp; omega) ?_; intro v' u8 hown hgr0 hbk; obtain ⟨ov', kv', rfl⟩ := row_shape3 hown; have hgr : (w7.alloc (.cells #[.int .u32 (hs : Nat), .int .u32 (nd : Nat), .bool false] 104)).grownBy u8 (Value.slice ov k kv).ownBlock := hgr0; have hb8 : u8.heap[g]? = some (.cells #[.slice ov k kv, .int .u32 (fr : Nat)] 102 (0, 0)) := (hgr.block g (by simp; omega) (fun e => L7.out.apart e.symm)).trans ((Below.heap_alloc w7 _ _ g7).trans L7.out.box); obtain ⟨zc8, zf8⟩ := cell_row hb8 0 _ rfl))
      have ow : ∀ q, (Value.slice ov k kv).ownBlock = some q → w.heap.size ≤ q ∧ q < wr.heap.size := fun q hq => World.ownsRow.lt LR.out.row q hq
      have R8 : u8.heap[p6]? = some (.cells #[.int .u32 (hs : Nat), .int .u32 (nd : Nat), .bool false] 104 (0, 0)) := (hgr.block p6 (by simp; omega) (fun e => by have := (ow p6 e.symm).2; omega)).trans ((Below.heap_alloc w7 _ _ p7).trans R7.out)
      have ap8 : ∀ q, (Value.slice ov' (k + 1) kv').ownBlock = some q → q ≠ g := fun q hq e => by
        subst e
        obtain ⟨c, hc⟩ : ∃ c, u8.heap[q]? = some (.cells c 104 (0, 0)) := by
          rcases hown.2 with ⟨h1, h2⟩ | ⟨g', cap', cur', h1, _, hg', _⟩
          · omega
          · rw [h1] at hq; cases hq; exact ⟨_, hg'⟩
        rw [hb8] at hc
        injection hc with h1
        injection h1 with _ h2
        revert h2
        decide
      have L9 : Hid (Lv w.heap.size (u8.setCell ⟨g, 0, none⟩ (.slice ov' (k + 1) kv')) g (.slice ov' (k + 1) kv') (lvL T (Bs.take (k + 1)) []) fr) := by
        refine ⟨?_, ?_, hgw⟩
        · show World.ownsRow _ _ _ _ _ _ _
          rw [SN.out, List.length_append, ELN.out, enc_append]
          have hr : (u8.setCell ⟨g, 0, none⟩ (.slice ov' (k + 1) kv')).ownsRow w.heap.size 104 3 (.slice ov' (k + 1) kv') (k + 1) (enc 3 eG (lvL T (Bs.take k) []) ++ [.int .u32 (hs : Nat), .int .u32 (nd : Nat), .bool false]) := by
            refine ⟨hown.1, ?_⟩
            rcases hown.2 with hn | ⟨g', cap', cur', h1, h2, hg', rest⟩
            · exact .inl hn
            · exact .inr ⟨g', cap', cur', h1, h2, (Below.heap_setCell _ _ _ _ (ap8 g' (by rw [h1]; rfl))).trans hg', rest⟩
          exact hr
        · rw [set_row hb8 0 (.slice ov' (k + 1) kv')]; rfl
      have R9 : Hid ((u8.setCell ⟨g, 0, none⟩ (.slice ov' (k + 1) kv')).heap[p6]? = some (.cells #[.int .u32 (hs : Nat), .int .u32 (nd : Nat), .bool false] 104 (0, 0))) := (Below.heap_setCell _ _ _ _ (fun e => gp e.symm)).trans R8
      have B9 : Hid (Below w.heap.size w (u8.setCell ⟨g, 0, none⟩ (.slice ov' (k + 1) kv'))) := by
        have h1 : Below w.heap.size w (w7.alloc (.cells #[.int .u32 (hs : Nat), .int .u32 (nd : Nat), .bool false] 104)) := (hbel.out.trans (BR7.out.mono sw)).alloc (by omega) _
        have h2 : Below w.heap.size w u8 := h1.grown hgr (by simp; omega) (fun i hi => (ow i hi).1)
        exact h2.setCell (p := ⟨g, 0, none⟩) hgw _
      clear hgr hgr0 hbk hown R8 ap8 hb8 zc8 zf8 y0 z0 x0 x1 x2 HOWN HSRC HONE
      generalize (u8.setCell ⟨g, 0, none⟩ (.slice ov' (k + 1) kv')) = w9 at L9 R9 B9 ⊢
      obtain ⟨y1, z1⟩ := cell_row L9.out.box 1 _ rfl
      obtain ⟨x0, _⟩ := cell_row R9.out 0 _ rfl
      have FIN : Hid (Lv w.heap.size (w9.setCell ⟨g, 1, none⟩ (.int .u32 ((fr : Int) - (hs : Int)))) g (.slice ov' (k + 1) kv') (lvL T (Bs.take (k + 1)) []) (freM T (Bs.take (k + 1)) [])) := by
        refine ⟨Row.block L9.out.row fun q hq => Below.heap_setCell _ _ _ _ (fun e => L9.out.apart (by rw [hq]; exact congrArg some e)), ?_, hgw⟩
        have := set_row L9.out.box 1 (.int .u32 ((fr : Int) - (hs : Int)))
        rw [this, ← EFN.out, show ((fr : Int) - (hs : Int)) = (fn : Int) by have := HSUM.out; omega]; rfl
      have BFIN : Hid (Below w.heap.size w (w9.setCell ⟨g, 1, none⟩ (.int .u32 ((fr : Int) - (hs : Int))))) := B9.out.setCell (p := ⟨g, 1, none⟩) hgw _
      go_wp2_with fail
      go_roundw
      case rel => exact ⟨k + 1, by omega, by go_num, ⟨_, FIN.out⟩, BFIN⟩
      case measure => simp [intOf]; omega
    case he1 =>
      intro p6 b w6 h
      obtain ⟨hbu, hp, h⟩ := h
      obtain ⟨row, hge⟩ := hp p6 rfl
      clear hp
      obtain rfl : b = _ := h
      refine ⟨by kernel_rfl, ?_⟩
      simp only [List.drop_succ_cons, List.drop_zero, bx, Act.put, List.setIfInBounds_toArray, List.set_cons_zero, List.set_cons_succ]
      obtain ⟨e0, f0⟩ := cell_row row 0 _ rfl
      obtain ⟨e1, f1⟩ := cell_row row 1 _ rfl
      obtain ⟨e2, f2⟩ := cell_row row 2 _ rfl
      have fin := set_row (set_row (set_row row 0 (.int .u32 (hs : Nat))) 1 (.int .u32 (nd : Nat))) 2 (.bool false)
      have bF := ((hbu.setCell (p := ⟨p6, 0, none⟩) hge (.int .u32 (hs : Nat))).setCell (p := ⟨p6, 1, none⟩) hge (.int .u32 (nd : Nat))).setCell (p := ⟨p6, 2, none⟩) hge (.bool false)
      go_upto_region 7 with fail
      have R7 : Hid ((((w6.setCell ⟨p6, 0, none⟩ (.int .u32 (hs : Nat))).setCell ⟨p6, 1, none⟩ (.int .u32 (nd : Nat))).setCell ⟨p6, 2, none⟩ (.bool false)).heap[p6]? = some (.cells #[.int .u32 (hs : Nat), .int .u32 (nd : Nat), .bool false] 104 (0, 0))) := fin
      have B7 : Hid (Below X.heap.size X (((w6.setCell ⟨p6, 0, none⟩ (.int .u32 (hs : Nat))).setCell ⟨p6, 1, none⟩ (.int .u32 (nd : Nat))).setCell ⟨p6, 2, none⟩ (.bool false))) := bF
      clear fin bF e0 f0 e1 f1 e2 f2 row hbu
      generalize (((w6.setCell ⟨p6, 0, none⟩ (.int .u32 (hs : Nat))).setCell ⟨p6, 1, none⟩ (.int .u32 (nd : Nat))).setCell ⟨p6, 2, none⟩ (.bool false)) = w7 at R7 B7 ⊢
      have BR7 : Hid (Below wr.heap.size wr w7) := BX.out.trans (B7.out.mono (by omega))
      have L7 : Hid (Lv w.heap.size w7 g v (lvL T (Bs.take k) []) fr) := LR.out.below BR7.out
      have s7 := BR7.out.size
      have sw := hbel.out.size
      have g7 := L7.out.lt
      have p7 := (Array.getElem?_eq_some_iff.1 R7.out).1
      have gp : g ≠ p6 := by have := LR.out.lt; omega
      obtain ⟨ov, kv, hv⟩ := Row.form L7.out.row
      rw [ELN.out] at hv
      subst hv
      obtain ⟨y0, z0⟩ := cell_row L7.out.box 0 _ rfl
      obtain ⟨x0, _⟩ := cell_row R7.out 0 _ rfl
      obtain ⟨x1, _⟩ := cell_row R7.out 1 _ rfl
      obtain ⟨x2, _⟩ := cell_row R7.out 2 _ rfl
      have HOWN : Hid ((w7.alloc (.cells #[.int .u32 (hs : Nat), .int .u32 (nd : Nat), .bool false] 104)).ownsRow w.heap.size 104 3 (.slice ov k kv) k (enc 3 eG (lvL T (Bs.take k) []))) := by
        have h1 := Row.below L7.out.row ((Below.refl _ _).alloc (Nat.le_refl _) (.cells #[.int .u32 (hs : Nat), .int .u32 (nd : Nat), .bool false] 104))
        rw [Row, ELN.out] at h1
        exact h1
      have HSRC : Hid (Src (w7.alloc (.cells #[.int .u32 (hs : Nat), .int .u32 (nd : Nat), .bool false] 104)) (.slice (some ⟨w7.heap.size, 0, none⟩) 1 1) 1 3 [.int .u32 (hs : Nat), .int .u32 (nd : Nat), .bool false]) := own_src3 (own_built3 (B := 0) (Nat.zero_le _) (by unfold maxLen; omega) rfl)
      have HONE : Hid (∀ z ∈ ([.int .u32 (hs : Nat), .int .u32 (nd : Nat), .bool false] : List Value), z.oneCell' = true) := by intro z hz; simp at hz; rcases hz with rfl | rfl | rfl <;> rfl
      go_upto_region 8 with (first
        | (at_builtin; refine wpList_app elG rfl _ _ rfl rfl rfl HOWN.out HSRC.out HONE.out (by unfold maxLen; omega) (by omega) (by simp; omega) ?_; intro v' u8 hown hgr0 hbk; obtain ⟨ov', kv', rfl⟩ := row_shape3 hown; have hgr : (w7.alloc (.cells #[.int .u32 (hs : Nat), .int .u32 (nd : Nat), .bool false] 104)).grownBy u8 (Value.slice ov k kv).ownBlock := hgr0; have hb8 : u8.heap[g]? = some (.cells #[.slice ov k kv, .int .u32 (fr : Nat)] 102 (0, 0)) := (hgr.block g (by simp; omega) (fun e => L7.out.apart e.symm)).trans ((Below.heap_alloc w7 _ _ g7).trans L7.out.box); obtain ⟨zc8, zf8⟩ := cell_row hb8 0 _ rfl))
      have ow : ∀ q, (Value.slice ov k kv).ownBlock = some q → w.heap.size ≤ q ∧ q < wr.heap.size := fun q hq => World.ownsRow.lt LR.out.row q hq
      have R8 : u8.heap[p6]? = some (.cells #[.int .u32 (hs : Nat), .int .u32 (nd : Nat), .bool false] 104 (0, 0)) := (hgr.block p6 (by simp; omega) (fun e => by have := (ow p6 e.symm).2; omega)).trans ((Below.heap_alloc w7 _ _ p7).trans R7.out)
      have ap8 : ∀ q, (Value.slice ov' (k + 1) kv').ownBlock = some q → q ≠ g := fun q hq e => by
        subst e
        obtain ⟨c, hc⟩ : ∃ c, u8.heap[q]? = some (.cells c 104 (0, 0)) := by
          rcases hown.2 with ⟨h1, h2⟩ | ⟨g', cap', cur', h1, _, hg', _⟩
          · omega
          · rw [h1] at hq; cases hq; exact ⟨_, hg'⟩
        rw [hb8] at hc
        injection hc with h1
        injection h1 with _ h2
        revert h2
        decide
      have L9 : Hid (Lv w.heap.size (u8.setCell ⟨g, 0, none⟩ (.slice ov' (k + 1) kv')) g (.slice ov' (k + 1) kv') (lvL T (Bs.take (k + 1)) []) fr) := by
        refine ⟨?_, ?_, hgw⟩
        · show World.ownsRow _ _ _ _ _ _ _
          rw [SN.out, List.length_append, ELN.out, enc_append]
          have hr : (u8.setCell ⟨g, 0, none⟩ (.slice ov' (k + 1) kv')).ownsRow w.heap.size 104 3 (.slice ov' (k + 1) kv') (k + 1) (enc 3 eG (lvL T (Bs.take k) []) ++ [.int .u32 (hs : Nat), .int .u32 (nd : Nat), .bool false]) := by
            refine ⟨hown.1, ?_⟩
            rcases hown.2 with hn | ⟨g', cap', cur', h1, h2, hg', rest⟩
            · exact .inl hn
            · exact .inr ⟨g', cap', cur', h1, h2, (Below.heap_setCell _ _ _ _ (ap8 g' (by rw [h1]; rfl))).trans hg', rest⟩
          exact hr
        · rw [set_row hb8 0 (.slice ov' (k + 1) kv')]; rfl
      have R9 : Hid ((u8.setCell ⟨g, 0, none⟩ (.slice ov' (k + 1) kv')).heap[p6]? = some (.cells #[.int .u32 (hs : Nat), .int .u32 (nd : Nat), .bool false] 104 (0, 0))) := (Below.heap_setCell _ _ _ _ (fun e => gp e.symm)).trans R8
      have B9 : Hid (Below w.heap.size w (u8.setCell ⟨g, 0, none⟩ (.slice ov' (k + 1) kv'))) := by
        have h1 : Below w.heap.size w (w7.alloc (.cells #[.int .u32 (hs : Nat), .int .u32 (nd : Nat), .bool false] 104)) := (hbel.out.trans (BR7.out.mono sw)).alloc (by omega) _
        have h2 : Below w.heap.size w u8 := h1.grown hgr (by simp; omega) (fun i hi => (ow i hi).1)
        exact h2.setCell (p := ⟨g, 0, none⟩) hgw _
      clear hgr hgr0 hbk hown R8 ap8 hb8 zc8 zf8 y0 z0 x0 x1 x2 HOWN HSRC HONE
      generalize (u8.setCell ⟨g, 0, none⟩ (.slice ov' (k + 1) kv')) = w9 at L9 R9 B9 ⊢
      obtain ⟨y1, z1⟩ := cell_row L9.out.box 1 _ rfl
      obtain ⟨x0, _⟩ := cell_row R9.out 0 _ rfl
      have FIN : Hid (Lv w.heap.size (w9.setCell ⟨g, 1, none⟩ (.int .u32 ((fr : Int) - (hs : Int)))) g (.slice ov' (k + 1) kv') (lvL T (Bs.take (k + 1)) []) (freM T (Bs.take (k + 1)) [])) := by
        refine ⟨Row.block L9.out.row fun q hq => Below.heap_setCell _ _ _ _ (fun e => L9.out.apart (by rw [hq]; exact congrArg some e)), ?_, hgw⟩
        have := set_row L9.out.box 1 (.int .u32 ((fr : Int) - (hs : Int)))
        rw [this, ← EFN.out, show ((fr : Int) - (hs : Int)) = (fn : Int) by have := HSUM.out; omega]; rfl
      have BFIN : Hid (Below w.heap.size w (w9.setCell ⟨g, 1, none⟩ (.int .u32 ((fr : Int) - (hs : Int))))) := B9.out.setCell (p := ⟨g, 1, none⟩) hgw _
      go_wp2_with fail
      go_roundw
      case rel => exact ⟨k + 1, by omega, by go_num, ⟨_, FIN.out⟩, BFIN⟩
      case measure => simp [intOf]; omega
end Go.Proofs.YtaejlcanccfmmaaGreatDoor
