/-
  Several texts in one.
-/
import Derived.Test.YthgnhjkkfhfgmabM49
import Derived.Test.YthgnhjkkfhfgmabZpa
import Derived.Laws.EntriesVeiled
import Derived.Test.YthgnhjkkfhfgmabZmc
import Derived.Test.YthgnhjkkfhfgmabZmd
/-
  Those who go one after the other are told off a book that is ok: the program's leavingOf.
-/
namespace Go.Proofs.Ythgnhjkkfhfgmab
open Go.RowKit Go.Sort

theorem own_built3 {w : World} {t : TypeId} {c : Array Value} {n k B : Nat} (hB : B ≤ w.heap.size) (hn : n ≤ maxLen) (hc : c.size = n * k) : (w.alloc (.cells c t)).ownsRow B t k (.slice (some ⟨w.heap.size, 0, none⟩) n n) n c.toList := by
  refine ⟨by simpa using hc, .inr ⟨w.heap.size, n, c, rfl, hB, heap_alloc_new w _, Nat.le_refl _, hn, by simp [hc], ?_⟩⟩
  rw [List.take_of_length_le (by simp [hc])]

theorem own_src3 {base e size n : Nat} {w : World} {v : Value} {xs : List Value} (h : w.ownsRow base e size v n xs) : Src w v n size xs := by
  refine ⟨h.1, ?_⟩
  rcases h.2 with ⟨rfl, hn⟩ | ⟨g, cap, cur, rfl, hb, hg, hc, hm, hs, ht⟩
  · exact .inl ⟨rfl, hn⟩
  · refine .inr ⟨_, _, rfl, fun j u hj => ?_⟩
    rw [add_at, Nat.zero_add]
    have hjl : j < n * size := by
      have := (List.getElem?_eq_some_iff.1 hj).1
      rw [h.1] at this; exact this
    have : cur.toList[j]? = some u := by
      rw [← ht, List.getElem?_take_of_lt hjl] at hj; exact hj
    have e : cur[j]? = some u := by simpa using this
    simp only [World.cell?, hg, e]; rfl

theorem row_shape3 {w : World} {base e size n : Nat} {v : Value} {xs : List Value} (h : w.ownsRow base e size v n xs) : ∃ oa cap, v = .slice oa n cap := by
  rcases h.2 with ⟨rfl, rfl⟩ | ⟨g, cap, cur, rfl, _⟩
  · exact ⟨_, _, rfl⟩
  · exact ⟨_, _, rfl⟩

set_option maxRecDepth 100000 in
set_option maxHeartbeats 16000000 in
theorem leavingOf_any (S : Nat → Prop) (T : List ByteArray) (Bs : List DShareBatch) (o0 oa : Option Addr) (n0 k0 nb kb : Nat) (w : World) (h0 : AtL S w T (.slice o0 n0 k0)) (h1 : AtL S w Bs (.slice oa nb kb)) (hS : ∀ b, S b → b < w.heap.size) (hok : BokP (T, Bs)) :
    Calls Try.prog 17 #[.agg #[.slice o0 n0 k0, .slice oa nb kb]] w fun e w' => ∃ g v, e = .returned (.pointer (some ⟨g, 0, none⟩)) ∧ Lv w.heap.size w' g v (lvL T Bs []) (freM T Bs []) ∧ Below w.heap.size w w' := by
  have H0 : Hid (∀ u, Below w.heap.size w u → AtL S u T (.slice o0 n0 k0)) := fun u hu => h0.same (Same.of_below hu hS)
  have H1 : Hid (∀ u, Below w.heap.size w u → AtL S u Bs (.slice oa nb kb)) := fun u hu => h1.same (Same.of_below hu hS)
  have HS : Hid (∀ u, Below w.heap.size w u → ∀ b, S b → b < u.heap.size) := fun u hu b hb => Nat.lt_of_lt_of_le (hS b hb) hu.size
  have enb : Bs.length = nb := by obtain ⟨_, _, e, _⟩ := h1; cases e; rfl
  have ENB : Hid (Bs.length ≤ nb ∧ nb ≤ Bs.length) := ⟨by omega, by omega⟩
  have hnb5 : nb ≤ 5 := by have := hok.len; simp only at this; omega
  have OK : Hid (BokP (T, Bs)) := hok
  have N8 : Hid (T.length ≤ 8) := (bok_things hok).1
  have ND : Hid T.Nodup := (bok_things hok).2
  clear h0 h1 enb hok
  obtain ⟨W, hW⟩ : ∃ W, W = w.alloc (.cells #[.slice o0 n0 k0, .slice oa nb kb] 26) := ⟨_, rfl⟩
  have EW : Hid (W = w.alloc (.cells #[.slice o0 n0 k0, .slice oa nb kb] 26)) := hW
  have BW : Hid (Below w.heap.size w W) := by rw [hW]; exact (Below.refl _ _).alloc (Nat.le_refl _) _
  have RW : Hid (W.heap[w.heap.size]? = some (.cells #[.slice o0 n0 k0, .slice oa nb kb] 26 (0, 0))) := by rw [hW]; exact heap_alloc_new w _
  have sW : w.heap.size + 1 ≤ W.heap.size := by rw [hW]; simp
  clear hW
  have y0 := (cell_row RW.out 0 (.slice o0 n0 k0) rfl).1
  have BT : Hid (Calls Try.prog 40 #[.slice o0 n0 k0, .slice o0 n0 k0] W fun e w' => e = .returned (.int .u32 (hasM T T : Nat)) ∧ w' = W) := bits_any S _ _ T T W (H0.out W BW.out) (H0.out W BW.out) N8.out ND.out ND.out (fun _ h => h)
  obtain ⟨f0, hf0⟩ : ∃ f, f = hasM T T := ⟨_, rfl⟩
  have EF0 : Hid (f0 = hasM T T) := hf0
  rw [← hf0] at BT
  clear hf0
  obtain ⟨U, hU⟩ : ∃ U, U = W.alloc (.cells #[.slice none 0 0, .int .u32 (f0 : Nat)] 72) := ⟨_, rfl⟩
  have EU : Hid (U = W.alloc (.cells #[.slice none 0 0, .int .u32 (f0 : Nat)] 72)) := hU
  have BU : Hid (Below w.heap.size w U) := by rw [hU]; exact BW.out.alloc (by omega) _
  obtain ⟨g, hg⟩ : ∃ g, g = W.heap.size := ⟨_, rfl⟩
  have EG : Hid (g = W.heap.size) := hg
  have hgw : w.heap.size ≤ g := by omega
  have LU : Hid (Lv w.heap.size U g (.slice none 0 0) (lvL T (Bs.take 0) []) (freM T (Bs.take 0) [])) := by
    refine ⟨Row.nil _ _ _ _ _, ?_, hgw⟩
    rw [hU, hg, free_none, ← EF0.out]
    exact heap_alloc_new W _
  have RU : Hid (U.heap[w.heap.size]? = some (.cells #[.slice o0 n0 k0, .slice oa nb kb] 26 (0, 0))) := by
    rw [hU]; exact (Below.heap_alloc W _ _ (by omega)).trans RW.out
  clear hU hg
  go_enter Try.func17, Try.ntmps17
  go_upto_region 1 with fail
  rw [← EW.out]
  go_wp2_with fail
  refine BT.out.mono ?_
  rintro e w1 ⟨rfl, rfl⟩
  go_upto_region 3 with fail
  rw [← EU.out]
  have y1 := (cell_row RU.out 1 (.slice oa nb kb) rfl).1
  rw [← EG.out]
  clear y0
  go_wp2_with fail
  clear y1
  go_loopw [17] (fun i wr => ∃ k : Nat, k ≤ nb ∧ i = .int .i64 k ∧ Hid (∃ v, Lv w.heap.size wr g v (lvL T (Bs.take k) []) (freM T (Bs.take k) [])) ∧ Hid (Below w.heap.size w wr)) (fun i _ => nb - (intOf i).toNat)
  case atStart => exact ⟨0, Nat.zero_le _, rfl, ⟨_, LU.out⟩, BU⟩
  case round =>
    obtain ⟨k, hk, rfl, hlv, hbel⟩ := hrel
    by_cases hlt : k < nb
    case neg =>
      go_wp2_with fail
      go_ret
      obtain ⟨v, hl⟩ := hlv.out
      have e : Bs.take k = Bs := List.take_of_length_le (by have := ENB.out; omega)
      rw [e] at hl
      exact ⟨g, v, rfl, hl, hbel.out⟩
    have hkb : k < Bs.length := by have := ENB.out; omega
    obtain ⟨v, hl⟩ := hlv.out
    have LR : Hid (Lv w.heap.size wr g v (lvL T (Bs.take k) []) (freM T (Bs.take k) [])) := hl
    clear hl hlv
    obtain ⟨bb, off, o1, n1, k1, o2, n2, k2, rfl, hbS, e0, e1, e2, a1, a2, z0⟩ := bat_at (H1.out wr hbel.out) k hkb
    have hbb := HS.out wr hbel.out bb hbS
    obtain ⟨⟨q1, s1⟩, ⟨q2, s2⟩⟩ := bok_lists OK.out k hkb
    obtain ⟨hs, hhs⟩ : ∃ x, x = hasM T Bs[k].2.1 := ⟨_, rfl⟩
    obtain ⟨nd, hnd⟩ : ∃ x, x = hasM T Bs[k].2.2 := ⟨_, rfl⟩
    have hs8 : hs < 256 := by rw [hhs]; exact hasM_lt N8.out _
    have nd8 : nd < 256 := by rw [hnd]; exact hasM_lt N8.out _
    obtain ⟨fr, hfr⟩ : ∃ x, x = freM T (Bs.take k) [] := ⟨_, rfl⟩
    have fr8 : fr < 256 := by rw [hfr]; exact freM_lt N8.out _ _
    obtain ⟨fn, hfn⟩ : ∃ x, x = freM T (Bs.take (k + 1)) [] := ⟨_, rfl⟩
    have hsum : fn + hs = fr := by rw [hfn, hhs, hfr]; exact free_next OK.out hkb
    have HSUM : Hid (fn + hs = fr) := hsum
    have hle : hs ≤ fr := by omega
    clear hsum
    have SN : Hid (lvL T (Bs.take (k + 1)) [] = lvL T (Bs.take k) [] ++ [(hs, nd, false)]) := by rw [hhs, hnd]; exact lv_snoc k hkb
    have ELN : Hid ((lvL T (Bs.take k) []).length = k) := by show _ = _; rw [lv_len, List.length_take]; omega
    rw [← hfr] at LR
    obtain ⟨nm, enm⟩ : ∃ x, Bs[k].1 = x := ⟨_, rfl⟩
    rw [enm] at e0
    have HC1 : Hid (∀ u, Below wr.heap.size wr u → Calls Try.prog 40 #[.slice o1 n1 k1, .slice o0 n0 k0] u fun e w' => e = .returned (.int .u32 (hs : Nat)) ∧ w' = u) := fun u hu => by
      rw [hhs]
      exact bits_any S _ _ _ T u (a1.same (Same.of_below hu (HS.out wr hbel.out))) (H0.out u (hbel.out.trans (hu.mono hbel.out.size))) N8.out ND.out q1 s1
    have HC2 : Hid (∀ u, Below wr.heap.size wr u → Calls Try.prog 40 #[.slice o2 n2 k2, .slice o0 n0 k0] u fun e w' => e = .returned (.int .u32 (nd : Nat)) ∧ w' = u) := fun u hu => by
      rw [hnd]
      exact bits_any S _ _ _ T u (a2.same (Same.of_below hu (HS.out wr hbel.out))) (H0.out u (hbel.out.trans (hu.mono hbel.out.size))) N8.out ND.out q2 s2
    have EFN : Hid (fn = freM T (Bs.take (k + 1)) []) := hfn
    clear a1 a2 q1 s1 q2 s2 hhs hnd hfr hfn enm z0
    obtain ⟨X, hX⟩ : ∃ X, X = wr.alloc (.cells #[.string nm, .slice o1 n1 k1, .slice o2 n2 k2] 46) := ⟨_, rfl⟩
    have EX : Hid (X = wr.alloc (.cells #[.string nm, .slice o1 n1 k1, .slice o2 n2 k2] 46)) := hX
    have BX : Hid (Below wr.heap.size wr X) := by rw [hX]; exact (Below.refl _ _).alloc (Nat.le_refl _) _
    have RX : Hid (X.heap[wr.heap.size]? = some (.cells #[.string nm, .slice o1 n1 k1, .slice o2 n2 k2] 46 (0, 0))) := by rw [hX]; exact heap_alloc_new wr _
    have sX : wr.heap.size + 1 ≤ X.heap.size := by rw [hX]; simp
    clear hX
    go_upto_region 6 with fail
    rw [← EX.out]
    clear e0 e1 e2
    have r1 := fun d os => cell_regrown (cell_row RX.out 1 (.slice o1 n1 k1) rfl).1 d os
    have r2 := fun d os => cell_regrown (cell_row RX.out 2 (.slice o2 n2 k2) rfl).1 d os
    go_wp2_with fail
    have hdr : Hid (Below X.heap.size X X.drew) := (Below.refl _ _).drew
    refine wp_region_head 10 [0, 1, 2, 4, 5, 6] (by kernel_rfl) (by kernel_rfl) ?_
    simp only [List.filterMap_cons, List.filterMap_nil, List.getElem?_cons_succ, List.getElem?_cons_zero]
    repeat (first | go_big_quiet_step (fail) | quiet_step (fail))
    refine wpQuiet_nil ?_
    clear r1 r2
    refine chainH_box0 (g := 0) (fun a0 o k a u => Below X.heap.size X u ∧ (∀ p, o = some p → u.heap[p]? = some (.cells #[.int .u32 0, .int .u32 0, .bool false] 74 (0, 0)) ∧ X.heap.size ≤ p) ∧ (match k with
      | 0 => a = bx 7 o a0
      | 1 => a = bx 7 o (a0.put (some 24) (.int .u32 (hs : Nat)))
      | 2 => a = bx 7 o ((a0.put (some 24) (.int .u32 (hs : Nat))).put (some 28) (.int .u32 (nd : Nat)))
      | _ => a = bx 7 o (((a0.put (some 24) (.int .u32 (hs : Nat))).put (some 28) (.int .u32 (nd : Nat))).put (some 29) (.agg #[.int .u32 (hs : Nat), .int .u32 (nd : Nat), .bool false])))) [3, 7, 8] 9 7 _ #[.int .u32 0, .int .u32 0, .bool false] 74 ⟨rfl, rfl, rfl, by decide⟩ (by decide) (by decide) ?exa (by kernel_rfl) ?hal ?hs ?h0 ?he ?he1
    case exa => intro b u; go_simp
    case h0 => exact ⟨hdr.out, fun p hp => (by cases hp), rfl⟩
    case hal =>
      intro k b u h
      obtain ⟨hb, _, h⟩ := h
      have hal := hb.alloc hb.size (.cells #[.int .u32 0, .int .u32 0, .bool false] 74)
      refine ⟨regrown_of_below hal, hal, fun p hp => (by cases hp; exact ⟨heap_alloc_new u _, hb.size⟩), ?_⟩
      match k, h with
      | 0, h => subst h; rfl
      | 1, h => subst h; rfl
      | 2, h => subst h; rfl
      | _ + 3, h => subst h; rfl
    case hs =>
      intro o j hj b u h
      obtain ⟨hb, hp, h⟩ := h
      have hbr : Below wr.heap.size wr u := BX.out.trans (hb.mono (by omega))
      have : j = 0 ∨ j = 1 ∨ j = 2 := (by simp at hj; omega)
      rcases this with rfl | rfl | rfl
      · simp only at h
        subst h
        refine stepH_call (fn := 40) (args := #[.slice o1 n1 k1, .slice o0 n0 k0]) rfl (wanted_none rfl _) (by cases o <;> simp only [bx, Act.put, List.setIfInBounds_toArray, List.set_cons_zero, List.set_cons_succ] <;> go_simp) ((HC1.out u hbr).mono fun e w' ⟨he, hw'⟩ => ⟨_, he, by rw [hw']; exact regrown_of_below hb, by rw [hw']; exact hb, by rw [hw']; exact hp, bx_put (by decide) o _ _⟩)
      · simp only at h
        subst h
        refine stepH_call (fn := 40) (args := #[.slice o2 n2 k2, .slice o0 n0 k0]) rfl (wanted_none rfl _) (by cases o <;> simp only [bx, Act.put, List.setIfInBounds_toArray, List.set_cons_zero, List.set_cons_succ] <;> go_simp) ((HC2.out u hbr).mono fun e w' ⟨he, hw'⟩ => ⟨_, he, by rw [hw']; exact regrown_of_below hb, by rw [hw']; exact hb, by rw [hw']; exact hp, bx_put (by decide) o _ _⟩)
      · simp only at h
        subst h
        refine stepH_value (.agg #[.int .u32 (hs : Nat), .int .u32 (nd : Nat), .bool false]) u rfl (wanted_none rfl _) (by cases o <;> simp only [bx, Act.put, List.setIfInBounds_toArray, List.set_cons_zero, List.set_cons_succ] <;> go_simp) ⟨regrown_of_below hb, hb, hp, bx_put (by decide) o _ _⟩
    case he =>
      intro b u h
      obtain ⟨hb, _, h⟩ := h
      obtain rfl : b = _ := h
      have hbu : Below X.heap.size X (u.alloc (.cells #[.int .u32 0, .int .u32 0, .bool false] 74)) := hb.alloc hb.size _
      have row : (u.alloc (.cells #[.int .u32 0, .int .u32 0, .bool false] 74)).heap[u.heap.size]? = some (.cells #[.int .u32 0, .int .u32 0, .bool false] 74 (0, 0)) := heap_alloc_new u _
      refine oneH (f := 0) (i := 9) (.pointer (some ⟨u.heap.size, 0, none⟩)) (u.alloc (.cells #[.int .u32 0, .int .u32 0, .bool false] 74)) ⟨rfl, by decide⟩ (by kernel_rfl) (wanted_none rfl _) ?run (regrown_of_below hbu) ?_
      case run => go_simp
      have hge := hb.size
      clear hb
      generalize u.alloc (.cells #[.int .u32 0, .int .u32 0, .bool false] 74) = w6 at hbu row ⊢
      generalize u.heap.size = p6 at row hge ⊢
      refine ⟨by kernel_rfl, ?_⟩
      simp only [List.drop_succ_cons, List.drop_zero, bx, Act.put, List.setIfInBounds_toArray, List.set_cons_zero, List.set_cons_succ]
      obtain ⟨e0, f0⟩ := cell_row row 0 _ rfl
      obtain ⟨e1, f1⟩ := cell_row row 1 _ rfl
      obtain ⟨e2, f2⟩ := cell_row row 2 _ rfl
      have fin := set_row (set_row (set_row row 0 (.int .u32 (hs : Nat))) 1 (.int .u32 (nd : Nat))) 2 (.bool false)
      have bF := ((hbu.setCell (p := ⟨p6, 0, none⟩) hge (.int .u32 (hs : Nat))).setCell (p := ⟨p6, 1, none⟩) hge (.int .u32 (nd : Nat))).setCell (p := ⟨p6, 2, none⟩) hge (.bool false)
      go_upto_region 7 with fail
      have R7 : Hid ((((w6.setCell ⟨p6, 0, none⟩ (.int .u32 (hs : Nat))).setCell ⟨p6, 1, none⟩ (.int .u32 (nd : Nat))).setCell ⟨p6, 2, none⟩ (.bool false)).heap[p6]? = some (.cells #[.int .u32 (hs : Nat), .int .u32 (nd : Nat), .bool false] 74 (0, 0))) := fin
      have B7 : Hid (Below X.heap.size X (((w6.setCell ⟨p6, 0, none⟩ (.int .u32 (hs : Nat))).setCell ⟨p6, 1, none⟩ (.int .u32 (nd : Nat))).setCell ⟨p6, 2, none⟩ (.bool false))) := bF
      clear fin bF e0 f0 e1 f1 e2 f2 row hbu
      generalize (((w6.setCell ⟨p6, 0, none⟩ (.int .u32 (hs : Nat))).setCell ⟨p6, 1, none⟩ (.int .u32 (nd : Nat))).setCell ⟨p6, 2, none⟩ (.bool false)) = w7 at R7 B7 ⊢
      have BR7 : Hid (Below wr.heap.size wr w7) := BX.out.trans (B7.out.mono (by omega))
      have L7 : Hid (Lv w.heap.size w7 g v (lvL T (Bs.take k) []) fr) := LR.out.below BR7.out
      have s7 := BR7.out.size
      have sw := hbel.out.size
      have g7 := L7.out.lt
      have p7 := (Array.getElem?_eq_some_iff.1 R7.out).1
      have gp : g ≠ p6 := by have := LR.out.lt; omega
      obtain ⟨ov, kv, hv⟩ := Row.form L7.out.row
      rw [ELN.out] at hv
      subst hv
      obtain ⟨y0, z0⟩ := cell_row L7.out.box 0 _ rfl
      obtain ⟨x0, _⟩ := cell_row R7.out 0 _ rfl
      obtain ⟨x1, _⟩ := cell_row R7.out 1 _ rfl
      obtain ⟨x2, _⟩ := cell_row R7.out 2 _ rfl
      have HOWN : Hid ((w7.alloc (.cells #[.int .u32 (hs : Nat), .int .u32 (nd : Nat), .bool false] 74)).ownsRow w.heap.size 74 3 (.slice ov k kv) k (enc 3 eG (lvL T (Bs.take k) []))) := by
        have h1 := Row.below L7.out.row ((Below.refl _ _).alloc (Nat.le_refl _) (.cells #[.int .u32 (hs : Nat), .int .u32 (nd : Nat), .bool false] 74))
        rw [Row, ELN.out] at h1
        exact h1
      have HSRC : Hid (Src (w7.alloc (.cells #[.int .u32 (hs : Nat), .int .u32 (nd : Nat), .bool false] 74)) (.slice (some ⟨w7.heap.size, 0, none⟩) 1 1) 1 3 [.int .u32 (hs : Nat), .int .u32 (nd : Nat), .bool false]) := own_src3 (own_built3 (B := 0) (Nat.zero_le _) (by unfold maxLen; omega) rfl)
      have HONE : Hid (∀ z ∈ ([.int .u32 (hs : Nat), .int .u32 (nd : Nat), .bool false] : List Value), z.oneCell' = true) := by intro z hz; simp at hz; rcases hz with rfl | rfl | rfl <;> rfl
      go_upto_region 8 with (first
        | (at_builtin; refine wpList_app elG rfl _ _ rfl rfl rfl HOWN.out HSRC.out HONE.out (by unfold maxLen; omega) (by omega) (by simp; omega) ?_; intro v' u8 hown hgr0 hbk; obtain ⟨ov', kv', rfl⟩ := row_shape3 hown; have hgr : (w7.alloc (.cells #[.int .u32 (hs : Nat), .int .u32 (nd : Nat), .bool false] 74)).grownBy u8 (Value.slice ov k kv).ownBlock := hgr0; have hb8 : u8.heap[g]? = some (.cells #[.slice ov k kv, .int .u32 (fr : Nat)] 72 (0, 0)) := (hgr.block g (by simp; omega) (fun e => L7.out.apart e.symm)).trans ((Below.heap_alloc w7 _ _ g7).trans L7.out.box); obtain ⟨zc8, zf8⟩ := cell_row hb8 0 _ rfl))
      have ow : ∀ q, (Value.slice ov k kv).ownBlock = some q → w.heap.size ≤ q ∧ q < wr.heap.size := fun q hq => World.ownsRow.lt LR.out.row q hq
      have R8 : u8.heap[p6]? = some (.cells #[.int .u32 (hs : Nat), .int .u32 (nd : Nat), .bool false] 74 (0, 0)) := (hgr.block p6 (by simp; omega) (fun e => by have := (ow p6 e.symm).2; omega)).trans ((Below.heap_alloc w7 _ _ p7).trans R7.out)
      have ap8 : ∀ q, (Value.slice ov' (k + 1) kv').ownBlock = some q → q ≠ g := fun q hq e => by
        subst e
        obtain ⟨c, hc⟩ : ∃ c, u8.heap[q]? = some (.cells c 74 (0, 0)) := by
          rcases hown.2 with ⟨h1, h2⟩ | ⟨g', cap', cur', h1, _, hg', _⟩
          · omega
          · rw [h1] at hq; cases hq; exact ⟨_, hg'⟩
        rw [hb8] at hc
        injection hc with h1
        injection h1 with _ h2
        revert h2
        decide
      have L9 : Hid (Lv w.heap.size (u8.setCell ⟨g, 0, none⟩ (.slice ov' (k + 1) kv')) g (.slice ov' (k + 1) kv') (lvL T (Bs.take (k + 1)) []) fr) := by
        refine ⟨?_, ?_, hgw⟩
        · show World.ownsRow _ _ _ _ _ _ _
          rw [SN.out, List.length_append, ELN.out, enc_append]
          have hr : (u8.setCell ⟨g, 0, none⟩ (.slice ov' (k + 1) kv')).ownsRow w.heap.size 74 3 (.slice ov' (k + 1) kv') (k + 1) (enc 3 eG (lvL T (Bs.take k) []) ++ [.int .u32 (hs : Nat), .int .u32 (nd : Nat), .bool false]) := by
            refine ⟨hown.1, ?_⟩
            rcases hown.2 with hn | ⟨g', cap', cur', h1, h2, hg', rest⟩
            · exact .inl hn
            · exact .inr ⟨g', cap', cur', h1, h2, (Below.heap_setCell _ _ _ _ (ap8 g' (by rw [h1]; rfl))).trans hg', rest⟩
          exact hr
        · rw [set_row hb8 0 (.slice ov' (k + 1) kv')]; rfl
      have R9 : Hid ((u8.setCell ⟨g, 0, none⟩ (.slice ov' (k + 1) kv')).heap[p6]? = some (.cells #[.int .u32 (hs : Nat), .int .u32 (nd : Nat), .bool false] 74 (0, 0))) := (Below.heap_setCell _ _ _ _ (fun e => gp e.symm)).trans R8
      have B9 : Hid (Below w.heap.size w (u8.setCell ⟨g, 0, none⟩ (.slice ov' (k + 1) kv'))) := by
        have h1 : Below w.heap.size w (w7.alloc (.cells #[.int .u32 (hs : Nat), .int .u32 (nd : Nat), .bool false] 74)) := (hbel.out.trans (BR7.out.mono sw)).alloc (by omega) _
        have h2 : Below w.heap.size w u8 := h1.grown hgr (by simp; omega) (fun i hi => (ow i hi).1)
        exact h2.setCell (p := ⟨g, 0, none⟩) hgw _
      clear hgr hgr0 hbk hown R8 ap8 hb8 zc8 zf8 y0 z0 x0 x1 x2 HOWN HSRC HONE
      generalize (u8.setCell ⟨g, 0, none⟩ (.slice ov' (k + 1) kv')) = w9 at L9 R9 B9 ⊢
      obtain ⟨y1, z1⟩ := cell_row L9.out.box 1 _ rfl
      obtain ⟨x0, _⟩ := cell_row R9.out 0 _ rfl
      have FIN : Hid (Lv w.heap.size (w9.setCell ⟨g, 1, none⟩ (.int .u32 ((fr : Int) - (hs : Int)))) g (.slice ov' (k + 1) kv') (lvL T (Bs.take (k + 1)) []) (freM T (Bs.take (k + 1)) [])) := by
        refine ⟨Row.block L9.out.row fun q hq => Below.heap_setCell _ _ _ _ (fun e => L9.out.apart (by rw [hq]; exact congrArg some e)), ?_, hgw⟩
        have := set_row L9.out.box 1 (.int .u32 ((fr : Int) - (hs : Int)))
        rw [this, ← EFN.out, show ((fr : Int) - (hs : Int)) = (fn : Int) by have := HSUM.out; omega]; rfl
      have BFIN : Hid (Below w.heap.size w (w9.setCell ⟨g, 1, none⟩ (.int .u32 ((fr : Int) - (hs : Int))))) := B9.out.setCell (p := ⟨g, 1, none⟩) hgw _
      go_wp2_with fail
      go_roundw
      case rel => exact ⟨k + 1, by omega, by go_num, ⟨_, FIN.out⟩, BFIN⟩
      case measure => simp [intOf]; omega
    case he1 =>
      intro p6 b w6 h
      obtain ⟨hbu, hp, h⟩ := h
      obtain ⟨row, hge⟩ := hp p6 rfl
      clear hp
      obtain rfl : b = _ := h
      refine ⟨by kernel_rfl, ?_⟩
      simp only [List.drop_succ_cons, List.drop_zero, bx, Act.put, List.setIfInBounds_toArray, List.set_cons_zero, List.set_cons_succ]
      obtain ⟨e0, f0⟩ := cell_row row 0 _ rfl
      obtain ⟨e1, f1⟩ := cell_row row 1 _ rfl
      obtain ⟨e2, f2⟩ := cell_row row 2 _ rfl
      have fin := set_row (set_row (set_row row 0 (.int .u32 (hs : Nat))) 1 (.int .u32 (nd : Nat))) 2 (.bool false)
      have bF := ((hbu.setCell (p := ⟨p6, 0, none⟩) hge (.int .u32 (hs : Nat))).setCell (p := ⟨p6, 1, none⟩) hge (.int .u32 (nd : Nat))).setCell (p := ⟨p6, 2, none⟩) hge (.bool false)
      go_upto_region 7 with fail
      have R7 : Hid ((((w6.setCell ⟨p6, 0, none⟩ (.int .u32 (hs : Nat))).setCell ⟨p6, 1, none⟩ (.int .u32 (nd : Nat))).setCell ⟨p6, 2, none⟩ (.bool false)).heap[p6]? = some (.cells #[.int .u32 (hs : Nat), .int .u32 (nd : Nat), .bool false] 74 (0, 0))) := fin
      have B7 : Hid (Below X.heap.size X (((w6.setCell ⟨p6, 0, none⟩ (.int .u32 (hs : Nat))).setCell ⟨p6, 1, none⟩ (.int .u32 (nd : Nat))).setCell ⟨p6, 2, none⟩ (.bool false))) := bF
      clear fin bF e0 f0 e1 f1 e2 f2 row hbu
      generalize (((w6.setCell ⟨p6, 0, none⟩ (.int .u32 (hs : Nat))).setCell ⟨p6, 1, none⟩ (.int .u32 (nd : Nat))).setCell ⟨p6, 2, none⟩ (.bool false)) = w7 at R7 B7 ⊢
      have BR7 : Hid (Below wr.heap.size wr w7) := BX.out.trans (B7.out.mono (by omega))
      have L7 : Hid (Lv w.heap.size w7 g v (lvL T (Bs.take k) []) fr) := LR.out.below BR7.out
      have s7 := BR7.out.size
      have sw := hbel.out.size
      have g7 := L7.out.lt
      have p7 := (Array.getElem?_eq_some_iff.1 R7.out).1
      have gp : g ≠ p6 := by have := LR.out.lt; omega
      obtain ⟨ov, kv, hv⟩ := Row.form L7.out.row
      rw [ELN.out] at hv
      subst hv
      obtain ⟨y0, z0⟩ := cell_row L7.out.box 0 _ rfl
      obtain ⟨x0, _⟩ := cell_row R7.out 0 _ rfl
      obtain ⟨x1, _⟩ := cell_row R7.out 1 _ rfl
      obtain ⟨x2, _⟩ := cell_row R7.out 2 _ rfl
      have HOWN : Hid ((w7.alloc (.cells #[.int .u32 (hs : Nat), .int .u32 (nd : Nat), .bool false] 74)).ownsRow w.heap.size 74 3 (.slice ov k kv) k (enc 3 eG (lvL T (Bs.take k) []))) := by
        have h1 := Row.below L7.out.row ((Below.refl _ _).alloc (Nat.le_refl _) (.cells #[.int .u32 (hs : Nat), .int .u32 (nd : Nat), .bool false] 74))
        rw [Row, ELN.out] at h1
        exact h1
      have HSRC : Hid (Src (w7.alloc (.cells #[.int .u32 (hs : Nat), .int .u32 (nd : Nat), .bool false] 74)) (.slice (some ⟨w7.heap.size, 0, none⟩) 1 1) 1 3 [.int .u32 (hs : Nat), .int .u32 (nd : Nat), .bool false]) := own_src3 (own_built3 (B := 0) (Nat.zero_le _) (by unfold maxLen; omega) rfl)
      have HONE : Hid (∀ z ∈ ([.int .u32 (hs : Nat), .int .u32 (nd : Nat), .bool false] : List Value), z.oneCell' = true) := by intro z hz; simp at hz; rcases hz with rfl | rfl | rfl <;> rfl
      go_upto_region 8 with (first
        | (at_builtin; refine wpList_app elG rfl _ _ rfl rfl rfl HOWN.out HSRC.out HONE.out (by unfold maxLen; omega) (by omega) (by simp; omega) ?_; intro v' u8 hown hgr0 hbk; obtain ⟨ov', kv', rfl⟩ := row_shape3 hown; have hgr : (w7.alloc (.cells #[.int .u32 (hs : Nat), .int .u32 (nd : Nat), .bool false] 74)).grownBy u8 (Value.slice ov k kv).ownBlock := hgr0; have hb8 : u8.heap[g]? = some (.cells #[.slice ov k kv, .int .u32 (fr : Nat)] 72 (0, 0)) := (hgr.block g (by simp; omega) (fun e => L7.out.apart e.symm)).trans ((Below.heap_alloc w7 _ _ g7).trans L7.out.box); obtain ⟨zc8, zf8⟩ := cell_row hb8 0 _ rfl))
      have ow : ∀ q, (Value.slice ov k kv).ownBlock = some q → w.heap.size ≤ q ∧ q < wr.heap.size := fun q hq => World.ownsRow.lt LR.out.row q hq
      have R8 : u8.heap[p6]? = some (.cells #[.int .u32 (hs : Nat), .int .u32 (nd : Nat), .bool false] 74 (0, 0)) := (hgr.block p6 (by simp; omega) (fun e => by have := (ow p6 e.symm).2; omega)).trans ((Below.heap_alloc w7 _ _ p7).trans R7.out)
      have ap8 : ∀ q, (Value.slice ov' (k + 1) kv').ownBlock = some q → q ≠ g := fun q hq e => by
        subst e
        obtain ⟨c, hc⟩ : ∃ c, u8.heap[q]? = some (.cells c 74 (0, 0)) := by
          rcases hown.2 with ⟨h1, h2⟩ | ⟨g', cap', cur', h1, _, hg', _⟩
          · omega
          · rw [h1] at hq; cases hq; exact ⟨_, hg'⟩
        rw [hb8] at hc
        injection hc with h1
        injection h1 with _ h2
        revert h2
        decide
      have L9 : Hid (Lv w.heap.size (u8.setCell ⟨g, 0, none⟩ (.slice ov' (k + 1) kv')) g (.slice ov' (k + 1) kv') (lvL T (Bs.take (k + 1)) []) fr) := by
        refine ⟨?_, ?_, hgw⟩
        · show World.ownsRow _ _ _ _ _ _ _
          rw [SN.out, List.length_append, ELN.out, enc_append]
          have hr : (u8.setCell ⟨g, 0, none⟩ (.slice ov' (k + 1) kv')).ownsRow w.heap.size 74 3 (.slice ov' (k + 1) kv') (k + 1) (enc 3 eG (lvL T (Bs.take k) []) ++ [.int .u32 (hs : Nat), .int .u32 (nd : Nat), .bool false]) := by
            refine ⟨hown.1, ?_⟩
            rcases hown.2 with hn | ⟨g', cap', cur', h1, h2, hg', rest⟩
            · exact .inl hn
            · exact .inr ⟨g', cap', cur', h1, h2, (Below.heap_setCell _ _ _ _ (ap8 g' (by rw [h1]; rfl))).trans hg', rest⟩
          exact hr
        · rw [set_row hb8 0 (.slice ov' (k + 1) kv')]; rfl
      have R9 : Hid ((u8.setCell ⟨g, 0, none⟩ (.slice ov' (k + 1) kv')).heap[p6]? = some (.cells #[.int .u32 (hs : Nat), .int .u32 (nd : Nat), .bool false] 74 (0, 0))) := (Below.heap_setCell _ _ _ _ (fun e => gp e.symm)).trans R8
      have B9 : Hid (Below w.heap.size w (u8.setCell ⟨g, 0, none⟩ (.slice ov' (k + 1) kv'))) := by
        have h1 : Below w.heap.size w (w7.alloc (.cells #[.int .u32 (hs : Nat), .int .u32 (nd : Nat), .bool false] 74)) := (hbel.out.trans (BR7.out.mono sw)).alloc (by omega) _
        have h2 : Below w.heap.size w u8 := h1.grown hgr (by simp; omega) (fun i hi => (ow i hi).1)
        exact h2.setCell (p := ⟨g, 0, none⟩) hgw _
      clear hgr hgr0 hbk hown R8 ap8 hb8 zc8 zf8 y0 z0 x0 x1 x2 HOWN HSRC HONE
      generalize (u8.setCell ⟨g, 0, none⟩ (.slice ov' (k + 1) kv')) = w9 at L9 R9 B9 ⊢
      obtain ⟨y1, z1⟩ := cell_row L9.out.box 1 _ rfl
      obtain ⟨x0, _⟩ := cell_row R9.out 0 _ rfl
      have FIN : Hid (Lv w.heap.size (w9.setCell ⟨g, 1, none⟩ (.int .u32 ((fr : Int) - (hs : Int)))) g (.slice ov' (k + 1) kv') (lvL T (Bs.take (k + 1)) []) (freM T (Bs.take (k + 1)) [])) := by
        refine ⟨Row.block L9.out.row fun q hq => Below.heap_setCell _ _ _ _ (fun e => L9.out.apart (by rw [hq]; exact congrArg some e)), ?_, hgw⟩
        have := set_row L9.out.box 1 (.int .u32 ((fr : Int) - (hs : Int)))
        rw [this, ← EFN.out, show ((fr : Int) - (hs : Int)) = (fn : Int) by have := HSUM.out; omega]; rfl
      have BFIN : Hid (Below w.heap.size w (w9.setCell ⟨g, 1, none⟩ (.int .u32 ((fr : Int) - (hs : Int))))) := B9.out.setCell (p := ⟨g, 1, none⟩) hgw _
      go_wp2_with fail
      go_roundw
      case rel => exact ⟨k + 1, by omega, by go_num, ⟨_, FIN.out⟩, BFIN⟩
      case measure => simp [intOf]; omega

end Go.Proofs.Ythgnhjkkfhfgmab

/-
  Where a batch stands in a book of shares, by the program.
-/
namespace Go.Proofs.Ythgnhjkkfhfgmab
open Go.RowKit


set_option maxRecDepth 100000 in
set_option maxHeartbeats 4000000 in
theorem batchAtIs_any (a x : ByteArray) (a1 a2 : Value) (nb : Nat) (w : World) (hx : w.cell? ⟨nb, 0, none⟩ = some (.string x)) (hnb : nb < w.heap.size) :
    Calls Try.prog 54 #[.agg #[.string a, a1, a2], .pointer (some ⟨nb, 0, none⟩)] w fun e w' => e = .returned (.bool (eqB a x)) ∧ Below w.heap.size w w' := by
  have hx' := fun o => cell_past hx hnb o
  go_enter Try.func54, Try.ntmps54
  go_wp2
  go_ret
  exact ⟨rfl, (Below.refl _ _).alloc (Nat.le_refl _) _⟩

set_option maxRecDepth 100000 in
set_option maxHeartbeats 4000000 in
theorem batchAtIdx_any (S : Nat → Prop) (v : Value) (l : List DShareBatch) (x : ByteArray) (nb : Nat) (w : World) (h : AtL S w l v) (hS : ∀ b, S b → b < w.heap.size) (hx : w.cell? ⟨nb, 0, none⟩ = some (.string x)) (hnb : nb < w.heap.size) :
    Calls Try.prog 53 #[v, .func (.func 54) #[] #[.pointer (some ⟨nb, 0, none⟩)]] w fun e w' => e = .returned (.int .i64 (idxI l (fun p : DShareBatch => eqB p.1 x))) ∧ Below w.heap.size w w' := by
  obtain ⟨oa, cap, rfl, hn, hc⟩ := h
  obtain ⟨n, en⟩ : ∃ n, l.length = n := ⟨_, rfl⟩
  rw [en] at hn
  rw [en]
  unfold maxLen at hn
  have HC : Hid _ := hc
  have HX : Hid _ := hx
  clear hc hx
  go_enter Try.func53, Try.ntmps53
  go_wp2
  go_loopw [8] (fun i wr => ∃ k : Nat, k ≤ n ∧ i = .int .i64 k ∧ Hid (∀ j (hj : j < l.length), j < k → eqB l[j].1 x = false) ∧ Hid (Below w.heap.size w wr)) (fun i _ => n - (intOf i).toNat)
  case atStart => exact ⟨0, Nat.zero_le _, rfl, fun _ _ h => by omega, Below.refl _ _⟩
  case round =>
    obtain ⟨k, hk, rfl, hno, hbel⟩ := hrel
    have hs := hbel.out.size
    by_cases hlt : k < n
    · obtain ⟨b, off, rfl, hbS, ce, hcelle, hate⟩ := HC.out k (by omega)
      have hbb := hS b hbS
      have hbw := hbel.out
      rw [width_DShareBatch] at hcelle
      have e0 : wr.cell? ⟨b, off + k * 3, none⟩ = some (ce 0) := (hbw.cell (p := ⟨b, off + k * 3, none⟩) (by show b < _; omega)).trans (by simpa using hcelle 0 (by omega))
      have e1 : wr.cell? ⟨b, off + k * 3 + 1, none⟩ = some (ce 1) := (hbw.cell (p := ⟨b, off + k * 3 + 1, none⟩) (by show b < _; omega)).trans (by simpa using hcelle 1 (by omega))
      have e2 : wr.cell? ⟨b, off + k * 3 + 2, none⟩ = some (ce 2) := (hbw.cell (p := ⟨b, off + k * 3 + 2, none⟩) (by show b < _; omega)).trans (by simpa using hcelle 2 (by omega))
      clear hcelle
      have hate := Lay.same hate (Same.of_below hbw hS)
      rw [at_DShareBatch] at hate
      obtain ⟨ef, eef⟩ : ∃ f, l[k]'(by omega) = f := ⟨_, rfl⟩
      rw [eef] at hate
      obtain ⟨⟨te0, ze0⟩, le1, le2⟩ := hate
      obtain ⟨soe1, sce1, te1, _⟩ := id le1
      clear le1
      obtain ⟨soe2, sce2, te2, _⟩ := id le2
      clear le2
      rw [te0] at e0
      rw [te1] at e1
      rw [te2] at e2
      clear te0 te1 te2
      clear hbw
      have HXR : Hid (wr.cell? ⟨nb, 0, none⟩ = some (.string x)) := (hbel.out.cell (p := ⟨nb, 0, none⟩) hnb).trans HX.out
      cases hy : eqB ef.1 x
      · go_wp2_with (go_at_call 54; refine (batchAtIs_any _ x _ _ nb _ HXR.out (by omega)).mono ?_; rintro e w1 ⟨rfl, hb1⟩; rw [hy])
        go_roundw
        case rel => exact ⟨k + 1, by omega, by go_num, fun j hj hjk => by
          by_cases e : j = k
          · subst e; rw [eef]; exact hy
          · exact hno.out j hj (by omega), hbel.out.trans (hb1.mono hs)⟩
        case measure => simp [intOf]; omega
      · go_wp2_with (go_at_call 54; refine (batchAtIs_any _ x _ _ nb _ HXR.out (by omega)).mono ?_; rintro e w1 ⟨rfl, hb1⟩; rw [hy])
        rw [idx_yes (k := k) (by omega) (by rw [eef]; exact hy) hno.out]
        go_ret
        exact ⟨rfl, hbel.out.trans (hb1.mono hs)⟩
    · go_wp2
      go_ret
      rw [idx_no (fun j hj => hno.out j hj (by omega))]
      exact ⟨rfl, hbel.out⟩

set_option maxRecDepth 100000 in
set_option maxHeartbeats 4000000 in
theorem batchAtI_any (S : Nat → Prop) (v0 v1 : Value) (l : List DShareBatch) (x : ByteArray) (w : World) (h : AtL S w l v1) (hS : ∀ b, S b → b < w.heap.size) :
    Calls Try.prog 30 #[.agg #[v0, v1], .string x] w fun e w' => e = .returned (.int .i64 (idxI l (fun p : DShareBatch => eqB p.1 x))) ∧ Below w.heap.size w w' := by
  have hmf : ∀ (fn : Fn) (first cap : Array Value) (w : World), (Instr.makeFunc fn first cap).run Try.prog w = .ok (.func fn first cap) w := fun _ _ _ _ => rfl
  have H : Hid (∀ o1 o2, AtL S ((w.alloc o1).alloc o2) l v1) := fun o1 o2 => h.same (Same.of_below (((Below.refl _ _).alloc (Nat.le_refl _) o1).alloc (by simp) o2) hS)
  have HS : Hid (∀ o1 o2 b, S b → b < ((w.alloc o1).alloc o2).heap.size) := fun o1 o2 b hb => by have := hS b hb; simp; omega
  clear h
  go_enter Try.func30, Try.ntmps30
  go_wp2_with (go_at_call 53; refine (batchAtIdx_any S v1 l x (w.heap.size + 1) _ (H.out _ _) (HS.out _ _) (by simp) (by simp)).mono ?_; rintro e w1 ⟨rfl, hb1⟩)
  go_ret
  exact ⟨rfl, (((Below.refl _ _).alloc (Nat.le_refl _) _).alloc (by simp) _).trans (hb1.mono (by simp; omega))⟩

end Go.Proofs.Ythgnhjkkfhfgmab

/-
  The model's ShareFits.
-/
namespace Go.Proofs.Ythgnhjkkfhfgmab
open Go.RowKit Go.Sort

theorem atl_take {α : Type} [Lay α] {S : Nat → Prop} {w : World} {l : List α} {oa : Option Addr} {n cap : Nat} (h : AtL S w l (.slice oa n cap)) (m : Nat) (hm : m ≤ n) : AtL S w (l.take m) (.slice oa m cap) := by
  obtain ⟨oa', cap', e, ⟨h1, h2, h3⟩, hc⟩ := h
  cases e
  have el : (l.take m).length = m := by rw [List.length_take]; omega
  refine ⟨oa, cap, by rw [el], ⟨by omega, by omega, h3⟩, fun i hi => ?_⟩
  obtain ⟨b, off, g1, g2, c, g3, g4⟩ := hc i (by omega)
  refine ⟨b, off, g1, g2, c, g3, ?_⟩
  rw [List.getElem_take]; exact g4
theorem atl_str {S : Nat → Prop} {w : World} {l : List ByteArray} {oa : Option Addr} {n cap : Nat} (h : AtL S w l (.slice oa n cap)) (i : Nat) (hi : i < l.length) : ∃ b off, oa = some ⟨b, off, none⟩ ∧ S b ∧ w.cell? ⟨b, off + i, none⟩ = some (.string l[i]) := by
  obtain ⟨oa', cap', e, _, hc⟩ := h
  cases e
  obtain ⟨b, off, g1, g2, c, g3, g4⟩ := hc i hi
  rw [width_str] at g3
  rw [at_str] at g4
  refine ⟨b, off, g1, g2, ?_⟩
  have e0 : w.cell? ⟨b, off + i, none⟩ = some (c 0) := by simpa using g3 0 (by omega)
  rw [e0, g4.1]
/-- The one at i fits behind those before it. -/
def fitB (Bs : List DShareBatch) (O : List ByteArray) (i : Nat) : Bool := !(decide (atI Bs (O[i]?.getD default) < 0)) && !(hasB (O.take i) (O[i]?.getD default)) && canB Bs (atI Bs (O[i]?.getD default)).toNat (O.take i)
noncomputable def fitsB (D : DShareBook) (O : List ByteArray) : Bool := bokB D && decide (O.length = D.2.length) && (List.range O.length).all (fitB D.2 O)
theorem fits_no {D : DShareBook} {O : List ByteArray} {i : Nat} (hi : i < O.length) (h : fitB D.2 O i = false) : fitsB D O = false := by
  unfold fitsB
  have : (List.range O.length).all (fitB D.2 O) = false := by
    rw [List.all_eq_false]
    exact ⟨i, List.mem_range.2 hi, by rw [h]; simp⟩
  rw [this]; simp
theorem fits_yes {D : DShareBook} {O : List ByteArray} (h0 : bokB D = true) (h1 : O.length = D.2.length) (h : ∀ i, i < O.length → fitB D.2 O i = true) : fitsB D O = true := by
  unfold fitsB
  have : (List.range O.length).all (fitB D.2 O) = true := by
    rw [List.all_eq_true]
    intro i hi
    exact h i (List.mem_range.1 hi)
  rw [this, h0]; simp [h1]
theorem atZ_q (S : Nat → Prop) (T : List ByteArray) (Bs : List DShareBatch) (o0 oa : Option Addr) (n0 k0 nb kb : Nat) (x : ByteArray) (wr : World) (h0 : AtL S wr T (.slice o0 n0 k0)) (h1 : AtL S wr Bs (.slice oa nb kb)) (hS : ∀ b, S b → b < wr.heap.size) (r : Int) (hr : atI Bs x = r) (d : Nat) (os : Array Obj) : Calls Try.prog 35 #[.agg #[.slice o0 n0 k0, .slice oa nb kb], .string x] (grow (redrawn wr d) os) fun e w'' => e = .returned (.int .i64 r) ∧ ∃ p : Regrown, w'' = grow (redrawn wr p.d) p.os :=
  Calls.regrown_of ((atZ_any S T Bs _ _ _ _ _ _ x _ (h0.same (Same.of_below (below_regrown wr d os) hS)) (h1.same (Same.of_below (below_regrown wr d os) hS)) (fun b hb => Nat.lt_of_lt_of_le (hS b hb) (below_regrown wr d os).size)).mono fun _ _ ⟨he, hw⟩ => ⟨by subst hr; exact he, hw⟩)
theorem canZ_q (S : Nat → Prop) (T : List ByteArray) (Bs : List DShareBatch) (o0 oa : Option Addr) (n0 k0 nb kb : Nat) (SG : Nat → Prop) (gone : List ByteArray) (og : Option Addr) (ng kg a : Nat) (wr : World) (h0 : AtL S wr T (.slice o0 n0 k0)) (h1 : AtL S wr Bs (.slice oa nb kb)) (hS : ∀ b, S b → b < wr.heap.size) (hG : AtL SG wr gone (.slice og ng kg)) (hSG : ∀ b, SG b → b < wr.heap.size) (ha : a < Bs.length) (r : Bool) (hr : canB Bs a gone = r) (d : Nat) (os : Array Obj) : Calls Try.prog 37 #[.agg #[.slice o0 n0 k0, .slice oa nb kb], .int .i64 a, .slice og ng kg] (grow (redrawn wr d) os) fun e w'' => e = .returned (.bool r) ∧ ∃ p : Regrown, w'' = grow (redrawn wr p.d) p.os :=
  Calls.regrown_of ((canZ_any S T Bs _ _ _ _ _ _ SG gone og ng kg a _ (h0.same (Same.of_below (below_regrown wr d os) hS)) (h1.same (Same.of_below (below_regrown wr d os) hS)) (fun b hb => Nat.lt_of_lt_of_le (hS b hb) (below_regrown wr d os).size) (hG.same (Same.of_below (below_regrown wr d os) hSG)) (fun b hb => Nat.lt_of_lt_of_le (hSG b hb) (below_regrown wr d os).size) ha).mono fun _ _ ⟨he, hw⟩ => ⟨by subst hr; exact he, hw⟩)

set_option maxRecDepth 100000 in
set_option maxHeartbeats 8000000 in
theorem fitsZ_any (S : Nat → Prop) (T : List ByteArray) (Bs : List DShareBatch) (o0 oa : Option Addr) (n0 k0 nb kb : Nat) (SO : Nat → Prop) (O : List ByteArray) (oo : Option Addr) (no ko : Nat) (w : World) (h0 : AtL S w T (.slice o0 n0 k0)) (h1 : AtL S w Bs (.slice oa nb kb)) (hS : ∀ b, S b → b < w.heap.size) (hO : AtL SO w O (.slice oo no ko)) (hSO : ∀ b, SO b → b < w.heap.size) :
    Calls Try.prog 14 #[.agg #[.slice o0 n0 k0, .slice oa nb kb], .slice oo no ko] w fun e w' => e = .returned (.bool (fitsB (T, Bs) O)) ∧ Below w.heap.size w w' := by
  have enb : Bs.length = nb := by obtain ⟨_, _, e, _⟩ := h1; cases e; rfl
  have hmx : nb ≤ 9223372036854775807 := by obtain ⟨_, _, e, hf, _⟩ := id h1; cases e; have := hf.1; unfold maxLen at this; omega
  have ENB : Hid (Bs.length ≤ nb ∧ nb ≤ Bs.length) := ⟨by omega, by omega⟩
  have H0 : Hid (∀ u, Below w.heap.size w u → AtL S u T (.slice o0 n0 k0)) := fun u hu => h0.same (Same.of_below hu hS)
  have H1 : Hid (∀ u, Below w.heap.size w u → AtL S u Bs (.slice oa nb kb)) := fun u hu => h1.same (Same.of_below hu hS)
  have HS : Hid (∀ u, Below w.heap.size w u → ∀ b, S b → b < u.heap.size) := fun u hu b hb => Nat.lt_of_lt_of_le (hS b hb) hu.size
  obtain ⟨W, hW⟩ : ∃ W, W = w.alloc (.cells #[.slice o0 n0 k0, .slice oa nb kb] 26) := ⟨_, rfl⟩
  have EW : Hid (W = w.alloc (.cells #[.slice o0 n0 k0, .slice oa nb kb] 26)) := hW
  have BW : Hid (Below w.heap.size w W) := by rw [hW]; exact (Below.refl _ _).alloc (Nat.le_refl _) _
  have RW : Hid (W.heap[w.heap.size]? = some (.cells #[.slice o0 n0 k0, .slice oa nb kb] 26 (0, 0))) := by rw [hW]; exact heap_alloc_new w _
  have sW : w.heap.size + 1 ≤ W.heap.size := by rw [hW]; simp
  clear hW enb
  have BOX : Hid (∀ u, Below W.heap.size W u → u.heap[w.heap.size]? = some (.cells #[.slice o0 n0 k0, .slice oa nb kb] 26 (0, 0)) ∧ Below w.heap.size w u) := fun u hu => ⟨(hu.block _ (by omega)).trans RW.out, BW.out.trans (hu.mono (by omega))⟩
  obtain ⟨R, hR⟩ : ∃ R, R = fitsB (T, Bs) O := ⟨_, rfl⟩
  have HRR : Hid (R = fitsB (T, Bs) O) := hR
  rw [← hR]
  clear hR
  have eno : O.length = no := by obtain ⟨_, _, e, _⟩ := hO; cases e; rfl
  have hmo : no ≤ 9223372036854775807 ∧ no ≤ ko := by obtain ⟨_, _, e, hf, _⟩ := id hO; cases e; have := hf.1; have := hf.2.1; unfold maxLen at *; omega
  have ENO : Hid (O.length ≤ no ∧ no ≤ O.length) := ⟨by omega, by omega⟩
  clear eno
  have HO : Hid (∀ u, Below w.heap.size w u → AtL SO u O (.slice oo no ko)) := fun u hu => hO.same (Same.of_below hu hSO)
  have HSO : Hid (∀ u, Below w.heap.size w u → ∀ b, SO b → b < u.heap.size) := fun u hu b hb => Nat.lt_of_lt_of_le (hSO b hb) hu.size
  have HB := Below.refl W.heap.size W
  have y0 := (cell_row (BOX.out W HB).1 0 (.slice o0 n0 k0) rfl).1
  have y1 := (cell_row (BOX.out W HB).1 1 (.slice oa nb kb) rfl).1
  have CB : Hid (Calls Try.prog 10 #[.agg #[.slice o0 n0 k0, .slice oa nb kb]] W fun e w' => e = .returned (.bool (bokB (T, Bs))) ∧ Below W.heap.size W w') := bookZ_any S (T, Bs) _ _ W (H0.out W BW.out) (H1.out W BW.out) (HS.out W BW.out)
  go_enter Try.func14, Try.ntmps14
  go_upto_region 1 with fail
  rw [← EW.out]
  go_wp2_with fail
  refine CB.out.mono ?_; rintro e u ⟨rfl, hbu⟩
  have BU : Hid (Below W.heap.size W u) := hbu
  have bu := (BOX.out u hbu).2
  clear y0 y1 CB HB
  have y1 := (cell_row (BOX.out u BU.out).1 1 (.slice oa nb kb) rfl).1
  clear hbu
  cases hbk : bokB (T, Bs)
  · have er : R = false := by rw [HRR.out]; unfold fitsB; rw [hbk]; rfl
    go_wp2_with fail
    go_ret
    rw [er]
    exact ⟨rfl, bu⟩
  by_cases hle : no = nb
  case neg =>
    have er : R = false := by
      rw [HRR.out]; unfold fitsB
      have : decide (O.length = Bs.length) = false := by have := ENO.out; have := ENB.out; simp; omega
      simp only [this, Bool.and_false, Bool.false_and]
    have hq0 : ((no : Int) == (nb : Int)) = false := by simp; omega
    have hq1 : ((no : Int) != (nb : Int)) = true := by simp; omega
    go_wp2_with fail
    go_ret
    rw [er]
    exact ⟨rfl, bu⟩
  have hq0 : ((no : Int) == (nb : Int)) = true := by simp [hle]
  have hq1 : ((no : Int) != (nb : Int)) = false := by simp [hle]
  have HLE : Hid (no = nb) := hle
  clear hle
  go_wp2_with fail
  clear hq0 hq1 y1
  go_loopw [5] (fun i wr => ∃ q : Nat, q ≤ no ∧ i = .int .i64 q ∧ Hid (∀ j, j < q → fitB Bs O j = true) ∧ Hid (Below W.heap.size W wr)) (fun i _ => no - (intOf i).toNat)
  case atStart => exact ⟨0, Nat.zero_le _, rfl, fun _ h => by omega, BU⟩
  case round =>
    obtain ⟨q, hq, rfl, hall, hbel⟩ := hrel
    have HB := hbel.out
    have bwr := (BOX.out wr HB).2
    have hsz := HB.size
    have y0 := (cell_row (BOX.out wr HB).1 0 (.slice o0 n0 k0) rfl).1
    have y1 := (cell_row (BOX.out wr HB).1 1 (.slice oa nb kb) rfl).1
    by_cases hlt : q < no
    case neg =>
      have er : R = true := by rw [HRR.out]; exact fits_yes hbk (by have := ENO.out; have := ENB.out; have := HLE.out; simp only; omega) (fun i hi => hall.out i (by have := ENO.out; omega))
      go_wp2_with fail
      go_ret
      rw [er]
      exact ⟨rfl, bwr⟩
    have hqo : q < O.length := by have := ENO.out; omega
    obtain ⟨ob, off, rfl, hobS, x0⟩ := atl_str (HO.out wr bwr) q hqo
    obtain ⟨f, ef⟩ : ∃ f, O[q] = f := ⟨_, rfl⟩
    rw [ef] at x0
    have hfi : fitB Bs O q = (!(decide (atI Bs f < 0)) && !(hasB (O.take q) f) && canB Bs (atI Bs f).toNat (O.take q)) := by unfold fitB; rw [show O[q]?.getD default = f by simp [hqo, ef]]
    have AH0 : Hid (AtL S wr T (.slice o0 n0 k0)) := H0.out wr bwr
    have AH1 : Hid (AtL S wr Bs (.slice oa nb kb)) := H1.out wr bwr
    have SW : Hid (∀ b, S b → b < wr.heap.size) := HS.out wr bwr
    have qy0 := fun d os => cell_regrown y0 d os
    have qy1 := fun d os => cell_regrown y1 d os
    have qx0 := fun d os => cell_regrown x0 d os
    obtain ⟨ai, eai⟩ : ∃ ai, atI Bs f = ai := ⟨_, rfl⟩
    rw [eai] at hfi
    clear y0 y1
    go_wp2
    refine wp_region_quiet_below (by kernel_rfl) (by kernel_rfl) ?_
    repeat (first | go_big_quiet_step (with_reducible exact atZ_q S T Bs _ _ _ _ _ _ f _ AH0.out AH1.out SW.out _ eai _ _) | quiet_step (with_reducible exact atZ_q S T Bs _ _ _ _ _ _ f _ AH0.out AH1.out SW.out _ eai _ _))
    refine wpQuiet_nil ?_
    intro _ hw'
    obtain ⟨⟨dq, osq⟩, hw''⟩ := hw'
    subst hw''
    clear qy0 qy1 qx0 AH0 AH1 SW
    have HB1 : Below W.heap.size W (grow (redrawn wr dq) osq) := HB.trans ((below_regrown _ dq osq).mono hsz)
    have x1 := cell_regrown x0 dq osq
    clear x0
    generalize grow (redrawn wr dq) osq = v1 at HB1 x1 ⊢
    have b1 := (BOX.out v1 HB1).2
    have s1 := HB1.size
    have y0 := (cell_row (BOX.out v1 HB1).1 0 (.slice o0 n0 k0) rfl).1
    have y1 := (cell_row (BOX.out v1 HB1).1 1 (.slice oa nb kb) rfl).1
    have AH0 : Hid (AtL S v1 T (.slice o0 n0 k0)) := H0.out v1 b1
    have AH1 : Hid (AtL S v1 Bs (.slice oa nb kb)) := H1.out v1 b1
    have SW : Hid (∀ b, S b → b < v1.heap.size) := HS.out v1 b1
    have AG : Hid (AtL SO v1 (O.take q) (.slice (some ⟨ob, off, none⟩) q ko)) := atl_take (HO.out v1 b1) q (by omega)
    have SGW : Hid (∀ b, SO b → b < v1.heap.size) := HSO.out v1 b1
    have qy0 := fun d os => cell_regrown y0 d os
    have qy1 := fun d os => cell_regrown y1 d os
    have qx0 := fun d os => cell_regrown x1 d os
    have hkq : q ≤ ko := by omega
    clear y0 y1 x1
    by_cases hneg : ai < 0
    · have er : R = false := by rw [HRR.out]; exact fits_no hqo (by show fitB Bs O q = false; rw [hfi]; simp [hneg])
      go_wp2
      refine wp_region_quiet_below (by kernel_rfl) (by kernel_rfl) ?_
      repeat (first | go_big_quiet_step (fail) | quiet_step (fail))
      refine wpQuiet_nil ?_
      intro _ hw'
      obtain ⟨⟨dq, osq⟩, hw''⟩ := hw'
      subst hw''
      go_wp2
      go_ret
      rw [er]
      exact ⟨rfl, b1.trans ((below_regrown _ dq osq).mono b1.size)⟩
    have hde : decide (ai < 0) = false := by simpa using hneg
    obtain ⟨a, ea, hab⟩ := at_lt (eai ▸ hneg)
    rw [eai] at ea
    subst ea
    rw [hde, Int.toNat_natCast] at hfi
    have hna : ¬ ((a : Int) < 0) := by omega
    clear hneg hde eai
    cases c0 : hasB (O.take q) f
    case true =>
      have er : R = false := by rw [HRR.out]; exact fits_no hqo (by show fitB Bs O q = false; rw [hfi, c0]; simp)
      go_wp2
      refine wp_region_quiet_below (by kernel_rfl) (by kernel_rfl) ?_
      repeat (first | go_big_quiet_step (with_reducible exact hasZ_q SO _ (O.take q) _ _ AG.out SGW.out _ c0 _ _) | quiet_step (with_reducible exact hasZ_q SO _ (O.take q) _ _ AG.out SGW.out _ c0 _ _))
      refine wpQuiet_nil ?_
      intro _ hw'
      obtain ⟨⟨dq, osq⟩, hw''⟩ := hw'
      subst hw''
      go_wp2
      go_ret
      rw [er]
      exact ⟨rfl, b1.trans ((below_regrown _ dq osq).mono b1.size)⟩
    cases c1 : canB Bs a (O.take q)
    · have er : R = false := by rw [HRR.out]; exact fits_no hqo (by show fitB Bs O q = false; rw [hfi, c1]; simp)
      go_wp2
      refine wp_region_quiet_below (by kernel_rfl) (by kernel_rfl) ?_
      repeat (first | go_big_quiet_step (first | (with_reducible exact hasZ_q SO _ (O.take q) _ _ AG.out SGW.out _ c0 _ _) | (with_reducible exact canZ_q S T Bs _ _ _ _ _ _ SO (O.take q) _ _ _ a _ AH0.out AH1.out SW.out AG.out SGW.out hab _ c1 _ _)) | quiet_step (first | (with_reducible exact hasZ_q SO _ (O.take q) _ _ AG.out SGW.out _ c0 _ _) | (with_reducible exact canZ_q S T Bs _ _ _ _ _ _ SO (O.take q) _ _ _ a _ AH0.out AH1.out SW.out AG.out SGW.out hab _ c1 _ _)))
      refine wpQuiet_nil ?_
      intro _ hw'
      obtain ⟨⟨dq, osq⟩, hw''⟩ := hw'
      subst hw''
      go_wp2
      go_ret
      rw [er]
      exact ⟨rfl, b1.trans ((below_regrown _ dq osq).mono b1.size)⟩
    have hw0 : fitB Bs O q = true := by rw [hfi, c0, c1]; rfl
    go_wp2
    refine wp_region_quiet_below (by kernel_rfl) (by kernel_rfl) ?_
    repeat (first | go_big_quiet_step (first | (with_reducible exact hasZ_q SO _ (O.take q) _ _ AG.out SGW.out _ c0 _ _) | (with_reducible exact canZ_q S T Bs _ _ _ _ _ _ SO (O.take q) _ _ _ a _ AH0.out AH1.out SW.out AG.out SGW.out hab _ c1 _ _)) | quiet_step (first | (with_reducible exact hasZ_q SO _ (O.take q) _ _ AG.out SGW.out _ c0 _ _) | (with_reducible exact canZ_q S T Bs _ _ _ _ _ _ SO (O.take q) _ _ _ a _ AH0.out AH1.out SW.out AG.out SGW.out hab _ c1 _ _)))
    refine wpQuiet_nil ?_
    intro _ hw'
    obtain ⟨⟨dq, osq⟩, hw''⟩ := hw'
    subst hw''
    go_wp2
    go_roundw
    case rel => exact ⟨q + 1, by omega, by go_num, fun j hj => by
      by_cases e : j = q
      · subst e; exact hw0
      · exact hall.out j (by omega), HB1.trans ((below_regrown _ dq osq).mono s1)⟩
    case measure => simp [intOf]; omega

end Go.Proofs.Ythgnhjkkfhfgmab

/-
  The program's ShareFits, whole: it answers as the model does.
-/
namespace Go.Proofs.Ythgnhjkkfhfgmab
open Go.RowKit Go.Sort

theorem at_name {Bs : List DShareBatch} {x : ByteArray} {q : Nat} (h : atI Bs x = (q : Int)) (hq : q < Bs.length) : Bs[q].1 = x := by
  unfold atI idxI at h
  cases e : Bs.findIdx? (fun f => eqB f.1 x) with
  | none => rw [e] at h; simp only at h; omega
  | some i =>
    rw [e] at h
    simp only at h
    have hi : i = q := by omega
    subst hi
    obtain ⟨_, h1, _⟩ := List.findIdx?_eq_some_iff_getElem.1 e
    exact (eqB_iff _ _).1 h1

set_option maxRecDepth 100000 in
set_option maxHeartbeats 16000000 in
theorem fitsP_any (S : Nat → Prop) (T : List ByteArray) (Bs : List DShareBatch) (o0 oa : Option Addr) (n0 k0 nb kb : Nat) (SO : Nat → Prop) (O : List ByteArray) (oo : Option Addr) (no ko : Nat) (w : World) (h0 : AtL S w T (.slice o0 n0 k0)) (h1 : AtL S w Bs (.slice oa nb kb)) (hS : ∀ b, S b → b < w.heap.size) (_ : Lay.tot (α := DShareBook) (T, Bs) ≤ 1048576) (hO : AtL SO w O (.slice oo no ko)) (hSO : ∀ b, SO b → b < w.heap.size) (_ : totL O ≤ 1048576) :
    Calls Try.prog 12 #[.agg #[.slice o0 n0 k0, .slice oa nb kb], .slice oo no ko] w fun e w' => e = .returned (.bool (fitsB (T, Bs) O)) ∧ Below w.heap.size w w' := by
  have H0 : Hid (∀ u, Below w.heap.size w u → AtL S u T (.slice o0 n0 k0)) := fun u hu => h0.same (Same.of_below hu hS)
  have H1 : Hid (∀ u, Below w.heap.size w u → AtL S u Bs (.slice oa nb kb)) := fun u hu => h1.same (Same.of_below hu hS)
  have HO : Hid (∀ u, Below w.heap.size w u → AtL SO u O (.slice oo no ko)) := fun u hu => hO.same (Same.of_below hu hSO)
  have HS : Hid (∀ u, Below w.heap.size w u → ∀ b, S b → b < u.heap.size) := fun u hu b hb => Nat.lt_of_lt_of_le (hS b hb) hu.size
  have enb : Bs.length = nb := by obtain ⟨_, _, e, _⟩ := h1; cases e; rfl
  have ENB : Hid (Bs.length ≤ nb ∧ nb ≤ Bs.length) := ⟨by omega, by omega⟩
  have eno : O.length = no := by obtain ⟨_, _, e, _⟩ := hO; cases e; rfl
  have ENO : Hid (O.length ≤ no ∧ no ≤ O.length) := ⟨by omega, by omega⟩
  have hmo : no ≤ maxLen := by rw [← eno]; obtain ⟨_, _, _, h, _⟩ := hO; exact h.1
  unfold maxLen at hmo
  clear h0 h1 hO enb eno
  obtain ⟨W, hW⟩ : ∃ W, W = w.alloc (.cells #[.slice o0 n0 k0, .slice oa nb kb] 26) := ⟨_, rfl⟩
  have EW : Hid (W = w.alloc (.cells #[.slice o0 n0 k0, .slice oa nb kb] 26)) := hW
  have BW : Hid (Below w.heap.size w W) := by rw [hW]; exact (Below.refl _ _).alloc (Nat.le_refl _) _
  have RW : Hid (W.heap[w.heap.size]? = some (.cells #[.slice o0 n0 k0, .slice oa nb kb] 26 (0, 0))) := by rw [hW]; exact heap_alloc_new w _
  have sW : w.heap.size + 1 ≤ W.heap.size := by rw [hW]; simp
  clear hW
  have BOX : Hid (∀ u, Below W.heap.size W u → u.heap[w.heap.size]? = some (.cells #[.slice o0 n0 k0, .slice oa nb kb] 26 (0, 0)) ∧ Below w.heap.size w u) := fun u hu => ⟨(hu.block _ (by omega)).trans RW.out, BW.out.trans (hu.mono (by omega))⟩
  have y0 := (cell_row (BOX.out W (Below.refl _ _)).1 0 (.slice o0 n0 k0) rfl).1
  have y1 := (cell_row (BOX.out W (Below.refl _ _)).1 1 (.slice oa nb kb) rfl).1
  go_enter Try.func12, Try.ntmps12
  go_upto_region 1 with fail
  rw [← EW.out]
  go_wp2_with fail
  refine (bookP_any S T Bs _ _ _ _ _ _ W (H0.out W BW.out) (H1.out W BW.out) (HS.out W BW.out)).mono ?_; rintro e u1 ⟨rfl, hb1⟩
  have B1 : Hid (Below W.heap.size W u1) := hb1
  clear hb1 y0 y1
  cases hB : bokB (T, Bs)
  · go_wp2_with fail
    go_ret
    rw [show fitsB (T, Bs) O = false by unfold fitsB; rw [hB]; rfl]
    exact ⟨rfl, (BOX.out u1 B1.out).2⟩
  have y0 := (cell_row (BOX.out u1 B1.out).1 0 (.slice o0 n0 k0) rfl).1
  have y1 := (cell_row (BOX.out u1 B1.out).1 1 (.slice oa nb kb) rfl).1
  by_cases hlen : no = nb
  case neg =>
    have hne : ((no : Int) != (nb : Int)) = true := by simp; omega
    have EF : Hid (fitsB (T, Bs) O = false) := by
      show _ = _
      unfold fitsB
      rw [show decide (O.length = (T, Bs).2.length) = false by have := ENB.out; have := ENO.out; simp; omega]
      simp
    go_wp2_with fail
    go_ret
    rw [EF.out]
    exact ⟨rfl, (BOX.out u1 B1.out).2⟩
  have HLE : Hid (O.length = Bs.length) := by have := ENB.out; have := ENO.out; show _ = _; omega
  have hne : ((no : Int) != (nb : Int)) = false := by simp; omega
  have OK : Hid (BokP (T, Bs)) := bok_iff.1 hB
  have EB : Hid (bokB (T, Bs) = true) := hB
  clear hlen hB
  go_wp2_with fail
  refine (leavingOf_any S T Bs _ _ _ _ _ _ u1 (H0.out u1 (BOX.out u1 B1.out).2) (H1.out u1 (BOX.out u1 B1.out).2) (HS.out u1 (BOX.out u1 B1.out).2) OK.out).mono ?_; rintro e u2 ⟨g, v, rfl, hl, hb2⟩
  have L2 : Hid (Lv u1.heap.size u2 g v (lvL T Bs (O.take 0)) (freM T Bs (O.take 0))) := hl
  have B2 : Hid (Below u1.heap.size u1 u2) := hb2
  clear hl hb2 y0 y1 hne
  go_wp2_with fail
  go_loopw [24] (fun i wr => ∃ k : Nat, k ≤ no ∧ i = .int .i64 k ∧ Hid (Lv u1.heap.size wr g v (lvL T Bs (O.take k)) (freM T Bs (O.take k))) ∧ Hid (∀ j, j < k → fitB Bs O j = true) ∧ Hid (Below u1.heap.size u1 wr)) (fun i _ => no - (intOf i).toNat)
  case atStart => exact ⟨0, Nat.zero_le _, rfl, L2, fun _ h => by omega, B2⟩
  case round =>
    obtain ⟨k, hk, rfl, hlv, hall, hbel⟩ := hrel
    have BWr : Hid (Below W.heap.size W wr) := B1.out.trans (hbel.out.mono B1.out.size)
    have bwr := (BOX.out wr BWr.out).2
    by_cases hlt : k < no
    case neg =>
      go_wp2_with fail
      go_ret
      rw [fits_yes EB.out HLE.out (fun i hi => hall.out i (by have := ENO.out; omega))]
      exact ⟨rfl, bwr⟩
    have hkO : k < O.length := by have := ENO.out; omega
    obtain ⟨b1, off1, rfl, _, x0⟩ := atl_str (HO.out wr bwr) k hkO
    obtain ⟨x, ex⟩ : ∃ x, O[k] = x := ⟨_, rfl⟩
    rw [ex] at x0
    have EO : Hid (O[k]?.getD default = x) := by show _ = _; rw [List.getElem?_eq_getElem hkO, ← ex]; rfl
    have ET : Hid (O.take (k + 1) = O.take k ++ [x]) := by show _ = _; rw [List.take_succ_eq_append_getElem hkO, ex]
    clear ex
    have y0 := (cell_row (BOX.out wr BWr.out).1 0 (.slice o0 n0 k0) rfl).1
    have y1 := (cell_row (BOX.out wr BWr.out).1 1 (.slice oa nb kb) rfl).1
    have CA : Hid (Calls Try.prog 30 #[.agg #[.slice o0 n0 k0, .slice oa nb kb], .string x] wr fun e w' => e = .returned (.int .i64 (atI Bs x)) ∧ Below wr.heap.size wr w') := batchAtI_any S _ _ Bs x wr (H1.out wr bwr) (HS.out wr bwr)
    go_wp2_with fail
    refine CA.out.mono ?_; rintro e u3 ⟨rfl, hb3⟩
    have L3 : Hid (Lv u1.heap.size u3 g v (lvL T Bs (O.take k)) (freM T Bs (O.take k))) := hlv.out.below hb3
    have B3 : Hid (Below u1.heap.size u1 u3) := hbel.out.trans (hb3.mono hbel.out.size)
    clear hb3 y0 y1 x0 CA
    by_cases hneg : atI Bs x < 0
    · have EF : Hid (fitsB (T, Bs) O = false) := fits_no hkO (by unfold fitB; rw [EO.out, decide_eq_true hneg]; rfl)
      go_wp2_with fail
      go_ret
      rw [EF.out]
      exact ⟨rfl, (BOX.out u3 (B1.out.trans (B3.out.mono B1.out.size))).2⟩
    obtain ⟨q, eq, hqb⟩ := at_lt hneg
    have hnm := at_name eq hqb
    have EFB : Hid (fitB Bs O k = (!(hasB (O.take k) Bs[q].1) && canB Bs q (O.take k))) := by
      show _ = _
      unfold fitB
      rw [EO.out, decide_eq_false hneg, eq, Int.toNat_natCast, hnm]; rfl
    rw [eq]
    have hng0 : ¬ ((q : Int) < 0) := by omega
    have hqL : q < (lvL T Bs (O.take k)).length := by rw [lv_len]; exact hqb
    have eL := lv_at T (O.take k) hqb
    have N8 := (bok_things OK.out).1
    have CG : Hid (Calls Try.prog 31 #[.pointer (some ⟨g, 0, none⟩), .int .i64 q] u3 fun e w' => e = .returned (.bool (fitB Bs O k)) ∧ Below u3.heap.size u3 w') := by
      have := canGo_any _ g v _ _ q u3 L3.out hqL (by rw [eL]; exact hasM_lt N8 _) (by rw [eL]; exact hasM_lt N8 _) (freM_lt N8 _ _)
      rw [eL, go_can OK.out hqb, ← EFB.out] at this
      exact this
    clear hneg eq
    go_wp2_with fail
    refine CG.out.mono ?_; rintro e u4 ⟨rfl, hb4⟩
    have L4 : Hid (Lv u1.heap.size u4 g v (lvL T Bs (O.take k)) (freM T Bs (O.take k))) := L3.out.below hb4
    have B4 : Hid (Below u1.heap.size u1 u4) := B3.out.trans (hb4.mono B3.out.size)
    clear hb4 CG L3
    cases hfit : fitB Bs O k
    · have EF : Hid (fitsB (T, Bs) O = false) := fits_no hkO hfit
      go_wp2_with fail
      go_ret
      rw [EF.out]
      exact ⟨rfl, (BOX.out u4 (B1.out.trans (B4.out.mono B1.out.size))).2⟩
    have hgq : hasB (O.take k) Bs[q].1 = false := by
      have := EFB.out
      rw [hfit] at this
      cases e : hasB (O.take k) Bs[q].1
      · rfl
      · rw [e] at this; cases this
    have CL : Hid (Calls Try.prog 32 #[.pointer (some ⟨g, 0, none⟩), .int .i64 q] u4 fun e w' => e = .returned (.tuple #[]) ∧ Lv u1.heap.size w' g v (lvL T Bs (O.take (k + 1))) (freM T Bs (O.take (k + 1))) ∧ But (lvS g v) u4 w') := by
      refine (letGo_any _ g v _ _ q u4 L4.out hqL (by rw [eL]; exact hasM_lt N8 _) (freM_lt N8 _ _)).mono fun e w' ⟨h1, h2, h3⟩ => ⟨h1, ?_, h3⟩
      rw [eL] at h2
      rw [ET.out, ← hnm]
      exact Lv.gone OK.out hqb hgq h2
    have HFT : Hid (fitB Bs O k = true) := hfit
    clear hfit hgq eL hqL hnm
    go_wp2_with fail
    refine CL.out.mono ?_; rintro e u5 ⟨rfl, h5, hb5⟩
    have L5 : Hid (Lv u1.heap.size u5 g v (lvL T Bs (O.take (k + 1))) (freM T Bs (O.take (k + 1)))) := h5
    have B5 : Hid (Below u1.heap.size u1 u5) := B4.out.trans (hb5.below L4.out.set_low B4.out.size)
    clear h5 hb5 CL
    go_wp2_with fail
    go_roundw
    case rel => exact ⟨k + 1, by omega, by go_num, L5, fun j hj => by
      by_cases e : j = k
      · subst e; exact HFT.out
      · exact hall.out j (by omega), B5⟩
    case measure => simp [intOf]; omega

end Go.Proofs.Ythgnhjkkfhfgmab

/-
  Plain: some order fits just if the one that always takes the first who can does; what is searched by all orders is that.
-/
namespace Go.Proofs.Ythgnhjkkfhfgmab
open Go.RowKit

section
variable {T : List ByteArray} {Bs : List DShareBatch} {O : List ByteArray}
/-- Who can go behind some can go behind more. -/
theorem can_more {a : Nat} {g g' : List ByteArray} (hs : ∀ x ∈ g, x ∈ g') (h : canB Bs a g = true) : canB Bs a g' = true := by
  refine can_yes fun i hi => ?_
  have h1 : inWay Bs a g i = false := by
    cases e : inWay Bs a g i with
    | false => rfl
    | true => rw [can_no hi e] at h; cases h
  unfold inWay at h1 ⊢
  cases e1 : hasB g' (btN Bs i).1 with
  | true => simp
  | false =>
    have e2 : hasB g (btN Bs i).1 = false := by
      cases e3 : hasB g (btN Bs i).1 with
      | false => rfl
      | true => rw [(hasB_iff _ _).2 (hs _ ((hasB_iff _ _).1 e3))] at e1; cases e1
    rw [e2] at h1
    exact h1
theorem at_of (h : BokP (T, Bs)) {q : Nat} (hq : q < Bs.length) : atI Bs Bs[q].1 = (q : Int) := by
  unfold atI
  refine idx_yes hq ((eqB_iff _ _).2 rfl) fun j hj hjq => ?_
  cases e : eqB Bs[j].1 Bs[q].1 with
  | false => rfl
  | true => have := bok_names h hj hq ((eqB_iff _ _).1 e); omega
theorem gn_take : ∀ (k i : Nat), i ≤ k → (gnS Bs k).take i = gnS Bs i
  | 0, i, hi => by obtain rfl : i = 0 := by omega
                   rfl
  | k + 1, i, hi => by
    by_cases e : i = k + 1
    · subst e; exact List.take_of_length_le (by rw [gn_len]; omega)
    · rw [gnS, List.take_append_of_le_length (by rw [gn_len]; omega), gn_take k i (by omega)]
theorem gn_at {k i : Nat} (hi : i < k) : (gnS Bs k)[i]? = some (btN Bs (nxtI Bs (gnS Bs i)).toNat).1 := by
  have h1 : ((gnS Bs k).take (i + 1))[i]? = (gnS Bs k)[i]? := by rw [List.getElem?_take]; simp
  rw [← h1, gn_take k (i + 1) (by omega), gnS, List.getElem?_append_right (by rw [gn_len]; exact Nat.le_refl _), gn_len]
  simp
/-- The order that is told fits. -/
theorem ord_fits (hb : bokB (T, Bs) = true) (hv : Vd Bs Bs.length) : fitsB (T, Bs) (gnS Bs Bs.length) = true := by
  have h := bok_iff.1 hb
  refine fits_yes hb (gn_len _ _) fun i hi => ?_
  rw [gn_len] at hi
  obtain ⟨q, eq, hq, hg, hc⟩ := nxt_free (hv i hi)
  show fitB Bs _ i = true
  unfold fitB
  rw [gn_at hi, gn_take _ _ (Nat.le_of_lt hi), eq, Int.toNat_natCast, btN_at hq]
  simp only [Option.getD_some]
  simp only [at_of h hq, hg, Int.toNat_natCast, hc]
  simp
/-- What fits is all of the names, each once. -/
theorem fit_parts (hf : fitsB (T, Bs) O = true) : bokB (T, Bs) = true ∧ O.length = Bs.length ∧ ∀ i (hi : i < O.length), ∃ q, ∃ hq : q < Bs.length, Bs[q].1 = O[i] ∧ hasB (O.take i) O[i] = false ∧ canB Bs q (O.take i) = true := by
  unfold fitsB at hf
  rw [Bool.and_eq_true, Bool.and_eq_true, decide_eq_true_iff] at hf
  refine ⟨hf.1.1, hf.1.2, fun i hi => ?_⟩
  have h1 := List.all_eq_true.1 hf.2 i (List.mem_range.2 hi)
  change fitB Bs O i = true at h1
  unfold fitB at h1
  rw [List.getElem?_eq_getElem hi] at h1
  simp only [Option.getD_some, Bool.and_eq_true, Bool.not_eq_true', decide_eq_false_iff_not] at h1
  obtain ⟨q, eq, hq⟩ := at_lt h1.1.1
  have h2 := h1.2
  rw [eq, Int.toNat_natCast] at h2
  exact ⟨q, hq, at_name eq hq, h1.1.2, h2⟩
theorem fit_nodup (hf : fitsB (T, Bs) O = true) : O.Nodup := by
  obtain ⟨_, _, h⟩ := fit_parts hf
  refine List.pairwise_iff_getElem.2 fun i j hi hj hij e => ?_
  obtain ⟨q, hq, h1, h2, _⟩ := h j hj
  have : hasB (O.take j) O[j] = true := (hasB_iff _ _).2 (by
    rw [← e]
    exact List.mem_iff_getElem.2 ⟨i, by rw [List.length_take]; omega, by rw [List.getElem_take]⟩)
  rw [this] at h2
  cases h2
/-- If some order fits, then the first who can can always go. -/
theorem fits_go (hf : fitsB (T, Bs) O = true) {k : Nat} (hv : Vd Bs k) (hk : k < Bs.length) : ¬ nxtI Bs (gnS Bs k) < 0 := by
  intro hn
  obtain ⟨hb, hl, hp⟩ := fit_parts hf
  have h := bok_iff.1 hb
  have nd := fit_nodup hf
  obtain ⟨nd2, sub2⟩ := gn_sub h hv
  have ex : ∃ i, ∃ hi : i < O.length, O[i] ∉ gnS Bs k := by
    refine Classical.byContradiction fun hno => ?_
    have hall : ∀ x ∈ O, x ∈ gnS Bs k := fun x hx => by
      obtain ⟨i, hi, rfl⟩ := List.getElem_of_mem hx
      exact Classical.byContradiction fun hc => hno ⟨i, hi, hc⟩
    have := nd.length_le_of_subset (l₂ := gnS Bs k) hall
    rw [gn_len] at this
    omega
  have least : ∃ i, ∃ hi : i < O.length, O[i] ∉ gnS Bs k ∧ ∀ j (hj : j < O.length), j < i → O[j] ∈ gnS Bs k := by
    obtain ⟨i, hi, hx⟩ := ex
    induction i using Nat.strongRecOn with
    | ind i ih =>
      by_cases hh : ∃ j, ∃ hj : j < O.length, j < i ∧ O[j] ∉ gnS Bs k
      · obtain ⟨j, hj, hji, hjx⟩ := hh
        exact ih j hji hj hjx
      · exact ⟨i, hi, hx, fun j hj hji => Classical.byContradiction fun hc => hh ⟨j, hj, hji, hc⟩⟩
  obtain ⟨i, hi, hx, hlow⟩ := least
  obtain ⟨q, hq, h1, _, h3⟩ := hp i hi
  have hc := can_more (g' := gnS Bs k) (fun x hx => by
    obtain ⟨j, hj, rfl⟩ := List.getElem_of_mem hx
    rw [List.getElem_take]
    rw [List.length_take] at hj
    exact hlow j (by omega) (by omega)) h3
  have hfree : freeB Bs (gnS Bs k) q = true := by
    unfold freeB
    rw [btN_at hq, hc, h1]
    have : hasB (gnS Bs k) O[i] = false := by
      cases e : hasB (gnS Bs k) O[i] with
      | false => rfl
      | true => exact absurd ((hasB_iff _ _).1 e) hx
    rw [this]; rfl
  unfold nxtI idxI at hn
  cases e : (List.range Bs.length).findIdx? (freeB Bs (gnS Bs k)) with
  | none =>
    rw [List.findIdx?_eq_none_iff] at e
    have := e q (List.mem_range.2 hq)
    rw [hfree] at this
    cases this
  | some z => rw [e] at hn; simp only at hn; omega
theorem fits_vd (hf : fitsB (T, Bs) O = true) : ∀ k, k ≤ Bs.length → Vd Bs k
  | 0, _ => fun j hj => by omega
  | k + 1, hk => (fits_vd hf k (by omega)).up (fits_go hf (fits_vd hf k (by omega)) (by omega))
/-- If some order fits, the book is safe. -/
theorem fits_safe (hf : fitsB (T, Bs) O = true) : (ordS (T, Bs)).2 = true := by
  rw [ord_end (fit_parts hf).1 (fits_vd hf _ (Nat.le_refl _)) (.inr rfl), if_pos rfl]
theorem ord_stop : ∀ n k, Vd Bs k → k + n = Bs.length → ∃ m, Vd Bs m ∧ m ≤ Bs.length ∧ (nxtI Bs (gnS Bs m) < 0 ∨ m = Bs.length)
  | 0, k, hv, e => ⟨k, hv, by omega, .inr (by omega)⟩
  | n + 1, k, hv, e => by
    by_cases hn : nxtI Bs (gnS Bs k) < 0
    · exact ⟨k, hv, by omega, .inl hn⟩
    · exact ord_stop n (k + 1) (hv.up hn) (by omega)
/-- If a book is safe, the order that is told fits. -/
theorem safe_fits (hs : (ordS (T, Bs)).2 = true) : fitsB (T, Bs) (ordS (T, Bs)).1 = true := by
  have hb : bokB (T, Bs) = true := by
    cases e : bokB (T, Bs) with
    | true => rfl
    | false => unfold ordS at hs; rw [e] at hs; simp at hs
  obtain ⟨m, hv, hm, hend⟩ := ord_stop (Bs := Bs) Bs.length 0 (fun j hj => by omega) (by omega)
  have he := ord_end hb hv hend
  by_cases e : m = Bs.length
  · subst e
    rw [he, if_pos rfl]
    exact ord_fits hb hv
  · rw [he, if_neg e] at hs
    cases hs
end

/-- The search by all orders, from those who are gone on. -/
noncomputable def smeF (D : DShareBook) : Nat → List ByteArray → Bool
  | 0, g => fitsB D g
  | n + 1, g => (List.range D.2.length).any fun i => !(hasB g (btN D.2 i).1) && smeF D n (g ++ [(btN D.2 i).1])
theorem sme_some {D : DShareBook} : ∀ {n : Nat} {g : List ByteArray}, smeF D n g = true → ∃ O, fitsB D O = true
  | 0, g, h => ⟨g, h⟩
  | n + 1, g, h => by
    rw [smeF, List.any_eq_true] at h
    obtain ⟨i, _, h1⟩ := h
    rw [Bool.and_eq_true] at h1
    exact sme_some h1.2
theorem sme_of {D : DShareBook} {O : List ByteArray} (hf : fitsB D O = true) : ∀ n k, k + n = D.2.length → smeF D n (O.take k) = true
  | 0, k, e => by
    obtain ⟨_, hl, _⟩ := fit_parts (T := D.1) (Bs := D.2) hf
    rw [smeF, List.take_of_length_le (by omega)]; exact hf
  | n + 1, k, e => by
    obtain ⟨_, hl, hp⟩ := fit_parts (T := D.1) (Bs := D.2) hf
    have hk : k < O.length := by omega
    obtain ⟨q, hq, h1, h2, _⟩ := hp k hk
    rw [smeF, List.any_eq_true]
    refine ⟨q, List.mem_range.2 hq, ?_⟩
    rw [btN_at hq, h1, h2]
    have := sme_of hf n (k + 1) (by omega)
    rw [List.take_succ_eq_append_getElem hk] at this
    rw [this]; rfl
/-- A book that is ok is safe just if the search by all orders finds one. -/
theorem sme_safe (D : DShareBook) : smeF D D.2.length [] = (ordS D).2 := by
  cases e : (ordS D).2 with
  | true => exact sme_of (D := D) (safe_fits (T := D.1) (Bs := D.2) e) D.2.length 0 (by omega)
  | false =>
    cases e2 : smeF D D.2.length [] with
    | false => rfl
    | true =>
      obtain ⟨O, hO⟩ := sme_some e2
      have := fits_safe (T := D.1) (Bs := D.2) hO
      rw [show ((D.1, D.2) : DShareBook) = D from rfl, e] at this
      cases this

end Go.Proofs.Ythgnhjkkfhfgmab
