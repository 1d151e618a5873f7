/-
  Several texts in one.
-/
import Derived.Test.YtgjcppdeljoimaaM13
import Derived.OwnWalk
import Derived.Test.YtgjcppdeljoimaaM12
import Derived.Deep.CutBlock
namespace Go.Proofs.Ytgjcppdeljoimaa
open Go.RowKit Go.Sort
def PlcP (R : Nat) (ob : Option Addr) (n cb : Nat) (f : Nat → Int) (c : Int) (w : World) (e : Ending) (w' : World) : Prop := ∃ s q, e = .returned (.string s) ∧ s.size ≤ maxLen ∧ q ≤ c ∧ Rd R w' ob n cb q f ∧ But (fun b => b = R) w w'
theorem plcP {R : Nat} {ob : Option Addr} {n cb : Nat} {f : Nat → Int} {c q : Int} {w w' : World} {s : ByteArray} (hs : s.size ≤ maxLen) (hq : q ≤ c) (hr : Rd R w' ob n cb q f) (hb : But (fun b => b = R) w w') : PlcP R ob n cb f c w (.returned (.string s)) w' := ⟨s, q, rfl, hs, hq, hr, hb⟩
set_option maxRecDepth 100000 in
set_option maxHeartbeats 4000000 in
theorem place_dr (R : Nat) (ob : Option Addr) (n cb : Nat) (f : Nat → Int) (p : Int) (B : Nat) (v0 v1 v2 v3 : Value) (X : PlL) (w : World) (hr : Rd R w ob n cb p f) (hp : p ≤ 80000) (h : PlR B w v0 v1 v2 v3 X) (hX : PlL.OkN 20 X) (hR : R < B) :
    Calls Try.prog 23 #[.pointer (some ⟨R, 0, none⟩), .agg #[v0, v1, v2, v3]] w fun e w' => PlcP R ob n cb f (p + 3) w e w' := by
  obtain ⟨o0, c0, rfl⟩ := Row.form h.s
  obtain ⟨o1, c1, rfl⟩ := Row.form h.f
  obtain ⟨o2, c2, rfl⟩ := Row.form h.p
  obtain ⟨o3, c3, rfl⟩ := Row.form h.v
  generalize en0 : X.ss.length = n0 at h ⊢
  generalize en1 : X.ff.length = n1 at h ⊢
  generalize en2 : X.pp.length = n2 at h ⊢
  generalize en3 : X.vv.length = n3 at h ⊢
  have HH : Hid (PlR B w (.slice o0 n0 c0) (.slice o1 n1 c1) (.slice o2 n2 c2) (.slice o3 n3 c3) X) := h
  clear h
  have rlt := hr.lt
  obtain ⟨W, hW⟩ : ∃ W, W = w.alloc (.cells #[.slice o0 n0 c0, .slice o1 n1 c1, .slice o2 n2 c2, .slice o3 n3 c3] 28) := ⟨_, rfl⟩
  have hbW : Hid (Below w.heap.size w W) := by rw [hW]; exact (Below.refl _ _).alloc (Nat.le_refl _) _
  have hsW : W.heap.size = w.heap.size + 1 := by rw [hW]; simp
  have HP : Hid (W.heap[w.heap.size]? = some (.cells #[.slice o0 n0 c0, .slice o1 n1 c1, .slice o2 n2 c2, .slice o3 n3 c3] 28 (0, 0))) := by rw [hW]; exact heap_alloc_new w _
  have HW : Hid (PlR B W (.slice o0 n0 c0) (.slice o1 n1 c1) (.slice o2 n2 c2) (.slice o3 n3 c3) X) := HH.out.below hbW.out
  have RD : Hid (Rd R W ob n cb p f) := hr.but fun b hb => hbW.out.block b (by omega)
  have BT0 : Hid (But (fun b => b = R) w W) := But.of_below hbW.out
  clear hr
  obtain ⟨xc2, _⟩ := cell_row HP.out 2 _ rfl
  simp only [List.getElem_toArray, List.getElem_cons_zero, List.getElem_cons_succ] at xc2
  go_enter Try.func23, Try.ntmps23
  go_upto_region 1 with fail
  rw [← hW]
  clear hW
  go_cut [13] from 5 (fun v u => ∃ (b : Bool) (q : Int), v = .bool b ∧ (b = true → 0 < n2) ∧ q ≤ p + 1 ∧ Hid (Rd R u ob n cb q f) ∧ Hid (But (fun b => b = R) W u))
  case first =>
    by_cases h0 : 0 < n2
    · have hd : decide ((0 : Int) < (n2 : Int)) = true := by simp; omega
      go_wp2_with fail
      refine (pick_rd R ob n cb f p 16 W RD.out (by omega) (by decide) (by decide)).mono ?_
      rintro e u ⟨x, rfl, hx0, hx1, p', hp', rd1, bt1⟩
      cases hx : decide ((0 : Int) < x)
      · go_wp2_with fail
        go_meet
        case rel => exact ⟨_, p', rfl, fun _ => h0, hp', rd1, bt1⟩
      · go_wp2_with fail
        go_meet
        case rel => exact ⟨_, p', rfl, fun _ => h0, hp', rd1, bt1⟩
    · have hd : decide ((0 : Int) < (n2 : Int)) = false := by simp; omega
      go_wp2_with fail
      go_meet
      case rel => exact ⟨_, p, rfl, (fun h => by cases h), by omega, RD, But.refl _ _⟩
  case rest =>
    obtain ⟨b, q, rfl, hn, hq, rd1, bt1⟩ := hcut
    obtain ⟨u, eu⟩ : ∃ x, x = wc := ⟨_, rfl⟩
    rw [← eu] at rd1 bt1 ⊢
    clear eu xc2
    have hsu := bt1.out.size
    have HPu : Hid (u.heap[w.heap.size]? = some (.cells #[.slice o0 n0 c0, .slice o1 n1 c1, .slice o2 n2 c2, .slice o3 n3 c3] 28 (0, 0))) := (bt1.out.block _ (by omega) (by omega)).trans HP.out
    have HLu : Hid (PlR B u (.slice o0 n0 c0) (.slice o1 n1 c1) (.slice o2 n2 c2) (.slice o3 n3 c3) X) := HW.out.block fun g hg hlt => bt1.out.block g hlt (by omega)
    have BTu : Hid (But (fun b => b = R) w u) := BT0.out.trans bt1.out
    cases b
    case true =>
      have h0 : 0 < n2 := hn rfl
      have hn20 : n2 ≤ 20 := by have := hX.np; omega
      go_upto_region 2 with fail
      refine wp_region_movesC (fun v => v.heap[w.heap.size]? = some (.cells #[.slice o0 n0 c0, .slice o1 n1 c1, .slice o2 n2 c2, .slice o3 n3 c3] 28 (0, 0))) 7 [] (by kernel_rfl) (by kernel_rfl) HPu.out ?_
      simp only [List.filterMap_nil, movD]
      refine takeHQ (f := 6) (i := 0) (.pointer (some ⟨w.heap.size, 2, none⟩)) ⟨rfl, rfl⟩ (by kernel_rfl) rfl HPu.out ?q0 ?_
      case q0 => intro v hv; go_simp
      simp only [Act.put, List.setIfInBounds_toArray, List.set_cons_zero, List.set_cons_succ]
      refine takeHQ (f := 5) (i := 1) (.slice o2 n2 c2) ⟨rfl, rfl⟩ (by kernel_rfl) rfl HPu.out ?q1 ?_
      case q1 => intro v hv; have c0 := (cell_row hv 2 (.slice o2 n2 c2) rfl).1; go_simp
      simp only [Act.put, List.setIfInBounds_toArray, List.set_cons_zero, List.set_cons_succ]
      refine takeHQ (f := 4) (i := 2) (.pointer (some ⟨R, 0, none⟩)) ⟨rfl, rfl⟩ (by kernel_rfl) rfl HPu.out ?q2 ?_
      case q2 => intro v hv; go_simp
      simp only [Act.put, List.setIfInBounds_toArray, List.set_cons_zero, List.set_cons_succ]
      refine takeHQ (f := 3) (i := 3) (.pointer (some ⟨w.heap.size, 2, none⟩)) ⟨rfl, rfl⟩ (by kernel_rfl) rfl HPu.out ?q3 ?_
      case q3 => intro v hv; go_simp
      simp only [Act.put, List.setIfInBounds_toArray, List.set_cons_zero, List.set_cons_succ]
      refine takeHQ (f := 2) (i := 4) (.slice o2 n2 c2) ⟨rfl, rfl⟩ (by kernel_rfl) rfl HPu.out ?q4 ?_
      case q4 => intro v hv; have c0 := (cell_row hv 2 (.slice o2 n2 c2) rfl).1; go_simp
      simp only [Act.put, List.setIfInBounds_toArray, List.set_cons_zero, List.set_cons_succ]
      refine takeHQ (f := 1) (i := 5) (.int .i64 n2) ⟨rfl, rfl⟩ (by kernel_rfl) rfl HPu.out ?q5 ?_
      case q5 => intro v hv; go_simp
      simp only [Act.put, List.setIfInBounds_toArray, List.set_cons_zero, List.set_cons_succ]
      have rdd : Rd R u.drew ob n cb q f := rd1.out.but (fun b hb => rfl)
      refine callHd (f := 0) (i := 6) ⟨rfl, rfl⟩ (by decide) (by kernel_rfl) rfl ?r6 ((pick_rd R ob n cb f q n2 u.drew rdd (by omega) (by omega) (by omega)).mono ?_)
      case r6 => go_simp
      rintro e u2 ⟨x, rfl, hx0, hx1, p', hp', rd2, bt2⟩
      obtain ⟨j, rfl⟩ := Int.eq_ofNat_of_zero_le hx0
      have hj : j < n2 := by omega
      have hdr : But (fun b => b = R) u u.drew := But.of_below ((Below.refl _ _).drew)
      have b2 : But (fun b => b = R) u u2 := hdr.trans bt2.out
      refine ⟨_, rfl, (b2.block _ (by omega) (by omega)).trans HPu.out, ?_⟩
      simp only [Act.put, List.setIfInBounds_toArray, List.set_cons_zero, List.set_cons_succ]
      refine ⟨by kernel_rfl, ?_⟩
      simp only [List.drop_succ_cons, List.drop_zero]
      obtain ⟨g, cap', e', hgB, hgu, hcell⟩ := Row.cell HLu.out.p (i := j) (by omega)
      injection e' with e1 e2 e3
      subst e1
      obtain ⟨y, ey⟩ : ∃ y, (X.pp[j]'(by omega)).1 = y := ⟨_, rfl⟩
      have ysz : Hid (y.size ≤ maxLen) := by rw [← ey]; exact (hX.p _ (List.getElem_mem (by omega))).1
      have e0 : u2.cell? ⟨g, j * 3, none⟩ = some (.string y) := (World.cell?_of_block (w := u) (a := ⟨g, j * 3, none⟩) (b2.block g hgu (by omega))).trans (by have := (hcell 0 (by omega)).1; rw [← ey]; exact this)
      have hjl : ((j : Int) < (n2 : Int)) := by omega
      have B2 : Hid (But (fun b => b = R) w u2) := BTu.out.trans b2
      clear e2 e3 hcell ey bt2 b2 hdr rdd
      go_wp2_with fail
      go_ret
      exact plcP ysz.out (by omega) rd2.out B2.out
    case false =>
      obtain ⟨V, hV⟩ : ∃ V, V = u.alloc (.cells (([⟨#[110, 111, 110, 101]⟩, ⟨#[]⟩, ⟨#[97]⟩] : List ByteArray).map Value.string).toArray 9) := ⟨_, rfl⟩
      have bV : Hid (Below u.heap.size u V) := by rw [hV]; exact (Below.refl _ _).alloc (Nat.le_refl _) _
      have hat : Hid (AtL (fun b => b = u.heap.size) V ([⟨#[110, 111, 110, 101]⟩, ⟨#[]⟩, ⟨#[97]⟩] : List ByteArray) (.slice (some ⟨u.heap.size, 0, none⟩) 3 3)) := by rw [hV]; exact lit_at 9 u ([⟨#[110, 111, 110, 101]⟩, ⟨#[]⟩, ⟨#[97]⟩] : List ByteArray) (by unfold maxLen; simp) (by intro s hs; simp at hs; rcases hs with rfl | rfl | rfl <;> (unfold maxLen; decide))
      have szV : Hid (u.heap.size < V.heap.size) := by show u.heap.size < V.heap.size; rw [hV]; simp
      have rdV : Hid (Rd R V ob n cb q f) := rd1.out.but fun b hb => bV.out.block b (by omega)
      have EV : Hid (V = u.alloc (.cells #[.string ⟨#[110, 111, 110, 101]⟩, .string ⟨#[]⟩, .string ⟨#[97]⟩] 9)) := hV
      clear hV
      go_wp2_with fail
      rw [← EV.out]
      refine (of_rd R ob n cb f q (fun b => b = u.heap.size) _ _ V rdV.out (by omega) hat.out (fun b hb => by have := szV.out; exact ⟨by omega, by omega⟩) (by decide) (by decide)).mono ?_
      rintro e u2 ⟨s, hs, rfl, p', hp', rd2, bt2⟩
      have ysz : Hid (s.size ≤ maxLen) := by show s.size ≤ maxLen; simp at hs; rcases hs with rfl | rfl | rfl <;> (unfold maxLen; decide)
      have B2 : Hid (But (fun b => b = R) w u2) := BTu.out.trans ((But.of_below bV.out).trans bt2.out)
      clear hs bt2
      go_wp2_with fail
      go_ret
      exact plcP ysz.out (by omega) rd2.out B2.out
end Go.Proofs.Ytgjcppdeljoimaa

namespace Go.Proofs.Ytgjcppdeljoimaa
open Go.RowKit Go.Sort
theorem own_builtP {base e size k : Nat} {w : World} {c : Array Value} (hb : base ≤ w.heap.size) (hk : k ≤ maxLen) (hc : c.size = k * size) : (w.alloc (.cells c e)).ownsRow base e size (.slice (some ⟨w.heap.size, 0, none⟩) k k) k c.toList :=
  ⟨by simp [hc], .inr ⟨w.heap.size, k, c, rfl, hb, heap_alloc_new w _, Nat.le_refl _, hk, hc, by rw [List.take_of_length_le (by simp [hc])]⟩⟩
theorem own_form {w : World} {base e size n : Nat} {v : Value} {xs : List Value} (h : w.ownsRow base e size v n xs) : ∃ oa cap, v = .slice oa n cap := by
  rcases h.2 with ⟨hv, hn⟩ | ⟨g, cap, cur, hv, _⟩
  · exact ⟨none, 0, by rw [hv, hn]⟩
  · exact ⟨_, cap, hv⟩
theorem src_one (x : ByteArray) (w : World) : Src (w.alloc (.cells #[.string x] 9)) (.slice (some ⟨w.heap.size, 0, none⟩) 1 1) 1 1 [.string x] := by
  have h := own_builtP (base := 0) (e := 9) (size := 1) (k := 1) (w := w) (c := #[.string x]) (Nat.zero_le _) (by unfold maxLen; omega) rfl
  refine ⟨rfl, ?_⟩
  exact .inr ⟨_, _, rfl, fun j u hj => World.ownsRow.cells h (g := w.heap.size) rfl j u hj⟩
set_option maxRecDepth 100000 in
set_option maxHeartbeats 4000000 in
theorem vessel_dr (R : Nat) (ob : Option Addr) (n cb : Nat) (f : Nat → Int) (p : Int) (B : Nat) (v0 v1 v2 v3 : Value) (X : PlL) (w : World) (hr : Rd R w ob n cb p f) (hp : p ≤ 70000) (h : PlR B w v0 v1 v2 v3 X) (hX : PlL.OkN 20 X) (hR : R < B) :
    Calls Try.prog 14 #[.pointer (some ⟨R, 0, none⟩), .agg #[v0, v1, v2, v3]] w fun e w' => PlcP R ob n cb f (p + 4) w e w' := by
  obtain ⟨o0, c0, rfl⟩ := Row.form h.s
  obtain ⟨o1, c1, rfl⟩ := Row.form h.f
  obtain ⟨o2, c2, rfl⟩ := Row.form h.p
  obtain ⟨o3, c3, rfl⟩ := Row.form h.v
  generalize en0 : X.ss.length = n0 at h ⊢
  generalize en1 : X.ff.length = n1 at h ⊢
  generalize en2 : X.pp.length = n2 at h ⊢
  generalize en3 : X.vv.length = n3 at h ⊢
  have HH : Hid (PlR B w (.slice o0 n0 c0) (.slice o1 n1 c1) (.slice o2 n2 c2) (.slice o3 n3 c3) X) := h
  clear h
  have rlt := hr.lt
  have hn20 : n2 ≤ 20 := by have := hX.np; omega
  obtain ⟨W, hW⟩ : ∃ W, W = (w.alloc (.cells #[.slice o0 n0 c0, .slice o1 n1 c1, .slice o2 n2 c2, .slice o3 n3 c3] 28)).alloc (.cells #[] 9) := ⟨_, rfl⟩
  have hbW : Hid (Below w.heap.size w W) := by rw [hW]; exact ((Below.refl _ _).alloc (Nat.le_refl _) _).alloc (by simp) _
  have hsW : W.heap.size = w.heap.size + 1 + 1 := by rw [hW]; simp
  have HP : Hid (W.heap[w.heap.size]? = some (.cells #[.slice o0 n0 c0, .slice o1 n1 c1, .slice o2 n2 c2, .slice o3 n3 c3] 28 (0, 0))) := by rw [hW]; exact (Below.heap_alloc _ _ _ (by simp)).trans (heap_alloc_new w _)
  have HL0 : Hid (Row W (w.heap.size + 1) 9 1 e1S (.slice (some ⟨w.heap.size + 1, 0, none⟩) 0 0) []) := by
    have e : (w.alloc (.cells #[.slice o0 n0 c0, .slice o1 n1 c1, .slice o2 n2 c2, .slice o3 n3 c3] 28)).heap.size = w.heap.size + 1 := by simp
    have := Row.made (w.alloc (.cells #[.slice o0 n0 c0, .slice o1 n1 c1, .slice o2 n2 c2, .slice o3 n3 c3] 28)) (B := w.heap.size + 1) 9 1 e1S (by omega)
    rw [e, ← hW] at this
    exact this
  have RD : Hid (Rd R w ob n cb p f) := hr
  clear hr
  go_enter Try.func14, Try.ntmps14
  go_upto_region 2 with fail
  rw [← hW]
  clear hW
  go_upto_block 0 with fail
  go_cut [5] from 7 (fun v u => ∃ (oL : Option Addr) (nL kL : Nat) (L : List ByteArray), v = .slice oL nL kL ∧ L.length = nL ∧ nL ≤ 20 ∧ Hid (∀ s ∈ L, s.size ≤ maxLen) ∧ Hid (Row u (w.heap.size + 1) 9 1 e1S (.slice oL nL kL) L) ∧ Hid (Below w.heap.size w u) ∧ Hid (u.heap[w.heap.size]? = some (.cells #[.slice o0 n0 c0, .slice o1 n1 c1, .slice o2 n2 c2, .slice o3 n3 c3] 28 (0, 0))))
  case first =>
    go_wp2_with fail
    go_loopw [5, 6] (fun v i u => ∃ (k : Nat) (oL : Option Addr) (nL kL : Nat) (L : List ByteArray), k ≤ n2 ∧ i = .int .i64 k ∧ v = .slice oL nL kL ∧ L.length = nL ∧ nL ≤ k ∧ Hid (∀ s ∈ L, s.size ≤ maxLen) ∧ Hid (Row u (w.heap.size + 1) 9 1 e1S (.slice oL nL kL) L) ∧ Hid (Below w.heap.size w u) ∧ Hid (u.heap[w.heap.size]? = some (.cells #[.slice o0 n0 c0, .slice o1 n1 c1, .slice o2 n2 c2, .slice o3 n3 c3] 28 (0, 0)))) (fun _ i _ => n2 - (intOf i).toNat)
    case atStart => exact ⟨0, _, 0, 0, [], Nat.zero_le _, rfl, rfl, rfl, Nat.le_refl _, (fun s (hs : s ∈ []) => nomatch hs), HL0, hbW, HP⟩
    case round =>
      obtain ⟨k, oL, nL, kL, L, hk, rfl, rfl, hlen, hnk, hsz, hrow, hbu, hpb⟩ := hrel
      have HLEN : Hid (L.length = nL) := hlen
      clear hlen
      have swr := hbu.out.size
      have x2 := (cell_row hpb.out 2 (.slice o2 n2 c2) rfl).1
      by_cases hlt : k < n2
      · have hlt' : ((k : Int) < (n2 : Int)) := by omega
        have HPW : Hid _ := (HH.out.below hbu.out).p
        obtain ⟨g, cap', e', _, hgu, hcell⟩ := Row.cell HPW.out (i := k) (by omega)
        injection e' with e1 e2 e3
        subst e1
        obtain ⟨y, ey⟩ : ∃ y, (X.pp[k]'(by omega)).1 = y := ⟨_, rfl⟩
        obtain ⟨cp, ecp⟩ : ∃ y, (X.pp[k]'(by omega)).2.1 = y := ⟨_, rfl⟩
        have YSZ : Hid (y.size ≤ maxLen) := by show y.size ≤ maxLen; rw [← ey]; exact (hX.p _ (List.getElem_mem (by omega))).1
        have f0 := (hcell 0 (by omega)).1
        have f1 := (hcell 1 (by omega)).1
        have e0 : wr.cell? ⟨g, k * 3, none⟩ = some (.string y) := by rw [← ey]; exact f0
        have e1 : wr.cell? ⟨g, k * 3 + 1, none⟩ = some (.int .i64 cp) := by rw [← ecp]; exact f1
        clear e2 e3 hcell f0 f1 ey ecp
        cases hc : decide ((0 : Int) < cp)
        · go_wp2_with fail
          go_roundw
          case rel => exact ⟨k + 1, oL, nL, kL, L, by omega, by go_num, rfl, HLEN.out, by omega, hsz, hrow, hbu, hpb⟩
          case measure => simp [intOf]; omega
        · have HOWN : Hid ((wr.alloc (.cells #[.string y] 9)).ownsRow (w.heap.size + 1) 9 1 (.slice oL nL kL) nL (enc 1 e1S L)) := by
            have := Row.below hrow.out ((Below.refl _ _).alloc (Nat.le_refl _) (.cells #[.string y] 9))
            rw [Row, HLEN.out] at this
            exact this
          have HSRC : Hid _ := src_one y wr
          go_wp2_with (first
            | (at_builtin; refine wpList_app elS1 rfl _ _ rfl rfl rfl HOWN.out HSRC.out (by intro z hz; simp at hz; subst hz; rfl) (by unfold maxLen; omega) (by omega) (by simp; omega) ?_; intro v' u8 hown hgr0 _; obtain ⟨ov', kv', rfl⟩ := own_form hown; have hgr : Hid ((wr.alloc (.cells #[.string y] 9)).grownBy u8 (Value.slice oL nL kL).ownBlock) := hgr0; have HO8 : Hid _ := hown; clear hown hgr0))
          have BA : Below w.heap.size w (wr.alloc (.cells #[.string y] 9)) := hbu.out.alloc swr _
          have hne : ∀ q, (Value.slice oL nL kL).ownBlock = some q → w.heap.size + 1 ≤ q := fun q hq => (World.ownsRow.lt hrow.out q hq).1
          have B8 : Hid (Below w.heap.size w u8) := BA.grown hgr.out (by simp; omega) (fun q hq => by have := hne q hq; omega)
          have hwl := (Array.getElem?_eq_some_iff.1 hpb.out).1
          have P8 : Hid _ := (hgr.out.block w.heap.size (by simp; omega) (fun e => by have := hne _ e.symm; omega)).trans ((Below.heap_alloc _ _ _ (by omega)).trans hpb.out)
          have R8 : Hid (Row u8 (w.heap.size + 1) 9 1 e1S (.slice ov' (nL + 1) kv') (L ++ [y])) := by
            show World.ownsRow _ _ _ _ _ _ _
            rw [List.length_append, enc_append, HLEN.out]
            exact HO8.out
          go_roundw
          case rel => exact ⟨k + 1, ov', nL + 1, kv', L ++ [y], by omega, by go_num, rfl, by rw [List.length_append, HLEN.out]; rfl, by omega, (fun s hs => by
            rcases List.mem_append.1 hs with h | h
            · exact hsz.out s h
            · rw [List.mem_singleton.1 h]; exact YSZ.out), R8, B8, P8⟩
          case measure => simp [intOf]; omega
      · have hge : decide ((k : Int) < (n2 : Int)) = false := by simp; omega
        go_wp2_with fail
        go_meet
        case rel => exact ⟨oL, nL, kL, L, rfl, HLEN.out, by omega, hsz, hrow, hbu, hpb⟩
  case rest =>
    obtain ⟨oL, nL, kL, L, rfl, hlen, hn, hsz, hrow, hbu, hpb⟩ := hcut
    obtain ⟨u, eu⟩ : ∃ x, x = wc := ⟨_, rfl⟩
    rw [← eu] at hrow hbu hpb ⊢
    clear eu
    have HLEN : Hid (L.length = nL) := hlen
    clear hlen
    have suu := hbu.out.size
    have RDu : Hid (Rd R u ob n cb p f) := RD.out.but fun b hb => hbu.out.block b (by omega)
    go_upto_region 7 with fail
    go_cut [38] from 7 (fun v u' => ∃ (b : Bool) (q : Int), v = .bool b ∧ (b = true → 0 < nL) ∧ q ≤ p + 1 ∧ Hid (Rd R u' ob n cb q f) ∧ Hid (But (fun b => b = R) u u'))
    case first =>
      by_cases h0 : 0 < nL
      · have hd : decide ((0 : Int) < (nL : Int)) = true := by simp; omega
        go_wp2_with fail
        refine (pick_rd R ob n cb f p 16 u RDu.out (by omega) (by decide) (by decide)).mono ?_
        rintro e u1 ⟨x, rfl, hx0, hx1, p', hp', rd1, bt1⟩
        cases hx : decide ((0 : Int) < x)
        · go_wp2_with fail
          go_meet
          case rel => exact ⟨_, p', rfl, fun _ => h0, hp', rd1, bt1⟩
        · go_wp2_with fail
          go_meet
          case rel => exact ⟨_, p', rfl, fun _ => h0, hp', rd1, bt1⟩
      · have hd : decide ((0 : Int) < (nL : Int)) = false := by simp; omega
        go_wp2_with fail
        go_meet
        case rel => exact ⟨_, p, rfl, (fun h => by cases h), by omega, RDu, But.refl _ _⟩
    case rest =>
      obtain ⟨b, q, rfl, hn1, hq, rd1, bt1⟩ := hcut
      obtain ⟨u1, eu1⟩ : ∃ x, x = wc := ⟨_, rfl⟩
      rw [← eu1] at rd1 bt1 ⊢
      clear eu1
      have hsu := bt1.out.size
      have HP1 : Hid (u1.heap[w.heap.size]? = some (.cells #[.slice o0 n0 c0, .slice o1 n1 c1, .slice o2 n2 c2, .slice o3 n3 c3] 28 (0, 0))) := (bt1.out.block _ (by have := (Array.getElem?_eq_some_iff.1 hpb.out).1; omega) (by omega)).trans hpb.out
      have BT1 : Hid (But (fun b => b = R) w u1) := (But.of_below hbu.out).trans bt1.out
      have hpu := (Array.getElem?_eq_some_iff.1 HP1.out).1
      cases b
      case true =>
        have h0 : 0 < nL := hn1 rfl
        have HR1 : Hid (Row u1 (w.heap.size + 1) 9 1 e1S (.slice oL nL kL) L) := Row.block hrow.out fun g hg => bt1.out.block g (World.ownsRow.lt hrow.out g hg).2 (fun e => by have e' : g = R := e; have := (World.ownsRow.lt hrow.out g hg).1; omega)
        go_wp2_with fail
        refine (pick_rd R ob n cb f q nL u1 rd1.out (by omega) (by omega) (by omega)).mono ?_
        rintro e u2 ⟨x, rfl, hx0, hx1, p', hp', rd2, bt2⟩
        obtain ⟨j, rfl⟩ := Int.eq_ofNat_of_zero_le hx0
        have hj : j < L.length := by have := HLEN.out; omega
        obtain ⟨g, cap', e', hgB, hgu, hcell⟩ := Row.cell HR1.out hj
        injection e' with e1 e2 e3
        subst e1
        obtain ⟨y, ey⟩ : ∃ y, L[j] = y := ⟨_, rfl⟩
        have YSZ : Hid (y.size ≤ maxLen) := by show y.size ≤ maxLen; rw [← ey]; exact hsz.out _ (List.getElem_mem hj)
        have e0 : u2.cell? ⟨g, j, none⟩ = some (.string y) := by
          have h1 := (hcell 0 (by omega)).1
          rw [Nat.mul_one, Nat.add_zero] at h1
          exact (World.cell?_of_block (w := u1) (a := ⟨g, j, none⟩) (bt2.out.block g hgu (by omega))).trans (by rw [h1, ← ey]; rfl)
        have hjl : ((j : Int) < (nL : Int)) := by have := HLEN.out; omega
        have B2 : Hid (But (fun b => b = R) w u2) := BT1.out.trans bt2.out
        clear e2 e3 hcell ey bt2
        go_wp2_with fail
        go_ret
        exact plcP YSZ.out (by omega) rd2.out B2.out
      case false =>
        have HL1 : Hid (PlR B u1 (.slice o0 n0 c0) (.slice o1 n1 c1) (.slice o2 n2 c2) (.slice o3 n3 c3) X) := HH.out.block fun g hg hlt => (bt1.out.block g (by omega) (by omega)).trans (hbu.out.block g hlt)
        obtain ⟨xr0, _⟩ := cell_row (HP1.out) 0 _ rfl
        obtain ⟨xr1, _⟩ := cell_row (HP1.out) 1 _ rfl
        obtain ⟨xr2, _⟩ := cell_row (HP1.out) 2 _ rfl
        obtain ⟨xr3, _⟩ := cell_row (HP1.out) 3 _ rfl
        simp only [List.getElem_toArray, List.getElem_cons_zero, List.getElem_cons_succ] at xr0 xr1 xr2 xr3
        go_wp2_with fail
        refine (place_dr R ob n cb f q B _ _ _ _ X u1 rd1.out (by omega) HL1.out hX hR).mono ?_
        rintro _ u2 ⟨s, q', rfl, hs, hq', rd2, bt2⟩
        have B2 : Hid (But (fun b => b = R) w u2) := BT1.out.trans bt2
        have RD2 : Hid _ := rd2
        have YSZ : Hid (s.size ≤ maxLen) := hs
        clear xr0 xr1 xr2 xr3 bt2 rd2 hs
        go_wp2_with fail
        go_ret
        exact plcP YSZ.out (by omega) RD2.out B2.out
end Go.Proofs.Ytgjcppdeljoimaa

namespace Go.Proofs.Ytgjcppdeljoimaa
open Go.RowKit
theorem readyH {P : Program} {ops : Array Oper} {C : World → Prop} {n f : Nat} {L : Array Bool → Act → World → Prop} {listed : Array Bool} {a : Act} {w : World} (rs : List Nat) (hr : Region.ready .any ops listed = rs) (h0 : rs ≠ []) (h : ∀ i ∈ rs, i < n ∧ stepH P ops i (fun a' w' => C w' ∧ anyH P .any ops C n L f (listed.setIfInBounds i true) a' w') a w) : anyH P .any ops C n L (f + 1) listed a w := by
  subst hr; exact ⟨h0, h⟩
end Go.Proofs.Ytgjcppdeljoimaa

namespace Go.Proofs.Ytgjcppdeljoimaa
open Go.RowKit Go.Sort
def blkIn (k : Nat) : Code → Option Code
  | .block i c => if Nat.beq i k then some (.block i c) else blkIn k c
  | .seq a b => match blkIn k a with
    | some x => some x
    | none => blkIn k b
  | .cond _ a b => match blkIn k a with
    | some x => some x
    | none => blkIn k b
  | .loop c => blkIn k c
  | _ => none
def blk (k : Nat) (F : Func) : Code := match F.body with
  | some c => (blkIn k c).getD .skip
  | none => .skip
theorem len155 {xs : List Value} (h : xs.length = 155) : ∃ g : Nat → Value, xs = [g 0, g 1, g 2, g 3, g 4, g 5, g 6, g 7, g 8, g 9, g 10, g 11, g 12, g 13, g 14, g 15, g 16, g 17, g 18, g 19, g 20, g 21, g 22, g 23, g 24, g 25, g 26, g 27, g 28, g 29, g 30, g 31, g 32, g 33, g 34, g 35, g 36, g 37, g 38, g 39, g 40, g 41, g 42, g 43, g 44, g 45, g 46, g 47, g 48, g 49, g 50, g 51, g 52, g 53, g 54, g 55, g 56, g 57, g 58, g 59, g 60, g 61, g 62, g 63, g 64, g 65, g 66, g 67, g 68, g 69, g 70, g 71, g 72, g 73, g 74, g 75, g 76, g 77, g 78, g 79, g 80, g 81, g 82, g 83, g 84, g 85, g 86, g 87, g 88, g 89, g 90, g 91, g 92, g 93, g 94, g 95, g 96, g 97, g 98, g 99, g 100, g 101, g 102, g 103, g 104, g 105, g 106, g 107, g 108, g 109, g 110, g 111, g 112, g 113, g 114, g 115, g 116, g 117, g 118, g 119, g 120, g 121, g 122, g 123, g 124, g 125, g 126, g 127, g 128, g 129, g 130, g 131, g 132, g 133, g 134, g 135, g 136, g 137, g 138, g 139, g 140, g 141, g 142, g 143, g 144, g 145, g 146, g 147, g 148, g 149, g 150, g 151, g 152, g 153, g 154] := by
  refine ⟨fun i => xs.getD i (.bool false), ?_⟩
  have e : xs = (List.range xs.length).map (fun i => xs.getD i (.bool false)) := by
    refine List.ext_getElem (by simp) (fun i h1 h2 => ?_)
    simp [List.getD_eq_getElem?_getD, List.getElem?_eq_getElem h1]
  rw [h] at e
  exact e.trans rfl
def Dst (R P B : Nat) (W : World) (ob : Option Addr) (n cb : Nat) (f : Nat → Int) (c : Int) (w : World) : Prop := ∃ v0 v1 v2 v3 X, Ds R P B W ob n cb f v0 v1 v2 v3 X c w
def DrwP (R : Nat) (ob : Option Addr) (n cb : Nat) (f : Nat → Int) (c : Int) (w : World) (e : Ending) (w' : World) : Prop := ∃ u0 u1 u2 u3 X q, e = .returned (.agg #[u0, u1, u2, u3]) ∧ PlR w.heap.size w' u0 u1 u2 u3 X ∧ X.Ok ∧ q ≤ c ∧ Rd R w' ob n cb q f ∧ But (fun b => b = R) w w'
theorem but_lo {R : Nat} {w v : World} (h : But (fun b => b = R ∨ w.heap.size ≤ b) w v) : But (fun b => b = R) w v := ⟨h.os, h.tape, h.output, h.size, fun q hq hno => h.block q hq (fun e => e.elim hno (fun e => by omega))⟩
theorem PlR.low {B B' : Nat} {w : World} {v0 v1 v2 v3 : Value} {X : PlL} (h : PlR B w v0 v1 v2 v3 X) (hB : B' ≤ B) : PlR B' w v0 v1 v2 v3 X := ⟨h.s.low hB, h.f.low hB, h.p.low hB, h.v.low hB⟩
theorem okNil : PlL.Ok ⟨[], [], [], []⟩ := ⟨Nat.zero_le _, Nat.zero_le _, Nat.zero_le _, Nat.zero_le _, fun _ h => (by cases h), fun _ h => (by cases h), fun _ h => (by cases h), fun _ h => (by cases h)⟩
def gl (l : List ByteArray) (i : Nat) : ByteArray := l.getD i ByteArray.empty
theorem gl_at {w : World} {g : Nat} {l : List ByteArray} {t : TypeId} (h : w.heap[g]? = some (.cells (l.map Value.string).toArray t (0, 0))) (i : Nat) (hi : i < l.length) : w.cell? ⟨g, i, none⟩ = some (.string (gl l i)) := by
  have e : gl l i = l[i] := by unfold gl; rw [List.getD_eq_getElem?_getD, List.getElem?_eq_getElem hi, Option.getD_some]
  rw [e]
  exact (cell_row h i _ (by simp [hi])).1
theorem gl_sz {l : List ByteArray} (h : ∀ s ∈ l, s.size ≤ maxLen) (i : Nat) : (gl l i).size ≤ maxLen := by
  unfold gl
  by_cases hi : i < l.length
  · rw [List.getD_eq_getElem?_getD, List.getElem?_eq_getElem hi, Option.getD_some]; exact h _ (List.getElem_mem hi)
  · rw [List.getD_eq_getElem?_getD, List.getElem?_eq_none (by omega), Option.getD_none]; exact Nat.zero_le _
theorem Dst.up {R P B : Nat} {W : World} {ob : Option Addr} {n cb : Nat} {f : Nat → Int} {c c' : Int} {w : World} (h : Dst R P B W ob n cb f c w) (hc : c ≤ c') : Dst R P B W ob n cb f c' w := by
  obtain ⟨v0, v1, v2, v3, X, h⟩ := h
  exact ⟨v0, v1, v2, v3, X, h.up hc⟩
theorem Ds.grow0 {R P B : Nat} {W : World} {ob : Option Addr} {n cb : Nat} {f : Nat → Int} {v0 v1 v2 v3 v' : Value} {X : PlL} {c : Int} {w u : World} {y : ByteArray} (h : Ds R P B W ob n cb f v0 v1 v2 v3 X c w) (hg : w.grownBy u v0.ownBlock) (hr : Row u B 9 1 e1S v' (X.ss ++ [y])) (hy : y.size ≤ maxLen) (hn : X.ss.length < 18) (hW : W.heap.size ≤ B) :
    Ds R P B W ob n cb f v' v1 v2 v3 { X with ss := X.ss ++ [y] } c (u.setCell ⟨P, 0, none⟩ v') := by
  have hl := h.low
  have hs := h.size
  have lo : ∀ q, v0.ownBlock = some q → B ≤ q := fun q hq => (World.ownsRow.lt h.pl.s q hq).1
  have oth : ∀ q, q ≠ P → (u.setCell ⟨P, 0, none⟩ v').heap[q]? = u.heap[q]? := fun q hq => Below.heap_setCell _ _ _ _ hq
  have hbP : u.heap[P]? = some (.cells #[v0, v1, v2, v3] 28 (0, 0)) := (hg.block P (by omega) (fun e => by have := lo _ e.symm; omega)).trans h.bx
  obtain ⟨q, hq, hrd⟩ := h.rd
  have kp : ∀ {α : Type} {t : TypeId} {k : Nat} {e : α → Nat → Value} {v : Value} {l : List α}, Row w B t k e v l → 9 ≠ t → Row (u.setCell ⟨P, 0, none⟩ v') B t k e v l := fun {α t k e v l} hrow ht => Row.block hrow fun g hg' => by
    have h1 := World.ownsRow.lt hrow g hg'
    refine (oth g (by omega)).trans (hg.block g h1.2 (fun e2 => ?_))
    rcases Row.apart hrow h.pl.s (Ne.symm ht) with h2 | h2
    · rw [hg'] at h2; cases h2
    · exact h2 (hg'.trans e2)
  refine ⟨⟨q, hq, hrd.but fun b hb => (oth b (by omega)).trans (hg.block b (by omega) (fun e => by have := lo _ e.symm; omega))⟩, ?_, ?_, ⟨Row.block hr fun g hg' => oth g (by have := (World.ownsRow.lt hr g hg').1; omega), kp h.pl.f (by decide), kp h.pl.p (by decide), kp h.pl.v (by decide)⟩, ⟨by show (X.ss ++ [y]).length ≤ 18; simp; omega, h.ok.nf, h.ok.np, h.ok.nv, fun s hs' => ?_, h.ok.f, h.ok.p, h.ok.v⟩, hl⟩
  · refine But.set (S := fun b => b = R ∨ b = P) ?_ (.inr rfl) 0 _
    exact ⟨hg.os.trans h.bt.os, hg.tape.trans h.bt.tape, hg.output.trans h.bt.output, Nat.le_trans hs hg.size, fun q hq hno => (hg.block q (by omega) (fun e => by have := lo _ e.symm; omega)).trans (h.bt.block q hq hno)⟩
  · rw [set_row hbP 0 v']; rfl
  · rcases List.mem_append.1 hs' with h1 | h1
    · exact h.ok.s s h1
    · rw [List.mem_singleton.1 h1]; exact hy
end Go.Proofs.Ytgjcppdeljoimaa
