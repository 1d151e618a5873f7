/-
  A drawn book of shares: how great it is, where it lies; the things alone: l55Base.
-/
import Derived.Test.YthgnhjkkfhfgmabZdc
namespace Go.Proofs.Ythgnhjkkfhfgmab
open Go.RowKit Go.Sort

/-- Lists and books of at most c. -/
def SzL (c : Nat) (l : List ByteArray) : Prop := l.length ≤ c ∧ ∀ x ∈ l, x.size ≤ c
def SzB (c : Nat) (f : DShareBatch) : Prop := f.1.size ≤ c ∧ SzL c f.2.1 ∧ SzL c f.2.2
def SzD (c : Nat) (D : DShareBook) : Prop := SzL c D.1 ∧ D.2.length ≤ c ∧ ∀ f ∈ D.2, SzB c f
theorem SzL.mono {c d : Nat} {l : List ByteArray} (h : SzL c l) (hc : c ≤ d) : SzL d l := ⟨Nat.le_trans h.1 hc, fun x hx => Nat.le_trans (h.2 x hx) hc⟩
theorem SzB.mono {c d : Nat} {f : DShareBatch} (h : SzB c f) (hc : c ≤ d) : SzB d f := ⟨Nat.le_trans h.1 hc, h.2.1.mono hc, h.2.2.mono hc⟩
theorem SzD.mono {c d : Nat} {D : DShareBook} (h : SzD c D) (hc : c ≤ d) : SzD d D := ⟨h.1.mono hc, Nat.le_trans h.2.1 hc, fun f hf => (h.2.2 f hf).mono hc⟩
theorem SzD.sm {D : DShareBook} (h : SzD 64 D) : SmD D := ⟨h.1, h.2.1, h.2.2⟩
theorem SzL.nil (c : Nat) : SzL c [] := ⟨Nat.zero_le _, fun x hx => by cases hx⟩
theorem SzL.sub {c : Nat} {l m : List ByteArray} (h : SzL c l) (hl : m.length ≤ l.length) (hm : ∀ x ∈ m, x ∈ l) : SzL c m := ⟨Nat.le_trans hl h.1, fun x hx => h.2 x (hm x hx)⟩
/-- A book that lies somewhere, but not in the reader's block. -/
structure Dk (R : Nat) (w : World) (D : DShareBook) (v0 v1 : Value) : Prop where
  a0 : AtL (fun b => b < w.heap.size ∧ b ≠ R) w D.1 v0
  a1 : AtL (fun b => b < w.heap.size ∧ b ≠ R) w D.2 v1
theorem atl_but {α : Type} [Lay α] {R : Nat} {w w' : World} {l : List α} {v : Value} (h : AtL (fun b => b < w.heap.size ∧ b ≠ R) w l v) (hb : But (fun k => k = R) w w') : AtL (fun b => b < w'.heap.size ∧ b ≠ R) w' l v :=
  (h.same (hb.same (fun _ hb' => ⟨hb'.1, hb'.2⟩))).up (fun _ hb' => ⟨Nat.lt_of_lt_of_le hb'.1 hb.size, hb'.2⟩)
theorem Dk.but {R : Nat} {w w' : World} {D : DShareBook} {v0 v1 : Value} (h : Dk R w D v0 v1) (hb : But (fun k => k = R) w w') : Dk R w' D v0 v1 := ⟨atl_but h.a0 hb, atl_but h.a1 hb⟩
theorem row_dk {R B : Nat} {w : World} {v : Value} {l : List ByteArray} (h : Row w B 9 1 eS v l) (hR : R < B) (hz : ∀ s ∈ l, s.size ≤ maxLen) : AtL (fun b => b < w.heap.size ∧ b ≠ R) w l v :=
  flatS.row_at h (fun b hb => by have := World.ownsRow.lt h b hb; exact ⟨this.2, by omega⟩) hz
theorem atl_new {α : Type} [Lay α] {R B : Nat} {w : World} {l : List α} {v : Value} (h : AtL (fun b => B ≤ b ∧ b < w.heap.size) w l v) (hR : R < B) : AtL (fun b => b < w.heap.size ∧ b ≠ R) w l v := h.up (fun b hb => ⟨hb.2, by omega⟩)

set_option maxRecDepth 100000 in
set_option maxHeartbeats 8000000 in
theorem base_rd (R : Nat) (ob : Option Addr) (n cb : Nat) (f : Nat → Int) (p : Int) (w : World) (h : Rd R w ob n cb p f) (hp : p ≤ 80000) :
    Calls Try.prog 55 #[.pointer (some ⟨R, 0, none⟩)] w fun e w' => ∃ v0 T, e = .returned (.agg #[v0, .slice none 0 0]) ∧ SzL 5 T ∧ Hid (Row w' w.heap.size 9 1 eS v0 T) ∧ ∃ p', p' ≤ p + 5 ∧ Hid (Rd R w' ob n cb p' f) ∧ Hid (But (fun k => k = R) w w') := by
  have rlt := h.lt
  obtain ⟨W, hW⟩ : ∃ W, W = ((w.alloc (.cells #[.slice none 0 0, .slice none 0 0] 26)).alloc (.cells #[.slice none 0 0, .slice none 0 0] 26)).alloc (.cells #[.string ⟨#[106]⟩, .string ⟨#[107, 101, 103]⟩, .string ⟨#[116, 117, 110]⟩, .string ⟨#[118, 97, 116]⟩, .string ⟨#[119]⟩] 9) := ⟨_, rfl⟩
  have EW : Hid (W = ((w.alloc (.cells #[.slice none 0 0, .slice none 0 0] 26)).alloc (.cells #[.slice none 0 0, .slice none 0 0] 26)).alloc (.cells #[.string ⟨#[106]⟩, .string ⟨#[107, 101, 103]⟩, .string ⟨#[116, 117, 110]⟩, .string ⟨#[118, 97, 116]⟩, .string ⟨#[119]⟩] 9)) := hW
  have BW : Hid (Below w.heap.size w W) := by rw [hW]; exact (((Below.refl _ _).alloc (Nat.le_refl _) _).alloc (by simp) _).alloc (by simp; omega) _
  have R1 : Hid (W.heap[w.heap.size]? = some (.cells #[.slice none 0 0, .slice none 0 0] 26 (0, 0))) := by rw [hW]; exact (Below.heap_alloc _ _ _ (by simp; omega)).trans ((Below.heap_alloc _ _ _ (by simp)).trans (heap_alloc_new w _))
  have R2 : Hid (W.heap[w.heap.size + 1]? = some (.cells #[.slice none 0 0, .slice none 0 0] 26 (0, 0))) := by
    rw [hW]; exact (Below.heap_alloc _ _ _ (by simp)).trans (alloc_atR _ (by simp))
  have R3 : Hid (W.heap[w.heap.size + 1 + 1]? = some (.cells #[.string ⟨#[106]⟩, .string ⟨#[107, 101, 103]⟩, .string ⟨#[116, 117, 110]⟩, .string ⟨#[118, 97, 116]⟩, .string ⟨#[119]⟩] 9 (0, 0))) := by
    rw [hW]; exact alloc_atR _ (by simp)
  have sW : w.heap.size + 3 ≤ W.heap.size := by rw [hW]; simp
  have RD0 : Hid (Rd R W ob n cb p f) := h.but (fun b hb => BW.out.block b (by omega))
  clear hW h
  go_enter Try.func55, Try.ntmps55
  go_upto_region 3 with fail
  rw [← EW.out]
  go_wp2_with fail
  go_loopw [5] (fun i wr => ∃ (k : Nat) (pk : Int), k ≤ 5 ∧ i = .int .i64 k ∧ pk ≤ p + k ∧ Hid (∃ (og : Option Addr) (ng kg : Nat) (M : List ByteArray), ng ≤ k ∧ M.length = ng ∧ (∀ s ∈ M, s.size ≤ 5) ∧ wr.heap[w.heap.size + 1]? = some (.cells #[.slice og ng kg, .slice none 0 0] 26 (0, 0)) ∧ Row wr W.heap.size 9 1 eS (.slice og ng kg) M) ∧ Hid (Rd R wr ob n cb pk f) ∧ Hid (But (fun b => b = R ∨ b = w.heap.size + 1) W wr)) (fun i _ => 5 - (intOf i).toNat)
  case atStart => exact ⟨0, p, by omega, rfl, by omega, ⟨none, 0, 0, [], Nat.le_refl _, rfl, (fun s (hs : s ∈ []) => nomatch hs), R2.out, Row.nil _ _ _ _ _⟩, RD0, But.refl _ _⟩
  case round =>
    obtain ⟨k, pk, hk, rfl, hpk, hst, hrd, hbt⟩ := hrel
    have swr := hbt.out.size
    by_cases hlt : k < 5
    case neg =>
      obtain ⟨og, ng, kg, M, hngk, hml, hmz, hbx, hrow⟩ := hst.out
      have R1r : wr.heap[w.heap.size]? = some (.cells #[.slice none 0 0, .slice none 0 0] 26 (0, 0)) := (hbt.out.block _ (by omega) (by omega)).trans R1.out
      have x0 := (cell_row hbx 0 (.slice og ng kg) rfl).1
      have x1 := (cell_row hbx 1 (.slice none 0 0) rfl).1
      obtain ⟨z0, f0⟩ := cell_row R1r 0 (.slice none 0 0) rfl
      obtain ⟨z1, f1⟩ := cell_row R1r 1 (.slice none 0 0) rfl
      have FIN : Hid (((wr.setCell ⟨w.heap.size, 0, none⟩ (.slice og ng kg)).setCell ⟨w.heap.size, 1, none⟩ (.slice none 0 0)).heap[w.heap.size]? = some (.cells #[.slice og ng kg, .slice none 0 0] 26 (0, 0))) := by
        have := set_row (set_row R1r 0 (.slice og ng kg)) 1 (.slice none 0 0)
        show _ = _
        rw [this]; rfl
      have OTH : Hid (∀ q, q ≠ w.heap.size → ((wr.setCell ⟨w.heap.size, 0, none⟩ (.slice og ng kg)).setCell ⟨w.heap.size, 1, none⟩ (.slice none 0 0)).heap[q]? = wr.heap[q]?) := fun q hq => (Below.heap_setCell _ _ _ _ hq).trans (Below.heap_setCell _ _ _ _ hq)
      have BBT : Hid (But (fun k => k = R) w ((wr.setCell ⟨w.heap.size, 0, none⟩ (.slice og ng kg)).setCell ⟨w.heap.size, 1, none⟩ (.slice none 0 0))) := by
        refine but_new (but_new ?_ (Nat.le_refl _) 0 _) (Nat.le_refl _) 1 _
        have b1 : But (fun k => k = R) w W := But.of_below BW.out
        exact ⟨hbt.out.os.trans b1.os, hbt.out.tape.trans b1.tape, hbt.out.output.trans b1.output, Nat.le_trans b1.size hbt.out.size, fun b hb hn => (hbt.out.block b (by omega) (fun e => by rcases e with e | e; exact hn e; omega)).trans (b1.block b hb hn)⟩
      have HROW : Hid (Row wr W.heap.size 9 1 eS (.slice og ng kg) M) := hrow
      have HSZ : Hid (SzL 5 M) := ⟨by omega, hmz⟩
      clear hst hbx hrow hml hmz
      go_wp2_with fail
      generalize ((wr.setCell ⟨w.heap.size, 0, none⟩ (.slice og ng kg)).setCell ⟨w.heap.size, 1, none⟩ (.slice none 0 0)) = F at FIN OTH BBT ⊢
      have g0 := (cell_row FIN.out 0 (.slice og ng kg) rfl).1
      have g1 := (cell_row FIN.out 1 (.slice none 0 0) rfl).1
      refine bodyPost_ret (v := .agg #[.slice og ng kg, .slice none 0 0]) (by simp [results, Try.results55, go_sem, g0, g1]) rfl ⟨_, M, rfl, HSZ.out, Row.low (Row.block HROW.out fun q hq => OTH.out q (by have := (World.ownsRow.lt HROW.out q hq).1; omega)) (by omega), pk, by omega, hrd.out.but (fun b hb => OTH.out b (by omega)), BBT⟩
    go_wp2_with fail
    refine (pick_rd R ob n cb f pk 5 wr hrd.out (by omega) (by decide) (by decide)).mono ?_
    rintro e u ⟨x, rfl, hx0, hx1, p', hp', rd1, bt1⟩
    have BU : Hid (But (fun b => b = R ∨ b = w.heap.size + 1) W u) := hbt.out.trans (bt1.out.up (fun b hb => .inl hb))
    have su := BU.out.size
    have hpk' : p' ≤ p + ((k + 1 : Nat) : Int) := by omega
    obtain ⟨og, ng, kg, M, hngk, hml, hmz, hbx, hrow⟩ := hst.out
    have BX : Hid (u.heap[w.heap.size + 1]? = some (.cells #[.slice og ng kg, .slice none 0 0] 26 (0, 0))) := (bt1.out.block _ (by omega) (by omega)).trans hbx
    have GU : Hid (Row u W.heap.size 9 1 eS (.slice og ng kg) M) := Row.block hrow (fun g hg => by
      have h1 := World.ownsRow.lt hrow g hg
      exact bt1.out.block g h1.2 (fun e => by have e' : g = R := e; omega))
    have HML : Hid (M.length = ng) := hml
    have HMZ : Hid (∀ s ∈ M, s.size ≤ 5) := hmz
    clear bt1 hrd hst hbx hrow hml hmz hbt
    by_cases hxz : 0 < x
    · have R3u : u.heap[w.heap.size + 1 + 1]? = some (.cells #[.string ⟨#[106]⟩, .string ⟨#[107, 101, 103]⟩, .string ⟨#[116, 117, 110]⟩, .string ⟨#[118, 97, 116]⟩, .string ⟨#[119]⟩] 9 (0, 0)) := (BU.out.block _ (by omega) (by omega)).trans R3.out
      obtain ⟨y, hy, hyz⟩ : ∃ y : ByteArray, u.cell? ⟨w.heap.size + 1 + 1, k, none⟩ = some (.string y) ∧ y.size ≤ 5 := by
        match k, hlt with
        | 0, _ => exact ⟨_, (cell_row R3u 0 _ rfl).1, by decide⟩
        | 1, _ => exact ⟨_, (cell_row R3u 1 _ rfl).1, by decide⟩
        | 2, _ => exact ⟨_, (cell_row R3u 2 _ rfl).1, by decide⟩
        | 3, _ => exact ⟨_, (cell_row R3u 3 _ rfl).1, by decide⟩
        | 4, _ => exact ⟨_, (cell_row R3u 4 _ rfl).1, by decide⟩
      clear R3u
      go_upto_region 7 with fail
      have x0 := (cell_row BX.out 0 (.slice og ng kg) rfl).1
      have q0 := fun d os => cell_regrown x0 d os
      have q1 := fun d os => cell_regrown hy d os
      refine wp_region_mix 7 [0, 1, 2, 3, 4, 5] (by kernel_rfl) (by kernel_rfl) ?_
      simp only [List.filterMap_cons, List.filterMap_nil, List.getElem?_cons_succ, List.getElem?_cons_zero]
      repeat (first | go_big_quiet_step (fail) | quiet_step (fail))
      refine wpQuiet_nil ?_
      clear q0 q1 x0 hy
      have hdr : Below u.heap.size u u.drew := (Below.refl _ _).drew
      refine anyC_step (f := 0) [6] (by kernel_rfl) (by simp) (one_list ⟨by decide, _, rfl, rfl, .slice (some ⟨u.drew.heap.size, 0, none⟩) 1 1, u.drew.alloc (.cells #[.string y] 9), ?runb, regrown_of_below (hdr.alloc hdr.size _), ?_⟩)
      case runb => go_simp
      refine ⟨by kernel_rfl, ?_⟩
      simp only [List.drop_succ_cons, List.drop_zero]
      simp only [Act.put, List.setIfInBounds_toArray]
      obtain ⟨X3, hX3⟩ : ∃ X, X = u.drew.alloc (.cells #[.string y] 9) := ⟨_, rfl⟩
      have bX3 : Hid (Below u.heap.size u X3) := by rw [hX3]; exact hdr.alloc hdr.size _
      have HSRC : Hid (Src X3 (.slice (some ⟨u.drew.heap.size, 0, none⟩) 1 1) 1 1 [.string y]) := by rw [hX3]; exact own_src4 (own_built (base := 0) (size := 1) (k := 1) (Nat.zero_le _) (by unfold maxLen; omega) rfl)
      have HOWN : Hid (X3.ownsRow W.heap.size 9 1 (.slice og ng kg) ng (enc 1 eS M)) := by
        have := Row.below GU.out bX3.out
        rw [Row, HML.out] at this
        exact this
      have s3 := bX3.out.size
      rw [← hX3]
      clear hX3
      go_wp2_with (first
        | (at_builtin; refine wpList_app elS rfl _ _ rfl rfl rfl HOWN.out HSRC.out (by intro z hz; simp at hz; subst hz; rfl) (by unfold maxLen; omega) (by omega) (by omega) ?_; intro v' u8 hown hgr0 _; obtain ⟨ov', kv', rfl⟩ := row_shape4 hown; have hgr : X3.grownBy u8 (Value.slice og ng kg).ownBlock := hgr0; have hb8 : u8.heap[w.heap.size + 1]? = some (.cells #[.slice og ng kg, .slice none 0 0] 26 (0, 0)) := (hgr.block _ (by omega) (fun e => by have := (World.ownsRow.lt GU.out _ e.symm).1; omega)).trans ((bX3.out.block _ (by omega)).trans BX.out); obtain ⟨zc8, zf8⟩ := cell_row hb8 0 _ rfl))
      have oth : ∀ q, q ≠ w.heap.size + 1 → (u8.setCell ⟨w.heap.size + 1, 0, none⟩ (.slice ov' (ng + 1) kv')).heap[q]? = u8.heap[q]? := fun q hq => Below.heap_setCell _ _ _ _ hq
      have ROW8 : Row u8 W.heap.size 9 1 eS (.slice ov' (ng + 1) kv') (M ++ [y]) := by
        show World.ownsRow _ _ _ _ _ _ _
        rw [List.length_append, enc_append, HML.out]
        exact hown
      have BUT2 : But (fun b => b = R ∨ b = w.heap.size + 1) W (u8.setCell ⟨w.heap.size + 1, 0, none⟩ (.slice ov' (ng + 1) kv')) := by
        refine But.set (S := fun b => b = R ∨ b = w.heap.size + 1) ?_ (.inr rfl) 0 _
        exact ⟨hgr.os.trans (bX3.out.os.trans BU.out.os), hgr.tape.trans (bX3.out.tape.trans BU.out.tape), hgr.output.trans (bX3.out.output.trans BU.out.output), by have := hgr.size; omega, fun q hq hno => (hgr.block q (by omega) (fun e => by have := (World.ownsRow.lt GU.out q e.symm).1; omega)).trans ((bX3.out.block q (by omega)).trans (BU.out.block q hq hno))⟩
      have RD2 : Rd R (u8.setCell ⟨w.heap.size + 1, 0, none⟩ (.slice ov' (ng + 1) kv')) ob n cb p' f := rd1.out.but (fun b hb => (oth b (by omega)).trans ((hgr.block b (by omega) (fun e => by have := (World.ownsRow.lt GU.out b e.symm).1; omega)).trans (bX3.out.block b (by omega))))
      go_roundw
      case rel => exact ⟨k + 1, p', by omega, by go_num, hpk', ⟨ov', ng + 1, kv', M ++ [y], by omega, by rw [List.length_append, HML.out]; rfl, (fun s hs => by
        rcases List.mem_append.1 hs with h | h
        · exact HMZ.out s h
        · rw [List.mem_singleton.1 h]; exact hyz), by rw [set_row hb8 0 _]; rfl, Row.block ROW8 fun q hq => oth q (by have := (World.ownsRow.lt ROW8 q hq).1; omega)⟩, RD2, BUT2⟩
      case measure => simp [intOf]; omega
    · go_wp2_with fail
      go_roundw
      case rel => exact ⟨k + 1, p', by omega, by go_num, hpk', ⟨og, ng, kg, M, by omega, HML.out, HMZ.out, BX.out, GU.out⟩, rd1, BU⟩
      case measure => simp [intOf]; omega

end Go.Proofs.Ythgnhjkkfhfgmab
