/-
  Several texts in one.
-/
import Derived.Test.YtndacfockllehaaGreatM30
import Derived.Test.YtndacfockllehaaGreatM31
import Derived.Test.YtndacfockllehaaGreatM33
import Derived.Test.YtndacfockllehaaGreatKf
import Derived.Deep.Cut
import Derived.Test.YtndacfockllehaaGreatGqk
import Derived.Test.YtndacfockllehaaGreatM24
/-
  A contract of the model's CtlRouteAsks.
-/
namespace Go.Proofs.YtndacfockllehaaGreat
open Go.RowKit

attribute [local go_sem] Oper.semAt_some
/-- The uses, in order, one by one; the whole want. -/
def usS (m : Nat) (P : Nat → ByteArray) (am : Int) (i : Nat) : List DClaimUse := (usR m P am i).foldl insU []
theorem usS_succ (m : Nat) (P : Nat → ByteArray) (am : Int) (i : Nat) : usS m P am (i + 1) = insU (usS m P am i) (usI m P am i) := by rw [usS, usR_succ, List.foldl_append]; rfl
theorem usS_len (m : Nat) (P : Nat → ByteArray) (am : Int) : ∀ i, (usS m P am i).length = i
  | 0 => rfl
  | i + 1 => by rw [usS_succ, insU_len, usS_len m P am i]
theorem insU_mem : ∀ (l : List DClaimUse) (x y : DClaimUse), y ∈ insU l x ↔ y ∈ l ∨ y = x
  | [], x, y => by simp [insU]
  | z :: l, x, y => by
    unfold insU
    split
    · rw [List.mem_cons, insU_mem l x y, List.mem_cons]; constructor
      · rintro (h | h | h)
        · exact .inl (.inl h)
        · exact .inl (.inr h)
        · exact .inr h
      · rintro ((h | h) | h)
        · exact .inl h
        · exact .inr (.inl h)
        · exact .inr (.inr h)
    · rw [List.mem_cons, List.mem_cons]; constructor
      · rintro (h | h | h)
        · exact .inr h
        · exact .inl (.inl h)
        · exact .inl (.inr h)
      · rintro ((h | h) | h)
        · exact .inr (.inl h)
        · exact .inr (.inr h)
        · exact .inl h
theorem usS_mem (m : Nat) (P : Nat → ByteArray) (am : Int) (y : DClaimUse) : ∀ i, y ∈ usS m P am i ↔ ∃ j, j < i ∧ y = usI m P am j
  | 0 => by simp [usS, usR]
  | i + 1 => by
    rw [usS_succ, insU_mem, usS_mem m P am y i]
    constructor
    · rintro (⟨j, hj, e⟩ | e)
      · exact ⟨j, by omega, e⟩
      · exact ⟨i, by omega, e⟩
    · rintro ⟨j, hj, e⟩
      by_cases h : j = i
      · subst h; exact .inr e
      · exact .inl ⟨j, by omega, e⟩
def rtD (D : PD) (num am : Int) (m : Nat) (P : Nat → ByteArray) (k : Nat) (Q : Nat → ByteArray) (ts : List ByteArray) : DClaimWant := (num, 1, ts, usS m P am m, insA ((List.range k).map Q), gdN D m P k Q D.nv)
/-- What is asked of stations for a move along a route. -/
def RaIs (D : PD) (num am : Int) (m : Nat) (P : Nat → ByteArray) (k : Nat) (Q : Nat → ByteArray) (ts : List ByteArray) (q : List DCtlAsk) : Prop := (D.V ∧ RS D m P k Q → q = askL D (rtD D num am m P k Q ts) (stL true D)) ∧ (¬ (D.V ∧ RS D m P k Q) → q = [])
def RaE (D : PD) (num am : Int) (m : Nat) (P : Nat → ByteArray) (k : Nat) (Q : Nat → ByteArray) (ts : List ByteArray) (S : Nat → Prop) (w' : World) (e : Ending) : Prop := ∃ r q, e = .returned r ∧ RaIs D num am m P k Q ts q ∧ OnL S w' q r
theorem insOR_any (base : Nat) (l : List ByteArray) (x : ByteArray) (v : Value) (w : World) (h : w.ownsRow base 9 1 v l.length (l.map .string)) (hl : l.length ≤ 1048576) (hbase : base ≤ w.heap.size) :
    Calls Tryz.prog 53 #[v, .string x] w fun e w' => ∃ v', e = .returned v' ∧ w'.ownsRow base 9 1 v' (insR l x).length ((insR l x).map .string) ∧ Below w.heap.size w w' := by
  rcases h.2 with ⟨rfl, hn⟩ | ⟨g, cap, cur, rfl, _⟩
  · obtain rfl : l = [] := List.eq_nil_of_length_eq_zero hn
    exact (insN_any x w).mono (fun e w' ⟨g, cap, he, hr, hb⟩ => ⟨_, he, Go.Joins.ownsRow_le hr hbase, hb⟩)
  · exact (insS_any base g cap l x w h hl hbase).mono (fun e w' ⟨g, cap, he, hr, hb⟩ => ⟨_, he, hr, hb⟩)
theorem made_onR {S : Nat → Prop} {w : World} {g : Nat} : OnL S w ([] : List DCtlAsk) (.slice (some ⟨g, 0, none⟩) 0 0) := ⟨some ⟨g, 0, none⟩, 0, rfl, ⟨Nat.zero_le _, Nat.le_refl 0, fun h => nomatch h⟩, .inl rfl⟩
theorem usI_ok {m : Nat} {P : Nat → ByteArray} {am : Int} (ha : OkI am) (i : Nat) : OkI (usI m P am i).2.1 ∧ OkI (usI m P am i).2.2 := by
  unfold usI
  constructor
  · show OkI (if i = 0 then 1 else if i + 1 = m then 2 else 3)
    split
    · exact ⟨by decide, by decide⟩
    · split
      · exact ⟨by decide, by decide⟩
      · exact ⟨by decide, by decide⟩
  · show OkI (if i = 0 ∨ i + 1 = m then am else 0)
    split
    · exact ha
    · exact ⟨by decide, by decide⟩
theorem cap_place {n : Nat} {f : Nat → ByteArray × Int × ByteArray} {x : ByteArray} (h : 0 ≤ capI n f x) : 0 ≤ placeI n f x := by
  unfold capI at h
  split at h
  · omega
  · omega
theorem join_val {n : Nat} {f : Nat → ByteArray × ByteArray × ByteArray × ByteArray} {v a b : ByteArray} (h : joinB n f v a b = true) : 0 ≤ valI n f v := by
  unfold joinB at h
  rw [Bool.and_eq_true] at h
  exact of_decide_eq_true h.1
theorem rt_in {D : PD} {num am : Int} {m : Nat} {P : Nat → ByteArray} {k : Nat} {Q : Nat → ByteArray} {ts : List ByteArray} (h : RS D m P k Q) : WIn D (rtD D num am m P k Q ts) where
  u := fun x hx => by
    obtain ⟨j, hj, rfl⟩ := (usS_mem m P am x m).1 hx
    exact cap_place (h.2.2 j hj).1.1
  o := fun x hx => by
    obtain ⟨i, hi, rfl⟩ := List.mem_map.1 (((insA_both _).2 x).1 hx)
    have hi := List.mem_range.1 hi
    have h1 := (h.2.2 (i + 1) (by have := h.1; omega)).2 (by omega)
    rw [Nat.add_sub_cancel] at h1
    exact join_val h1
  s := fun x hx => by
    obtain ⟨i, hi, rfl⟩ := List.mem_map.1 hx
    have hi1 := List.mem_range.1 (List.mem_filter.1 hi).1
    unfold valI
    cases e : (List.range D.nv).find? (fun j => eqB (D.fv j).1 (D.fv i).1) with
    | none => exact absurd (List.find?_eq_none.1 e i (List.mem_range.2 hi1)) (by simp [eqB])
    | some k => exact Int.natCast_nonneg k
set_option maxRecDepth 100000 in
set_option maxHeartbeats 32000000 in
theorem routeAsksS_any (B : Nat) (S : Nat → Prop) (v0 v1 v2 v3 : Value) (D : PD) (num am : Int) (op ov : Option Addr) (m k cm ck : Nat) (P Q : Nat → ByteArray) (ts : List ByteArray) (vt : Value) (w : World) (h : PAt B w v0 v1 v2 v3 D) (hP : Lst B w (.slice op m cm) m 1 (cS P)) (hQ : Lst B w (.slice ov k ck) k 1 (cS Q)) (hB : B ≤ w.heap.size) (hz : D.Sz) (hcm : m ≤ cm) (hm : m ≤ 1048576) (hk : k ≤ 1048576) (hzp : ∀ i, i < m → (P i).size ≤ maxLen) (hzq : ∀ i, i < k → (Q i).size ≤ maxLen)
    (ht : AtL S w ts vt) (hS : ∀ b, S b → b < w.heap.size) (hl : ts.length ≤ 1048576) (hn : OkI num) (ha : OkI am) (hsl : D.V → (stL true D).length ≤ 1048576) :
    Calls Tryz.prog 22 #[.agg #[v0, v1, v2, v3], .int .i64 num, .agg #[.slice op m cm, .slice ov k ck], vt, .int .i64 am] w fun e w' => RaE D num am m P k Q ts (fun b => w.heap.size ≤ b ∧ b < w'.heap.size) w' e ∧ Below w.heap.size w w' := by
  have H : Hid (∀ w', Below w.heap.size w w' → PAt B w' v0 v1 v2 v3 D ∧ Lst B w' (.slice op m cm) m 1 (cS P) ∧ Lst B w' (.slice ov k ck) k 1 (cS Q)) := fun w' hb => ⟨h.kept hb hB, hP.kept hb hB, hQ.kept hb hB⟩
  have HT : Hid (∀ w', Below w.heap.size w w' → AtL S w' ts vt) := fun w' hb => ht.same (Same.of_below hb hS)
  obtain ⟨ot, ct, et, hx⟩ := id ht
  subst et
  have HZP : Hid (∀ i, i < m → (P i).size ≤ maxLen) := hzp
  have HZQ : Hid (∀ i, i < k → (Q i).size ≤ maxLen) := hzq
  clear h hP hQ ht hx hzp hzq
  obtain ⟨W, hW⟩ : ∃ W, W = (w.alloc (.cells #[v0, v1, v2, v3] 40)).alloc (.cells #[.slice op m cm, .slice ov k ck] 42) := ⟨_, rfl⟩
  have EW : Hid (W = (w.alloc (.cells #[v0, v1, v2, v3] 40)).alloc (.cells #[.slice op m cm, .slice ov k ck] 42)) := hW
  have BW : Hid (Below w.heap.size w W) := by rw [hW]; exact ((Below.refl _ _).alloc (Nat.le_refl _) _).alloc (by simp) _
  have sW : W.heap.size ≤ w.heap.size + 1 + 1 ∧ w.heap.size + 1 + 1 ≤ W.heap.size := by rw [hW]; simp
  have X0 : Hid (W.heap[w.heap.size]? = some (.cells #[v0, v1, v2, v3] 40 (0, 0))) := by rw [hW]; exact (Below.heap_alloc _ _ _ (by simp)).trans (heap_alloc_new w _)
  have R0 : Hid (W.heap[w.heap.size + 1]? = some (.cells #[.slice op m cm, .slice ov k ck] 42 (0, 0))) := by rw [hW]; have := heap_alloc_new (w.alloc (.cells #[v0, v1, v2, v3] 40)) (.cells #[.slice op m cm, .slice ov k ck] 42); rw [World.size_alloc] at this; exact this
  clear hW
  have y0 := (cell_row X0.out 0 (v0) rfl).1
  have y1 := (cell_row X0.out 1 (v1) rfl).1
  have y2 := (cell_row X0.out 2 (v2) rfl).1
  have y3 := (cell_row X0.out 3 (v3) rfl).1
  have z0 := (cell_row R0.out 0 (.slice op m cm) rfl).1
  have z1 := (cell_row R0.out 1 (.slice ov k ck) rfl).1
  go_enter Tryz.func22, Tryz.ntmps22
  go_upto_region 1 with fail
  rw [← EW.out]
  go_wp2_with fail
  refine (validS_any B _ _ _ _ D W (H.out W BW.out).1 (by have := BW.out.size; omega) hz).mono ?_
  rintro e w1 ⟨b, rfl, is, hb1⟩
  have IS : Hid _ := is
  have B1 : Hid (Below w.heap.size w w1) := BW.out.trans (hb1.mono BW.out.size)
  have X1 : Hid (w1.heap[w.heap.size]? = some (.cells #[v0, v1, v2, v3] 40 (0, 0))) := box_stable hb1 X0.out
  have R1 : Hid (w1.heap[w.heap.size + 1]? = some (.cells #[.slice op m cm, .slice ov k ck] 42 (0, 0))) := box_stable hb1 R0.out
  have s1 : w.heap.size + 1 + 1 ≤ w1.heap.size := by have := hb1.size; omega
  clear is hb1 y0 y1 y2 y3 z0 z1
  cases b
  · go_wp2_with fail
    go_ret
    exact ⟨⟨_, [], rfl, ⟨fun h => absurd (IS.out.2 h.1) (by decide), fun _ => rfl⟩, made_onR⟩, B1.out.alloc (by omega) _⟩
  have HV : Hid D.V := IS.out.1 rfl
  have y0 := (cell_row X1.out 0 (v0) rfl).1
  have y1 := (cell_row X1.out 1 (v1) rfl).1
  have y2 := (cell_row X1.out 2 (v2) rfl).1
  have y3 := (cell_row X1.out 3 (v3) rfl).1
  have z0 := (cell_row R1.out 0 (.slice op m cm) rfl).1
  have z1 := (cell_row R1.out 1 (.slice ov k ck) rfl).1
  go_wp2_with fail
  refine (routeS_any B _ _ _ _ D op ov m k cm ck P Q w1 (H.out w1 B1.out).1 (H.out w1 B1.out).2.1 (H.out w1 B1.out).2.2 (by have := B1.out.size; omega) hcm).mono ?_
  rintro e w2 ⟨b, rfl, is, hb2⟩
  have IT : Hid _ := is
  have B2 : Hid (Below w.heap.size w w2) := B1.out.trans (hb2.mono B1.out.size)
  have X2 : Hid (w2.heap[w.heap.size]? = some (.cells #[v0, v1, v2, v3] 40 (0, 0))) := box_stable hb2 X1.out
  have R2 : Hid (w2.heap[w.heap.size + 1]? = some (.cells #[.slice op m cm, .slice ov k ck] 42 (0, 0))) := box_stable hb2 R1.out
  have s2 : w.heap.size + 1 + 1 ≤ w2.heap.size := by have := hb2.size; omega
  clear is hb2 y0 y1 y2 y3 z0 z1
  cases b
  · go_wp2_with fail
    go_ret
    exact ⟨⟨_, [], rfl, ⟨fun h => absurd (IT.out.2 h.2) (by decide), fun _ => rfl⟩, made_onR⟩, B2.out.alloc (by omega) _⟩
  have HR : Hid (RS D m P k Q) := IT.out.1 rfl
  have hm2 : 2 ≤ m := HR.out.1.1
  have hnv : D.nv ≤ 18 := HV.out.2.2.1
  have y0 := (cell_row X2.out 0 (v0) rfl).1
  have y1 := (cell_row X2.out 1 (v1) rfl).1
  have y2 := (cell_row X2.out 2 (v2) rfl).1
  have y3 := (cell_row X2.out 3 (v3) rfl).1
  have z0 := (cell_row R2.out 0 (.slice op m cm) rfl).1
  have z1 := (cell_row R2.out 1 (.slice ov k ck) rfl).1
  obtain ⟨gl, hgl⟩ : ∃ l, l = gdN D m P k Q D.nv := ⟨_, rfl⟩
  have HGL : Hid (gl = gdN D m P k Q D.nv) := hgl
  have egl : gdL true D m P k Q = gl := hgl.symm
  have hgn : gl.length ≤ 18 := by rw [hgl]; have := gdN_len D m P k Q D.nv; omega
  clear hgl
  obtain ⟨gn, egn⟩ : ∃ n, gl.length = n := ⟨_, rfl⟩
  have EGN : Hid (gl.length = gn) := egn
  rw [egn] at hgn
  have HGU : Hid (Calls Tryz.prog 51 #[.agg #[v0, v1, v2, v3], .agg #[.slice op m cm, .slice ov k ck]] w2 fun e w' => ∃ v, e = .returned v ∧ w'.ownsRow w2.heap.size 9 1 v gn (gl.map .string) ∧ Below w2.heap.size w2 w') := (guardsS_any B v0 v1 v2 v3 D op ov m k cm ck P Q w2 (H.out w2 B2.out).1 (H.out w2 B2.out).2.1 (H.out w2 B2.out).2.2 (by have := B2.out.size; omega) hcm hz (by omega)).mono (fun e w' ⟨v, b, he, ig, hr, hb⟩ => by
    obtain rfl : b = true := ig.2 ⟨HV.out, HR.out⟩
    rw [egl, egn] at hr
    exact ⟨v, he, hr, hb⟩)
  clear egl egn
  go_upto_region 4 with (first
    | (go_at_call 51; refine (HGU.out).mono ?_; rintro e w3 ⟨gv, rfl, hgv, hb3⟩; obtain ⟨go, gk, rfl⟩ := ownsRow_shape hgv))
  clear HGU y0 y1 y2 y3 z0 z1
  obtain ⟨gx, hgx⟩ : ∃ g, g = w3.heap.size := ⟨_, rfl⟩
  obtain ⟨U, hU⟩ : ∃ V, V = w3.alloc (.cells #[.int .i64 num, .int .i64 1, .slice ot ts.length ct, .slice none 0 0, .slice none 0 0, .slice go gn gk] 68) := ⟨_, rfl⟩
  have G1 : Hid (U.heap[gx]? = some (.cells #[.int .i64 num, .int .i64 1, .slice ot ts.length ct, .slice none 0 0, .slice none 0 0, .slice go gn gk] 68 (0, 0))) := by rw [hgx, hU]; exact heap_alloc_new w3 _
  have b3U : Hid (Below w3.heap.size w3 U) := by rw [hU]; exact (Below.refl _ _).alloc (Nat.le_refl _) _
  have B23 : Hid (Below w2.heap.size w2 U) := hb3.trans (b3U.out.mono hb3.size)
  have BU : Hid (Below w.heap.size w U) := B2.out.trans (B23.out.mono B2.out.size)
  have sU : U.heap.size ≤ gx + 1 ∧ gx + 1 ≤ U.heap.size := by rw [hU, hgx]; simp
  have hgw : w2.heap.size ≤ gx := by rw [hgx]; exact hb3.size
  have HGR : Hid (Row U w2.heap.size 9 1 eS (.slice go gn gk) gl) := by show World.ownsRow _ _ _ _ _ _ _; rw [enc_S, EGN.out]; exact row_stable b3U.out hgv
  have HGB : Hid (∀ g, (Value.slice go gn gk).ownBlock = some g → g < gx) := fun g hg => by rw [hgx]; exact (World.ownsRow.lt hgv g hg).2
  rw [← hU, ← hgx]
  clear hU hgx hgv hb3 b3U
  have X3 : Hid (U.heap[w.heap.size]? = some (.cells #[v0, v1, v2, v3] 40 (0, 0))) := (B23.out.block _ (by omega)).trans X2.out
  have R3 : Hid (U.heap[w.heap.size + 1]? = some (.cells #[.slice op m cm, .slice ov k ck] 42 (0, 0))) := (B23.out.block _ (by omega)).trans R2.out
  clear X2 R2
  have z0 := (cell_row R3.out 0 (.slice op m cm) rfl).1
  go_wp2_with fail
  clear z0
  go_loopw [13] (fun i wr => ∃ (n1 : Nat) (ou : Option Addr) (ku : Nat), n1 ≤ m ∧ i = .int .i64 n1 ∧ Hid (wr.ownsRow U.heap.size 95 3 (.slice ou n1 ku) n1 (enc 3 eU (usS m P am n1))) ∧ Hid (wr.heap[gx]? = some (.cells #[.int .i64 num, .int .i64 1, .slice ot ts.length ct, .slice ou n1 ku, .slice none 0 0, .slice go gn gk] 68 (0, 0))) ∧ Hid (But (fun b => b = gx) U wr)) (fun i _ => m - (intOf i).toNat)
  case atStart => exact ⟨0, none, 0, Nat.zero_le _, rfl, World.ownsRow_nil _ _ _ _, G1.out, But.refl _ _⟩
  case round =>
    obtain ⟨n1, ou, ku, hn1, rfl, hO, hG, hN⟩ := hrel
    have hNs := hN.out.size
    have bwr : Hid (Below w.heap.size w wr) := BU.out.trans (hN.out.below (B := w.heap.size) (fun b hb => by omega) (by omega))
    have hA : Hid (wr.heap[w.heap.size]? = some (.cells #[v0, v1, v2, v3] 40 (0, 0))) := (hN.out.block w.heap.size (by omega) (by omega)).trans X3.out
    have hRt : Hid (wr.heap[w.heap.size + 1]? = some (.cells #[.slice op m cm, .slice ov k ck] 42 (0, 0))) := (hN.out.block (w.heap.size + 1) (by omega) (by omega)).trans R3.out
    by_cases hlt : n1 < m
    · obtain ⟨oa9, cp, ev, _, hc⟩ := (H.out wr bwr.out).2.1
      obtain ⟨b, off, eo, hbB, hcell⟩ := hc n1 hlt
      have eo1 : op = some ⟨b, off, none⟩ := by injection ev with h1 _ _; exact h1.trans eo
      subst eo1
      clear ev eo hc
      have e0 : wr.cell? ⟨b, off + n1, none⟩ = some (.string (P n1)) := by have := hcell 0 (by omega); simpa [cS] using this
      clear hcell
      have z0 := (cell_row hRt.out 0 (.slice (some ⟨b, off, none⟩) m cm) rfl).1
      obtain ⟨V1, hV1⟩ : ∃ V, V = wr.alloc (.cells #[.string (P n1), .int .i64 3, .int .i64 0] 95) := ⟨_, rfl⟩
      have EV1 : Hid (V1 = wr.alloc (.cells #[.string (P n1), .int .i64 3, .int .i64 0] 95)) := hV1
      have bV1 : Hid (Below wr.heap.size wr V1) := by rw [hV1]; exact (Below.refl _ _).alloc (Nat.le_refl _) _
      have sV1 : V1.heap.size ≤ wr.heap.size + 1 ∧ wr.heap.size + 1 ≤ V1.heap.size := by rw [hV1]; simp
      have XV : Hid (V1.heap[wr.heap.size]? = some (.cells #[.string (P n1), .int .i64 3, .int .i64 0] 95 (0, 0))) := by rw [hV1]; exact heap_alloc_new wr _
      clear hV1
      obtain ⟨c1, f1⟩ := cell_row XV.out 1 (.int .i64 3) rfl
      obtain ⟨c2, f2⟩ := cell_row XV.out 2 (.int .i64 0) rfl
      go_upto_region 9 with fail
      rw [← EV1.out]
      clear e0 z0
      have hus : (usS m P am n1).length ≤ 1048576 := by rw [usS_len]; omega
      by_cases h0 : n1 = 0
      · have hi0 : ((n1 : Int) == 0) = true := by simp; omega
        have hil : ((n1 : Int) == (m : Int) - 1) = false := by simp; omega
        have d0 : decide ((n1 : Int) = 0) = true := by simp; omega
        have d1 : decide ((n1 : Int) = (m : Int) - 1) = false := by simp; omega
        have hE0 : Hid (n1 = 0) := h0
        clear h0
        have S1 := set_row XV.out 1 (.int .i64 1)
        obtain ⟨c3, f3⟩ := cell_row S1 2 (.int .i64 0) rfl
        have S2 := set_row S1 2 (.int .i64 am)
        go_upto_region 15 with fail
        obtain ⟨V, hVV⟩ : ∃ V, V = ((V1.setCell ⟨wr.heap.size, 1, none⟩ (.int .i64 1)).setCell ⟨wr.heap.size, 2, none⟩ (.int .i64 am)) := ⟨_, rfl⟩
        have XB : Hid (V.heap[wr.heap.size]? = some (.cells #[.string (P n1), .int .i64 1, .int .i64 am] 95 (0, 0))) := by rw [hVV]; exact S2
        have bV : Hid (Below wr.heap.size wr V) := by rw [hVV]; exact Below.setCell (p := ⟨wr.heap.size, 2, none⟩) (Below.setCell (p := ⟨wr.heap.size, 1, none⟩) bV1.out (Nat.le_refl _) _) (Nat.le_refl _) _
        rw [← hVV]
        clear hVV S1 S2 c1 c2 c3 f1 f2 f3
        have sV := bV.out.size
        have hGV : Hid (V.heap[gx]? = some (.cells #[.int .i64 num, .int .i64 1, .slice ot ts.length ct, .slice ou n1 ku, .slice none 0 0, .slice go gn gk] 68 (0, 0))) := box_stable bV.out hG.out
        have x3 := (cell_row hGV.out 3 (.slice ou n1 ku) rfl).1
        have u0 := (cell_row XB.out 0 (.string (P n1)) rfl).1
        have u1 := (cell_row XB.out 1 (.int .i64 1) rfl).1
        have u2 := (cell_row XB.out 2 (.int .i64 am) rfl).1
        have HU : Hid (Calls Tryz.prog 52 #[.slice ou n1 ku, .agg #[.string (P n1), .int .i64 1, .int .i64 am]] V fun e w' => ∃ r, e = .returned r ∧ Row w' U.heap.size 95 3 eU r (usS m P am (n1 + 1)) ∧ Below V.heap.size V w') := by
          have e : usI m P am n1 = (P n1, 1, am) := by rw [show n1 = 0 from hE0.out]; exact usI_first P am
          have e2 := usS_succ m P am n1
          rw [e] at e2
          rw [e2]
          have hrow : Row V U.heap.size 95 3 eU (.slice ou n1 ku) (usS m P am n1) := by show World.ownsRow _ _ _ _ _ _ _; rw [usS_len]; exact row_stable bV.out hO.out
          exact useT_any U.heap.size _ (usS m P am n1) (P n1, 1, am) V hrow (by omega) hus
        go_wp2_with (first
          | (go_at_call 52; refine (HU.out).mono ?_; rintro e w9 ⟨rv, rfl, hr9, hb9⟩; obtain ⟨ou9, ku9, rfl⟩ := ownsRow_shape hr9; rw [usS_len] at hr9 ⊢; have hg9 : w9.heap[gx]? = some (.cells #[.int .i64 num, .int .i64 1, .slice ot ts.length ct, .slice ou n1 ku, .slice none 0 0, .slice go gn gk] 68 (0, 0)) := box_stable hb9 hGV.out; obtain ⟨zc9, zf9⟩ := cell_row hg9 3 (.slice ou n1 ku) rfl))
        have SET := set_row hg9 3 (.slice ou9 (n1 + 1) ku9)
        have RN : Hid ((w9.setCell ⟨gx, 3, none⟩ (.slice ou9 (n1 + 1) ku9)).ownsRow U.heap.size 95 3 (.slice ou9 (n1 + 1) ku9) (n1 + 1) (enc 3 eU (usS m P am (n1 + 1)))) := ownsRow_kept (by have h := hr9; unfold Row at h; rw [usS_len] at h; exact h) (fun g hg => Below.heap_setCell _ _ _ _ (by have := (World.ownsRow.lt hr9 g hg).1; show g ≠ gx; omega))
        have NN : Hid (But (fun b => b = gx) U (w9.setCell ⟨gx, 3, none⟩ (.slice ou9 (n1 + 1) ku9))) := ((hN.out.trans (But.of_below bV.out)).trans (But.of_below hb9)).set rfl 3 _
        go_roundw
        case rel => exact ⟨n1 + 1, ou9, ku9, by omega, by go_num, RN.out, SET, NN.out⟩
        case measure => simp [intOf]; omega
      · by_cases h1 : n1 + 1 = m
        · have hi0 : ((n1 : Int) == 0) = false := by simp; omega
          have hil : ((n1 : Int) == (m : Int) - 1) = true := by simp; omega
          have d0 : decide ((n1 : Int) = 0) = false := by simp; omega
          have d1 : decide ((n1 : Int) = (m : Int) - 1) = true := by simp; omega
          have hE1 : Hid (n1 + 1 = m) := h1
          clear h1
          have S1 := set_row XV.out 1 (.int .i64 2)
          obtain ⟨c3, f3⟩ := cell_row S1 2 (.int .i64 0) rfl
          have S2 := set_row S1 2 (.int .i64 am)
          go_upto_region 15 with fail
          obtain ⟨V, hVV⟩ : ∃ V, V = ((V1.setCell ⟨wr.heap.size, 1, none⟩ (.int .i64 2)).setCell ⟨wr.heap.size, 2, none⟩ (.int .i64 am)) := ⟨_, rfl⟩
          have XB : Hid (V.heap[wr.heap.size]? = some (.cells #[.string (P n1), .int .i64 2, .int .i64 am] 95 (0, 0))) := by rw [hVV]; exact S2
          have bV : Hid (Below wr.heap.size wr V) := by rw [hVV]; exact Below.setCell (p := ⟨wr.heap.size, 2, none⟩) (Below.setCell (p := ⟨wr.heap.size, 1, none⟩) bV1.out (Nat.le_refl _) _) (Nat.le_refl _) _
          rw [← hVV]
          clear hVV S1 S2 c1 c2 c3 f1 f2 f3
          have sV := bV.out.size
          have hGV : Hid (V.heap[gx]? = some (.cells #[.int .i64 num, .int .i64 1, .slice ot ts.length ct, .slice ou n1 ku, .slice none 0 0, .slice go gn gk] 68 (0, 0))) := box_stable bV.out hG.out
          have x3 := (cell_row hGV.out 3 (.slice ou n1 ku) rfl).1
          have u0 := (cell_row XB.out 0 (.string (P n1)) rfl).1
          have u1 := (cell_row XB.out 1 (.int .i64 2) rfl).1
          have u2 := (cell_row XB.out 2 (.int .i64 am) rfl).1
          have HU : Hid (Calls Tryz.prog 52 #[.slice ou n1 ku, .agg #[.string (P n1), .int .i64 2, .int .i64 am]] V fun e w' => ∃ r, e = .returned r ∧ Row w' U.heap.size 95 3 eU r (usS m P am (n1 + 1)) ∧ Below V.heap.size V w') := by
            have e : usI m P am n1 = (P n1, 2, am) := usI_last P am (by omega) hE1.out
            have e2 := usS_succ m P am n1
            rw [e] at e2
            rw [e2]
            have hrow : Row V U.heap.size 95 3 eU (.slice ou n1 ku) (usS m P am n1) := by show World.ownsRow _ _ _ _ _ _ _; rw [usS_len]; exact row_stable bV.out hO.out
            exact useT_any U.heap.size _ (usS m P am n1) (P n1, 2, am) V hrow (by omega) hus
          go_wp2_with (first
            | (go_at_call 52; refine (HU.out).mono ?_; rintro e w9 ⟨rv, rfl, hr9, hb9⟩; obtain ⟨ou9, ku9, rfl⟩ := ownsRow_shape hr9; rw [usS_len] at hr9 ⊢; have hg9 : w9.heap[gx]? = some (.cells #[.int .i64 num, .int .i64 1, .slice ot ts.length ct, .slice ou n1 ku, .slice none 0 0, .slice go gn gk] 68 (0, 0)) := box_stable hb9 hGV.out; obtain ⟨zc9, zf9⟩ := cell_row hg9 3 (.slice ou n1 ku) rfl))
          have SET := set_row hg9 3 (.slice ou9 (n1 + 1) ku9)
          have RN : Hid ((w9.setCell ⟨gx, 3, none⟩ (.slice ou9 (n1 + 1) ku9)).ownsRow U.heap.size 95 3 (.slice ou9 (n1 + 1) ku9) (n1 + 1) (enc 3 eU (usS m P am (n1 + 1)))) := ownsRow_kept (by have h := hr9; unfold Row at h; rw [usS_len] at h; exact h) (fun g hg => Below.heap_setCell _ _ _ _ (by have := (World.ownsRow.lt hr9 g hg).1; show g ≠ gx; omega))
          have NN : Hid (But (fun b => b = gx) U (w9.setCell ⟨gx, 3, none⟩ (.slice ou9 (n1 + 1) ku9))) := ((hN.out.trans (But.of_below bV.out)).trans (But.of_below hb9)).set rfl 3 _
          go_roundw
          case rel => exact ⟨n1 + 1, ou9, ku9, by omega, by go_num, RN.out, SET, NN.out⟩
          case measure => simp [intOf]; omega
        · have hi0 : ((n1 : Int) == 0) = false := by simp; omega
          have hil : ((n1 : Int) == (m : Int) - 1) = false := by simp; omega
          have d0 : decide ((n1 : Int) = 0) = false := by simp; omega
          have d1 : decide ((n1 : Int) = (m : Int) - 1) = false := by simp; omega
          go_upto_region 15 with fail
          clear c1 c2 f1 f2
          obtain ⟨V, hVV⟩ : ∃ V, V = V1 := ⟨_, rfl⟩
          have XB : Hid (V.heap[wr.heap.size]? = some (.cells #[.string (P n1), .int .i64 3, .int .i64 0] 95 (0, 0))) := by rw [hVV]; exact XV.out
          have bV : Hid (Below wr.heap.size wr V) := by rw [hVV]; exact bV1.out
          rw [← hVV]
          clear hVV
          have sV := bV.out.size
          have hGV : Hid (V.heap[gx]? = some (.cells #[.int .i64 num, .int .i64 1, .slice ot ts.length ct, .slice ou n1 ku, .slice none 0 0, .slice go gn gk] 68 (0, 0))) := box_stable bV.out hG.out
          have x3 := (cell_row hGV.out 3 (.slice ou n1 ku) rfl).1
          have u0 := (cell_row XB.out 0 (.string (P n1)) rfl).1
          have u1 := (cell_row XB.out 1 (.int .i64 3) rfl).1
          have u2 := (cell_row XB.out 2 (.int .i64 0) rfl).1
          have HU : Hid (Calls Tryz.prog 52 #[.slice ou n1 ku, .agg #[.string (P n1), .int .i64 3, .int .i64 0]] V fun e w' => ∃ r, e = .returned r ∧ Row w' U.heap.size 95 3 eU r (usS m P am (n1 + 1)) ∧ Below V.heap.size V w') := by
            have e : usI m P am n1 = (P n1, 3, 0) := usI_mid P am (by omega) (by omega)
            have e2 := usS_succ m P am n1
            rw [e] at e2
            rw [e2]
            have hrow : Row V U.heap.size 95 3 eU (.slice ou n1 ku) (usS m P am n1) := by show World.ownsRow _ _ _ _ _ _ _; rw [usS_len]; exact row_stable bV.out hO.out
            exact useT_any U.heap.size _ (usS m P am n1) (P n1, 3, 0) V hrow (by omega) hus
          go_wp2_with (first
            | (go_at_call 52; refine (HU.out).mono ?_; rintro e w9 ⟨rv, rfl, hr9, hb9⟩; obtain ⟨ou9, ku9, rfl⟩ := ownsRow_shape hr9; rw [usS_len] at hr9 ⊢; have hg9 : w9.heap[gx]? = some (.cells #[.int .i64 num, .int .i64 1, .slice ot ts.length ct, .slice ou n1 ku, .slice none 0 0, .slice go gn gk] 68 (0, 0)) := box_stable hb9 hGV.out; obtain ⟨zc9, zf9⟩ := cell_row hg9 3 (.slice ou n1 ku) rfl))
          have SET := set_row hg9 3 (.slice ou9 (n1 + 1) ku9)
          have RN : Hid ((w9.setCell ⟨gx, 3, none⟩ (.slice ou9 (n1 + 1) ku9)).ownsRow U.heap.size 95 3 (.slice ou9 (n1 + 1) ku9) (n1 + 1) (enc 3 eU (usS m P am (n1 + 1)))) := ownsRow_kept (by have h := hr9; unfold Row at h; rw [usS_len] at h; exact h) (fun g hg => Below.heap_setCell _ _ _ _ (by have := (World.ownsRow.lt hr9 g hg).1; show g ≠ gx; omega))
          have NN : Hid (But (fun b => b = gx) U (w9.setCell ⟨gx, 3, none⟩ (.slice ou9 (n1 + 1) ku9))) := ((hN.out.trans (But.of_below bV.out)).trans (But.of_below hb9)).set rfl 3 _
          go_roundw
          case rel => exact ⟨n1 + 1, ou9, ku9, by omega, by go_num, RN.out, SET, NN.out⟩
          case measure => simp [intOf]; omega
    · have hnm : n1 = m := by omega
      rw [hnm] at hO hG
      clear hnm
      obtain ⟨w5, hw5⟩ : ∃ V, V = wr := ⟨_, rfl⟩
      rw [← hw5] at hO hG hN hNs bwr hA hRt ⊢
      clear hw5 wr
      go_wp2_with fail
      go_loopw [15] (fun i wz => ∃ (q : Nat) (oo : Option Addr) (ko : Nat), q ≤ k ∧ i = .int .i64 q ∧ Hid (wz.ownsRow w5.heap.size 9 1 (.slice oo (insA ((List.range q).map Q)).length ko) (insA ((List.range q).map Q)).length ((insA ((List.range q).map Q)).map .string)) ∧ Hid (wz.heap[gx]? = some (.cells #[.int .i64 num, .int .i64 1, .slice ot ts.length ct, .slice ou m ku, .slice oo (insA ((List.range q).map Q)).length ko, .slice go gn gk] 68 (0, 0))) ∧ Hid (But (fun b => b = gx) w5 wz)) (fun i _ => k - (intOf i).toNat)
      case atStart => exact ⟨0, none, 0, Nat.zero_le _, rfl, World.ownsRow_nil _ _ _ _, hG.out, But.refl _ _⟩
      case round =>
        obtain ⟨q, oo, ko, hq, rfl, hZ, hGz, hNz⟩ := hrel
        have hzs := hNz.out.size
        have bwz : Hid (Below w.heap.size w wr) := bwr.out.trans (hNz.out.below (B := w.heap.size) (fun b hb => by omega) (by omega))
        have hRz : Hid (wr.heap[w.heap.size + 1]? = some (.cells #[.slice op m cm, .slice ov k ck] 42 (0, 0))) := (hNz.out.block (w.heap.size + 1) (by omega) (by omega)).trans hRt.out
        have z1 := (cell_row hRz.out 1 (.slice ov k ck) rfl).1
        by_cases hqt : q < k
        · obtain ⟨oa9, cp, ev, _, hc⟩ := (H.out wr bwz.out).2.2
          obtain ⟨b, off, eo, hbB, hcell⟩ := hc q hqt
          have eo1 : ov = some ⟨b, off, none⟩ := by injection ev with h1 _ _; exact h1.trans eo
          subst eo1
          clear ev eo hc
          have es : wr.cell? ⟨b, off + q, none⟩ = some (.string (Q q)) := by have := hcell 0 (by omega); simpa [cS] using this
          clear hcell
          have hq8 : (insA ((List.range q).map Q)).length ≤ 1048576 := by have a1 := insA_len ((List.range q).map Q); simp only [List.length_map, List.length_range] at a1; omega
          have yz := (cell_row hGz.out 4 (.slice oo (insA ((List.range q).map Q)).length ko) rfl).1
          go_upto_region 19 with fail
          have q_es := fun d os => cell_regrown es d os
          have q_yz := fun d os => cell_regrown yz d os
          have q_z1 := fun d os => cell_regrown z1 d os
          refine wp_region_mix 7 [0, 1, 2, 3, 4, 5, 6] (by kernel_rfl) (by kernel_rfl) ?_
          simp only [List.filterMap_cons, List.filterMap_nil, List.getElem?_cons_succ, List.getElem?_cons_zero]
          repeat (first | go_big_quiet_step (fail) | quiet_step (fail))
          refine wpQuiet_nil ?_
          refine ⟨by kernel_rfl, ?_⟩
          simp only [List.drop_succ_cons, List.drop_zero]
          clear es yz z1 q_es q_yz q_z1
          obtain ⟨Z, hZ9⟩ : ∃ V, V = wr.drew := ⟨_, rfl⟩
          have BZ : Hid (Below wr.heap.size wr Z) := by rw [hZ9]; exact (Below.refl _ _).drew
          rw [← hZ9]
          clear hZ9
          have sZ := BZ.out.size
          go_wp2_with (first
            | (go_at_call 53; refine (insOR_any w5.heap.size (insA ((List.range q).map Q)) (Q q) _ Z (row_stable BZ.out hZ.out) hq8 (by omega)).mono ?_; rintro e z9 ⟨zv, rfl, hzv, hbz⟩; obtain ⟨oz', kz', rfl⟩ := ownsRow_shape hzv; have hgz : z9.heap[gx]? = some (.cells #[.int .i64 num, .int .i64 1, .slice ot ts.length ct, .slice ou m ku, .slice oo (insA ((List.range q).map Q)).length ko, .slice go gn gk] 68 (0, 0)) := box_stable hbz (box_stable BZ.out hGz.out); obtain ⟨zc9, zf9⟩ := cell_row hgz 4 (.slice oo (insA ((List.range q).map Q)).length ko) rfl))
          have SET := set_row hgz 4 (.slice oz' (insR (insA ((List.range q).map Q)) (Q q)).length kz')
          have EQ : Hid (insA ((List.range (q + 1)).map Q) = insR (insA ((List.range q).map Q)) (Q q)) := by show _ = _; rw [List.range_succ, List.map_append]; exact insA_snoc _ _
          have RZ : Hid ((z9.setCell ⟨gx, 4, none⟩ (.slice oz' (insR (insA ((List.range q).map Q)) (Q q)).length kz')).ownsRow w5.heap.size 9 1 (.slice oz' (insA ((List.range (q + 1)).map Q)).length kz') (insA ((List.range (q + 1)).map Q)).length ((insA ((List.range (q + 1)).map Q)).map .string)) := by
            show World.ownsRow _ _ _ _ _ _ _
            rw [EQ.out]
            exact ownsRow_kept hzv (fun g hg => Below.heap_setCell _ _ _ _ (by have := (World.ownsRow.lt hzv g hg).1; show g ≠ gx; omega))
          have GZ : Hid ((z9.setCell ⟨gx, 4, none⟩ (.slice oz' (insR (insA ((List.range q).map Q)) (Q q)).length kz')).heap[gx]? = some (.cells #[.int .i64 num, .int .i64 1, .slice ot ts.length ct, .slice ou m ku, (.slice oz' (insA ((List.range (q + 1)).map Q)).length kz'), .slice go gn gk] 68 (0, 0))) := by show _ = _; rw [EQ.out]; exact SET
          have NZ : Hid (But (fun b => b = gx) w5 (z9.setCell ⟨gx, 4, none⟩ (.slice oz' (insR (insA ((List.range q).map Q)) (Q q)).length kz'))) := ((hNz.out.trans (But.of_below BZ.out)).trans (But.of_below hbz)).set rfl 4 _
          go_roundw
          case rel => exact ⟨q + 1, oz', kz', by omega, by go_num, RZ.out, GZ.out, NZ.out⟩
          case measure => simp [intOf]; omega
        · have hqk : q = k := by omega
          rw [hqk] at hZ hGz
          clear hqk
          have hAz : Hid (wr.heap[w.heap.size]? = some (.cells #[v0, v1, v2, v3] 40 (0, 0))) := (hNz.out.block w.heap.size (by omega) (by omega)).trans hA.out
          have y0 := (cell_row hAz.out 0 (v0) rfl).1
          have y1 := (cell_row hAz.out 1 (v1) rfl).1
          have y2 := (cell_row hAz.out 2 (v2) rfl).1
          have y3 := (cell_row hAz.out 3 (v3) rfl).1
          have d0 := (cell_row hGz.out 0 (.int .i64 num) rfl).1
          have d1 := (cell_row hGz.out 1 (.int .i64 1) rfl).1
          have d2 := (cell_row hGz.out 2 (.slice ot ts.length ct) rfl).1
          have d3 := (cell_row hGz.out 3 (.slice ou m ku) rfl).1
          have d4 := (cell_row hGz.out 4 (.slice oo (insA ((List.range k).map Q)).length ko) rfl).1
          have d5 := (cell_row hGz.out 5 (.slice go gn gk) rfl).1
          have hOz : Hid (wr.ownsRow U.heap.size 95 3 (.slice ou m ku) m (enc 3 eU (usS m P am m))) := ownsRow_kept hO.out (fun g hg => hNz.out.block g (World.ownsRow.lt hO.out g hg).2 (by have := (World.ownsRow.lt hO.out g hg).1; omega))
          have hGRz : Hid (Row wr w2.heap.size 9 1 eS (.slice go gn gk) gl) := ownsRow_kept HGR.out (fun g hg => (hNz.out.block g (by have := HGB.out g hg; omega) (by have := HGB.out g hg; omega)).trans (hN.out.block g (by have := HGB.out g hg; omega) (by have := HGB.out g hg; omega)))
          have A2 : Hid (AtL (fun b => b < wr.heap.size) wr ts (.slice ot ts.length ct)) := (HT.out wr bwz.out).up (fun b hb => Nat.lt_of_lt_of_le (hS b hb) bwz.out.size)
          have A3 : Hid (AtL (fun b => b < wr.heap.size) wr (usS m P am m) (.slice ou m ku)) := (onU_row (B := U.heap.size) (t := 95) (l := usS m P am m) (v := .slice ou m ku) (by show World.ownsRow _ _ _ _ _ _ _; rw [usS_len]; exact hOz.out) (fun g hg => (World.ownsRow.lt hOz.out g hg).2) (fun x hx => by
              obtain ⟨j, hj, rfl⟩ := (usS_mem m P am x m).1 hx
              exact ⟨HZP.out j hj, usI_ok ha j⟩)).at_
          have A4 : Hid (AtL (fun b => b < wr.heap.size) wr (insA ((List.range k).map Q)) (.slice oo (insA ((List.range k).map Q)).length ko)) := (onS_row (B := w5.heap.size) (t := 9) (l := insA ((List.range k).map Q)) (v := .slice oo (insA ((List.range k).map Q)).length ko) (by show World.ownsRow _ _ _ _ _ _ _; rw [enc_S]; exact hZ.out) (fun g hg => (World.ownsRow.lt hZ.out g hg).2) (fun x hx => by
              obtain ⟨j, hj, rfl⟩ := List.mem_map.1 (((insA_both _).2 x).1 hx)
              exact HZQ.out j (List.mem_range.1 hj))).at_
          have A5 : Hid (AtL (fun b => b < wr.heap.size) wr gl (.slice go gn gk)) := (onS_row (l := gl) hGRz.out (fun g hg => (World.ownsRow.lt hGRz.out g hg).2) (fun x hx => by
              rw [HGL.out] at hx
              obtain ⟨i, hi, rfl⟩ := List.mem_map.1 hx
              have := name_size (HV.out.2.2.2 i (List.mem_range.1 (List.mem_filter.1 hi).1)).1
              show _ ≤ maxLen
              unfold maxLen; omega)).at_
          have HC : Hid (Calls Tryz.prog 54 #[.agg #[v0, v1, v2, v3], .agg #[.int .i64 num, .int .i64 1, .slice ot ts.length ct, .slice ou m ku, .slice oo (insA ((List.range k).map Q)).length ko, .slice go gn gk]] wr fun e w' => ∃ v, e = .returned v ∧ OnL (fun b => wr.heap.size ≤ b ∧ b < w'.heap.size) w' (askL D (rtD D num am m P k Q ts) (stL true D)) v ∧ Below wr.heap.size wr w') := asksS_any B (fun b => b < wr.heap.size) v0 v1 v2 v3 D (rtD D num am m P k Q ts) (cs [.int .i64 num, .int .i64 1, .slice ot ts.length ct, .slice ou m ku, .slice oo (insA ((List.range k).map Q)).length ko, .slice go gn gk]) wr (H.out wr bwz.out).1 (Nat.le_trans hB bwz.out.size) hz HV.out (at_DClaimWant.2 ⟨⟨rfl, hn⟩, ⟨rfl, (show OkI 1 from ⟨by decide, by decide⟩)⟩, A2.out, by rw [show (rtD D num am m P k Q ts).2.2.2.1 = usS m P am m from rfl]; exact A3.out, A4.out, by rw [show (rtD D num am m P k Q ts).2.2.2.2.2 = gl from HGL.out.symm]; exact A5.out⟩) (fun b hb => hb) (rt_in HR.out) ⟨hl, by show (usS m P am m).length ≤ _; rw [usS_len]; exact hm, by show (insA ((List.range k).map Q)).length ≤ _; have a1 := insA_len ((List.range k).map Q); simp only [List.length_map, List.length_range] at a1; omega, by show (gdN D m P k Q D.nv).length ≤ _; have := gdN_len D m P k Q D.nv; omega⟩ (hsl HV.out)
          go_wp2_with fail
          refine (HC.out).mono ?_
          rintro e wf ⟨rv, rfl, hon, hbf⟩
          go_wp2_with fail
          go_ret
          exact ⟨⟨_, _, rfl, ⟨fun _ => rfl, fun h => absurd ⟨HV.out, HR.out⟩ h⟩, hon.up (fun b hb => ⟨Nat.le_trans bwz.out.size hb.1, hb.2⟩)⟩, bwz.out.trans (hbf.mono bwz.out.size)⟩

end Go.Proofs.YtndacfockllehaaGreat

/-
  The program's copies of names and of a want: all in memory of its own.
-/
namespace Go.Proofs.YtndacfockllehaaGreat
open Go.RowKit

set_option maxRecDepth 100000 in
set_option maxHeartbeats 4000000 in
theorem freshT_any (S : Nat → Prop) (v : Value) (l : List ByteArray) (w : World) (h : AtL S w l v) (hS : ∀ b, S b → b < w.heap.size) (hl : l.length ≤ 1048576) (hs : ∀ x ∈ l, x.size ≤ 1048576) :
    Calls Tryz.prog 126 #[v] w fun e w' => ∃ r, e = .returned r ∧ Row w' w.heap.size 9 1 eS r l ∧ Below w.heap.size w w' := by
  obtain ⟨oa, cap, rfl, hn, hc⟩ := h
  have HC : Hid (∀ i (h : i < l.length), ∃ b off, oa = some ⟨b, off, none⟩ ∧ S b ∧ w.cell? ⟨b, off + i, none⟩ = some (.string l[i])) := fun i hi => by
    obtain ⟨b, off, h1, h2, c, h3, h4⟩ := hc i hi
    have e0 := h3 0 (by decide)
    rw [h4.1] at e0
    exact ⟨b, off, h1, h2, by simpa [width_str] using e0⟩
  have HS : Hid (∀ x ∈ l, x.size ≤ 1048576) := hs
  clear hc hn hs
  obtain ⟨n, en⟩ : ∃ n, l.length = n := ⟨_, rfl⟩
  rw [en] at hl
  rw [en]
  have EN : Hid (l.length = n) := en
  clear en
  go_enter Tryz.func126, Tryz.ntmps126
  go_wp2
  go_loopw [3, 8] (fun r i wr => ∃ k : Nat, k ≤ n ∧ i = .int .i64 k ∧ Hid (Row wr w.heap.size 9 1 eS r (l.take k)) ∧ Hid (Below w.heap.size w wr)) (fun _ i _ => n - (intOf i).toNat)
  case atStart => exact ⟨0, Nat.zero_le _, rfl, by simpa [Hid] using Row.nil w w.heap.size 9 1 eS, Below.refl _ _⟩
  case round =>
    obtain ⟨k, hk, rfl, hrow, hbel⟩ := hrel
    have hsz := hbel.out.size
    by_cases hlt : k < n
    · obtain ⟨b, off, rfl, hbS, c0⟩ := HC.out k (by have := EN.out; omega)
      have e0 := (hbel.out.cell (p := ⟨b, off + k, none⟩) (hS b hbS)).trans c0
      clear c0
      have hx := HS.out _ (List.getElem_mem (show k < l.length by have := EN.out; omega))
      have htk : Hid (l.take (k + 1) = l.take k ++ [l[k]'(by have := EN.out; omega)]) := by
        show _ = _
        rw [List.take_add_one, List.getElem?_eq_getElem (show k < l.length by have := EN.out; omega)]; rfl
      obtain ⟨x, ex⟩ : ∃ x, l[k]'(by have := EN.out; omega) = x := ⟨_, rfl⟩
      rw [ex] at e0 hx htk
      clear ex
      have hlk : (l.take k).length = k := by rw [List.length_take]; have := EN.out; omega
      go_wp2_with fail
      refine (clones_any x _ hx).mono ?_
      rintro e w1 ⟨rfl, hb1⟩
      have hs1 := hb1.size
      have hrow1 : Hid (Row w1 w.heap.size 9 1 eS _ (l.take k)) := Row.below hrow.out hb1
      have hsr : Hid (Src (w1.alloc (.cells #[.string x] 9)) (.slice (some ⟨w1.heap.size, 0, none⟩) 1 1) 1 1 (enc 1 eS [x])) := ⟨rfl, .inr ⟨_, _, rfl, by exact cell_one_new _ _ _⟩⟩
      go_wp2_with (first
        | (at_builtin; refine wpList_app elS rfl _ _ rfl rfl rfl (hrow1.out.alloc _) hsr.out (flatS.enc_one _) (by unfold maxLen; omega) (by omega) (by simp; omega) ?_; intro v' w3 hown hg hbk))
      go_roundw
      case rel =>
        refine ⟨k + 1, by omega, by go_num, ?_, (((hbel.out.trans (hb1.mono hsz)).alloc (by omega) _).grown hg (by simp; omega) (fun p hp => (World.ownsRow.lt hrow1.out p hp).1))⟩
        show Row _ _ _ _ _ _ _
        rw [htk.out]
        show World.ownsRow _ _ _ _ _ _ _
        rw [List.length_append, enc_append]
        exact hown
      case measure => simp [intOf]; omega
    · obtain rfl : n = k := by omega
      have htk : Hid (l.take n = l) := by show _ = _; rw [List.take_of_length_le (by have := EN.out; omega)]
      go_wp2
      go_ret
      refine ⟨_, rfl, ?_, hbel.out⟩
      have := hrow.out
      rw [htk.out] at this
      exact this

end Go.Proofs.YtndacfockllehaaGreat
