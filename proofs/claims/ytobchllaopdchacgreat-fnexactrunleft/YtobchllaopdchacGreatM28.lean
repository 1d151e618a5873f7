/-
  Several texts in one.
-/
import Derived.Test.YtobchllaopdchacGreatM25
import Derived.Test.YtobchllaopdchacGreatM27
import Derived.RangeFuncCalls
import Derived.Shelf.Abstract
import Derived.Shelf.RegionOpen
import Derived.OwnWalkIn
import Derived.TacticsInMore
import Derived.LoopNIn
import Derived.LoopIn
import Derived.Sort.CutIn
import Derived.Test.YtobchllaopdchacGreatM4
import Derived.Test.YtobchllaopdchacGreatM10
namespace Go.Proofs.YtobchllaopdchacGreat
open Go.RowKit Go.Shelf
attribute [local go_sem] Oper.semAt_some
abbrev LvG (T : List ByteArray) (Bs : List DShareBatch) (B g : Nat) (v : Value) (u : World) (k : Nat) : Prop := Lv B u g v (lvL T Bs (gnS Bs k)) (freM T Bs (gnS Bs k))
def Goes (Bs : List DShareBatch) (k : Nat) : Prop := ¬ nxtI Bs (gnS Bs k) < 0
def Ends (Bs : List DShareBatch) (k : Nat) : Prop := nxtI Bs (gnS Bs k) < 0
structure ItZ (J : Nat → World → Prop) (own : World → Nat → Prop) (T : List ByteArray) (Bs : List DShareBatch) (cb B g : Nat) (v : Value) (X : World) (k m : Nat) : Prop where
  j : J k X
  cbx : X.heap[cb]? = some (.cells #[.pointer (some ⟨g, 0, none⟩)] 172 (0, 0))
  lv : LvG T Bs B g v X m
  no : ∀ q, (q = cb ∨ lvS g v q) → ¬ own X q
section
variable {J : Nat → World → Prop} {own : World → Nat → Prop} {T : List ByteArray} {Bs : List DShareBatch} {cb B g n₀ : Nat} {v : Value} {X Y : World} {k m : Nat}
theorem ItZ.lt (h : ItZ J own T Bs cb B g v X k m) : ∀ q, (q = cb ∨ lvS g v q) → q < X.heap.size := fun q hq => by
  rcases hq with rfl | rfl | hq
  · exact (Array.getElem?_eq_some_iff.1 h.cbx).1
  · exact h.lv.lt
  · exact (World.ownsRow.lt h.lv.row q hq).2
theorem lv_apart {L : List (Nat × Nat × Bool)} {fr : Nat} (h : Lv B X g v L fr) {c : Array Value} (hc : X.heap[cb]? = some (.cells c 172 (0, 0))) : ¬ lvS g v cb := fun e => by
  rcases e with rfl | e
  · have := h.box
    rw [hc] at this
    injection this with h1
    injection h1 with _ h2
    revert h2
    decide
  · obtain ⟨c', hc'⟩ := Row.typed h.row cb e
    rw [hc] at hc'
    injection hc' with h1
    injection h1 with _ h2
    revert h2
    decide
theorem ItZ.yield (h : ItZ J own T Bs cb B g v X k m) (hk : KpO own n₀ X Y) (hj : J (k + 1) Y) : ItZ J own T Bs cb B g v Y (k + 1) m :=
  ⟨hj, hk.blk _ _ _ _ h.cbx (h.no _ (.inl rfl)), ⟨Row.block h.lv.row (fun q hq => by
    obtain ⟨c, hc⟩ := Row.typed h.lv.row q hq
    rw [hc]; exact hk.blk _ _ _ _ hc (h.no q (.inr (.inr hq)))), hk.blk _ _ _ _ h.lv.box (h.no _ (.inr (.inl rfl))), h.lv.low⟩, fun q hq ho => by
    rcases hk.old q ho with h1 | h1
    · exact h.no q hq h1
    · have := h.lt q hq
      omega⟩
theorem ItZ.below (h : ItZ J own T Bs cb B g v X k m) (hb : Below X.heap.size X Y) (hJ : ∀ k A C, J k A → But (lvS g v) A C → J k C) (hst : ∀ k A, J k A → (∀ q, own A q → q < A.heap.size) ∧ ∀ C, But (lvS g v) A C → ∀ q, own C q → own A q) : ItZ J own T Bs cb B g v Y k m :=
  ⟨hJ k X Y h.j (But.of_below hb), (hb.block _ (h.lt cb (.inl rfl))).trans h.cbx, h.lv.below hb, fun q hq ho => h.no q hq ((hst k X h.j).2 Y (But.of_below hb) q ho)⟩
theorem ItZ.go {m' : Nat} (h : ItZ J own T Bs cb B g v X k m) (hb : But (lvS g v) X Y) (hl : LvG T Bs B g v Y m') (hJ : ∀ k A C, J k A → But (lvS g v) A C → J k C) (hst : ∀ k A, J k A → (∀ q, own A q → q < A.heap.size) ∧ ∀ C, But (lvS g v) A C → ∀ q, own C q → own A q) : ItZ J own T Bs cb B g v Y k m' :=
  ⟨hJ k X Y h.j hb, (hb.block _ (h.lt cb (.inl rfl)) (lv_apart h.lv h.cbx)).trans h.cbx, hl, fun q hq ho => h.no q hq ((hst k X h.j).2 Y hb q ho)⟩
end
def mzV (v : Value) (w : World) : Nat := match v with
  | .slice (some a) n _ => ((List.range n).map fun i => match w.cell? ⟨a.block, i * 3 + 2, none⟩ with
    | some (.bool b) => b
    | _ => false).countP (fun b => !b)
  | _ => 0
theorem mzV_at {B g : Nat} {w : World} {v : Value} {L : List (Nat × Nat × Bool)} {fr : Nat} (h : Lv B w g v L fr) : mzV v w = (L.map (·.2.2)).countP (fun b => !b) := by
  obtain ⟨ov, kv, hv⟩ := Row.form h.row
  cases hL : L with
  | nil =>
    rw [hL] at hv
    rw [hv]
    cases ov <;> rfl
  | cons p L' =>
    rw [← hL]
    obtain ⟨r, cap, hv', _⟩ := h.cell (a := 0) (by rw [hL]; simp)
    rw [hv']
    unfold mzV
    simp only
    congr 1
    apply List.ext_getElem
    · simp
    · intro i h1 h2
      have hi : i < L.length := by simpa using h2
      obtain ⟨r', cap', hv'', _, _, _, _, _, c2, _⟩ := h.cell hi
      rw [hv'] at hv''
      injection hv'' with e1
      injection e1 with e1
      injection e1 with e1
      subst e1
      simp only [List.getElem_map, List.getElem_range]
      rw [c2]
theorem cnt_less {α : Type} {P Q : α → Bool} : ∀ {l : List α}, (∀ x ∈ l, Q x = true → P x = true) → (∃ x ∈ l, P x = true ∧ Q x = false) → l.countP Q < l.countP P
  | [], _, ⟨x, hx, _⟩ => by cases hx
  | y :: l, h, ⟨x, hx, h1, h2⟩ => by
    have le : l.countP Q ≤ l.countP P := List.countP_mono_left (fun z hz => h z (by simp [hz]))
    rw [List.countP_cons, List.countP_cons]
    rcases List.mem_cons.1 hx with rfl | hx
    · rw [h1, h2]; simp; omega
    · have ih := cnt_less (P := P) (Q := Q) (fun z hz => h z (by simp [hz])) ⟨x, hx, h1, h2⟩
      have := h y (by simp)
      cases hq : Q y
      · simp; omega
      · rw [this hq]; simp; omega
theorem lv_cnt (T : List ByteArray) (Bs : List DShareBatch) (gone : List ByteArray) : ((lvL T Bs gone).map (·.2.2)).countP (fun b => !b) = Bs.countP (fun f => !(hasB gone f.1)) := by
  unfold lvL
  rw [List.map_map, List.countP_map]
  rfl
theorem cnt_next {Bs : List DShareBatch} {k : Nat} (h : ¬ nxtI Bs (gnS Bs k) < 0) : Bs.countP (fun f => !(hasB (gnS Bs (k + 1)) f.1)) < Bs.countP (fun f => !(hasB (gnS Bs k) f.1)) := by
  obtain ⟨q, eq, hq, hg, _⟩ := nxt_free h
  refine cnt_less (fun f _ hf => ?_) ⟨Bs[q], List.getElem_mem hq, by rw [hg]; rfl, ?_⟩
  · rw [gnS, hasB_snoc] at hf
    cases e : hasB (gnS Bs k) f.1
    · rfl
    · rw [e] at hf; simp at hf
  · rw [gnS, hasB_snoc, eq, Int.toNat_natCast, btN_at hq, eqB_refl, Bool.or_true]; rfl
set_option maxRecDepth 100000 in
set_option maxHeartbeats 16000000 in
theorem turns_any (n cb g B n₀ N : Nat) (hn : 2 ≤ n) {T : List ByteArray} {Bs : List DShareBatch} (hok : BokP (T, Bs)) (v : Value) (own : World → Nat → Prop) (w : World)
    (hcb : w.heap[cb]? = some (.cells #[.pointer (some ⟨g, 0, none⟩)] 172 (0, 0))) (hlv : LvG T Bs B g v w 0) :
    SeqZ Fence.wide n Tryz.prog 175 #[.pointer (some ⟨cb, 0, none⟩)] (fun k => #[.int .i64 (nxtI Bs (gnS Bs k))]) own n₀ (lvS g v) (fun q => q = cb ∨ lvS g v q) (fun k u => Vd Bs (k + 1) ∧ LvG T Bs B g v u (k + 1)) (fun k u => (Vd Bs k ∧ Ends Bs k) ∧ LvG T Bs B g v u k) N w := by
  intro l J Jx W hW hJ hst hno hN hY h0
  have lcb : cb < w.heap.size := (Array.getElem?_eq_some_iff.1 hcb).1
  have B0 : Hid (ItZ J own T Bs cb B g v W 0 0) := ⟨h0, (hW.block cb lcb).trans hcb, hlv.below hW, hno⟩
  have HY : Hid _ := hY
  have HJ : Hid _ := hJ
  have HST : Hid _ := hst
  have OK : Hid (BokP (T, Bs)) := hok
  have FIRST : Hid (∀ (m : Nat) (u : World), LvG T Bs B g v u m → Calls Tryz.prog 176 #[.pointer (some ⟨g, 0, none⟩)] u fun e w' => ((Ends Bs m ∧ e = .returned (.tuple #[.int .i64 0, .bool false])) ∨ (Goes Bs m ∧ e = .returned (.tuple #[.int .i64 (nxtI Bs (gnS Bs m)), .bool true]))) ∧ Below u.heap.size u w') := fun m u hu => first_any OK.out B g v (gnS Bs m) u hu
  have LETGO : Hid (∀ (m : Nat) (u : World), LvG T Bs B g v u m → Goes Bs m → Calls Tryz.prog 177 #[.pointer (some ⟨g, 0, none⟩), .int .i64 (nxtI Bs (gnS Bs m))] u fun e w' => e = .returned (.tuple #[]) ∧ LvG T Bs B g v w' (m + 1) ∧ But (lvS g v) u w') := fun m u hu hn => by
    obtain ⟨q, eq, hq, hg, _⟩ := nxt_free hn
    have N8 := (bok_things OK.out).1
    have eL := lv_at T (gnS Bs m) hq
    rw [eq]
    refine (letGo_any B g v _ _ q u hu (by rw [lv_len]; exact hq) (by rw [eL]; exact hasM_lt N8 _) (freM_lt N8 _ _)).mono fun e w' ⟨h1, h2, h3⟩ => ⟨h1, ?_, h3⟩
    rw [eL] at h2
    have := Lv.gone OK.out hq hg h2
    show Lv _ _ _ _ _ _
    rw [gnS, eq, Int.toNat_natCast, btN_at hq]
    exact this
  clear hY hJ hst hno hN hlv hcb h0 hW hok lcb
  have x0 := (cell_row B0.out.cbx 0 (.pointer (some ⟨g, 0, none⟩)) rfl).1
  refine callsIn_of_wp Tryz.func175 rfl trivial ?_ rfl
  simp only [Tryz.ntmps175, List.size_toArray, List.length_cons, List.length_nil, Nat.reduceAdd, Nat.reduceSub, Array.replicate_succ, Array.replicate_zero, List.push_toArray, List.append_toArray, List.nil_append, List.cons_append]
  gi_upto_region 0 with fail
  refine wpIn_wide.2 ?_
  go_wp2_with fail
  refine Calls.mono (FIRST.out 0 W B0.out.lv) ?_
  rintro e u0 ⟨hcase, hb0⟩
  have I0 : Hid (ItZ J own T Bs cb B g v u0 0 0) := B0.out.below hb0 HJ.out HST.out
  clear hb0 x0
  obtain ⟨ax, ox, rfl, hax⟩ : ∃ (a : Int) (o : Bool), e = .returned (.tuple #[.int .i64 a, .bool o]) ∧ ((o = false ∧ Ends Bs 0) ∨ (o = true ∧ Goes Bs 0 ∧ a = nxtI Bs (gnS Bs 0))) := by
    rcases hcase with ⟨h1, h2⟩ | ⟨h1, h2⟩
    · exact ⟨0, false, h2, .inl ⟨rfl, h1⟩⟩
    · exact ⟨_, true, h2, .inr ⟨rfl, h1, rfl⟩⟩
  have HAX : Hid _ := hax
  clear hcase hax
  go_wp2_with fail
  gi_wp2
  gi_loopw [3, 4] (fun a o wr => ∃ (k : Nat) (ax : Int) (ox : Bool), a = .int .i64 ax ∧ o = .bool ox ∧ Hid ((ox = false ∧ Ends Bs k) ∨ (ox = true ∧ Goes Bs k ∧ ax = nxtI Bs (gnS Bs k))) ∧ Hid (Vd Bs k) ∧ Hid (ItZ J own T Bs cb B g v wr k k)) (fun _ _ wr => mzV v wr)
  case atStart => exact ⟨0, ax, ox, rfl, rfl, HAX, fun j hj => by omega, I0⟩
  case round =>
    obtain ⟨k, ay, oy, rfl, rfl, hay, hvd, HB⟩ := hrel
    cases oy
    · have hneg : Ends Bs k := by
        rcases hay.out with ⟨_, h⟩ | ⟨h, _⟩
        · exact h
        · cases h
      have HNEG : Hid (Ends Bs k) := hneg
      clear hneg hay
      gi_wp2
      go_end0
      exact ⟨⟨_, rfl⟩, .inl ⟨k, HB.out.j, ⟨hvd.out, HNEG.out⟩, HB.out.lv⟩⟩
    · obtain ⟨hpos, rfl⟩ : Goes Bs k ∧ ay = nxtI Bs (gnS Bs k) := by
        rcases hay.out with ⟨h, _⟩ | ⟨_, h⟩
        · cases h
        · exact h
      have HPOS : Hid (Goes Bs k) := hpos
      have CL : Hid _ := LETGO.out k wr HB.out.lv hpos
      clear hpos hay
      have x0 := (cell_row HB.out.cbx 0 (.pointer (some ⟨g, 0, none⟩)) rfl).1
      gi_upto_region 3 with fail
      refine wpIn_wide.2 ?_
      go_wp2_with fail
      refine Calls.mono CL.out ?_
      rintro e W2 ⟨rfl, hl2, hb2⟩
      have I2 : Hid (ItZ J own T Bs cb B g v W2 k (k + 1)) := HB.out.go hb2 hl2 HJ.out HST.out
      have V1 : Hid (Vd Bs (k + 1)) := hvd.out.up HPOS.out
      have M2 : Hid (mzV v W2 < mzV v wr) := by
        show _ < _
        rw [mzV_at hl2, mzV_at HB.out.lv, lv_cnt, lv_cnt]
        exact cnt_next HPOS.out
      clear hl2 hb2 CL x0
      go_wp2_with fail
      have hY := HY.out k W2 I2.out.j ⟨V1.out, I2.out.lv⟩
      obtain ⟨fn, tmps, assign, body, hy, hR⟩ := hY
      gi_wp2
      refine ⟨(fun _ => by omega), hR.mono ?_⟩
      rintro e W3 (⟨rfl, hJ3, hk3⟩ | ⟨rfl, hJx3⟩)
      · have I3 : Hid (ItZ J own T Bs cb B g v W3 (k + 1) (k + 1)) := I2.out.yield hk3 hJ3
        clear hk3 hJ3 hR hy
        have x0 := (cell_row I3.out.cbx 0 (.pointer (some ⟨g, 0, none⟩)) rfl).1
        gi_upto_region 2 with fail
        refine wpIn_wide.2 ?_
        go_wp2_with fail
        refine Calls.mono (FIRST.out (k + 1) W3 I3.out.lv) ?_
        rintro e u4 ⟨hcase, hb4⟩
        have I4 : Hid (ItZ J own T Bs cb B g v u4 (k + 1) (k + 1)) := I3.out.below hb4 HJ.out HST.out
        clear hb4 x0
        obtain ⟨az, oz, rfl, haz⟩ : ∃ (a : Int) (o : Bool), e = .returned (.tuple #[.int .i64 a, .bool o]) ∧ ((o = false ∧ Ends Bs (k + 1)) ∨ (o = true ∧ Goes Bs (k + 1) ∧ a = nxtI Bs (gnS Bs (k + 1)))) := by
          rcases hcase with ⟨h1, h2⟩ | ⟨h1, h2⟩
          · exact ⟨0, false, h2, .inl ⟨rfl, h1⟩⟩
          · exact ⟨_, true, h2, .inr ⟨rfl, h1, rfl⟩⟩
        have HAZ : Hid _ := haz
        clear hcase haz
        go_wp2_with fail
        go_roundw
        case rel => exact ⟨k + 1, az, oz, rfl, rfl, HAZ, V1, I4⟩
        case measure =>
          have h1 := M2.out
          rw [mzV_at I2.out.lv] at h1
          show mzV v u4 < mzV v wr
          rw [mzV_at I4.out.lv]
          exact h1
      · gi_wp2
        exact bodyPost_ret (results_none rfl _ _ _) rfl ⟨⟨_, rfl⟩, .inr ⟨k, hJx3⟩⟩
end Go.Proofs.YtobchllaopdchacGreat

namespace Go.Proofs.YtobchllaopdchacGreat
open Go.RowKit
def ownO (g5 : Nat) : World → Nat → Prop := fun W q => q = g5 ∨ ∃ pv, W.heap[g5]? = some (.cells #[pv] 22 (0, 0)) ∧ pv.ownBlock = some q
structure OrI (U : World) (g5 : Nat) (Tt : Nat → Prop) (l : List ByteArray) (X : World) (pv : Value) : Prop where
  row : Row X U.heap.size 9 1 eS pv l
  b5 : X.heap[g5]? = some (.cells #[pv] 22 (0, 0))
  but : But (fun b => b = g5 ∨ Tt b) U X
theorem rowO_cells {w : World} {B t : Nat} {v : Value} {l : List ByteArray} (h : Row w B t 1 eS v l) {g : Nat} (hg : v.ownBlock = some g) : ∃ cur, w.heap[g]? = some (.cells cur t (0, 0)) := by
  rcases h.2 with ⟨rfl, _⟩ | ⟨g', cap, cur, rfl, _, hgg, _⟩
  · cases hg
  · cases hg; exact ⟨cur, hgg⟩
section
variable {U A C V : World} {g5 n₀ : Nat} {Tt : Nat → Prop} {l l' : List ByteArray} {pv pv' : Value}
theorem OrI.lt (h : OrI U g5 Tt l A pv) {q : Nat} (hq : pv.ownBlock = some q) : U.heap.size ≤ q ∧ q < A.heap.size := World.ownsRow.lt h.row q hq
theorem OrI.own (h : OrI U g5 Tt l A pv) {q : Nat} : ownO g5 A q ↔ q = g5 ∨ pv.ownBlock = some q := by
  constructor
  · rintro (e | ⟨u, hu, ho⟩)
    · exact .inl e
    · rw [h.b5] at hu; cases hu; exact .inr ho
  · rintro (e | ho)
    · exact .inl e
    · exact .inr ⟨pv, h.b5, ho⟩
theorem OrI.butR {T' : Nat → Prop} (h : OrI U g5 Tt l A pv) (h5 : g5 < U.heap.size) (ht : ∀ b, T' b → Tt b ∧ b < U.heap.size) (ne : ¬ Tt g5) (hb : ButR T' U.heap.size A C) : OrI U g5 Tt l C pv := by
  have sA := h.but.size
  refine ⟨Row.block h.row (fun q hq => ?_), ?_, ⟨hb.os.trans h.but.os, hb.tape.trans h.but.tape, hb.output.trans h.but.output, Nat.le_trans sA hb.size, fun b hb1 hn => ?_⟩⟩
  · obtain ⟨cur, hc⟩ := rowO_cells h.row hq
    have hl := h.lt hq
    exact hb.block q hl.2 (fun e => by have := (ht q e).2; omega) (fun hr => by obtain ⟨_, o, ho, hoc⟩ := hr; rw [hc] at ho; cases ho; cases hoc)
  · exact (hb.block g5 (by omega) (fun e => ne (ht _ e).1) (fun hr => by omega)).trans h.b5
  · exact (hb.block b (by omega) (fun e => hn (.inr (ht _ e).1)) (fun hr => by omega)).trans (h.but.block b hb1 hn)
theorem OrI.st (h : OrI U g5 Tt l A pv) (h5 : g5 < U.heap.size) (ht : ∀ b, Tt b → b < U.heap.size) (ne : ¬ Tt g5) : (∀ q, ownO g5 A q → q < A.heap.size) ∧ ∀ C, ButR Tt U.heap.size A C → ∀ q, ownO g5 C q → ownO g5 A q := by
  have sA := h.but.size
  refine ⟨fun q hq => ?_, fun C hb q hq => ?_⟩
  · rcases h.own.1 hq with e | e
    · omega
    · exact (h.lt e).2
  · exact h.own.2 ((h.butR h5 (fun b hb => ⟨hb, ht b hb⟩) ne hb).own.1 hq)
theorem OrI.push (h : OrI U g5 Tt l V pv) (h5 : g5 < U.heap.size) (hn : n₀ ≤ g5) {V2 V3 : World} (hb : Below V.heap.size V V2) (hg : V2.grownBy V3 pv.ownBlock) (hrow : Row V3 U.heap.size 9 1 eS pv' l') (hbk : pv'.ownBlock = pv.ownBlock ∨ pv'.ownBlock = some V2.heap.size) :
    KeepsOthers V (V3.setCell ⟨g5, 0, none⟩ pv') ∧ KpO (ownO g5) n₀ V (V3.setCell ⟨g5, 0, none⟩ pv') ∧ OrI U g5 Tt l' (V3.setCell ⟨g5, 0, none⟩ pv') pv' := by
  have sB := hb.size
  have sU := h.but.size
  have s3 := hg.size
  obtain ⟨V4, hV⟩ : ∃ V4, V4 = V3.setCell ⟨g5, 0, none⟩ pv' := ⟨_, rfl⟩
  have s4 : V4.heap.size = V3.heap.size := by rw [hV]; simp
  have oth : ∀ q, q ≠ g5 → V4.heap[q]? = V3.heap[q]? := fun q hq => by rw [hV]; exact Below.heap_setCell V3 ⟨g5, 0, none⟩ pv' q hq
  have keep3 : ∀ q, q < V.heap.size → pv.ownBlock ≠ some q → V3.heap[q]? = V.heap[q]? := fun q hq hv => (hg.block q (by omega) (fun e => hv e.symm)).trans (hb.block q hq)
  have keep : ∀ q, q < V.heap.size → q ≠ g5 → pv.ownBlock ≠ some q → V4.heap[q]? = V.heap[q]? := fun q hq h7' hv => (oth q h7').trans (keep3 q hq hv)
  have n5 : pv.ownBlock ≠ some g5 := fun e => by have := h.lt e; omega
  have f5 : V4.heap[g5]? = some (.cells #[pv'] 22 (0, 0)) := by
    rw [hV, set_row ((keep3 g5 (by omega) n5).trans h.b5) 0 pv']; rfl
  have B4 : But (fun b => b = g5 ∨ Tt b) U V4 := by
    rw [hV]
    refine But.set ?_ (.inl rfl) 0 pv'
    exact ⟨hg.os.trans (hb.os.trans h.but.os), hg.tape.trans (hb.tape.trans h.but.tape), hg.output.trans (hb.output.trans h.but.output), by omega, fun q hq hno => (keep3 q (by omega) (fun e => by have := h.lt e; omega)).trans (h.but.block q hq hno)⟩
  rw [← hV]
  clear hV
  have G : OrI U g5 Tt l' V4 pv' := ⟨Row.block hrow (fun q hq => oth q (by have := World.ownsRow.lt hrow q hq; omega)), f5, B4⟩
  refine ⟨⟨by omega, fun k o hk ho => (keep k (Array.getElem?_eq_some_iff.1 hk).1 (fun e => ?_) (fun e => ?_)).trans hk⟩, ⟨by omega, fun q hq => ?_, fun q hq => keep q (by omega) (by omega) (fun e => by have := h.lt e; omega), fun q cc t z hcc ho => (keep q (Array.getElem?_eq_some_iff.1 hcc).1 (fun e => ho (.inl e)) (fun e => ho (h.own.2 (.inr e)))).trans hcc⟩, G⟩
  · subst e; rw [h.b5] at hk; cases hk; cases ho
  · obtain ⟨cur, hcur⟩ := rowO_cells h.row e
    rw [hcur] at hk; cases hk; cases ho
  · rcases G.own.1 hq with e | e
    · exact .inl (.inl e)
    · rcases hbk with e2 | e2
      · exact .inl (h.own.2 (.inr (e2.symm.trans e)))
      · rw [e2] at e; cases e; exact .inr (by omega)
end
theorem Lv.butR {B g N : Nat} {A C : World} {v : Value} {L : List (Nat × Nat × Bool)} {fr : Nat} (h : Lv B A g v L fr) (hb : ButR (fun _ => False) N A C) : Lv B C g v L fr :=
  ⟨Row.block h.row fun q hq => by
    obtain ⟨c, hc⟩ := Row.typed h.row q hq
    exact hb.block q (World.ownsRow.lt h.row q hq).2 (fun e => e) (fun hr => by obtain ⟨_, o, ho, hoc⟩ := hr; rw [hc] at ho; cases ho; cases hoc), (hb.block g h.lt (fun e => e) (fun hr => by obtain ⟨_, o, ho, hoc⟩ := hr; rw [h.box] at ho; cases ho; cases hoc)).trans h.box, h.low⟩
end Go.Proofs.YtobchllaopdchacGreat

namespace Go.Proofs.YtobchllaopdchacGreat
open Go.RowKit Go.Sort
section
variable {P : Program} {md : Region.Mode} {ops : Array Oper} {C : World → Prop} {n : Nat} {L : Array Bool → Act → World → Prop}
theorem chainH_done {g : Nat} (Φ : Nat → Act → World → Prop) :
    ∀ (is : List Nat) (k : Nat) (listed : Array Bool) (a : Act) (w : World), (∀ i ∈ is, i < n) → (∀ j (hj : j < is.length), Region.ready md ops (listAll (is.take j) listed) = [is[j]]) →
      (∀ j (hj : j < is.length) a w, Φ (k + j) a w → stepH P ops is[j] (fun a' w' => C w' ∧ Φ (k + j + 1) a' w') a w) →
      (∀ a w, Φ (k + is.length) a w → anyH P md ops C n L g (listAll is listed) a w) → Φ k a w → anyH P md ops C n L (is.length + g) listed a w
  | [], k, listed, a, w, _, _, _, he, h => by
    rw [List.length_nil, Nat.zero_add]
    exact he a w (by simpa using h)
  | i :: is, k, listed, a, w, hn, hr, hs, he, h => by
    rw [List.length_cons, show is.length + 1 + g = (is.length + g) + 1 by omega]
    have r0 : Region.ready md ops listed = [i] := hr 0 (Nat.succ_pos _)
    refine ⟨by rw [r0]; simp, fun j hj => ?_⟩
    rw [r0] at hj
    obtain rfl := List.mem_singleton.1 hj
    refine ⟨hn j (by simp), (hs 0 (by simp) a w (by simpa using h)).mono fun a w ⟨hC, hk⟩ => ⟨hC, ?_⟩⟩
    refine chainH_done Φ is (k + 1) _ _ _ (fun j hj => hn j (by simp [hj])) (fun j hj => ?_) (fun j hj a w h => ?_) (fun a w h => ?_) (by simpa using hk)
    · have := hr (j + 1) (by simpa using hj)
      simpa [listAll] using this
    · have := hs (j + 1) (by simpa using hj) a w (by rw [show k + (j + 1) = k + 1 + j by omega]; exact h)
      rw [show k + (j + 1) + 1 = k + 1 + j + 1 by omega] at this
      simpa using this
    · have := he a w (by rw [List.length_cons, show k + (is.length + 1) = k + 1 + is.length by omega]; exact h)
      simpa [listAll] using this
theorem chainH_box {g : Nat} (Φ : Option Nat → Nat → Act → World → Prop) (ia da : Nat) (oa : Oper) (z : Array Value) (t : TypeId) (ha : ops[ia]? = some oa ∧ oa.guard = none ∧ oa.dst = some da ∧ ia < n)
    (exa : ∀ (b : Act) (u : World), (execOp b.eval oa).run P u = .ok (.value (.pointer (some ⟨u.heap.size, 0, none⟩))) (u.alloc (.cells z t)))
    (hal : ∀ k a w, Φ none k a w → C (w.alloc (.cells z t)) ∧ Φ (some w.heap.size) k (a.put (some da) (.pointer (some ⟨w.heap.size, 0, none⟩))) (w.alloc (.cells z t))) :
    ∀ (is : List Nat) (k : Nat) (listed : Array Bool) (a : Act) (w : World), ia ∉ is → (∀ i ∈ is, i < n) →
      (∀ j (hj : j < is.length), Region.ready md ops (listAll (is.take j) listed) = [is[j], ia]) →
      (∀ j (hj : j < is.length), Region.ready md ops (listAll (is.take j) (listed.setIfInBounds ia true)) = [is[j]]) →
      (∀ o j (hj : j < is.length) a w, Φ o (k + j) a w → stepH P ops is[j] (fun a' w' => C w' ∧ Φ o (k + j + 1) a' w') a w) →
      (∀ a w, Φ none (k + is.length) a w → anyH P md ops C n L (g + 1) (listAll is listed) a w) →
      (∀ p a w, Φ (some p) (k + is.length) a w → anyH P md ops C n L g (listAll is (listed.setIfInBounds ia true)) a w) → Φ none k a w → anyH P md ops C n L (is.length + (g + 1)) listed a w
  | [], k, listed, a, w, _, _, _, _, _, he, _, h => by
    rw [List.length_nil, Nat.zero_add]
    exact he a w (by simpa using h)
  | i :: is, k, listed, a, w, hia, hn, hr, hr1, hs, he, he1, h => by
    rw [List.length_cons, show is.length + 1 + (g + 1) = (is.length + 1 + g) + 1 by omega]
    have r0 : Region.ready md ops listed = [i, ia] := hr 0 (Nat.succ_pos _)
    obtain ⟨ha1, ha2, ha3, ha4⟩ := ha
    refine ⟨by rw [r0]; simp, fun j hj => ?_⟩
    rw [r0] at hj
    simp only [List.mem_cons, List.not_mem_nil, or_false] at hj
    rcases hj with rfl | rfl
    · refine ⟨hn j (by simp), (hs none 0 (by simp) a w (by simpa using h)).mono fun a w ⟨hC, hk⟩ => ⟨hC, ?_⟩⟩
      rw [show is.length + 1 + g = is.length + (g + 1) by omega]
      simp only [List.mem_cons, not_or] at hia
      have cm : ∀ l : Array Bool, (l.setIfInBounds ia true).setIfInBounds j true = (l.setIfInBounds j true).setIfInBounds ia true := fun l => Array.setIfInBounds_comm _ _ hia.1
      refine chainH_box Φ ia da oa z t ⟨ha1, ha2, ha3, ha4⟩ exa hal is (k + 1) _ _ _ hia.2 (fun j hj => hn j (by simp [hj])) (fun m hm => ?_) (fun m hm => ?_) (fun o m hm a w h => ?_) (fun a w h => ?_) (fun p a w h => ?_) (by simpa using hk)
      · have := hr (m + 1) (by simpa using hm)
        simpa [listAll] using this
      · have := hr1 (m + 1) (by simpa using hm)
        simpa [listAll, cm] using this
      · have := hs o (m + 1) (by simpa using hm) a w (by rw [show k + (m + 1) = k + 1 + m by omega]; exact h)
        rw [show k + (m + 1) + 1 = k + 1 + m + 1 by omega] at this
        simpa using this
      · have := he a w (by rw [List.length_cons, show k + (is.length + 1) = k + 1 + is.length by omega]; exact h)
        simpa [listAll] using this
      · have := he1 p a w (by rw [List.length_cons, show k + (is.length + 1) = k + 1 + is.length by omega]; exact h)
        simpa [listAll, cm] using this
    · obtain ⟨hC, hk⟩ := hal k a w h
      refine ⟨ha4, oa, ha1, .inl ⟨wanted_none ha2 _, _, _, exa a w, hC, ?_⟩⟩
      rw [ha3]
      have := chainH_done (g := g) (P := P) (md := md) (ops := ops) (C := C) (n := n) (L := L) (fun m => Φ (some w.heap.size) m) (i :: is) k (listed.setIfInBounds j true) _ _ hn hr1 (fun m hm a w h => hs _ m hm a w h) (fun a w h => he1 _ a w h) hk
      rwa [List.length_cons] at this
theorem chainH_box0 {g : Nat} {listed : Array Bool} {a : Act} {w : World} (Φ : Act → Option Nat → Nat → Act → World → Prop) (is : List Nat) (ia da : Nat) (oa : Oper) (z : Array Value) (t : TypeId) (ha : ops[ia]? = some oa ∧ oa.guard = none ∧ oa.dst = some da ∧ ia < n) (hia : ia ∉ is) (hn : ∀ i ∈ is, i < n)
    (exa : ∀ (b : Act) (u : World), (execOp b.eval oa).run P u = .ok (.value (.pointer (some ⟨u.heap.size, 0, none⟩))) (u.alloc (.cells z t)))
    (hr : ((List.range is.length).all fun j => Region.ready md ops (listAll (is.take j) listed) == [is.getD j 0, ia] && Region.ready md ops (listAll (is.take j) (listed.setIfInBounds ia true)) == [is.getD j 0]) = true)
    (hal : ∀ k b u, Φ a none k b u → C (u.alloc (.cells z t)) ∧ Φ a (some u.heap.size) k (b.put (some da) (.pointer (some ⟨u.heap.size, 0, none⟩))) (u.alloc (.cells z t)))
    (hs : ∀ o j (hj : j < is.length) b u, Φ a o j b u → stepH P ops is[j] (fun a' w' => C w' ∧ Φ a o (j + 1) a' w') b u)
    (h0 : Φ a none 0 a w)
    (he : ∀ b u, Φ a none is.length b u → anyH P md ops C n L (g + 1) (listAll is listed) b u)
    (he1 : ∀ p b u, Φ a (some p) is.length b u → anyH P md ops C n L g (listAll is (listed.setIfInBounds ia true)) b u) : anyH P md ops C n L (is.length + (g + 1)) listed a w := by
  have hr' : ∀ j (hj : j < is.length), Region.ready md ops (listAll (is.take j) listed) = [is[j], ia] ∧ Region.ready md ops (listAll (is.take j) (listed.setIfInBounds ia true)) = [is[j]] := fun j hj => by
    have h := List.all_eq_true.1 hr j (List.mem_range.2 hj)
    simp only [Bool.and_eq_true, beq_iff_eq] at h
    rw [show is.getD j 0 = is[j] by simp [hj]] at h
    exact h
  exact chainH_box (Φ a) ia da oa z t ha exa hal is 0 listed a w hia hn (fun j hj => (hr' j hj).1) (fun j hj => (hr' j hj).2) (fun o j hj b u h => by rw [Nat.zero_add] at h ⊢; exact hs o j hj b u h) (fun b u h => he b u (by rwa [Nat.zero_add] at h)) (fun p b u h => he1 p b u (by rwa [Nat.zero_add] at h)) h0
def headB (l : List Oper) (n : Nat) (ks : List Nat) : Bool :=
  Region.noSelect l.toArray && decide (n < l.length) && decide (ks.length ≤ n) && waitB .any l.toArray n (Array.replicate l.length false) && Region.chainB .any l.toArray n && mixH .any l.toArray n ks (Array.replicate l.length false)
theorem wp_region_head {id : Nat} {Q : Exit → Act → World → Prop} {a : Act} {w : World} {l : List Oper} (n : Nat) (ks : List Nat) (hm : P.follows .mixedOrders = true) (hB : headB l n ks = true)
    (h : wpQuiet P l.toArray (fun w' => ∃ p : Regrown, w' = grow (redrawn w p.d) p.os) (fun a' => anyH P .any l.toArray (fun w' => ∃ p : Regrown, w' = grow (redrawn w p.d) p.os) n (tailC P Q l n) (n - ks.length) (listAll ks (Array.replicate l.length false)) a' w.drew) (ks.filterMap fun k => l[k]?) a) :
    (Code.region id l.toArray true).wp P Q a w := by
  simp only [headB, Bool.and_eq_true, decide_eq_true_eq] at hB
  obtain ⟨⟨⟨⟨⟨hsel, hn⟩, hkn⟩, hs⟩, hc⟩, hmix⟩ := hB
  have hn' : n < l.toArray.size := by simpa using hn
  have hdl : (l.drop n).length = l.length - n := by simp
  have inv0 : HeadInv .any l.toArray n (Array.replicate l.length false) :=
    ⟨by simp, fun j oj _ hl => (by rw [getD_replicate_false] at hl; cases hl), fun t _ ht => getD_in (by simpa using ht) (getD_replicate_false _ _)⟩
  have H := anyH_lex (P := P) (md := .any) (L := tailC P Q l n) hsel hs hc hn' (fun listed a w hL => seqB_ready hL.1) (n - ks.length) w.drew ⟨⟨w.drawn + 1, #[]⟩, by rw [grow_empty]; rfl⟩ ks _ _ a (mixH_ops ks _ hmix) inv0 (fun k hk => hk) hmix h
  have G := any_of_H (Q := Q) (g := l.length - n) (fun listed a' w' hL => by
    have := wpAny_of_seq (P := P) (md := .any) (ops := l.toArray) (Q' := Q) (l.drop n) n listed a' w' (fun j => by simp [List.getElem?_drop]) (by rw [hdl]; exact hL.1) hL.2
    rwa [hdl] at this) _ _ _ _ H
  rw [show ks.length + (n - ks.length) + (l.length - n) = l.toArray.size by simp; omega] at G
  refine wp_region_any hm ?_
  simpa using G
end
end Go.Proofs.YtobchllaopdchacGreat
