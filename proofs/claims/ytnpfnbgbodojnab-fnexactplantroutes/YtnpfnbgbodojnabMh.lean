/-
  A contract of the program's PlantRoutes: the ways between two vessels, in a list of the call's own.
-/
import Derived.Test.YtnpfnbgbodojnabMi
import Derived.Test.YtnpfnbgbodojnabZh
import Derived.Test.YtnpfnbgbodojnabSx
import Derived.Test.YtnpfnbgbodojnabOb
import Derived.Test.YtnpfnbgbodojnabOd
import Derived.Test.YtnpfnbgbodojnabMk
namespace Go.Proofs.Ytnpfnbgbodojnab
open Go.RowKit Go.Sort

theorem ves_placeI {D : PD} (hV : D.V) {x : ByteArray} (h : vesB D.np D.fp x = true) : 0 ≤ placeI D.np D.fp x := by
  have := (vesB_iff (V_places hV)).1 h
  unfold capI at this
  split at this <;> omega

/-- How far it is yet, by the first way's length. -/
def mzR (np : Nat) (v : Value) (w : World) : Nat := match v with
  | .slice (some a) (_ + 1) _ => (match w.cell? a with | some (.slice _ m _) => np + 1 - m | _ => 0)
  | _ => 0
theorem mz_none {np : Nat} {w : World} {B T size : Nat} {v : Value} {xs : List Value} (h : w.ownsRow B T size v 0 xs) : mzR np v w = 0 := by
  rcases h.2 with ⟨rfl, _⟩ | ⟨g, cap, cur, rfl, _⟩ <;> rfl
theorem mz_some {np q B : Nat} {w : World} {v : Value} {Z : List RR} (h : RtsL B w v Z) (h0 : 0 < Z.length) (hq : ∀ z ∈ Z, z.r.1.length = q + 1) : mzR np v w = np - q := by
  obtain ⟨k, hk⟩ : ∃ k, Z.length = k + 1 := ⟨Z.length - 1, by omega⟩
  obtain ⟨cap1, cur1, e1, _⟩ := (h.row _ (nthZ_mem h0)).1
  rcases h.own.2 with ⟨_, hn⟩ | ⟨g, cap, cur, rfl, hb, hg, hc, hm, hs, ht⟩
  · omega
  · have c0 : cur.toList[0]? = (celZ Z)[0]? := by rw [← ht, List.getElem?_take_of_lt (by omega)]
    have c1 : (celZ Z)[0]? = some (nthZ Z 0).u := by have := celZ_at Z 0 0 h0 (by omega); simpa [cR] using this
    have c2 : w.cell? ⟨g, 0, none⟩ = some (nthZ Z 0).u := by
      have : cur[0]? = some (nthZ Z 0).u := by rw [← Array.getElem?_toList, c0, c1]
      exact (cell_row hg 0 _ this).1
    rw [hk]
    show (match w.cell? ⟨g, 0, none⟩ with | some (.slice _ m _) => np + 1 - m | _ => 0) = _
    rw [c2, e1, hq _ (nthZ_mem h0)]
    show np + 1 - (q + 1) = _
    omega

theorem celZ_app (A C : List RR) : celZ (A ++ C) = celZ A ++ celZ C := by simp [celZ]
/-- All of one list behind another. -/
theorem RtsO.append {B S : Nat} {w w' : World} {v v' ve : Value} {Z Ze : List RR} (h : RtsO B w v Z) (he : RtsO S w ve Ze) (hB : B ≤ S) (hlt : ∀ k ∈ blkZ Z, k < S)
    (ho : w'.ownsRow B 34 2 v' (Z.length + Ze.length) (celZ Z ++ celZ Ze)) (hg : w.grownBy w' v.ownBlock) : RtsO B w' v' (Z ++ Ze) := by
  refine ⟨by rw [List.length_append, celZ_app]; exact ho, fun z hz => ?_, ?_⟩
  · rcases List.mem_append.1 hz with h1 | h1
    · exact (h.row z h1).grown h.own typeR hg
    · exact ((he.row z h1).le hB).grown h.own typeR hg
  · rw [blk_app, List.nodup_append]
    refine ⟨h.nod, he.nod, fun a ha b hb e => ?_⟩
    have := hlt a ha
    have := (he.old hb).1
    omega
theorem celZ_take : ∀ (Z : List RR) (k : Nat), celZ (Z.take k) = (celZ Z).take (k * 2)
  | [], k => by simp [celZ]
  | z :: Z, 0 => by simp [celZ]
  | z :: Z, k + 1 => by
    have := celZ_take Z k
    have e : (k + 1) * 2 = k * 2 + 1 + 1 := by omega
    rw [e]
    simp only [celZ, List.take_succ_cons, List.flatMap_cons, List.cons_append, List.nil_append] at this ⊢
    rw [this]
theorem blk_take (Z : List RR) (k : Nat) : (blkZ (Z.take k)).Sublist (blkZ Z) := by
  conv => rhs; rw [← List.take_append_drop k Z, blk_app]
  exact List.sublist_append_left _ _
theorem RtsO.first {B k g n cap : Nat} {w : World} {Z : List RR} (h : RtsO B w (.slice (some ⟨g, 0, none⟩) n cap) Z) (hk : k ≤ Z.length) : RtsO B w (.slice (some ⟨g, 0, none⟩) k cap) (Z.take k) := by
  refine ⟨?_, fun z hz => h.row z (List.mem_of_mem_take hz), h.nod.sublist (blk_take Z k)⟩
  have hl : (Z.take k).length = k := by rw [List.length_take]; omega
  rw [hl]
  rcases h.own.2 with ⟨e, _⟩ | ⟨g', cap', cur, e, hb, hg, hc, hm, hs, ht⟩
  · cases e
  · cases e
    refine ⟨by rw [celZ_len, hl], .inr ⟨g, cap, cur, rfl, hb, hg, by omega, hm, hs, ?_⟩⟩
    rw [celZ_take, ← ht, List.take_take, Nat.min_eq_left (by omega)]

theorem wpList_app {P : Program} {ops : Array Oper} {rest : List Oper} {o : Oper} {a : Act} {w : World} {Q : Exit → Act → World → Prop} {t e : TypeId} {size bytes base k m : Nat} {v sv : Value} {xs news : List Value} (hgd : o.guard = none) (T : ElT P t e size bytes) (s x : Operand)
    (ho : o.op = .call { callee := .builtin .append, args := #[s, x], argTypes := #[t, t] }) (hs : a.eval s = v) (hx : a.eval x = sv) (hown : w.ownsRow base e size v k xs) (hsrc : Src w sv m size news) (h1 : ∀ u ∈ news, u.oneCell' = true) (h63 : k + m ≤ maxLen) (hbytes : (k + m) * bytes ≤ 140737488355328) (hbase : base ≤ w.heap.size)
    (K : ∀ v' w', w'.ownsRow base e size v' (k + m) (xs ++ news) → w.grownBy w' v.ownBlock → (v'.ownBlock = v.ownBlock ∨ v'.ownBlock = some w.heap.size) → wpList P ops Q rest (a.put o.dst v') w') : wpList P ops Q (o :: rest) a w := by
  obtain ⟨v', w', hr, h2, h3, h4⟩ := exec_append_at T s x ho hs hx hown hsrc h1 h63 hbytes hbase
  refine wpList_plain hgd fun K' hK => ?_
  unfold Oper.wp
  rw [hr]
  exact hK _ _ (K v' w' h2 h3 h4)
theorem elR : ElT Try.prog 31 34 2 48 := by
  obtain ⟨i, hi, hz, h1, h2⟩ := info_parts infoR
  exact ⟨underR, ⟨i, _, hi, hz, h1, h2, rfl⟩, by decide⟩

end Go.Proofs.Ytnpfnbgbodojnab

/-
  The contract of the program's PlantRoutes, walked.
-/
namespace Go.Proofs.Ytnpfnbgbodojnab
open Go.RowKit Go.Sort

/-- What the call hands back. -/
def RtOut (w : World) (D : PD) (fr to : ByteArray) (v : Value) (w' : World) : Prop := ∃ b Z, (b = true ↔ D.V ∧ vesB D.np D.fp fr = true ∧ vesB D.np D.fp to = true) ∧ Z.map (·.r) = rtL b D fr to ∧ RtsO w.heap.size w' v Z ∧ Below w.heap.size w w'

set_option maxRecDepth 100000 in
set_option maxHeartbeats 16000000 in
theorem routesI_any (B : Nat) (v0 v1 v2 v3 : Value) (D : PD) (fr to : ByteArray) (w : World) (h : PAt B w v0 v1 v2 v3 D) (hB : B ≤ w.heap.size) (hz : D.Sz) :
    Calls Try.prog 6 #[.agg #[v0, v1, v2, v3], .string fr, .string to] w fun e w' => ∃ v, e = .returned v ∧ RtOut w D fr to v w' := by
  obtain ⟨i0, hi, hz0, hz1, hz2⟩ := info_parts infoR
  have H : Hid (∀ w', Below w.heap.size w w' → PAt B w' v0 v1 v2 v3 D) := fun w' hb => h.kept hb hB
  clear h
  have k0 : Hid (Below (w.heap.size + 1) (w.alloc (.cells #[v0, v1, v2, v3] 28)) (w.alloc (.cells #[v0, v1, v2, v3] 28))) := Below.refl _ _
  go_enter Try.func6, Try.ntmps6
  go_wp2_with fail
  refine (validI_any B v0 v1 v2 v3 D _ (H.out _ (below_end k0.out)) (by simp; omega) hz).mono ?_; rintro e w1 ⟨b1, rfl, i1, hb1⟩
  have IS1 : Hid _ := i1
  have k1 : Hid (Below (w.heap.size + 1) (w.alloc (.cells #[v0, v1, v2, v3] 28)) w1) := below_of k0.out hb1
  clear i1 hb1
  cases b1
  · go_wp2_with fail
    go_ret
    exact ⟨_, rfl, false, [], ⟨(fun h => by cases h), fun h => by have := IS1.out.2 h.1; cases this⟩, rfl, RtsO.nil _ _, below_end k1.out⟩
  have hV : Hid D.V := by have := IS1.out; simpa [Hid] using this
  have s1 : w.heap.size + 1 ≤ w1.heap.size := by have := k1.out.size; simpa using this
  have a0 := box_in k1.out 0 _ rfl
  have a1 := box_in k1.out 1 _ rfl
  have a2 := box_in k1.out 2 _ rfl
  have a3 := box_in k1.out 3 _ rfl
  simp only [List.getElem_toArray, List.getElem_cons_zero, List.getElem_cons_succ] at a0 a1 a2 a3
  go_wp2_with fail
  refine (isVessel_any B v0 v1 v2 v3 D.np D.fp fr _ (H.out _ (below_end k1.out)).p (by omega)).mono ?_; rintro e w2 ⟨rfl, hb2⟩
  have k2 : Hid (Below (w.heap.size + 1) (w.alloc (.cells #[v0, v1, v2, v3] 28)) w2) := below_of k1.out hb2
  clear hb2 a0 a1 a2 a3
  cases hvf : vesB D.np D.fp fr
  · go_wp2_with fail
    go_ret
    exact ⟨_, rfl, false, [], ⟨(fun h => by cases h), fun h => by have h1 := h.2.1; first | (rw [hvf] at h1; cases h1) | cases h1⟩, rfl, RtsO.nil _ _, below_end k2.out⟩
  have s2 : w.heap.size + 1 ≤ w2.heap.size := by have := k2.out.size; simpa using this
  have a0 := box_in k2.out 0 _ rfl
  have a1 := box_in k2.out 1 _ rfl
  have a2 := box_in k2.out 2 _ rfl
  have a3 := box_in k2.out 3 _ rfl
  simp only [List.getElem_toArray, List.getElem_cons_zero, List.getElem_cons_succ] at a0 a1 a2 a3
  go_wp2_with fail
  refine (isVessel_any B v0 v1 v2 v3 D.np D.fp to _ (H.out _ (below_end k2.out)).p (by omega)).mono ?_; rintro e w3 ⟨rfl, hb3⟩
  have k3 : Hid (Below (w.heap.size + 1) (w.alloc (.cells #[v0, v1, v2, v3] 28)) w3) := below_of k2.out hb3
  clear hb3 a0 a1 a2 a3
  cases hvt : vesB D.np D.fp to
  · go_wp2_with fail
    go_ret
    exact ⟨_, rfl, false, [], ⟨(fun h => by cases h), fun h => by have h1 := h.2.2; first | (rw [hvt] at h1; cases h1) | cases h1⟩, rfl, RtsO.nil _ _, below_end k3.out⟩
  have s3 : w.heap.size + 1 ≤ w3.heap.size := by have := k3.out.size; simpa using this
  have VV : Hid (D.V ∧ vesB D.np D.fp fr = true ∧ vesB D.np D.fp to = true) := ⟨hV.out, hvf, hvt⟩
  have HF : Hid (0 ≤ placeI D.np D.fp fr) := ves_placeI hV.out hvf
  have WAYS : Hid (∀ q, ∀ r ∈ wayR D fr to q, Way D fr r q) := wayR_ways hV.out HF.out
  have WEI : Hid (∀ q, wei D (wayR D fr to q) ≤ 262144) := wei_ways hV.out HF.out
  have hnp : D.np ≤ 14 := hV.out.2.1.1
  have hnv : D.nv ≤ 18 := hV.out.2.2.1
  clear hvf hvt IS1 k0 k1 k2 s1 s2
  obtain ⟨U, hU⟩ : ∃ U, U = (w3.alloc (.cells #[.string fr] 9)).alloc (.cells #[.slice (some ⟨w3.heap.size, 0, none⟩) 1 1, .slice none 0 0] 34) := ⟨_, rfl⟩
  have eU : Hid (U = (w3.alloc (.cells #[.string fr] 9)).alloc (.cells #[.slice (some ⟨w3.heap.size, 0, none⟩) 1 1, .slice none 0 0] 34)) := hU
  have bU : Below w3.heap.size w3 U := by rw [hU]; exact ((Below.refl _ _).alloc (Nat.le_refl _) _).alloc (by simp) _
  have kU : Hid (Below (w.heap.size + 1) (w.alloc (.cells #[v0, v1, v2, v3] 28)) U) := below_of k3.out bU
  have LU : Hid (RtsL (w.heap.size + 1) U (.slice (some ⟨w3.heap.size + 1, 0, none⟩) 1 1) [⟨([fr], []), .slice (some ⟨w3.heap.size, 0, none⟩) 1 1, .slice none 0 0, w3.heap.size, 0⟩]) := by
    refine ⟨?_, fun z hz => ?_⟩
    · have := own_built (base := w.heap.size + 1) (e := 34) (size := 2) (k := 1) (w := w3.alloc (.cells #[.string fr] 9)) (c := #[.slice (some ⟨w3.heap.size, 0, none⟩) 1 1, .slice none 0 0]) (by simp; omega) (by unfold maxLen; omega) rfl
      rw [← hU] at this
      simpa [celZ] using this
    · simp at hz; subst hz
      refine ⟨⟨1, #[.string fr], rfl, by show w.heap.size + 1 ≤ w3.heap.size; omega, ?_, by simp, fun j hj => ?_⟩, .inr ⟨rfl, rfl⟩⟩
      · rw [hU]; exact (Below.heap_alloc _ _ _ (by simp)).trans (heap_alloc_new w3 _)
      · have : j = 0 := by simpa using hj
        subst this; rfl
  go_upto_region 5 with fail
  rw [← eU.out]
  clear hU bU
  go_wp2_with fail
  go_loopw [7, 8] (fun vr vl wr => ∃ (q : Nat) (Zr Zl : List RR), q ≤ D.np ∧ Hid (Zr.map (·.r) = endR D fr to q) ∧ Hid (Zl.map (·.r) = wayR D fr to q) ∧ Zr.length ≤ 262174 ∧ Hid (RtsO (w.heap.size + 1) wr vr Zr ∧ RtsL (w.heap.size + 1) wr vl Zl ∧ apV vr vl) ∧ Hid (Below (w.heap.size + 1) (w.alloc (.cells #[v0, v1, v2, v3] 28)) wr)) (fun _ vl wr => mzR D.np vl wr)
  case atStart => exact ⟨0, [], [⟨([fr], []), .slice (some ⟨w3.heap.size, 0, none⟩) 1 1, .slice none 0 0, w3.heap.size, 0⟩], Nat.zero_le _, rfl, rfl, Nat.zero_le _, ⟨RtsO.nil _ _, LU.out, fun k e => by cases e⟩, kU⟩
  case round =>
    obtain ⟨q, Zr, Zl, hq, hZr, hZl, hrl, hS, hbel⟩ := hrel
    have hsr : w.heap.size + 1 ≤ wr.heap.size := by have := hbel.out.size; simpa using this
    have hll : Zl.length ≤ 262144 := by have := congrArg List.length hZl.out; have := wei_len D (wayR D fr to q); have := WEI.out q; simp at *; omega
    have WY : Hid (∀ z ∈ Zl, Way D fr z.r q) := fun z hz => WAYS.out q _ (map_memG hZl.out hz)
    obtain ⟨ol, cl, rfl⟩ := row_slice' hS.out.2.1.own
    obtain ⟨orr, cr, rfl⟩ := row_slice' hS.out.1.own
    by_cases hlen : 0 < Zl.length
    · by_cases h30 : Zr.length < 30
      · have hqn : q + 1 ≤ D.np := (WY.out _ (nthZ_mem hlen)).short
        have MZ : Hid (mzR D.np (.slice ol Zl.length cl) wr = D.np - q) := mz_some hS.out.2.1 hlen (fun z hz => (WY.out z hz).len)
        have a0 := box_in hbel.out 0 _ rfl
        have a1 := box_in hbel.out 1 _ rfl
        have a2 := box_in hbel.out 2 _ rfl
        have a3 := box_in hbel.out 3 _ rfl
        simp only [List.getElem_toArray, List.getElem_cons_zero, List.getElem_cons_succ] at a0 a1 a2 a3
        have RD : Hid (RtsR wr.heap.size wr (.slice ol Zl.length cl) Zl) := hS.out.2.1.read (by omega) (fun z hz => by have := (WY.out z hz).len; have := (WY.out z hz).vlen; omega)
        have HPW : Hid (PAt wr.heap.size wr v0 v1 v2 v3 D) := by
          have hP := H.out wr (below_end hbel.out)
          exact ⟨hP.s.up (by omega), hP.f.up (by omega), hP.p.up (by omega), hP.v.up (by omega)⟩
        go_wp2_with fail
        refine (goOn_any wr.heap.size q v0 v1 v2 v3 _ D fr to Zl (wayR D fr to q) _ HPW.out RD.out hZl.out (Nat.le_refl _) hV.out (WAYS.out q) (WEI.out q)).mono ?_; rintro e w5 ⟨ve, vo, Ze, Zo, rfl, hZe, hZo, hE, hO, hb5⟩
        have HZE : Hid (Ze.map (·.r) = enW D to (wayR D fr to q)) := hZe
        have HZO : Hid (Zo.map (·.r) = wayR D fr to (q + 1)) := hZo
        have HE : Hid (RtsO wr.heap.size w5 ve Ze) := hE
        have HO : Hid (RtsL wr.heap.size w5 vo Zo) := hO
        have k5 : Hid (Below (w.heap.size + 1) (w.alloc (.cells #[v0, v1, v2, v3] 28)) w5) := below_of hbel.out hb5
        have R5 : Hid (RtsO (w.heap.size + 1) w5 (.slice orr Zr.length cr) Zr) := hS.out.1.below hb5
        have B5 : Hid (∀ k ∈ blkZ Zr, k < wr.heap.size) := fun k hk => (hS.out.1.old hk).2
        have AO : Hid (apV (.slice orr Zr.length cr) vo) := (apV.fresh hO.own (Nat.le_refl _) hS.out.1.own).symm
        have hel : Ze.length ≤ 262144 := by
          have e1 := congrArg List.length hZe
          have e2 := wei_flat (D := D) (toB to) (wayR D fr to q) (fun r hr => (WAYS.out q r hr).good)
          have e3 := wei_len D (enW D to (wayR D fr to q))
          have e4 := WEI.out q
          simp only [List.length_map] at e1
          unfold enW at e1 e3
          omega
        have hs5 : w.heap.size + 1 ≤ w5.heap.size := by have := hb5.size; omega
        have OC : Hid (∀ x ∈ celZ Ze, x.oneCell' = true) := celZ_one (fun z hz => (hE.row z hz).one)
        clear a0 a1 a2 a3 hZe hZo hE hO hb5 hbel hS RD HPW
        go_wp2_with (at_builtin; refine wpList_app rfl elR _ _ rfl rfl rfl R5.out.own (own_src HE.out.own) OC.out (by unfold maxLen; omega) (by omega) hs5 ?_; intro v' w8 hown' hgrow8 hloc8)
        go_roundw
        case rel =>
          have RR : ∃ (q' : Nat) (Zr' Zl' : List RR), q' ≤ D.np ∧ Hid (Zr'.map (·.r) = endR D fr to q') ∧ Hid (Zl'.map (·.r) = wayR D fr to q') ∧ Zr'.length ≤ 262174 ∧ Hid (RtsO (w.heap.size + 1) w8 v' Zr' ∧ RtsL (w.heap.size + 1) w8 vo Zl' ∧ apV v' vo) ∧ Hid (Below (w.heap.size + 1) (w.alloc (.cells #[v0, v1, v2, v3] 28)) w8) :=
            ⟨q + 1, Zr ++ Ze, Zo, by omega, by show _ = _; rw [List.map_append, hZr.out, HZE.out]; rfl, HZO, by rw [List.length_append]; omega,
              ⟨R5.out.append HE.out hsr B5.out hown' hgrow8, (HO.out.beside R5.out.own hgrow8 AO.out).le hsr, AO.out.moved hloc8 HO.out.own⟩, k5.out.grown hgrow8 hs5 (fun p hp => (R5.out.own.lt p hp).1)⟩
          first
            | exact RR
            | ((repeat apply Exists.intro); exact ⟨RR, rfl⟩)
        case measure =>
          have HO8 : RtsL wr.heap.size w8 vo Zo := HO.out.beside R5.out.own hgrow8 AO.out
          rw [MZ.out]
          rcases Nat.eq_zero_or_pos Zo.length with h0 | h0
          · have ho := HO8.own
            rw [h0] at ho
            rw [mz_none ho]; omega
          · rw [mz_some HO8 h0 (fun z hz => (WAYS.out (q + 1) _ (map_memG HZO.out hz)).len)]
            omega
      · have hd1 : decide ((0 : Int) < (Zl.length : Int)) = true := by simp; omega
        have hd2 : decide ((Zr.length : Int) < 30) = false := by simp; omega
        have TK : Hid ((endR D fr to q).take 30 = rtL true D fr to) := end_take hq (.inr (.inl (by have := congrArg List.length hZr.out; simp at this; omega)))
        rcases hS.out.1.own.2 with ⟨e, hn⟩ | ⟨g, cap, cur, e, _, _, hc, _⟩
        · simp only [Value.slice.injEq] at e
          obtain ⟨rfl, _, rfl⟩ := e
          have hZ : Zr = [] := List.eq_nil_of_length_eq_zero hn
          subst hZ
          go_wp2_with fail
          all_goals
            go_ret
            exact ⟨_, rfl, true, [], ⟨fun _ => VV.out, fun _ => rfl⟩, by rw [← TK.out, ← hZr.out]; rfl, RtsO.nil _ _, below_end hbel.out⟩
        · simp only [Value.slice.injEq, true_and] at e
          obtain ⟨rfl, rfl⟩ := e
          by_cases h31 : Zr.length ≤ 30
          · have hm : min (Zr.length : Int) 30 = Zr.length := by omega
            go_wp2_with fail
            go_ret
            exact ⟨_, rfl, true, Zr, ⟨fun _ => VV.out, fun _ => rfl⟩, by rw [← TK.out, ← hZr.out, List.take_of_length_le (by simp; omega)], hS.out.1.le (by omega), below_end hbel.out⟩
          · have hm : min (Zr.length : Int) 30 = 30 := by omega
            go_wp2_with fail
            go_ret
            exact ⟨_, rfl, true, Zr.take 30, ⟨fun _ => VV.out, fun _ => rfl⟩, by rw [← TK.out, ← hZr.out, List.map_take], (hS.out.1.first (by omega)).le (by omega), below_end hbel.out⟩
    · have hz0' : Zl.length = 0 := by omega
      have hd1 : decide ((0 : Int) < (Zl.length : Int)) = false := by rw [hz0']; rfl
      have WN : wayR D fr to q = [] := by have := congrArg List.length hZl.out; simp at this; exact List.eq_nil_of_length_eq_zero (by omega)
      have TK : Hid ((endR D fr to q).take 30 = rtL true D fr to) := end_take hq (.inl WN)
      clear WN
      rcases hS.out.1.own.2 with ⟨e, hn⟩ | ⟨g, cap, cur, e, _, _, hc, _⟩
      · simp only [Value.slice.injEq] at e
        obtain ⟨rfl, _, rfl⟩ := e
        have hZ : Zr = [] := List.eq_nil_of_length_eq_zero hn
        subst hZ
        go_wp2_with fail
        go_ret
        exact ⟨_, rfl, true, [], ⟨fun _ => VV.out, fun _ => rfl⟩, by rw [← TK.out, ← hZr.out]; rfl, RtsO.nil _ _, below_end hbel.out⟩
      · simp only [Value.slice.injEq, true_and] at e
        obtain ⟨rfl, rfl⟩ := e
        by_cases h31 : Zr.length ≤ 30
        · have hm : min (Zr.length : Int) 30 = Zr.length := by omega
          go_wp2_with fail
          go_ret
          exact ⟨_, rfl, true, Zr, ⟨fun _ => VV.out, fun _ => rfl⟩, by rw [← TK.out, ← hZr.out, List.take_of_length_le (by simp; omega)], hS.out.1.le (by omega), below_end hbel.out⟩
        · have hm : min (Zr.length : Int) 30 = 30 := by omega
          go_wp2_with fail
          go_ret
          exact ⟨_, rfl, true, Zr.take 30, ⟨fun _ => VV.out, fun _ => rfl⟩, by rw [← TK.out, ← hZr.out, List.map_take], (hS.out.1.first (by omega)).le (by omega), below_end hbel.out⟩

end Go.Proofs.Ytnpfnbgbodojnab

/-
  Lists in a list, and how many names stand ahead of one.
-/
namespace Go.Proofs.Ytnpfnbgbodojnab
open Go.RowKit

def nthL (G : List (List ByteArray)) (i : Nat) : List ByteArray := G.getD i []

def nthG (gs : List Nat) (i : Nat) : Nat := gs.getD i 0

/-- The names of the lists ahead of list i, all in all. -/
def pre (G : List (List ByteArray)) : Nat → Nat
  | 0 => 0
  | i + 1 => pre G i + (nthL G i).length

theorem pre_le (G : List (List ByteArray)) {i j : Nat} (h : i ≤ j) : pre G i ≤ pre G j := by
  induction j with
  | zero => have : i = 0 := by omega
            subst this; exact Nat.le_refl _
  | succ j ih =>
    by_cases e : i = j + 1
    · subst e; exact Nat.le_refl _
    · have := ih (by omega)
      simp only [pre]; omega

theorem nod_ne {gs : List Nat} (h : gs.Nodup) {i j : Nat} (hi : i < gs.length) (hj : j < gs.length) (hne : i ≠ j) : nthG gs i ≠ nthG gs j := fun e => by
  have e1 : gs[i] = gs[j] := by simpa [nthG, hi, hj] using e
  exact hne ((List.getElem_inj h).1 e1)

end Go.Proofs.Ytnpfnbgbodojnab

/-
  Lists of ways, marked name by name, and whether they still hold the marks.
-/
namespace Go.Proofs.Ytnpfnbgbodojnab
open Go.RowKit

/-- All lists of all ways, one behind another. -/
def flatG (Z : List RR) : List (List ByteArray) := Z.flatMap fun z => [z.r.1, z.r.2]
theorem flat_len : ∀ Z, (flatG Z).length = Z.length * 2
  | [] => rfl
  | z :: Z => by have := flat_len Z; simp only [flatG, List.flatMap_cons, List.length_append, List.length_cons, List.length_nil] at this ⊢; omega
theorem blkZ_len : ∀ Z, (blkZ Z).length = Z.length * 2
  | [] => rfl
  | z :: Z => by have := blkZ_len Z; simp only [blkZ, List.flatMap_cons, List.length_append, List.length_cons, List.length_nil] at this ⊢; omega
theorem flat_at : ∀ (Z : List RR) (i : Nat), i < Z.length → nthL (flatG Z) (i * 2) = (nthZ Z i).r.1 ∧ nthL (flatG Z) (i * 2 + 1) = (nthZ Z i).r.2 ∧ nthG (blkZ Z) (i * 2) = (nthZ Z i).g ∧ nthG (blkZ Z) (i * 2 + 1) = (nthZ Z i).h
  | [], i, h => by simp at h
  | z :: Z, 0, _ => ⟨rfl, rfl, rfl, rfl⟩
  | z :: Z, i + 1, h => by
    have := flat_at Z i (by simpa using h)
    have e : (i + 1) * 2 = i * 2 + 1 + 1 := by omega
    rw [e]; exact this

/-- Where the marking stands behind t lists. -/
structure MarkR (B : Nat) (w wr : World) (v : Value) (Z : List RR) (t : Nat) : Prop where
  bel : Below B w wr
  own : wr.ownsRow B 34 2 v Z.length (celZ Z)
  blk : ∀ i, i < Z.length * 2 → RowM wr (nthL (flatG Z) i).length (nthG (blkZ Z) i)
  don : ∀ i, i < t → RowK wr (nthL (flatG Z) i).length (nthG (blkZ Z) i) (1 + (pre (flatG Z) i : Int))
theorem MarkR.step {B : Nat} {w wr w' : World} {v : Value} {Z : List RR} {t : Nat} (h : MarkR B w wr v Z t) (ht : t < Z.length * 2) (hnod : (blkZ Z).Nodup) (hB : B ≤ nthG (blkZ Z) t)
    (ho : Outs (nthG (blkZ Z) t) (nthG (blkZ Z) t + 1) wr w') (hc : RowK w' (nthL (flatG Z) t).length (nthG (blkZ Z) t) (1 + (pre (flatG Z) t : Int))) : MarkR B w w' v Z (t + 1) := by
  have hgl := blkZ_len Z
  have oth : ∀ i, i < Z.length * 2 → i ≠ t → w'.heap[nthG (blkZ Z) i]? = wr.heap[nthG (blkZ Z) i]? := fun i hi hne => ho.other (h.blk i hi).lt (nod_ne hnod (by omega) (by omega) hne)
  refine ⟨h.bel.trans (ho.bel.mono hB), own_other h.own fun k hk => ho.other ?_ ?_, fun i hi => ?_, fun i hi => ?_⟩
  · exact (h.own.lt k hk).2
  · rintro rfl
    obtain ⟨cur, hg, _⟩ := h.blk t ht
    rcases h.own.2 with ⟨rfl, _⟩ | ⟨g, cap', cur', rfl, _, hgg, _⟩
    · cases hk
    · simp only [Value.ownBlock, Option.some.injEq] at hk
      rw [← hk, hgg] at hg
      simp at hg
  · by_cases e : i = t
    · subst e; obtain ⟨c, h1, h2, _⟩ := hc; exact ⟨c, h1, h2⟩
    · exact (h.blk i hi).same (oth i hi e)
  · by_cases e : i = t
    · subst e; exact hc
    · exact (h.don i (by omega)).same (oth i (by omega) e)

/-- Lists that hold their marks, to read. -/
structure HeldZ (B : Nat) (w : World) (v : Value) (Z : List RR) : Prop where
  out : Lst B w v Z.length 2 (cR Z)
  row : ∀ i, i < Z.length → Lst B w (nthZ Z i).u (nthZ Z i).r.1.length 1 (cS (mkF (1 + (pre (flatG Z) (i * 2) : Int)))) ∧ Lst B w (nthZ Z i).v (nthZ Z i).r.2.length 1 (cS (mkF (1 + (pre (flatG Z) (i * 2 + 1) : Int))))
theorem HeldZ.kept {B B' : Nat} {w w' : World} {v : Value} {Z : List RR} (h : HeldZ B w v Z) (hb : Below B' w w') (hB : B ≤ B') : HeldZ B w' v Z := ⟨h.out.kept hb hB, fun i hi => ⟨(h.row i hi).1.kept hb hB, (h.row i hi).2.kept hb hB⟩⟩

set_option maxRecDepth 100000 in
set_option maxHeartbeats 4000000 in
theorem markRts_any (B : Nat) (v : Value) (Z : List RR) (w : World) (h : RtsO B w v Z) (hn : Z.length ≤ 1048576) (hT : pre (flatG Z) (Z.length * 2) ≤ 1000000) :
    Calls Try.prog 18 #[v, .int .i64 1] w fun e w' => e = .returned (.int .i64 (1 + (pre (flatG Z) (Z.length * 2) : Int))) ∧ Below B w w' ∧ HeldZ w'.heap.size w' v Z := by
  have HN : Hid (blkZ Z).Nodup := h.nod
  have HU : Hid (∀ i, i < Z.length → (∃ cap, (nthZ Z i).u = .slice (some ⟨nthG (blkZ Z) (i * 2), 0, none⟩) (nthL (flatG Z) (i * 2)).length cap ∧ B ≤ nthG (blkZ Z) (i * 2)) ∧ ∃ cap, (nthZ Z i).v = .slice (some ⟨nthG (blkZ Z) (i * 2 + 1), 0, none⟩) (nthL (flatG Z) (i * 2 + 1)).length cap ∧ B ≤ nthG (blkZ Z) (i * 2 + 1)) := fun i hi => by
    obtain ⟨f1, f2, f3, f4⟩ := flat_at Z i hi
    rw [f1, f2, f3, f4]
    have hr := h.row _ (nthZ_mem hi)
    obtain ⟨c1, _, e1, b1, _⟩ := hr.p
    obtain ⟨c2, _, e2, b2, _⟩ := hr.q
    exact ⟨⟨c1, e1, b1⟩, ⟨c2, e2, b2⟩⟩
  have M0 : Hid (MarkR B w w v Z 0) := by
    refine ⟨Below.refl _ _, h.own, fun i hi => ?_, fun i hi => by omega⟩
    obtain ⟨k, hk⟩ : ∃ k, i = k * 2 ∨ i = k * 2 + 1 := ⟨i / 2, by omega⟩
    have hkl : k < Z.length := by omega
    obtain ⟨f1, f2, f3, f4⟩ := flat_at Z k hkl
    have hr := h.row _ (nthZ_mem hkl)
    rcases hk with rfl | rfl
    · rw [f1, f3]; obtain ⟨_, cur, _, _, hg, hs, _⟩ := hr.p; exact ⟨cur, hg, hs⟩
    · rw [f2, f4]; obtain ⟨_, cur, _, _, hg, hs, _⟩ := hr.q; exact ⟨cur, hg, hs⟩
  obtain ⟨oa, ca, rfl, _, _⟩ := own_lstZ h.own hn
  clear h
  generalize hNN : Z.length = N at *
  go_enter Try.func18, Try.ntmps18
  go_wp2_with fail
  go_loopw [1, 5] (fun k i wr => ∃ q : Nat, q ≤ N ∧ k = .int .i64 (1 + (pre (flatG Z) (q * 2) : Int)) ∧ i = .int .i64 q ∧ Hid (MarkR B w wr (.slice oa N ca) Z (q * 2))) (fun _ i _ => N - (intOf i).toNat)
  case atStart => exact ⟨0, Nat.zero_le _, by simp [pre], rfl, M0⟩
  case round =>
    obtain ⟨q, hq, rfl, rfl, hI⟩ := hrel
    by_cases hlq : q < N
    · have L := own_lstZ hI.out.own (by omega)
      obtain ⟨oa', ca', hv, _, hc⟩ := L
      rw [hNN] at hv hc
      cases hv
      obtain ⟨b, off, rfl, hbB, hc0⟩ := hc q hlq
      have zq : wr.cell? ⟨b, off + q * 2, none⟩ = some (nthZ Z q).u := by simpa [cR] using hc0 0 (by omega)
      obtain ⟨⟨cap1, hu, hbg1⟩, ⟨cap2, hv2, hbg2⟩⟩ := HU.out q hlq
      have HBG : Hid (B ≤ nthG (blkZ Z) (q * 2) ∧ B ≤ nthG (blkZ Z) (q * 2 + 1)) := ⟨hbg1, hbg2⟩
      have HV2 : Hid ((nthZ Z q).v = .slice (some ⟨nthG (blkZ Z) (q * 2 + 1), 0, none⟩) (nthL (flatG Z) (q * 2 + 1)).length cap2) := hv2
      have HBK : Hid (RowM wr (nthL (flatG Z) (q * 2)).length (nthG (blkZ Z) (q * 2))) := hI.out.blk _ (by omega)
      have hpl := pre_le (flatG Z) (show q * 2 + 1 + 1 ≤ N * 2 by omega)
      simp only [pre] at hpl
      rw [hu] at zq
      clear hc hc0 hbg1 hbg2 hv2
      go_wp2_with fail
      obtain ⟨cur, hg, hs⟩ := HBK.out
      refine (mkS_any (nthG (blkZ Z) (q * 2)) (nthG (blkZ Z) (q * 2) + 1) (nthG (blkZ Z) (q * 2)) (nthL (flatG Z) (q * 2)).length cap1 cur.size _ cur wr hg rfl (Nat.le_refl _) (Nat.lt_succ_self _) hs (by omega) (by omega)).mono ?_; rintro e w3 ⟨rfl, ho, cur', hg', hs', hm'⟩
      have hI3 : Hid (MarkR B w w3 (.slice (some ⟨b, off, none⟩) N ca) Z (q * 2 + 1)) := hI.out.step (by omega) HN.out HBG.out.1 ho ⟨cur', hg', by omega, hm'⟩
      clear ho hg' hs' hm' hg hs zq
      have L := own_lstZ hI3.out.own (by omega)
      obtain ⟨oa', ca', hv, _, hc⟩ := L
      rw [hNN] at hv hc
      cases hv
      obtain ⟨_, _, e2, hbB2, hc0⟩ := hc q hlq
      cases e2
      have zq : w3.cell? ⟨b, off + q * 2 + 1, none⟩ = some (.slice (some ⟨nthG (blkZ Z) (q * 2 + 1), 0, none⟩) (nthL (flatG Z) (q * 2 + 1)).length cap2) := by rw [← HV2.out]; simpa [cR] using hc0 1 (by omega)
      have HBK2 : Hid (RowM w3 (nthL (flatG Z) (q * 2 + 1)).length (nthG (blkZ Z) (q * 2 + 1))) := hI3.out.blk _ (by omega)
      clear hc hc0
      go_wp2_with fail
      obtain ⟨cur, hg, hs⟩ := HBK2.out
      refine (mkS_any (nthG (blkZ Z) (q * 2 + 1)) (nthG (blkZ Z) (q * 2 + 1) + 1) (nthG (blkZ Z) (q * 2 + 1)) (nthL (flatG Z) (q * 2 + 1)).length cap2 cur.size _ cur w3 hg rfl (Nat.le_refl _) (Nat.lt_succ_self _) hs (by omega) (by omega)).mono ?_; rintro e w4 ⟨rfl, ho, cur', hg', hs', hm'⟩
      have hI4 : Hid (MarkR B w w4 (.slice (some ⟨b, off, none⟩) N ca) Z (q * 2 + 1 + 1)) := by
        refine hI3.out.step (by omega) HN.out HBG.out.2 ho ⟨cur', hg', by omega, ?_⟩
        simp only [pre]
        intro j hj
        have := hm' j hj
        rw [this]; congr 3; push_cast; omega
      clear ho hg' hs' hm' hg hs zq
      go_wp2_with fail
      go_roundw
      case rel => exact ⟨q + 1, by omega, by simp only [Nat.succ_mul, pre, Value.int.injEq, true_and]; push_cast; omega, by go_num, by show MarkR _ _ _ _ _ _; rw [Nat.succ_mul]; exact hI4.out⟩
      case measure => simp [intOf]; omega
    · have e : q = N := by omega
      subst e
      have hd : decide ((q : Int) < (q : Int)) = false := by simp
      go_wp2_with fail
      go_ret
      refine ⟨rfl, hI.out.bel, ?_, fun i hi => ?_⟩
      · have := own_lstZ hI.out.own (by omega)
        rw [hNN] at this ⊢; exact this
      · obtain ⟨⟨cap1, hu, _⟩, ⟨cap2, hv, _⟩⟩ := HU.out i (by omega)
        obtain ⟨f1, f2, _, _⟩ := flat_at Z i (by omega)
        have p1 := pre_le (flatG Z) (show i * 2 + 1 ≤ q * 2 by omega)
        have p2 := pre_le (flatG Z) (show i * 2 + 1 + 1 ≤ q * 2 by omega)
        simp only [pre] at p1 p2
        rw [hu, hv, ← f1, ← f2]
        exact ⟨(hI.out.don (i * 2) (by omega)).lst (by omega), (hI.out.don (i * 2 + 1) (by omega)).lst (by omega)⟩

set_option maxRecDepth 100000 in
set_option maxHeartbeats 4000000 in
theorem heldRts_any (B : Nat) (v : Value) (Z : List RR) (w : World) (h : HeldZ B w v Z) (hB : B ≤ w.heap.size) (hT : pre (flatG Z) (Z.length * 2) ≤ 1000000) :
    Calls Try.prog 19 #[v, .int .i64 1] w fun e w' => e = .returned (.int .i64 (1 + (pre (flatG Z) (Z.length * 2) : Int))) ∧ Below w.heap.size w w' := by
  have H : Hid (∀ w', Below w.heap.size w w' → HeldZ B w' v Z) := fun w' hb => h.kept hb hB
  obtain ⟨oa, ca, rfl, hn, _⟩ := h.out
  unfold maxLen at hn
  clear h
  generalize hNN : Z.length = N at *
  go_enter Try.func19, Try.ntmps19
  go_wp2_with fail
  go_loopw [1, 5] (fun k i wr => ∃ q : Nat, q ≤ N ∧ k = .int .i64 (1 + (pre (flatG Z) (q * 2) : Int)) ∧ i = .int .i64 q ∧ Hid (Below w.heap.size w wr)) (fun _ i _ => N - (intOf i).toNat)
  case atStart => exact ⟨0, Nat.zero_le _, by simp [pre], rfl, Below.refl _ _⟩
  case round =>
    obtain ⟨q, hq, rfl, rfl, hbel⟩ := hrel
    have hs := hbel.out.size
    by_cases hlq : q < N
    · have HL : Hid (∀ w', Below wr.heap.size wr w' → Lst B w' (nthZ Z q).u (nthZ Z q).r.1.length 1 (cS (mkF (1 + (pre (flatG Z) (q * 2) : Int)))) ∧ Lst B w' (nthZ Z q).v (nthZ Z q).r.2.length 1 (cS (mkF (1 + (pre (flatG Z) (q * 2 + 1) : Int)))) ∧ w'.cell? ⟨0, 0, none⟩ = w'.cell? ⟨0, 0, none⟩) := fun w' hb => ⟨((H.out w' (hbel.out.trans (hb.mono hs))).row q (by omega)).1, ((H.out w' (hbel.out.trans (hb.mono hs))).row q (by omega)).2, rfl⟩
      have L := (H.out wr hbel.out).out
      obtain ⟨oa', ca', hv, _, hc⟩ := L
      rw [hNN] at hv hc
      cases hv
      obtain ⟨b, off, rfl, hbB, hc0⟩ := hc q hlq
      have zq : wr.cell? ⟨b, off + q * 2, none⟩ = some (nthZ Z q).u := by simpa [cR] using hc0 0 (by omega)
      have zv : wr.cell? ⟨b, off + q * 2 + 1, none⟩ = some (nthZ Z q).v := by simpa [cR] using hc0 1 (by omega)
      obtain ⟨f1, f2, _, _⟩ := flat_at Z q (by omega)
      have FF : Hid (nthL (flatG Z) (q * 2) = (nthZ Z q).r.1 ∧ nthL (flatG Z) (q * 2 + 1) = (nthZ Z q).r.2) := ⟨f1, f2⟩
      have hpl := pre_le (flatG Z) (show q * 2 + 1 + 1 ≤ N * 2 by omega)
      simp only [pre, f1, f2] at hpl
      clear hc hc0 f1 f2
      go_wp2_with fail
      refine (heldS_lst B _ (nthZ Z q).r.1.length _ _ (HL.out wr (Below.refl _ _)).1 (by omega) (by omega) (by omega)).mono ?_; rintro e w3 ⟨rfl, hb3⟩
      have k3 : Hid (Below w.heap.size w w3) := hbel.out.trans (hb3.mono hs)
      have hd : decide (1 + (pre (flatG Z) (q * 2) : Int) + ((nthZ Z q).r.1.length : Int) < 0) = false := by simp; omega
      have z3 := (hb3.cell (p := ⟨b, off + q * 2 + 1, none⟩) (by show b < _; omega)).trans zv
      have L2 : Hid (Lst B w3 (nthZ Z q).v (nthZ Z q).r.2.length 1 (cS (mkF (1 + (pre (flatG Z) (q * 2) : Int) + ((nthZ Z q).r.1.length : Int))))) := by
        have := (HL.out w3 hb3).2.1
        simp only [pre, FF.out.1] at this
        have e : 1 + (pre (flatG Z) (q * 2) : Int) + ((nthZ Z q).r.1.length : Int) = 1 + ((pre (flatG Z) (q * 2) + (nthZ Z q).r.1.length : Nat) : Int) := by push_cast; omega
        show Lst _ _ _ _ _ _
        rw [e]; exact this
      have hs3 := hb3.size
      clear hb3 zq zv
      go_wp2_with fail
      refine (heldS_lst B _ (nthZ Z q).r.2.length _ _ L2.out (by omega) (by omega) (by omega)).mono ?_; rintro e w4 ⟨rfl, hb4⟩
      have k4 : Hid (Below w.heap.size w w4) := k3.out.trans (hb4.mono (by omega))
      have hd2 : decide (1 + (pre (flatG Z) (q * 2) : Int) + ((nthZ Z q).r.1.length : Int) + ((nthZ Z q).r.2.length : Int) < 0) = false := by simp; omega
      clear hb4 z3
      go_wp2_with fail
      go_roundw
      case rel => exact ⟨q + 1, by omega, by simp only [Nat.succ_mul, pre, FF.out.1, FF.out.2, Value.int.injEq, true_and]; push_cast; omega, by go_num, k4⟩
      case measure => simp [intOf]; omega
    · have e : q = N := by omega
      subst e
      go_wp2_with fail
      go_ret
      exact ⟨rfl, hbel.out⟩

end Go.Proofs.Ytnpfnbgbodojnab

/-
  The law FnExactPlantRoutes, walked: whatever the plant and the two names, the call returns true, and nothing that was there before has turned.
-/
namespace Go.Proofs.Ytnpfnbgbodojnab
open Go.RowKit

theorem PAt.up {B B' : Nat} {w : World} {v0 v1 v2 v3 : Value} {D : PD} (h : PAt B w v0 v1 v2 v3 D) (hB : B ≤ B') : PAt B' w v0 v1 v2 v3 D := ⟨h.s.up hB, h.f.up hB, h.p.up hB, h.v.up hB⟩

theorem pre_small {G : List (List ByteArray)} (h : ∀ l ∈ G, l.length ≤ 100) : ∀ n, pre G n ≤ 100 * n
  | 0 => Nat.le_refl _
  | n + 1 => by
    have := pre_small h n
    have hl : (nthL G n).length ≤ 100 := by
      by_cases hi : n < G.length
      · have : nthL G n = G[n] := by simp [nthL, hi]
        rw [this]; exact h _ (List.getElem_mem hi)
      · have : nthL G n = [] := by simp [nthL, Nat.le_of_not_lt hi]
        rw [this]; exact Nat.zero_le _
    simp only [pre]; omega
theorem rt_bound {b : Bool} {D : PD} {fr to : ByteArray} {Z : List RR} (hZ : Z.map (·.r) = rtL b D fr to) (hb : b = true → D.V ∧ vesB D.np D.fp fr = true ∧ vesB D.np D.fp to = true) :
    Z.length ≤ 1048576 ∧ (∀ z ∈ Z, z.r.1.length ≤ 1048576 ∧ z.r.2.length ≤ 1048576) ∧ pre (flatG Z) (Z.length * 2) ≤ 1000000 := by
  have hl : Z.length ≤ 30 := by
    have := congrArg List.length hZ
    rw [List.length_map] at this
    cases b
    · rw [this]; exact Nat.zero_le _
    · rw [this]; show ((endR D fr to D.np).take 30).length ≤ 30; simp; omega
  have hz : ∀ z ∈ Z, z.r.1.length ≤ 100 ∧ z.r.2.length ≤ 100 := fun z hz => by
    have hm : z.r ∈ rtL b D fr to := by rw [← hZ]; exact List.mem_map.2 ⟨z, hz, rfl⟩
    cases b
    · simp [rtL] at hm
    · obtain ⟨hV, hf, _⟩ := hb rfl
      have hm2 : z.r ∈ endR D fr to D.np := List.mem_of_mem_take (show z.r ∈ (endR D fr to D.np).take 30 from hm)
      obtain ⟨k, h1, _, h3⟩ := endR_ways hV (ves_place hV hf) D.np z.r hm2
      have := h3.len
      have := h3.vlen
      have := hV.2.1.1
      omega
  refine ⟨by omega, fun z h => by have := hz z h; omega, ?_⟩
  have hp := pre_small (G := flatG Z) (fun l hl => by
    obtain ⟨z, hz', hm⟩ := List.mem_flatMap.1 hl
    simp only [List.mem_cons, List.not_mem_nil, or_false] at hm
    rcases hm with rfl | rfl
    · exact (hz z hz').1
    · exact (hz z hz').2) (Z.length * 2)
  omega

open Go.Sort in
set_option maxRecDepth 100000 in
set_option maxHeartbeats 16000000 in
theorem lawPo_any (B : Nat) (v0 v1 v2 v3 : Value) (D : PD) (fr to : ByteArray) (w : World) (h : PAt B w v0 v1 v2 v3 D) (hB : B ≤ w.heap.size) (hz : D.All) (hf : fr.size ≤ maxLen) (ht : to.size ≤ maxLen) :
    Calls Try.prog 4 #[.agg #[v0, v1, v2, v3], .string fr, .string to] w fun e w' => e = .returned (.bool true) ∧ Below w.heap.size w w' := by
  unfold maxLen at hf ht
  have H : Hid (∀ w', Below w.heap.size w w' → PAt B w' v0 v1 v2 v3 D) := fun w' hb => h.kept hb hB
  clear h
  have k0 : Hid (Below (w.heap.size + 1) (w.alloc (.cells #[v0, v1, v2, v3] 45)) (w.alloc (.cells #[v0, v1, v2, v3] 45))) := Below.refl _ _
  by_cases gf : 1048576 < fr.size
  · go_enter Try.func4, Try.ntmps4
    go_wp2_with fail
    go_ret
    exact ⟨rfl, below_end k0.out⟩
  by_cases gt : 1048576 < to.size
  · go_enter Try.func4, Try.ntmps4
    go_wp2_with fail
    go_ret
    exact ⟨rfl, below_end k0.out⟩
  go_enter Try.func4, Try.ntmps4
  go_wp2_with fail
  refine (szPlant_le B v0 v1 v2 v3 D _ (H.out _ (below_end k0.out)) (by simp; omega) hz).mono ?_; rintro e w1 ⟨n1, rfl, hn1, hsm1, hb1⟩
  have k1 : Hid (Below (w.heap.size + 1) (w.alloc (.cells #[v0, v1, v2, v3] 45)) w1) := below_of k0.out hb1
  have HS1 : Hid _ := hsm1
  clear hsm1 hb1
  by_cases hg1 : n1 < 0
  · go_wp2_with fail
    go_ret
    exact ⟨rfl, below_end k1.out⟩
  have s1 : w.heap.size + 1 ≤ w1.heap.size := by have := k1.out.size; simpa using this
  have HM : Hid (D.ns ≤ 1048576 ∧ D.nf ≤ 1048576 ∧ D.np ≤ 1048576 ∧ D.nv ≤ 1048576) := HS1.out (by omega)
  have bx : Hid (∀ w', Below (w.heap.size + 1) (w.alloc (.cells #[v0, v1, v2, v3] 45)) w' → w'.cell? ⟨w.heap.size, 0, none⟩ = some v0 ∧ w'.cell? ⟨w.heap.size, 1, none⟩ = some v1 ∧ w'.cell? ⟨w.heap.size, 2, none⟩ = some v2 ∧ w'.cell? ⟨w.heap.size, 3, none⟩ = some v3) := fun w' hb => ⟨box_in hb 0 _ rfl, box_in hb 1 _ rfl, box_in hb 2 _ rfl, box_in hb 3 _ rfl⟩
  have MODEL : Hid (∀ (wr : World), Below (w.heap.size + 1) (w.alloc (.cells #[v0, v1, v2, v3] 45)) wr → Calls Try.prog 14 #[.agg #[v0, v1, v2, v3]] wr fun e w' => ∃ u0 u1 u2 u3, e = .returned (.agg #[u0, u1, u2, u3]) ∧ PAt w'.heap.size w' u0 u1 u2 u3 D ∧ Below wr.heap.size wr w') := fun wr hb => toPlant_any B v0 v1 v2 v3 D wr (H.out wr (below_end hb)) (Nat.le_trans hB (below_end hb).size) HM.out
  obtain ⟨a0, a1, a2, a3⟩ := bx.out w1 k1.out
  go_wp2_with fail
  refine (MODEL.out w1 k1.out).mono ?_; rintro e w4 ⟨p0, p1, p2, p3, rfl, P1, hb4⟩
  have HP1 : Hid (PAt w4.heap.size w4 p0 p1 p2 p3 D) := P1
  have k4 : Hid (Below (w.heap.size + 1) (w.alloc (.cells #[v0, v1, v2, v3] 45)) w4) := below_of k1.out hb4
  have s4 : w1.heap.size ≤ w4.heap.size := hb4.size
  clear P1 hb4 a0 a1 a2 a3
  go_wp2_with fail
  refine (routesS_any w4.heap.size p0 p1 p2 p3 D fr to _ HP1.out (Nat.le_refl _) hz.sz).mono ?_; rintro e w5 ⟨u0, bs, Z0, rfl, is, hZ0, ow0, hb5⟩
  have IS : Hid _ := is
  obtain ⟨hlen0, hrow0, _⟩ := rt_bound hZ0 (fun e => is.1 e)
  have k5 : Hid (Below (w.heap.size + 1) (w.alloc (.cells #[v0, v1, v2, v3] 45)) w5) := below_of k4.out hb5
  have L0 : Hid (RtsR w5.heap.size w5 u0 Z0) := ow0.read hlen0 hrow0
  have HZ0 : Hid (Z0.map (·.r) = rtL bs D fr to) := hZ0
  clear is ow0 hb5 HP1 hlen0 hrow0 hZ0
  have s5 : w.heap.size + 1 ≤ w5.heap.size := by have := k5.out.size; simpa using this
  obtain ⟨a0, a1, a2, a3⟩ := bx.out w5 k5.out
  go_wp2_with fail
  refine (toPlant_blk B v0 v1 v2 v3 D _ (H.out w5 (below_end k5.out)) (by omega) HM.out).mono ?_; rintro e w6 ⟨g0, g1, g2, g3, rfl, P2, PB, hb6⟩
  have HP2 : Hid (PAt w6.heap.size w6 (sl g0 D.ns) (sl g1 D.nf) (sl g2 D.np) (sl g3 D.nv) D) := P2
  have HPB : Hid (PBlk w5.heap.size w6.heap.size w6 g0 g1 g2 g3 D) := PB
  have s6 : w5.heap.size ≤ w6.heap.size := hb6.size
  obtain ⟨w8, hw8⟩ : ∃ u, u = w6.alloc (.cells #[sl g0 D.ns, sl g1 D.nf, sl g2 D.np, sl g3 D.nv] 28) := ⟨_, rfl⟩
  have HW8 : Hid (w8 = w6.alloc (.cells #[sl g0 D.ns, sl g1 D.nf, sl g2 D.np, sl g3 D.nv] 28)) := hw8
  have b68 : Hid (Below w6.heap.size w6 w8) := by rw [hw8]; exact (Below.refl _ _).alloc (Nat.le_refl _) _
  have X68 : Hid (w8.heap[w6.heap.size]? = some (.cells #[sl g0 D.ns, sl g1 D.nf, sl g2 D.np, sl g3 D.nv] 28 (0, 0))) := by rw [hw8]; exact heap_alloc_new w6 _
  have s8 : w6.heap.size < w8.heap.size := by rw [hw8]; simp
  have b58 : Hid (Below w5.heap.size w5 w8) := hb6.trans (b68.out.mono s6)
  have k8 : Hid (Below (w.heap.size + 1) (w.alloc (.cells #[v0, v1, v2, v3] 45)) w8) := below_of k5.out b58.out
  clear hw8 P2 PB hb6 a0 a1 a2 a3
  go_upto_region 11 with fail
  rw [← HW8.out]
  obtain ⟨d0, _⟩ := cell_row X68.out 0 _ rfl
  obtain ⟨d1, _⟩ := cell_row X68.out 1 _ rfl
  obtain ⟨d2, _⟩ := cell_row X68.out 2 _ rfl
  obtain ⟨d3, _⟩ := cell_row X68.out 3 _ rfl
  simp only [List.getElem_toArray, List.getElem_cons_zero, List.getElem_cons_succ] at d0 d1 d2 d3
  go_wp2_with fail
  refine (routesI_any w8.heap.size _ _ _ _ D fr to _ ((HP2.out.kept b68.out (Nat.le_refl _)).up (by omega)) (Nat.le_refl _) hz.sz).mono ?_; rintro e w9 ⟨u1, rfl, bi, Z1, ii, hZ1, ow1, hb9⟩
  have hbe : bi = bs := bool_same ii IS.out
  subst hbe
  obtain ⟨hlen, hrow, hpre⟩ := rt_bound hZ1 (fun e => ii.1 e)
  have HZ1 : Hid (Z1.map (·.r) = Z0.map (·.r)) := hZ1.trans HZ0.out.symm
  clear ii d0 d1 d2 d3 hZ1
  have s9 : w8.heap.size ≤ w9.heap.size := hb9.size
  have OW1 : Hid (RtsO w8.heap.size w9 u1 Z1) := ow1
  have b89 : Hid (Below w8.heap.size w8 w9) := hb9
  have k9 : Hid (Below (w.heap.size + 1) (w.alloc (.cells #[v0, v1, v2, v3] 45)) w9) := below_of k8.out hb9
  have b59 : Hid (Below w5.heap.size w5 w9) := b58.out.trans (b89.out.mono (by omega))
  have L9 : Hid (RtsR w5.heap.size w9 u0 Z0) := L0.out.kept b59.out (Nat.le_refl _)
  clear ow1 hb9
  go_wp2_with fail
  refine (eqRts_any w9.heap.size w5.heap.size u1 u0 Z1 Z0 _ HZ1.out (OW1.out.read hlen hrow) L9.out (Nat.le_refl _) (by omega)).mono ?_; rintro e w10 ⟨rfl, hb10⟩
  have s10 : w9.heap.size ≤ w10.heap.size := hb10.size
  have b910 : Hid (Below w9.heap.size w9 w10) := hb10
  have k10 : Hid (Below (w.heap.size + 1) (w.alloc (.cells #[v0, v1, v2, v3] 45)) w10) := below_of k9.out hb10
  have t10 : w.heap.size + 1 ≤ w10.heap.size := by omega
  have X610 : Hid (w10.heap[w6.heap.size]? = some (.cells #[sl g0 D.ns, sl g1 D.nf, sl g2 D.np, sl g3 D.nv] 28 (0, 0))) := (hb10.block _ (by omega)).trans ((b89.out.block _ (by omega)).trans X68.out)
  clear hb10
  obtain ⟨d0, _⟩ := cell_row X610.out 0 _ rfl
  obtain ⟨d1, _⟩ := cell_row X610.out 1 _ rfl
  obtain ⟨d2, _⟩ := cell_row X610.out 2 _ rfl
  obtain ⟨d3, _⟩ := cell_row X610.out 3 _ rfl
  simp only [List.getElem_toArray, List.getElem_cons_zero, List.getElem_cons_succ] at d0 d1 d2 d3
  obtain ⟨x0, x1, x2, x3⟩ := bx.out w10 k10.out
  have qx0 := fun d os => cell_regrown x0 d os
  have qx1 := fun d os => cell_regrown x1 d os
  have qx2 := fun d os => cell_regrown x2 d os
  have qx3 := fun d os => cell_regrown x3 d os
  have qd0 := fun d os => cell_regrown d0 d os
  have qd1 := fun d os => cell_regrown d1 d os
  have qd2 := fun d os => cell_regrown d2 d os
  have qd3 := fun d os => cell_regrown d3 d os
  go_wp2_with fail
  have hdr : Hid (Below w10.heap.size w10 w10.drew) := (Below.refl _ _).drew
  refine wp_region_mix 3 [0, 1] (by kernel_rfl) (by kernel_rfl) ?_
  simp only [List.filterMap_cons, List.filterMap_nil, List.getElem?_cons_succ, List.getElem?_cons_zero]
  repeat (first | go_big_quiet_step (fail) | quiet_step (fail))
  refine wpQuiet_nil ?_
  refine call1 (md := .any) (f := 0) (i := 2) (dc := 43) (fn := 14) ⟨rfl, rfl, rfl, by decide⟩ (by kernel_rfl) ?run ((MODEL.out w10.drew (k10.out.trans (hdr.out.mono t10))).mono ?_)
  case run => go_simp
  rintro e w11 ⟨p0, p1, p2, p3, rfl, P3, hbw11⟩
  have HBw11 : Hid (Below w10.heap.size w10 w11) := hdr.out.trans hbw11
  have HP3 : Hid (PAt w11.heap.size w11 p0 p1 p2 p3 D) := P3
  clear P3 hbw11 qx0 qx1 qx2 qx3 qd0 qd1 qd2 qd3 d0 d1 d2 d3 x0 x1 x2 x3
  refine ⟨_, rfl, regrown_of_below HBw11.out, ?_⟩
  refine ⟨by kernel_rfl, ?_⟩
  simp only [List.drop_succ_cons, List.drop_zero, Act.put, List.setIfInBounds_toArray, List.set_cons_zero, List.set_cons_succ]
  have s11 : w10.heap.size ≤ w11.heap.size := HBw11.out.size
  have b911 : Hid (Below w9.heap.size w9 w11) := b910.out.trans (HBw11.out.mono s10)
  have b611 : Hid (Below w6.heap.size w6 w11) := (b68.out.trans (b89.out.mono (by omega))).trans (b911.out.mono (by omega))
  go_wp2_with fail
  refine (eqPlant_any w6.heap.size w11.heap.size _ _ _ _ p0 p1 p2 p3 D _ (HP2.out.kept b611.out (Nat.le_refl _)) HP3.out (by omega) (Nat.le_refl _)).mono ?_; rintro e w14 ⟨rfl, hb14⟩
  have s14 : w11.heap.size ≤ w14.heap.size := hb14.size
  have b914 : Hid (Below w9.heap.size w9 w14) := b911.out.trans (hb14.mono (by omega))
  have b614 : Hid (Below w6.heap.size w6 w14) := (b68.out.trans (b89.out.mono (by omega))).trans (b914.out.mono (by omega))
  have k14 : Hid (Below (w.heap.size + 1) (w.alloc (.cells #[v0, v1, v2, v3] 45)) w14) := below_of k9.out b914.out
  have X614 : Hid (w14.heap[w6.heap.size]? = some (.cells #[sl g0 D.ns, sl g1 D.nf, sl g2 D.np, sl g3 D.nv] 28 (0, 0))) := (b914.out.block _ (by omega)).trans ((b89.out.block _ (by omega)).trans X68.out)
  have OW14 : Hid (RtsO w8.heap.size w14 u1 Z1) := OW1.out.below b914.out
  have L14 : Hid (RtsR w5.heap.size w14 u0 Z0) := L9.out.kept b914.out (by omega)
  clear hb14 HP3 HBw11
  obtain ⟨d0, _⟩ := cell_row X614.out 0 _ rfl
  obtain ⟨d1, _⟩ := cell_row X614.out 1 _ rfl
  obtain ⟨d2, _⟩ := cell_row X614.out 2 _ rfl
  obtain ⟨d3, _⟩ := cell_row X614.out 3 _ rfl
  simp only [List.getElem_toArray, List.getElem_cons_zero, List.getElem_cons_succ] at d0 d1 d2 d3
  have pb14 : Hid (PBlk w5.heap.size w6.heap.size w14 g0 g1 g2 g3 D) := ⟨HPB.out.a, HPB.out.s.kept b614.out (Nat.le_refl _), HPB.out.f.kept b614.out (Nat.le_refl _), HPB.out.p.kept b614.out (Nat.le_refl _), HPB.out.v.kept b614.out (Nat.le_refl _)⟩
  go_wp2_with fail
  refine (markPlant_any w5.heap.size w6.heap.size g0 g1 g2 g3 D _ pb14.out (by omega) s6 HM.out).mono ?_; rintro e w16 ⟨kk, rfl, hkk, o16⟩
  have O16 : Hid (Outs w5.heap.size w6.heap.size w14 w16) := o16
  have s16 : w14.heap.size ≤ w16.heap.size := o16.bel.size
  clear o16 d0 d1 d2 d3
  have OW16 : Hid (RtsO w8.heap.size w16 u1 Z1) := OW14.out.outs O16.out (by omega)
  have L16 : Hid (RtsR w5.heap.size w16 u0 Z0) := L14.out.kept O16.out.bel (Nat.le_refl _)
  have k16 : Hid (Below (w.heap.size + 1) (w.alloc (.cells #[v0, v1, v2, v3] 45)) w16) := k14.out.trans (O16.out.bel.mono s5)
  have hq1 : decide (1 + (pre (flatG Z1) (Z1.length * 2) : Int) < 0) = false := by simp; omega
  have dkj : decide (kk < 0) = false := by simp; omega
  go_wp2_with fail
  refine (eqRts_any w16.heap.size w5.heap.size u1 u0 Z1 Z0 _ HZ1.out (OW16.out.read hlen hrow) L16.out (Nat.le_refl _) (by omega)).mono ?_; rintro e w17 ⟨rfl, hb17⟩
  have s17 : w16.heap.size ≤ w17.heap.size := hb17.size
  have HB17 : Hid (Below w16.heap.size w16 w17) := hb17
  clear hb17
  go_wp2_with fail
  refine (markRts_any w8.heap.size u1 Z1 _ (OW16.out.below HB17.out) hlen hpre).mono ?_; rintro e w18 ⟨rfl, hb18, hl18⟩
  have s18 : w17.heap.size ≤ w18.heap.size := hb18.size
  have HB18 : Hid (Below w8.heap.size w17 w18) := hb18
  have L18 : Hid (HeldZ w18.heap.size w18 u1 Z1) := hl18
  clear hb18 hl18
  have k18 : Hid (Below (w.heap.size + 1) (w.alloc (.cells #[v0, v1, v2, v3] 45)) w18) := (k16.out.trans (HB17.out.mono (by omega))).trans (HB18.out.mono (by omega))
  have M18 : Hid (RtsR w5.heap.size w18 u0 Z0) := (L16.out.kept HB17.out (by omega)).kept HB18.out (by omega)
  go_wp2_with fail
  refine (heldRts_any w18.heap.size u1 Z1 _ L18.out (Nat.le_refl _) hpre).mono ?_; rintro e w19 ⟨rfl, hb19⟩
  have s19 : w18.heap.size ≤ w19.heap.size := hb19.size
  have HB19 : Hid (Below w18.heap.size w18 w19) := hb19
  have k19 : Hid (Below (w.heap.size + 1) (w.alloc (.cells #[v0, v1, v2, v3] 45)) w19) := below_of k18.out hb19
  clear hb19
  obtain ⟨a0, a1, a2, a3⟩ := bx.out w19 k19.out
  go_wp2_with fail
  refine (MODEL.out w19 k19.out).mono ?_; rintro e w21 ⟨p0, p1, p2, p3, rfl, P1, hb21⟩
  have HP1 : Hid (PAt w21.heap.size w21 p0 p1 p2 p3 D) := P1
  have s21 : w19.heap.size ≤ w21.heap.size := hb21.size
  have HB21 : Hid (Below w19.heap.size w19 w21) := hb21
  clear P1 hb21 a0 a1 a2 a3
  go_wp2_with fail
  refine (routesI_any w21.heap.size p0 p1 p2 p3 D fr to _ HP1.out (Nat.le_refl _) hz.sz).mono ?_; rintro e w22 ⟨u2, rfl, b2, Z2, i2, hZ2, ow2, hb22⟩
  have hb2e : b2 = bi := bool_same i2 IS.out
  obtain ⟨hlen2, hrow2, _⟩ := rt_bound hZ2 (fun e => i2.1 e)
  have HZ2 : Hid (Z2.map (·.r) = Z0.map (·.r)) := by rw [hb2e] at hZ2; exact hZ2.trans HZ0.out.symm
  clear i2 hb2e hZ2
  have s22 : w21.heap.size ≤ w22.heap.size := hb22.size
  have OW2 : Hid (RtsO w21.heap.size w22 u2 Z2) := ow2
  have b1822 : Hid (Below w18.heap.size w18 w22) := (HB19.out.trans (HB21.out.mono s19)).trans (hb22.mono (by omega))
  have M22 : Hid (RtsR w5.heap.size w22 u0 Z0) := M18.out.kept b1822.out (by omega)
  clear ow2 hb22
  go_wp2_with fail
  refine (eqRts_any w22.heap.size w5.heap.size u2 u0 Z2 Z0 _ HZ2.out (OW2.out.read hlen2 hrow2) M22.out (Nat.le_refl _) (by omega)).mono ?_; rintro e w23 ⟨rfl, hb23⟩
  have s23 : w22.heap.size ≤ w23.heap.size := hb23.size
  have b1823 : Hid (Below w18.heap.size w18 w23) := b1822.out.trans (hb23.mono (by omega))
  clear hb23
  go_wp2_with fail
  refine (heldRts_any w18.heap.size u1 Z1 _ (L18.out.kept b1823.out (Nat.le_refl _)) (by omega) hpre).mono ?_; rintro e w24 ⟨rfl, hb24⟩
  have k24 : Hid (Below (w.heap.size + 1) (w.alloc (.cells #[v0, v1, v2, v3] 45)) w24) := (k18.out.trans (b1823.out.mono (by omega))).trans (hb24.mono (by omega))
  clear hb24
  go_wp2_with fail
  go_ret
  exact ⟨rfl, below_end k24.out⟩

end Go.Proofs.Ytnpfnbgbodojnab
