/-
  Several texts in one.
-/
import Derived.Test.YtgjcppdeljoimaaOg
import Derived.Test.YtgjcppdeljoimaaM30
import Derived.Test.YtgjcppdeljoimaaKa
namespace Go.Proofs.Ytgjcppdeljoimaa
open Go.RowKit Go.Sort
theorem ves_placeI {D : PD} (hV : D.V) {x : ByteArray} (h : vesB D.np D.fp x = true) : 0 ≤ placeI D.np D.fp x := by
  have := (vesB_iff (V_places hV)).1 h
  unfold capI at this
  split at this <;> omega
def mzR (np : Nat) (v : Value) (w : World) : Nat := match v with
  | .slice (some a) (_ + 1) _ => (match w.cell? a with | some (.slice _ m _) => np + 1 - m | _ => 0)
  | _ => 0
theorem mz_none {np : Nat} {w : World} {B T size : Nat} {v : Value} {xs : List Value} (h : w.ownsRow B T size v 0 xs) : mzR np v w = 0 := by
  rcases h.2 with ⟨rfl, _⟩ | ⟨g, cap, cur, rfl, _⟩ <;> rfl
theorem mz_some {np q B : Nat} {w : World} {v : Value} {Z : List RR} (h : RtsL B w v Z) (h0 : 0 < Z.length) (hq : ∀ z ∈ Z, z.r.1.length = q + 1) : mzR np v w = np - q := by
  obtain ⟨k, hk⟩ : ∃ k, Z.length = k + 1 := ⟨Z.length - 1, by omega⟩
  obtain ⟨cap1, cur1, e1, _⟩ := (h.row _ (nthZ_mem h0)).1
  rcases h.own.2 with ⟨_, hn⟩ | ⟨g, cap, cur, rfl, hb, hg, hc, hm, hs, ht⟩
  · omega
  · have c0 : cur.toList[0]? = (celZ Z)[0]? := by rw [← ht, List.getElem?_take_of_lt (by omega)]
    have c1 : (celZ Z)[0]? = some (nthZ Z 0).u := by have := celZ_at Z 0 0 h0 (by omega); simpa [cR] using this
    have c2 : w.cell? ⟨g, 0, none⟩ = some (nthZ Z 0).u := by
      have : cur[0]? = some (nthZ Z 0).u := by rw [← Array.getElem?_toList, c0, c1]
      exact (cell_row hg 0 _ this).1
    rw [hk]
    show (match w.cell? ⟨g, 0, none⟩ with | some (.slice _ m _) => np + 1 - m | _ => 0) = _
    rw [c2, e1, hq _ (nthZ_mem h0)]
    show np + 1 - (q + 1) = _
    omega
theorem celZ_app (A C : List RR) : celZ (A ++ C) = celZ A ++ celZ C := by simp [celZ]
theorem RtsO.append {B S : Nat} {w w' : World} {v v' ve : Value} {Z Ze : List RR} (h : RtsO B w v Z) (he : RtsO S w ve Ze) (hB : B ≤ S) (hlt : ∀ k ∈ blkZ Z, k < S)
    (ho : w'.ownsRow B 34 2 v' (Z.length + Ze.length) (celZ Z ++ celZ Ze)) (hg : w.grownBy w' v.ownBlock) : RtsO B w' v' (Z ++ Ze) := by
  refine ⟨by rw [List.length_append, celZ_app]; exact ho, fun z hz => ?_, ?_⟩
  · rcases List.mem_append.1 hz with h1 | h1
    · exact (h.row z h1).grown h.own typeR hg
    · exact ((he.row z h1).le hB).grown h.own typeR hg
  · rw [blk_app, List.nodup_append]
    refine ⟨h.nod, he.nod, fun a ha b hb e => ?_⟩
    have := hlt a ha
    have := (he.old hb).1
    omega
theorem celZ_take : ∀ (Z : List RR) (k : Nat), celZ (Z.take k) = (celZ Z).take (k * 2)
  | [], k => by simp [celZ]
  | z :: Z, 0 => by simp [celZ]
  | z :: Z, k + 1 => by
    have := celZ_take Z k
    have e : (k + 1) * 2 = k * 2 + 1 + 1 := by omega
    rw [e]
    simp only [celZ, List.take_succ_cons, List.flatMap_cons, List.cons_append, List.nil_append] at this ⊢
    rw [this]
theorem blk_take (Z : List RR) (k : Nat) : (blkZ (Z.take k)).Sublist (blkZ Z) := by
  conv => rhs; rw [← List.take_append_drop k Z, blk_app]
  exact List.sublist_append_left _ _
theorem RtsO.first {B k g n cap : Nat} {w : World} {Z : List RR} (h : RtsO B w (.slice (some ⟨g, 0, none⟩) n cap) Z) (hk : k ≤ Z.length) : RtsO B w (.slice (some ⟨g, 0, none⟩) k cap) (Z.take k) := by
  refine ⟨?_, fun z hz => h.row z (List.mem_of_mem_take hz), h.nod.sublist (blk_take Z k)⟩
  have hl : (Z.take k).length = k := by rw [List.length_take]; omega
  rw [hl]
  rcases h.own.2 with ⟨e, _⟩ | ⟨g', cap', cur, e, hb, hg, hc, hm, hs, ht⟩
  · cases e
  · cases e
    refine ⟨by rw [celZ_len, hl], .inr ⟨g, cap, cur, rfl, hb, hg, by omega, hm, hs, ?_⟩⟩
    rw [celZ_take, ← ht, List.take_take, Nat.min_eq_left (by omega)]
theorem wpList_apR {P : Program} {ops : Array Oper} {rest : List Oper} {o : Oper} {a : Act} {w : World} {Q : Exit → Act → World → Prop} {t e : TypeId} {size bytes base k m : Nat} {v sv : Value} {xs news : List Value} (hgd : o.guard = none) (T : ElT P t e size bytes) (s x : Operand)
    (ho : o.op = .call { callee := .builtin .append, args := #[s, x], argTypes := #[t, t] }) (hs : a.eval s = v) (hx : a.eval x = sv) (hown : w.ownsRow base e size v k xs) (hsrc : Src w sv m size news) (h1 : ∀ u ∈ news, u.oneCell' = true) (h63 : k + m ≤ maxLen) (hbytes : (k + m) * bytes ≤ 140737488355328) (hbase : base ≤ w.heap.size)
    (K : ∀ v' w', w'.ownsRow base e size v' (k + m) (xs ++ news) → w.grownBy w' v.ownBlock → (v'.ownBlock = v.ownBlock ∨ v'.ownBlock = some w.heap.size) → wpList P ops Q rest (a.put o.dst v') w') : wpList P ops Q (o :: rest) a w := by
  obtain ⟨v', w', hr, h2, h3, h4⟩ := exec_append_at T s x ho hs hx hown hsrc h1 h63 hbytes hbase
  refine wpList_plain hgd fun K' hK => ?_
  unfold Oper.wp
  rw [hr]
  exact hK _ _ (K v' w' h2 h3 h4)
theorem elR : ElT Try.prog 31 34 2 48 := by
  obtain ⟨i, hi, hz, h1, h2⟩ := info_parts infoR
  exact ⟨underR, ⟨i, _, hi, hz, h1, h2, rfl⟩, by decide⟩
end Go.Proofs.Ytgjcppdeljoimaa

namespace Go.Proofs.Ytgjcppdeljoimaa
open Go.RowKit Go.Sort
def RtOut (w : World) (D : PD) (fr to : ByteArray) (v : Value) (w' : World) : Prop := ∃ b Z, (b = true ↔ D.V ∧ vesB D.np D.fp fr = true ∧ vesB D.np D.fp to = true) ∧ Z.map (·.r) = rtL b D fr to ∧ RtsO w.heap.size w' v Z ∧ Below w.heap.size w w'
set_option maxRecDepth 100000 in
set_option maxHeartbeats 16000000 in
theorem routesI_any (B : Nat) (v0 v1 v2 v3 : Value) (D : PD) (fr to : ByteArray) (w : World) (h : PAt B w v0 v1 v2 v3 D) (hB : B ≤ w.heap.size) (hz : D.Sz) :
    Calls Try.prog 5 #[.agg #[v0, v1, v2, v3], .string fr, .string to] w fun e w' => ∃ v, e = .returned v ∧ RtOut w D fr to v w' := by
  obtain ⟨i0, hi, hz0, hz1, hz2⟩ := info_parts infoR
  have H : Hid (∀ w', Below w.heap.size w w' → PAt B w' v0 v1 v2 v3 D) := fun w' hb => h.kept hb hB
  clear h
  have k0 : Hid (Below (w.heap.size + 1) (w.alloc (.cells #[v0, v1, v2, v3] 28)) (w.alloc (.cells #[v0, v1, v2, v3] 28))) := Below.refl _ _
  go_enter Try.func5, Try.ntmps5
  go_wp2_with fail
  refine (validI_any B v0 v1 v2 v3 D _ (H.out _ (below_end k0.out)) (by simp; omega) hz).mono ?_; rintro e w1 ⟨b1, rfl, i1, hb1⟩
  have IS1 : Hid _ := i1
  have k1 : Hid (Below (w.heap.size + 1) (w.alloc (.cells #[v0, v1, v2, v3] 28)) w1) := below_of k0.out hb1
  clear i1 hb1
  cases b1
  · go_wp2_with fail
    go_ret
    exact ⟨_, rfl, false, [], ⟨(fun h => by cases h), fun h => by have := IS1.out.2 h.1; cases this⟩, rfl, RtsO.nil _ _, below_end k1.out⟩
  have hV : Hid D.V := by have := IS1.out; simpa [Hid] using this
  have s1 : w.heap.size + 1 ≤ w1.heap.size := by have := k1.out.size; simpa using this
  have a0 := box_in k1.out 0 _ rfl
  have a1 := box_in k1.out 1 _ rfl
  have a2 := box_in k1.out 2 _ rfl
  have a3 := box_in k1.out 3 _ rfl
  simp only [List.getElem_toArray, List.getElem_cons_zero, List.getElem_cons_succ] at a0 a1 a2 a3
  go_wp2_with fail
  refine (isVessel_any B v0 v1 v2 v3 D.np D.fp fr _ (H.out _ (below_end k1.out)).p (by omega)).mono ?_; rintro e w2 ⟨rfl, hb2⟩
  have k2 : Hid (Below (w.heap.size + 1) (w.alloc (.cells #[v0, v1, v2, v3] 28)) w2) := below_of k1.out hb2
  clear hb2 a0 a1 a2 a3
  cases hvf : vesB D.np D.fp fr
  · go_wp2_with fail
    go_ret
    exact ⟨_, rfl, false, [], ⟨(fun h => by cases h), fun h => by have h1 := h.2.1; first | (rw [hvf] at h1; cases h1) | cases h1⟩, rfl, RtsO.nil _ _, below_end k2.out⟩
  have s2 : w.heap.size + 1 ≤ w2.heap.size := by have := k2.out.size; simpa using this
  have a0 := box_in k2.out 0 _ rfl
  have a1 := box_in k2.out 1 _ rfl
  have a2 := box_in k2.out 2 _ rfl
  have a3 := box_in k2.out 3 _ rfl
  simp only [List.getElem_toArray, List.getElem_cons_zero, List.getElem_cons_succ] at a0 a1 a2 a3
  go_wp2_with fail
  refine (isVessel_any B v0 v1 v2 v3 D.np D.fp to _ (H.out _ (below_end k2.out)).p (by omega)).mono ?_; rintro e w3 ⟨rfl, hb3⟩
  have k3 : Hid (Below (w.heap.size + 1) (w.alloc (.cells #[v0, v1, v2, v3] 28)) w3) := below_of k2.out hb3
  clear hb3 a0 a1 a2 a3
  cases hvt : vesB D.np D.fp to
  · go_wp2_with fail
    go_ret
    exact ⟨_, rfl, false, [], ⟨(fun h => by cases h), fun h => by have h1 := h.2.2; first | (rw [hvt] at h1; cases h1) | cases h1⟩, rfl, RtsO.nil _ _, below_end k3.out⟩
  have s3 : w.heap.size + 1 ≤ w3.heap.size := by have := k3.out.size; simpa using this
  have VV : Hid (D.V ∧ vesB D.np D.fp fr = true ∧ vesB D.np D.fp to = true) := ⟨hV.out, hvf, hvt⟩
  have HF : Hid (0 ≤ placeI D.np D.fp fr) := ves_placeI hV.out hvf
  have WAYS : Hid (∀ q, ∀ r ∈ wayR D fr to q, Way D fr r q) := wayR_ways hV.out HF.out
  have WEI : Hid (∀ q, wei D (wayR D fr to q) ≤ 262144) := wei_ways hV.out HF.out
  have hnp : D.np ≤ 14 := hV.out.2.1.1
  have hnv : D.nv ≤ 18 := hV.out.2.2.1
  clear hvf hvt IS1 k0 k1 k2 s1 s2
  obtain ⟨U, hU⟩ : ∃ U, U = (w3.alloc (.cells #[.string fr] 9)).alloc (.cells #[.slice (some ⟨w3.heap.size, 0, none⟩) 1 1, .slice none 0 0] 34) := ⟨_, rfl⟩
  have eU : Hid (U = (w3.alloc (.cells #[.string fr] 9)).alloc (.cells #[.slice (some ⟨w3.heap.size, 0, none⟩) 1 1, .slice none 0 0] 34)) := hU
  have bU : Below w3.heap.size w3 U := by rw [hU]; exact ((Below.refl _ _).alloc (Nat.le_refl _) _).alloc (by simp) _
  have kU : Hid (Below (w.heap.size + 1) (w.alloc (.cells #[v0, v1, v2, v3] 28)) U) := below_of k3.out bU
  have LU : Hid (RtsL (w.heap.size + 1) U (.slice (some ⟨w3.heap.size + 1, 0, none⟩) 1 1) [⟨([fr], []), .slice (some ⟨w3.heap.size, 0, none⟩) 1 1, .slice none 0 0, w3.heap.size, 0⟩]) := by
    refine ⟨?_, fun z hz => ?_⟩
    · have := own_built (base := w.heap.size + 1) (e := 34) (size := 2) (k := 1) (w := w3.alloc (.cells #[.string fr] 9)) (c := #[.slice (some ⟨w3.heap.size, 0, none⟩) 1 1, .slice none 0 0]) (by simp; omega) (by unfold maxLen; omega) rfl
      rw [← hU] at this
      simpa [celZ] using this
    · simp at hz; subst hz
      refine ⟨⟨1, #[.string fr], rfl, by show w.heap.size + 1 ≤ w3.heap.size; omega, ?_, by simp, fun j hj => ?_⟩, .inr ⟨rfl, rfl⟩⟩
      · rw [hU]; exact (Below.heap_alloc _ _ _ (by simp)).trans (heap_alloc_new w3 _)
      · have : j = 0 := by simpa using hj
        subst this; rfl
  go_upto_region 5 with fail
  rw [← eU.out]
  clear hU bU
  go_wp2_with fail
  go_loopw [7, 8] (fun vr vl wr => ∃ (q : Nat) (Zr Zl : List RR), q ≤ D.np ∧ Hid (Zr.map (·.r) = endR D fr to q) ∧ Hid (Zl.map (·.r) = wayR D fr to q) ∧ Zr.length ≤ 262174 ∧ Hid (RtsO (w.heap.size + 1) wr vr Zr ∧ RtsL (w.heap.size + 1) wr vl Zl ∧ apV vr vl) ∧ Hid (Below (w.heap.size + 1) (w.alloc (.cells #[v0, v1, v2, v3] 28)) wr)) (fun _ vl wr => mzR D.np vl wr)
  case atStart => exact ⟨0, [], [⟨([fr], []), .slice (some ⟨w3.heap.size, 0, none⟩) 1 1, .slice none 0 0, w3.heap.size, 0⟩], Nat.zero_le _, rfl, rfl, Nat.zero_le _, ⟨RtsO.nil _ _, LU.out, fun k e => by cases e⟩, kU⟩
  case round =>
    obtain ⟨q, Zr, Zl, hq, hZr, hZl, hrl, hS, hbel⟩ := hrel
    have hsr : w.heap.size + 1 ≤ wr.heap.size := by have := hbel.out.size; simpa using this
    have hll : Zl.length ≤ 262144 := by have := congrArg List.length hZl.out; have := wei_len D (wayR D fr to q); have := WEI.out q; simp at *; omega
    have WY : Hid (∀ z ∈ Zl, Way D fr z.r q) := fun z hz => WAYS.out q _ (map_memG hZl.out hz)
    obtain ⟨ol, cl, rfl⟩ := row_slice' hS.out.2.1.own
    obtain ⟨orr, cr, rfl⟩ := row_slice' hS.out.1.own
    by_cases hlen : 0 < Zl.length
    · by_cases h30 : Zr.length < 30
      · have hqn : q + 1 ≤ D.np := (WY.out _ (nthZ_mem hlen)).short
        have MZ : Hid (mzR D.np (.slice ol Zl.length cl) wr = D.np - q) := mz_some hS.out.2.1 hlen (fun z hz => (WY.out z hz).len)
        have a0 := box_in hbel.out 0 _ rfl
        have a1 := box_in hbel.out 1 _ rfl
        have a2 := box_in hbel.out 2 _ rfl
        have a3 := box_in hbel.out 3 _ rfl
        simp only [List.getElem_toArray, List.getElem_cons_zero, List.getElem_cons_succ] at a0 a1 a2 a3
        have RD : Hid (RtsR wr.heap.size wr (.slice ol Zl.length cl) Zl) := hS.out.2.1.read (by omega) (fun z hz => by have := (WY.out z hz).len; have := (WY.out z hz).vlen; omega)
        have HPW : Hid (PAt wr.heap.size wr v0 v1 v2 v3 D) := by
          have hP := H.out wr (below_end hbel.out)
          exact ⟨hP.s.up (by omega), hP.f.up (by omega), hP.p.up (by omega), hP.v.up (by omega)⟩
        go_wp2_with fail
        refine (goOn_any wr.heap.size q v0 v1 v2 v3 _ D fr to Zl (wayR D fr to q) _ HPW.out RD.out hZl.out (Nat.le_refl _) hV.out (WAYS.out q) (WEI.out q)).mono ?_; rintro e w5 ⟨ve, vo, Ze, Zo, rfl, hZe, hZo, hE, hO, hb5⟩
        have HZE : Hid (Ze.map (·.r) = enW D to (wayR D fr to q)) := hZe
        have HZO : Hid (Zo.map (·.r) = wayR D fr to (q + 1)) := hZo
        have HE : Hid (RtsO wr.heap.size w5 ve Ze) := hE
        have HO : Hid (RtsL wr.heap.size w5 vo Zo) := hO
        have k5 : Hid (Below (w.heap.size + 1) (w.alloc (.cells #[v0, v1, v2, v3] 28)) w5) := below_of hbel.out hb5
        have R5 : Hid (RtsO (w.heap.size + 1) w5 (.slice orr Zr.length cr) Zr) := hS.out.1.below hb5
        have B5 : Hid (∀ k ∈ blkZ Zr, k < wr.heap.size) := fun k hk => (hS.out.1.old hk).2
        have AO : Hid (apV (.slice orr Zr.length cr) vo) := (apV.fresh hO.own (Nat.le_refl _) hS.out.1.own).symm
        have hel : Ze.length ≤ 262144 := by
          have e1 := congrArg List.length hZe
          have e2 := wei_flat (D := D) (toB to) (wayR D fr to q) (fun r hr => (WAYS.out q r hr).good)
          have e3 := wei_len D (enW D to (wayR D fr to q))
          have e4 := WEI.out q
          simp only [List.length_map] at e1
          unfold enW at e1 e3
          omega
        have hs5 : w.heap.size + 1 ≤ w5.heap.size := by have := hb5.size; omega
        have OC : Hid (∀ x ∈ celZ Ze, x.oneCell' = true) := celZ_one (fun z hz => (hE.row z hz).one)
        clear a0 a1 a2 a3 hZe hZo hE hO hb5 hbel hS RD HPW
        go_wp2_with (at_builtin; refine wpList_apR rfl elR _ _ rfl rfl rfl R5.out.own (own_src HE.out.own) OC.out (by unfold maxLen; omega) (by omega) hs5 ?_; intro v' w8 hown' hgrow8 hloc8)
        go_roundw
        case rel =>
          have RR : ∃ (q' : Nat) (Zr' Zl' : List RR), q' ≤ D.np ∧ Hid (Zr'.map (·.r) = endR D fr to q') ∧ Hid (Zl'.map (·.r) = wayR D fr to q') ∧ Zr'.length ≤ 262174 ∧ Hid (RtsO (w.heap.size + 1) w8 v' Zr' ∧ RtsL (w.heap.size + 1) w8 vo Zl' ∧ apV v' vo) ∧ Hid (Below (w.heap.size + 1) (w.alloc (.cells #[v0, v1, v2, v3] 28)) w8) :=
            ⟨q + 1, Zr ++ Ze, Zo, by omega, by show _ = _; rw [List.map_append, hZr.out, HZE.out]; rfl, HZO, by rw [List.length_append]; omega,
              ⟨R5.out.append HE.out hsr B5.out hown' hgrow8, (HO.out.beside R5.out.own hgrow8 AO.out).le hsr, AO.out.moved hloc8 HO.out.own⟩, k5.out.grown hgrow8 hs5 (fun p hp => (R5.out.own.lt p hp).1)⟩
          first
            | exact RR
            | ((repeat apply Exists.intro); exact ⟨RR, rfl⟩)
        case measure =>
          have HO8 : RtsL wr.heap.size w8 vo Zo := HO.out.beside R5.out.own hgrow8 AO.out
          rw [MZ.out]
          rcases Nat.eq_zero_or_pos Zo.length with h0 | h0
          · have ho := HO8.own
            rw [h0] at ho
            rw [mz_none ho]; omega
          · rw [mz_some HO8 h0 (fun z hz => (WAYS.out (q + 1) _ (map_memG HZO.out hz)).len)]
            omega
      · have hd1 : decide ((0 : Int) < (Zl.length : Int)) = true := by simp; omega
        have hd2 : decide ((Zr.length : Int) < 30) = false := by simp; omega
        have TK : Hid ((endR D fr to q).take 30 = rtL true D fr to) := end_take hq (.inr (.inl (by have := congrArg List.length hZr.out; simp at this; omega)))
        rcases hS.out.1.own.2 with ⟨e, hn⟩ | ⟨g, cap, cur, e, _, _, hc, _⟩
        · simp only [Value.slice.injEq] at e
          obtain ⟨rfl, _, rfl⟩ := e
          have hZ : Zr = [] := List.eq_nil_of_length_eq_zero hn
          subst hZ
          go_wp2_with fail
          all_goals
            go_ret
            exact ⟨_, rfl, true, [], ⟨fun _ => VV.out, fun _ => rfl⟩, by rw [← TK.out, ← hZr.out]; rfl, RtsO.nil _ _, below_end hbel.out⟩
        · simp only [Value.slice.injEq, true_and] at e
          obtain ⟨rfl, rfl⟩ := e
          by_cases h31 : Zr.length ≤ 30
          · have hm : min (Zr.length : Int) 30 = Zr.length := by omega
            go_wp2_with fail
            go_ret
            exact ⟨_, rfl, true, Zr, ⟨fun _ => VV.out, fun _ => rfl⟩, by rw [← TK.out, ← hZr.out, List.take_of_length_le (by simp; omega)], hS.out.1.le (by omega), below_end hbel.out⟩
          · have hm : min (Zr.length : Int) 30 = 30 := by omega
            go_wp2_with fail
            go_ret
            exact ⟨_, rfl, true, Zr.take 30, ⟨fun _ => VV.out, fun _ => rfl⟩, by rw [← TK.out, ← hZr.out, List.map_take], (hS.out.1.first (by omega)).le (by omega), below_end hbel.out⟩
    · have hz0' : Zl.length = 0 := by omega
      have hd1 : decide ((0 : Int) < (Zl.length : Int)) = false := by rw [hz0']; rfl
      have WN : wayR D fr to q = [] := by have := congrArg List.length hZl.out; simp at this; exact List.eq_nil_of_length_eq_zero (by omega)
      have TK : Hid ((endR D fr to q).take 30 = rtL true D fr to) := end_take hq (.inl WN)
      clear WN
      rcases hS.out.1.own.2 with ⟨e, hn⟩ | ⟨g, cap, cur, e, _, _, hc, _⟩
      · simp only [Value.slice.injEq] at e
        obtain ⟨rfl, _, rfl⟩ := e
        have hZ : Zr = [] := List.eq_nil_of_length_eq_zero hn
        subst hZ
        go_wp2_with fail
        go_ret
        exact ⟨_, rfl, true, [], ⟨fun _ => VV.out, fun _ => rfl⟩, by rw [← TK.out, ← hZr.out]; rfl, RtsO.nil _ _, below_end hbel.out⟩
      · simp only [Value.slice.injEq, true_and] at e
        obtain ⟨rfl, rfl⟩ := e
        by_cases h31 : Zr.length ≤ 30
        · have hm : min (Zr.length : Int) 30 = Zr.length := by omega
          go_wp2_with fail
          go_ret
          exact ⟨_, rfl, true, Zr, ⟨fun _ => VV.out, fun _ => rfl⟩, by rw [← TK.out, ← hZr.out, List.take_of_length_le (by simp; omega)], hS.out.1.le (by omega), below_end hbel.out⟩
        · have hm : min (Zr.length : Int) 30 = 30 := by omega
          go_wp2_with fail
          go_ret
          exact ⟨_, rfl, true, Zr.take 30, ⟨fun _ => VV.out, fun _ => rfl⟩, by rw [← TK.out, ← hZr.out, List.map_take], (hS.out.1.first (by omega)).le (by omega), below_end hbel.out⟩
end Go.Proofs.Ytgjcppdeljoimaa

namespace Go.Proofs.Ytgjcppdeljoimaa
open Go.RowKit
theorem place_cases (n : Nat) (f : Nat → ByteArray × Int × ByteArray) (x : ByteArray) : placeI n f x = -1 ∨ ∃ k : Nat, k < n ∧ placeI n f x = k := by
  unfold placeI
  cases hf : (List.range n).find? (fun i => eqB (f i).1 x) with
  | none => exact .inl rfl
  | some k => exact .inr ⟨k, List.mem_range.1 (List.mem_of_find?_eq_some hf), rfl⟩
set_option maxRecDepth 100000 in
set_option maxHeartbeats 1000000 in
theorem capS_any (B : Nat) (v0 v1 v2 v3 : Value) (n : Nat) (f : Nat → ByteArray × Int × ByteArray) (x : ByteArray) (w : World) (h : Lst B w v2 n 3 (cP f)) (hB : B ≤ w.heap.size) :
    Calls Try.prog 19 #[.agg #[v0, v1, v2, v3], .string x] w fun e w' => e = .returned (.int .i64 (capI n f x)) ∧ Below w.heap.size w w' := by
  have H : Hid (∀ w', Below w.heap.size w w' → Lst B w' v2 n 3 (cP f)) := fun w' hb => h.kept hb hB
  have k0 : Hid (Below (w.heap.size + 1) (w.alloc (.cells #[v0, v1, v2, v3] 28)) (w.alloc (.cells #[v0, v1, v2, v3] 28))) := Below.refl _ _
  rcases place_cases n f x with hk | ⟨k, hkn, hk⟩
  · have hc : capI n f x = -1 := by unfold capI; rw [hk]; rfl
    rw [hc]
    clear h
    go_enter Try.func19, Try.ntmps19
    go_wp2_with fail
    refine (place_any B v0 v1 v2 v3 n f x _ (H.out _ (below_end k0.out)) (by simp; omega)).mono ?_; rintro e w1 ⟨rfl, hb1⟩
    rw [hk]
    go_wp2_with fail
    go_ret
    exact ⟨rfl, below_end (below_of k0.out hb1)⟩
  · have hc : capI n f x = (f k).2.1 := by unfold capI; rw [hk, if_neg (by omega)]; rfl
    rw [hc]
    obtain ⟨oa, cap, rfl, hm, hcl⟩ := h
    unfold maxLen at hm
    obtain ⟨b, off, rfl, hbB, hcell⟩ := hcl k hkn
    clear hcl
    go_enter Try.func19, Try.ntmps19
    go_wp2_with fail
    refine (place_any B v0 v1 _ v3 n f x _ (H.out _ (below_end k0.out)) (by simp; omega)).mono ?_; rintro e w1 ⟨rfl, hb1⟩
    rw [hk]
    clear hk hc
    have k1 : Hid (Below (w.heap.size + 1) (w.alloc (.cells #[v0, v1, .slice (some ⟨b, off, none⟩) n cap, v3] 28)) w1) := below_of k0.out hb1
    have a2 := box_in k1.out 2 _ rfl
    simp only [List.getElem_toArray, List.getElem_cons_zero, List.getElem_cons_succ] at a2
    have e1 : w1.cell? ⟨b, off + k * 3 + 1, none⟩ = some (.int .i64 (f k).2.1) := old_in k1.out (by omega) (by simpa [cP] using hcell 1 (by omega))
    clear hcell
    go_wp2_with fail
    go_ret
    exact ⟨rfl, below_end k1.out⟩
set_option maxRecDepth 100000 in
set_option maxHeartbeats 1000000 in
theorem othS_any (n a b s x : ByteArray) (w : World) :
    Calls Try.prog 43 #[.agg #[.string n, .string a, .string b, .string s], .string x] w fun e w' => e = .returned (.string (behS (n, a, b, s) x)) ∧ Below w.heap.size w w' := by
  unfold behS
  rw [eqB_comm x a, eqB_comm x b]
  unfold eqB
  cases h1 : (a.toList == x.toList)
  · cases h2 : (b.toList == x.toList)
    · go_enter Try.func43, Try.ntmps43
      go_wp2
      go_ret
      exact ⟨rfl, (Below.refl _ _).alloc (Nat.le_refl _) _⟩
    · go_enter Try.func43, Try.ntmps43
      go_wp2
      go_ret
      exact ⟨rfl, (Below.refl _ _).alloc (Nat.le_refl _) _⟩
  · go_enter Try.func43, Try.ntmps43
    go_wp2
    go_ret
    exact ⟨rfl, (Below.refl _ _).alloc (Nat.le_refl _) _⟩
end Go.Proofs.Ytgjcppdeljoimaa
