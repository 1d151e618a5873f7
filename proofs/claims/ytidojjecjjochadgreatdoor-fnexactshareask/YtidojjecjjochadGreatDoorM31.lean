/-
  Several texts in one.
-/
import Derived.Test.YtidojjecjjochadGreatDoorM29
import Derived.Test.YtidojjecjjochadGreatDoorXso
import Derived.Test.YtidojjecjjochadGreatDoorM15
import Derived.Shelf.RegionOpenPlain
import Derived.Lib.Walk
import Derived.Lib.SliceRun
import Derived.Test.YtidojjecjjochadGreatDoorM11
import Derived.Test.YtidojjecjjochadGreatDoorM25
import Derived.Test.YtidojjecjjochadGreatDoorM7
import Derived.Test.YtidojjecjjochadGreatDoorM23
/-
  The program's joining of two rows of texts, as the model puts names in one by one.
-/
namespace Go.Proofs.YtidojjecjjochadGreatDoor
open Go.RowKit

/-- Names that ascend, as a list. -/
def AscZ (l : List ByteArray) : Prop := l.Pairwise fun a b => ltB a b = true
theorem ltZ_tri {a b : ByteArray} (h1 : ltB a b = false) (h2 : eqB a b = false) : ltB b a = true := by
  rw [ltB_iff]
  have n1 : ¬ a.toList < b.toList := fun h => by rw [(ltB_iff _ _).2 h] at h1; cases h1
  have n2 : a.toList ≠ b.toList := fun h => by
    have : eqB a b = true := by unfold eqB; rw [h]; simp
    rw [this] at h2; cases h2
  rcases List.le_iff_lt_or_eq.1 (List.not_lt.1 n1) with h | h
  · exact h
  · exact absurd h.symm n2
theorem insR_asc : ∀ (l : List ByteArray) (x : ByteArray), AscZ l → AscZ (insR l x)
  | [], x, _ => List.pairwise_singleton _ _
  | z :: l, x, h => by
    obtain ⟨hz, hl⟩ := List.pairwise_cons.1 h
    have ih := insR_asc l x hl
    unfold insR
    cases h1 : ltB z x
    · cases h2 : eqB z x
      · simp only [cond_false]
        have hxz := ltZ_tri h1 h2
        refine List.pairwise_cons.2 ⟨fun y hy => ?_, h⟩
        rcases List.mem_cons.1 hy with rfl | hy
        · exact hxz
        · exact ltB_trans hxz (hz y hy)
      · exact h
    · simp only [cond_true]
      refine List.pairwise_cons.2 ⟨fun y hy => ?_, ih⟩
      rcases insR_memM hy with hy | rfl
      · exact hz y hy
      · exact h1
theorem insF_asc : ∀ (b a : List ByteArray), AscZ a → AscZ (insF a b)
  | [], _, h => h
  | x :: b, a, h => insF_asc b (insR a x) (insR_asc a x h)
theorem ascZ_mono {l : List ByteArray} (h : AscZ l) (x : ByteArray) : ∀ p q (hq : q < l.length) (hpq : p ≤ q), ltB l[q] x = true → ltB (l[p]'(by omega)) x = true := fun p q hq hpq hx => by
  by_cases e : p = q
  · subst e; exact hx
  · exact ltB_trans ((List.pairwise_iff_getElem.1 h) p q (by omega) hq (by omega)) hx
theorem nthZ_is {l : List ByteArray} {i : Nat} (h : i < l.length) : nthB l i = l[i] := by simp [nthB, h]

set_option maxRecDepth 100000 in
set_option maxHeartbeats 4000000 in
theorem togetherZ_any (S1 S2 : Nat → Prop) (a b : List ByteArray) (va vb : Value) (w : World) (ha : AtL S1 w a va) (hb : AtL S2 w b vb) (h1 : ∀ q, S1 q → q < w.heap.size) (h2 : ∀ q, S2 q → q < w.heap.size) (asc : AscZ a) (la : a.length ≤ 100000) (lb : b.length ≤ 100000) (za : ∀ x ∈ a, x.size ≤ 1048576) (zb : ∀ x ∈ b, x.size ≤ 1048576) :
    Calls Tryz.prog 69 #[va, vb] w fun e w' => ∃ q, e = .returned q ∧ Row w' w.heap.size 9 1 eS q (insF a b) ∧ Below w.heap.size w w' := by
  obtain ⟨ob, cb, rfl, hn, hc⟩ := hb
  have HC : Hid (∀ i (h : i < b.length), ∃ g off, ob = some ⟨g, off, none⟩ ∧ S2 g ∧ w.cell? ⟨g, off + i, none⟩ = some (.string b[i])) := fun i hi => by
    obtain ⟨g, off, h1, h2, c, h3, h4⟩ := hc i hi
    have e0 := h3 0 (by decide)
    rw [h4.1] at e0
    exact ⟨g, off, h1, h2, by simpa [width_str] using e0⟩
  clear hc hn
  have ZA : Hid (∀ x ∈ a, x.size ≤ 1048576) := za
  have ZB : Hid (∀ x ∈ b, x.size ≤ 1048576) := zb
  have HA : Hid (AtL S1 w a va) := ha
  have H1 : Hid (∀ q, S1 q → q < w.heap.size) := h1
  have H2 : Hid (∀ q, S2 q → q < w.heap.size) := h2
  have ASC : Hid (AscZ a) := asc
  obtain ⟨n, en⟩ : ∃ n, b.length = n := ⟨_, rfl⟩
  rw [en] at lb
  rw [en]
  have EN : Hid (b.length = n) := en
  clear en ha h1 h2 za zb asc
  obtain ⟨oa, ca, na, rfl⟩ : ∃ oa ca na, va = .slice oa na ca := by obtain ⟨o, c, e, _⟩ := HA.out; exact ⟨o, c, _, e⟩
  go_enter Tryz.func69, Tryz.ntmps69
  go_wp2_with fail
  refine (freshT_any S1 _ a _ HA.out H1.out (by omega) ZA.out).mono ?_
  rintro e w1 ⟨r1, rfl, hr1, hb1⟩
  have HR1 : Hid (Row w1 w.heap.size 9 1 eS r1 a) := hr1
  have HB1 : Hid (Below w.heap.size w w1) := hb1
  clear hr1 hb1
  go_wp2_with fail
  go_loopw [5, 12] (fun r i wr => ∃ k : Nat, k ≤ n ∧ i = .int .i64 k ∧ Hid (Row wr w.heap.size 9 1 eS r (insF a (b.take k))) ∧ Hid (Below w.heap.size w wr)) (fun _ i _ => n - (intOf i).toNat)
  case atStart => exact ⟨0, Nat.zero_le _, rfl, HR1.out, HB1.out⟩
  case round =>
    obtain ⟨k, hk, rfl, hrow, hbel⟩ := hrel
    have hsz := hbel.out.size
    by_cases hlt : k < n
    · have hkb : k < b.length := by have := EN.out; omega
      obtain ⟨g, off, rfl, hgS, c0⟩ := HC.out k hkb
      have e0 := (hbel.out.cell (p := ⟨g, off + k, none⟩) (H2.out g hgS)).trans c0
      clear c0
      have hx := ZB.out _ (List.getElem_mem hkb)
      have HT : Hid (insF a (b.take (k + 1)) = insR (insF a (b.take k)) (b[k]'hkb)) := by show _ = _; rw [insF_next a hkb]
      obtain ⟨x, ex⟩ : ∃ x, b[k]'hkb = x := ⟨_, rfl⟩
      rw [ex] at e0 hx HT
      clear ex
      obtain ⟨l, el⟩ : ∃ l, l = insF a (b.take k) := ⟨_, rfl⟩
      have hll : l.length ≤ 200000 := by have h := insF_len (b.take k) a; rw [← el] at h; have := List.length_take_le k b; have := EN.out; omega
      have HLS : Hid (∀ y ∈ l, y.size ≤ 1048576) := fun y hy => by
        rw [el] at hy
        rcases insF_mem hy with h | h
        · exact ZA.out y h
        · exact ZB.out y (List.mem_of_mem_take h)
      have LA : Hid (AscZ l) := by show AscZ l; rw [el]; exact insF_asc _ _ ASC.out
      rw [← el] at hrow HT
      clear el
      go_wp2_with fail
      refine (clones_any x _ hx).mono ?_
      rintro e u1 ⟨rfl, hbu⟩
      have BU : Hid (Below w.heap.size w u1) := hbel.out.trans (hbu.mono hsz)
      have RU : Hid (Row u1 w.heap.size 9 1 eS _ l) := Row.below hrow.out hbu
      clear hbu
      have hat := flatS.row_at RU.out (S := fun q => w.heap.size ≤ q ∧ q < u1.heap.size) (fun q hq => World.ownsRow.lt RU.out q hq) (fun y hy => Nat.le_trans (HLS.out y hy) (by decide))
      have C : Hid _ := ordS_any (fun q => w.heap.size ≤ q ∧ q < u1.heap.size) w.heap.size l.length _ (enc 1 eS l) l x u1 RU.out hat rfl (fun q hq => hq.2) (by omega) BU.out.size (flatS.enc_one l) (ascZ_mono LA.out x)
      clear hat
      go_wp2_with fail
      refine Calls.mono C.out ?_
      rintro e u2 ⟨kk, hkk, hlo, hge, v', rfl, hcase⟩
      have NEW : Hid (Row u2 w.heap.size 9 1 eS v' (insR l x) ∧ Below w.heap.size w u2) := by
        rcases hcase with ⟨⟨h, heq⟩, rfl, hb2⟩ | ⟨hne, hown, hgr, _⟩
        · refine ⟨?_, BU.out.trans (hb2.mono BU.out.size)⟩
          rw [insR_eq l kk x h (fun j hj => by rw [nthZ_is (by omega)]; exact hlo j (by omega) hj) (by rw [nthZ_is h]; exact heq)]
          exact Row.below RU.out hb2
        · refine ⟨?_, BU.out.grown hgr BU.out.size (fun p hp => (World.ownsRow.lt RU.out p hp).1)⟩
          rw [insR_new l kk x hkk (fun j hj => by rw [nthZ_is (by omega)]; exact hlo j (by omega) hj) (fun h => ⟨by rw [nthZ_is h]; exact hge kk h (Nat.le_refl _), by rw [nthZ_is h]; exact hne h⟩)]
          show World.ownsRow _ _ _ _ _ _ _
          rw [List.length_append, List.length_append, List.length_take, List.length_drop, enc_append, enc_append, ← enc_take, ← enc_drop]
          have e : min kk l.length + [x].length + (l.length - kk) = l.length + 1 := by simp; omega
          rw [e]
          exact hown
      clear hcase hlo hge hkk C RU BU
      obtain ⟨o', c', hv⟩ := Row.form NEW.out.1
      subst hv
      go_wp2_with fail
      go_roundw
      case rel => exact ⟨k + 1, by omega, by go_num, by show Row _ _ _ _ _ _ _; rw [HT.out]; exact NEW.out.1, NEW.out.2⟩
      case measure => simp [intOf]; omega
    · obtain rfl : n = k := by omega
      have htk : Hid (b.take n = b) := by show _ = _; rw [List.take_of_length_le (by have := EN.out; omega)]
      go_wp2_with fail
      go_ret
      refine ⟨_, rfl, ?_, hbel.out⟩
      have := hrow.out
      rw [htk.out] at this
      exact this

end Go.Proofs.YtidojjecjjochadGreatDoor

/-
  One batch taken out of a list of batches of the call's own: the library's slices.Delete.
-/
namespace Go.Proofs.YtidojjecjjochadGreatDoor
open Go.RowKit

theorem run_append_room_k {P : Program} (w : World) (t ty e : TypeId) (i : TypeInfo) (K : Nat) (ht : P.underlying t = some (.slice e)) (hi : P.info? e = some i) (hs : i.size = K)
    (g n cap : Nat) (a : Addr) (m c : Nat) (cur : Array Value) (et : TypeId) (news : List Value) (hg : w.heap[g]? = some (.cells cur et (0, 0))) (hl : news.length = m * K) (hsrc : ∀ j u, news[j]? = some u → w.cell? (a.add j) = some u) (h1 : ∀ u ∈ news, u.oneCell' = true)
    (hroom : n + m ≤ cap) (hfit : n * K + news.length ≤ cur.size) :
    (Builtin.append_ #[t, t] ty #[.slice (some ⟨g, 0, none⟩) n cap, .slice (some a) m c]).run P w = .ok (.slice (some ⟨g, 0, none⟩) (n + m) cap) (w.setRow g (cur.toList.take (n * K) ++ news ++ cur.toList.drop (n * K + news.length)).toArray) := by
  subst hs
  have hfc := run_firstCells_some (P := P) w i.size m a m c news hl hsrc
  have hst := run_storeCells_at P g (n * i.size) et news 0 cur w hg (by simpa using hfit) h1
  simp only [Nat.add_zero] at hst
  simp [Builtin.append_, run_underlying ht, sizeOf, typeInfo, hi, Builtin.lenOf, hroom, hfc, Addr.add_lit, hst]
theorem wp_append_k {P : Program} (w : World) {o : Oper} {a : Act} {K : Act → World → Prop} {Q : Exit → Act → World → Prop} (d s : Operand) (t t' : TypeId)
    (ho : o.op = .call { callee := .builtin .append, args := #[d, s], argTypes := #[t, t'] }) (v u : Value) (hd : a.eval d = v) (hs : a.eval s = u) {v' : Value} {w' : World}
    (hr : (Builtin.append_ #[t, t'] o.type #[v, u]).run P w = .ok v' w') (h : K (a.put o.dst v') w') : o.wp P a w K Q := by
  unfold Oper.wp execOp
  simp only [ho, resolve, invoke, builtin, Sem.run_bind, Sem.run_pure, Result.andThen_ok, List.map_toArray, List.map_cons, List.map_nil, hd, hs, hr]
  exact h
theorem step_append_k {P : Program} {ops : Array Oper} {o : Oper} {a : Act} {w : World} {K : Act → World → Prop} {Q : Exit → Act → World → Prop} {E : Prop}
    (hg : o.guard = none) (d x : Operand) (dT sT : TypeId) (hop : o.op = Op.call { callee := Callee.builtin Builtin.append, args := #[d, x], argTypes := #[dT, sT] })
    (v u : Value) (hd : a.eval d = v) (hx : a.eval x = u) {v' : Value} {w' : World} (hr : (Builtin.append_ #[dT, sT] o.type #[v, u]).run P w = .ok v' w') (hK : K (a.put o.dst v') w') :
    if Region.wanted o (yielded ops a.tmps) = true then Oper.wp P o a w K Q else E := by
  have hw : Region.wanted o (yielded ops a.tmps) = true := by simp [Region.wanted, hg]
  rw [if_pos hw]
  exact wp_append_k w d x dT sT hop v u hd hx hr hK
/-- 'clear(s)' on elements of whatever size. -/
theorem run_clear_k {P : Program} (w : World) (t e ty : TypeId) (z : Value) (ht : P.underlying t = some (.slice e)) (hv : ∀ w, (zeroValue e).run P w = .ok z w) (g o n c : Nat) (hn : 0 < n) (cur : Array Value) (et : TypeId) (hg : w.heap[g]? = some (.cells cur et (0, 0))) (zs : List Value) (hz : (Builtin.zeroCells z.cells n).toList = zs) (hfit : o + zs.length ≤ cur.size) (h1 : ∀ u ∈ zs, u.oneCell' = true) :
    (Builtin.clear_ #[t] ty #[.slice (some ⟨g, o, none⟩) n c]).run P w = .ok (.tuple #[]) (w.setRow g (cur.toList.take o ++ zs ++ cur.toList.drop (o + zs.length)).toArray) := by
  have hst := run_storeCells_at P g o et zs 0 cur w hg (by simpa using hfit) h1
  simp only [Nat.add_zero] at hst
  obtain ⟨m, rfl⟩ : ∃ m, n = m + 1 := ⟨n - 1, by omega⟩
  simp [Builtin.clear_, run_underlying ht, hv, hz, hst]

set_option maxRecDepth 100000 in
set_option maxHeartbeats 8000000 in
theorem delB_any (g cap n i : Nat) (cur : Array Value) (xs : List Value) (w : World) (hg : w.heap[g]? = some (.cells cur 44 (0, 0))) (hc : cur.size = cap * 3) (hxs : cur.toList.take (n * 3) = xs) (hxl : xs.length = n * 3) (hi : i < n) (hnc : n ≤ cap) (h1c : ∀ u ∈ xs, u.oneCell' = true) :
    Calls Tryz.prog 73 #[.slice (some ⟨g, 0, none⟩) n cap, .int .i64 i, .int .i64 ((i : Int) + 1)] w fun e w' => e = .returned (.slice (some ⟨g, 0, none⟩) (n - 1) cap) ∧ ∃ R : Array Value, w'.heap[g]? = some (.cells R 44 (0, 0)) ∧ R.size = cap * 3 ∧ R.toList.take ((n - 1) * 3) = xs.take (i * 3) ++ xs.drop ((i + 1) * 3) ∧ w.grownBy w' (some g) := by
  obtain ⟨i0, z0, hi0, hz0, hzs, hzb, _⟩ := elB.info
  have hzv : ∀ w, (zeroValue 44).run Tryz.prog w = .ok (.agg #[.string ByteArray.empty, .slice none 0 0, .slice none 0 0]) w := fun w => by kernel_rfl
  have hadd : ∀ (b o j : Nat), (⟨b, o, none⟩ : Addr).add j = ⟨b, o + j, none⟩ := fun b o j => by unfold Addr.add; split <;> simp_all
  have hcell : ∀ j v, xs[j]? = some v → w.cell? ⟨g, j, none⟩ = some v := fun j v hj => by
    rw [← hxs, List.getElem?_take] at hj
    split at hj
    · simp [World.cell?, hg]; simpa using hj
    · cases hj
  have hD : (xs.drop ((i + 1) * 3)).length = (n - (i + 1)) * 3 := by rw [List.length_drop, hxl, Nat.sub_mul]
  obtain ⟨A, hA, hsrc⟩ : ∃ A : Addr, (if cap = i + 1 then some (⟨g, 0, none⟩ : Addr) else some ⟨g, (i + 1) * 3, none⟩) = some A ∧ Hid (∀ t u, (xs.drop ((i + 1) * 3))[t]? = some u → w.drew.cell? (A.add t) = some u) := by
    by_cases h : cap = i + 1
    · refine ⟨⟨g, 0, none⟩, by simp [h], fun t u hu => ?_⟩
      have h0 : (xs.drop ((i + 1) * 3)).length = 0 := by rw [hD]; omega
      rw [List.length_eq_zero_iff.1 h0] at hu
      simp at hu
    · refine ⟨⟨g, (i + 1) * 3, none⟩, by simp [h], fun t u hu => ?_⟩
      rw [hadd]
      exact hcell _ u (by rw [List.getElem?_drop] at hu; exact hu)
  obtain ⟨c1, ec1⟩ : ∃ c1 : Array Value, c1 = (cur.toList.take (i * 3) ++ xs.drop ((i + 1) * 3) ++ cur.toList.drop (i * 3 + (xs.drop ((i + 1) * 3)).length)).toArray := ⟨_, rfl⟩
  have hc1 : c1.size = cap * 3 := by rw [ec1, List.size_toArray, List.length_append, List.length_append, hD, List.length_take, List.length_drop, Array.length_toList, hc]; omega
  have happ : ∀ ty, (Builtin.append_ #[28, 28] ty #[.slice (some ⟨g, 0, none⟩) i cap, .slice (some A) (n - (i + 1)) (cap - (i + 1))]).run Tryz.prog w.drew = .ok (.slice (some ⟨g, 0, none⟩) (n - 1) cap) (w.drew.setRow g c1) := fun ty => by
    have h := run_append_room_k w.drew 28 ty 44 i0 3 elB.ht hi0 hzs g i cap A (n - (i + 1)) (cap - (i + 1)) cur 44 (xs.drop ((i + 1) * 3)) hg hD hsrc.out (fun u hu => h1c u (List.mem_of_mem_drop hu)) (by omega) (by rw [hD, hc]; omega)
    rw [← ec1, show i + (n - (i + 1)) = n - 1 by omega] at h
    exact h
  obtain ⟨W1, hW1⟩ : ∃ W1, W1 = w.drew.setRow g c1 := ⟨_, rfl⟩
  have hgW : W1.heap[g]? = some (.cells c1 44 (0, 0)) := by rw [hW1]; exact setRow_heap w.drew g cur c1 _ _ hg
  rw [← hW1] at happ
  obtain ⟨R, eR⟩ : ∃ R : Array Value, R = (c1.toList.take ((n - 1) * 3) ++ ([.string ByteArray.empty, .slice none 0 0, .slice none 0 0] : List Value) ++ c1.toList.drop ((n - 1) * 3 + 3)).toArray := ⟨_, rfl⟩
  have hcl : ∀ ty, (Builtin.clear_ #[28] ty #[.slice (some ⟨g, (n - 1) * 3, none⟩) (n - (n - 1)) (cap - (n - 1))]).run Tryz.prog W1 = .ok (.tuple #[]) (W1.setRow g R) := fun ty => by
    have h := run_clear_k W1 28 44 ty _ elB.ht hzv g ((n - 1) * 3) (n - (n - 1)) (cap - (n - 1)) (by omega) c1 _ hgW [.string ByteArray.empty, .slice none 0 0, .slice none 0 0] (by rw [show n - (n - 1) = 1 by omega]; kernel_rfl) (by rw [hc1]; simp; omega) (by intro u hu; simp at hu; rcases hu with rfl | rfl <;> rfl)
    rw [show ((n - 1) * 3 + ([Value.string ByteArray.empty, .slice none 0 0, .slice none 0 0] : List Value).length) = (n - 1) * 3 + 3 from rfl, ← eR] at h
    exact h
  have hT : (cur.toList.take (i * 3)) = xs.take (i * 3) := by rw [← hxs, List.take_take, Nat.min_eq_left (by omega)]
  have hTl : (xs.take (i * 3)).length = i * 3 := by rw [List.length_take, hxl]; omega
  have hfin : R.size = cap * 3 ∧ R.toList.take ((n - 1) * 3) = xs.take (i * 3) ++ xs.drop ((i + 1) * 3) := by
    constructor
    · rw [eR, List.size_toArray, List.length_append, List.length_append, List.length_take, List.length_drop, Array.length_toList, hc1]; simp; omega
    · rw [eR]
      simp only [List.append_assoc]
      rw [List.take_append_of_le_length (by rw [List.length_take, Array.length_toList, hc1]; omega), List.take_take, Nat.min_self, ec1]
      simp only [hT]
      rw [List.take_append_of_le_length (by rw [List.length_append, hTl, hD]; omega), List.take_of_length_le (by rw [List.length_append, hTl, hD]; omega)]
  have mixed : Tryz.prog.follows .mixedOrders = true := by kernel_rfl
  have hz2 : ¬ ((i : Int) = (i : Int) + 1) := by omega
  have hb1 : (0 : Int) ≤ (i : Int) + 1 := by omega
  have hb2 : (i : Int) + 1 ≤ (n : Int) := by omega
  have hb3 : (i : Int) + 1 ≤ (cap : Int) := by omega
  have htn : ((i : Int) + 1).toNat = i + 1 := by omega
  have hic : i ≤ cap := by omega
  have hjc : i + 1 ≤ cap := by omega
  have hb4 : ¬ (cap = n - 1) := by omega
  have hb5 : n - 1 ≤ n := by omega
  have hb6 : n - 1 ≤ cap := by omega
  have HF : Hid _ := hfin
  have HG : Hid (w.heap[g]? = some (.cells cur 44 (0, 0))) := hg
  have HW : Hid (W1 = w.drew.setRow g c1) := hW1
  clear hfin eR ec1 hcell hD hc1 hg hc hxs hxl hW1 hgW hT hTl hsrc
  go_enter Tryz.func73, Tryz.ntmps73
  go_wp2_with fail
  go_region_law_o (refine step_append_k rfl (.tmp 22) (.tmp 25) 28 28 rfl _ _ (by simp [Act.eval, Act.put]) (by simp [Act.eval, Act.put]) (happ _) ?_)
  go_wp2
  go_ret
  refine ⟨rfl, R, ?_, HF.out.1, HF.out.2, ?_⟩
  · rw [HW.out, setRow_setRow]; exact setRow_heap w.drew g cur R _ _ HG.out
  · rw [HW.out]
    exact ⟨rfl, rfl, rfl, Nat.le_of_eq (by rw [setRow_size, setRow_size]; rfl), fun q hq hne => by
      rw [setRow_setRow, setRow_other w.drew g q R (fun e => hne (by rw [e]))]; rfl⟩

end Go.Proofs.YtidojjecjjochadGreatDoor

/-
  Somebody who shares goes, in a book of the call's own: the program's letLeave.
-/
namespace Go.Proofs.YtidojjecjjochadGreatDoor
open Go.RowKit Go.Sort

theorem eH_one (L : List HB) (h : ∀ x ∈ L, ∃ a b c a' b' c', x.2.1.1 = .slice a b c ∧ x.2.2.1 = .slice a' b' c') : ∀ u ∈ enc 3 eH L, u.oneCell' = true := fun u hu => by
  obtain ⟨x, hx, j, hj, rfl⟩ := enc_mem hu
  obtain ⟨a, b, c, a', b', c', e1, e2⟩ := h x hx
  match j, hj with
  | 0, _ => rfl
  | 1, _ => show x.2.1.1.oneCell' = true; rw [e1]; rfl
  | 2, _ => show x.2.2.1.oneCell' = true; rw [e2]; rfl
theorem BsO.one {B : Nat} {w : World} {v1 : Value} {L : List HB} (h : BsO B w v1 L) : ∀ u ∈ enc 3 eH L, u.oneCell' = true :=
  eH_one L fun x hx => by
    obtain ⟨a, b, e1⟩ := Row.form (h.el x hx).h
    obtain ⟨a', b', e2⟩ := Row.form (h.el x hx).n
    exact ⟨_, _, _, _, _, _, e1, e2⟩
theorem tyK_ne {w : World} {g : Nat} {c c' : Array Value} (h : w.heap[g]? = some (.cells c 30 (0, 0))) (h' : w.heap[g]? = some (.cells c' 44 (0, 0))) : False := by
  rw [h] at h'
  injection h' with h1
  injection h1 with _ h2
  revert h2
  decide
theorem tyKS_ne {w : World} {g : Nat} {c c' : Array Value} (h : w.heap[g]? = some (.cells c 30 (0, 0))) (h' : w.heap[g]? = some (.cells c' 9 (0, 0))) : False := by
  rw [h] at h'
  injection h' with h1
  injection h1 with _ h2
  revert h2
  decide
/-- The book in its box, when the list of batches alone, and the box, have turned. -/
theorem PkO.turn {B gb g : Nat} {w w2 : World} {v0 v1 v' : Value} {T : List ByteArray} {L L' : List HB} (h : PkO B w v0 v1 T L) (hbx : ∃ c, w.heap[gb]? = some (.cells c 30 (0, 0))) (hgt : ∃ c, w.heap[g]? = some (.cells c 44 (0, 0))) (hk : ∀ b, b < w.heap.size → b ≠ g → b ≠ gb → w2.heap[b]? = w.heap[b]?) (hr : Row w2 B 44 3 eH v' L') (hs : L'.Sublist L) : PkO B w2 v0 v' T L' := by
  obtain ⟨cb, hbx⟩ := hbx
  obtain ⟨cg, hgt⟩ := hgt
  have kp : ∀ (q : Nat) (c : Array Value), w.heap[q]? = some (.cells c 9 (0, 0)) → w2.heap[q]? = w.heap[q]? := fun q c hc => hk q (Array.getElem?_eq_some_iff.1 hc).1 (fun e => by subst e; exact tyS_ne hc hgt) (fun e => by subst e; exact tyKS_ne hbx hc)
  refine ⟨strRow_kept h.th kp, h.zt, ⟨hr, fun x hx => ((h.bs.el x (hs.subset hx)).kept kp)⟩, ?_⟩
  exact h.nd.sublist (List.Sublist.append (List.Sublist.refl _) (hdB_sub hs))

set_option maxRecDepth 100000 in
set_option maxHeartbeats 8000000 in
theorem letLv_any (B gb q : Nat) (v0 v1 : Value) (T : List ByteArray) (L : List HB) (x : ByteArray) (w : World) (hbx : w.heap[gb]? = some (.cells #[v0, v1] 30 (0, 0))) (hp : PkO B w v0 v1 T L) (hgb : B ≤ gb) (hq : atI (L.map dH) x = (q : Int)) (hql : q < L.length) (hL : L.length ≤ 64) :
    Calls Tryz.prog 54 #[.pointer (some ⟨gb, 0, none⟩), .agg #[.string x]] w fun e w' => e = .returned (.tuple #[]) ∧ ∃ v1', w'.heap[gb]? = some (.cells #[v0, v1'] 30 (0, 0)) ∧ PkO B w' v0 v1' T (L.take q ++ L.drop (q + 1)) ∧ Below B w w' := by
  have hro := hp.bs.ro
  obtain ⟨o0, k0, rfl⟩ := Row.form hp.th
  rcases hro.2 with ⟨_, h0⟩ | ⟨g, cap, cur, rfl, hbg, hg, hnc, hm, hcs, hxs⟩
  · omega
  have hgl := (Array.getElem?_eq_some_iff.1 hg).1
  have hbl := (Array.getElem?_eq_some_iff.1 hbx).1
  have hne : gb ≠ g := fun e => by subst e; exact tyK_ne hbx hg
  obtain ⟨n, en⟩ : ∃ n, L.length = n := ⟨_, rfl⟩
  obtain ⟨nt, ent⟩ : ∃ n, T.length = n := ⟨_, rfl⟩
  have HXL : Hid ((enc 3 eH L).length = n * 3) := by show _ = _; rw [enc_len, en]
  rw [en] at hql hL hnc hxs hbx hp hro
  rw [ent] at hbx hp
  rw [ent]
  obtain ⟨W, hW⟩ : ∃ W, W = w.alloc (.cells #[.string x] 93) := ⟨_, rfl⟩
  have EW : Hid (W = w.alloc (.cells #[.string x] 93)) := hW
  have BW : Hid (Below w.heap.size w W) := by rw [hW]; exact (Below.refl _ _).alloc (Nat.le_refl _) _
  have RX : Hid (W.heap[w.heap.size]? = some (.cells #[.string x] 93 (0, 0))) := by rw [hW]; exact heap_alloc_new w _
  clear hW
  have HP : Hid (PkO B w (.slice o0 nt k0) (.slice (some ⟨g, 0, none⟩) n cap) T L) := hp
  have HBX : Hid (w.heap[gb]? = some (.cells #[.slice o0 nt k0, .slice (some ⟨g, 0, none⟩) n cap] 30 (0, 0))) := hbx
  have HG : Hid (w.heap[g]? = some (.cells cur 44 (0, 0))) := hg
  have HAT : Hid (∀ u, Below w.heap.size w u → AtL (fun b => b < w.heap.size) u (L.map dH) (.slice (some ⟨g, 0, none⟩) n cap)) := fun u hu => (hp.at_.2.up (fun b hb => hb.2)).same (Same.of_below hu (fun b hb => hb))
  have HEN : Hid (L.length = n) := en
  have HQ : Hid (idxI (L.map dH) (fun p : DShareBatch => eqB p.1 x) = (q : Int)) := hq
  have HXS : Hid (cur.toList.take (n * 3) = enc 3 eH L) := hxs
  have HON : Hid (∀ u ∈ enc 3 eH L, u.oneCell' = true) := hp.bs.one
  have HM : Hid (cap ≤ maxLen) := hm
  have HCS : Hid (cur.size = cap * 3) := hcs
  have HB : Hid (B ≤ g ∧ B ≤ gb) := ⟨hbg, hgb⟩
  clear hp hbx hg hq hxs hro hm en ent hcs hbg hgb
  have RB := (BW.out.block gb hbl).trans HBX.out
  have z0 := (cell_row RB 0 (.slice o0 nt k0) rfl).1
  have z1 := (cell_row RB 1 (.slice (some ⟨g, 0, none⟩) n cap) rfl).1
  have z2 := (cell_row RX.out 0 (.string x) rfl).1
  have q0 := fun d os => cell_regrown z0 d os
  have q1 := fun d os => cell_regrown z1 d os
  have q2 := fun d os => cell_regrown z2 d os
  go_enter Tryz.func54, Tryz.ntmps54
  go_upto_region 1 with fail
  rw [← EW.out]
  refine wp_region_head_tail 5 (by kernel_rfl) (by kernel_rfl) ?_
  simp only [List.take_succ_cons, List.take_zero, List.drop_succ_cons, List.drop_zero]
  repeat (first | go_big_quiet_step (fail) | quiet_step (fail))
  refine wpQuiet_nil ?_
  intro _ hw'
  obtain ⟨⟨dq, osq⟩, hw''⟩ := hw'
  subst hw''
  have HU0 : Hid (Below W.heap.size W (grow (redrawn W dq) osq)) := below_regrown W dq osq
  generalize grow (redrawn W dq) osq = u at HU0 ⊢
  have HU : Hid (Below w.heap.size w u) := BW.out.trans (HU0.out.mono BW.out.size)
  clear q0 q1 q2 z0 z1 z2 RB HU0 RX BW EW
  go_wp2_with fail
  refine (batchAtI_any (fun b => b < w.heap.size) _ _ (L.map dH) x u (HAT.out u HU.out) (fun b hb => Nat.lt_of_lt_of_le hb HU.out.size)).mono ?_
  rintro e w1 ⟨rfl, hb1⟩
  rw [HQ.out]
  have HW1 : Hid (Below w.heap.size w w1) := HU.out.trans (hb1.mono HU.out.size)
  clear hb1 HU HAT
  have RB := (HW1.out.block gb hbl).trans HBX.out
  have z1 := (cell_row RB 1 (.slice (some ⟨g, 0, none⟩) n cap) rfl).1
  go_wp2_with fail
  refine (delB_any g cap n q cur (enc 3 eH L) w1 ((HW1.out.block g hgl).trans HG.out) HCS.out HXS.out HXL.out hql hnc HON.out).mono ?_
  rintro e w2 ⟨rfl, R, hR, hRs, hRt, hgr⟩
  have HR : Hid (w2.heap[g]? = some (.cells R 44 (0, 0)) ∧ R.size = cap * 3 ∧ R.toList.take ((n - 1) * 3) = (enc 3 eH L).take (q * 3) ++ (enc 3 eH L).drop ((q + 1) * 3)) := ⟨hR, hRs, hRt⟩
  have HGR : Hid (w1.grownBy w2 (some g)) := hgr
  have RB2 : Hid (w2.heap[gb]? = some (.cells #[.slice o0 nt k0, .slice (some ⟨g, 0, none⟩) n cap] 30 (0, 0))) := (hgr.block gb (Nat.lt_of_lt_of_le hbl HW1.out.size) (fun e => hne (by injection e))).trans RB
  clear hR hRs hRt hgr RB z1
  obtain ⟨z1, f1⟩ := cell_row RB2.out 1 (.slice (some ⟨g, 0, none⟩) n cap) rfl
  go_wp2_with fail
  go_end0
  have b12 : Below B w w2 := ((HW1.out.mono (Nat.le_trans HB.out.1 (Nat.le_of_lt hgl))).grown HGR.out (Nat.le_trans (Nat.le_trans HB.out.1 (Nat.le_of_lt hgl)) HW1.out.size) (fun p hp => by injection hp with h; subst h; exact HB.out.1))
  refine ⟨rfl, .slice (some ⟨g, 0, none⟩) (n - 1) cap, by rw [set_row RB2.out 1 _]; rfl, ?_, b12.setCell (p := ⟨gb, 1, none⟩) HB.out.2 _⟩
  have hlen : (L.take q ++ L.drop (q + 1)).length = n - 1 := by have := HEN.out; rw [List.length_append, List.length_take, List.length_drop]; omega
  refine HP.out.turn (gb := gb) (g := g) ⟨_, HBX.out⟩ ⟨_, HG.out⟩ (fun b hb h1 h2 => ?_) ?_ ?_
  · exact (Below.heap_setCell _ _ _ _ (show b ≠ gb from h2)).trans ((HGR.out.block b (Nat.lt_of_lt_of_le hb HW1.out.size) (fun e => h1 (by injection e))).trans (HW1.out.block b hb))
  · refine ⟨by rw [enc_len], .inr ⟨g, cap, R, by rw [hlen], HB.out.1, (Below.heap_setCell _ _ _ _ (show g ≠ gb from fun e => hne e.symm)).trans HR.out.1, by rw [hlen]; omega, HM.out, HR.out.2.1, ?_⟩⟩
    rw [hlen, HR.out.2.2, enc_append, enc_take, enc_drop]
  · have : (L.take q ++ L.drop (q + 1)).Sublist (L.take q ++ L.drop q) := List.Sublist.append (List.Sublist.refl _) (by rw [← List.drop_drop]; exact List.drop_sublist _ _)
    rwa [List.take_append_drop] at this

end Go.Proofs.YtidojjecjjochadGreatDoor

/-
  Laws on a region that draws its order, step by step, with the place that is written told: what is put stays small. No program is named here.
-/
namespace Go.Proofs.YtidojjecjjochadGreatDoor
open Go.Sort

section
variable {P : Program}
theorem takeHd {Q : Exit → Act → World → Prop} {l : List Oper} {n f : Nat} {listed : Array Bool} {i d : Nat} {oi : Oper} {a : Act} {w : World} (v : Value) (hi : l.toArray[i]? = some oi ∧ oi.dst = some d) (hB : takeB l n listed i = true) (hw : Region.wanted oi (yielded l.toArray a.tmps) = true) (hrun : ∀ w, (execOp a.eval oi).run P w = .ok (.value v) w)
    (h : anyH P .any l.toArray (fun _ => True) n (tailC P Q l n) f (listed.setIfInBounds i true) (a.put (some d) v) w) : anyH P .any l.toArray (fun _ => True) n (tailC P Q l n) (f + 1) listed a w := by
  obtain ⟨h1, h2⟩ := hi
  refine takeH v h1 hB hw hrun ?_
  rw [h2]; exact h
variable {ops : Array Oper} {C : World → Prop} {n : Nat} {L : Array Bool → Act → World → Prop}
theorem oneHd {f : Nat} {listed : Array Bool} {i d : Nat} {oc : Oper} {a : Act} {w : World} (u : Value) (w' : World)
    (hc : ops[i]? = some oc ∧ oc.dst = some d) (hin : i < n) (r0 : Region.ready .any ops listed = [i]) (hw : Region.wanted oc (yielded ops a.tmps) = true)
    (run : (execOp a.eval oc).run P w = .ok (.value u) w') (hC : C w') (h : anyH P .any ops C n L f (listed.setIfInBounds i true) (a.put (some d) u) w') : anyH P .any ops C n L (f + 1) listed a w := by
  refine oneH u w' ⟨hc.1, hin⟩ r0 hw run hC ?_
  rw [hc.2]; exact h
theorem stepHd {i d : Nat} {K : Act → World → Prop} {oc : Oper} {a : Act} {w : World} (u : Value) (w' : World) (hc : ops[i]? = some oc ∧ oc.dst = some d) (hw : Region.wanted oc (yielded ops a.tmps) = true) (run : (execOp a.eval oc).run P w = .ok (.value u) w') (hk : K (a.put (some d) u) w') : stepH P ops i K a w := by
  refine stepH_value u w' hc.1 hw run ?_
  rw [hc.2]; exact hk
theorem stepHc {i d : Nat} {K : Act → World → Prop} {oc : Oper} {a : Act} {w : World} {fn : FuncId} {args : Array Value} (hc : ops[i]? = some oc ∧ oc.dst = some d) (hw : Region.wanted oc (yielded ops a.tmps) = true) (run : (execOp a.eval oc).run P w = .ok (.enter fn args) w) (con : Calls P fn args w fun e w' => ∃ v, e = .returned v ∧ K (a.put (some d) v) w') : stepH P ops i K a w :=
  stepH_call hc.1 hw run (con.mono fun e w' ⟨v, he, hk⟩ => ⟨v, he, by rw [hc.2]; exact hk⟩)
theorem callHd {f : Nat} {listed : Array Bool} {i d : Nat} {oc : Oper} {a : Act} {w : World} {fn : FuncId} {args : Array Value} (hc : ops[i]? = some oc ∧ oc.dst = some d) (hin : i < n) (r0 : Region.ready .any ops listed = [i]) (hw : Region.wanted oc (yielded ops a.tmps) = true)
    (run : (execOp a.eval oc).run P w = .ok (.enter fn args) w) (con : Calls P fn args w fun e w' => ∃ v, e = .returned v ∧ C w' ∧ anyH P .any ops C n L f (listed.setIfInBounds i true) (a.put (some d) v) w') : anyH P .any ops C n L (f + 1) listed a w :=
  callH ⟨hc.1, hin⟩ r0 hw run (con.mono fun e w' ⟨v, he, h1, h2⟩ => ⟨v, he, h1, by rw [hc.2]; exact h2⟩)
theorem storeHd {f : Nat} {listed : Array Bool} {i : Nat} {oc : Oper} {a : Act} {w : World} (w' : World)
    (hc : ops[i]? = some oc ∧ oc.dst = none) (hin : i < n) (r0 : Region.ready .any ops listed = [i]) (hw : Region.wanted oc (yielded ops a.tmps) = true)
    (run : (execOp a.eval oc).run P w = .ok .skip w') (hC : C w') (h : anyH P .any ops C n L f (listed.setIfInBounds i true) a w') : anyH P .any ops C n L (f + 1) listed a w := by
  refine storeH w' ⟨hc.1, hin⟩ r0 hw run hC ?_
  rw [hc.2]; exact h
end
end Go.Proofs.YtidojjecjjochadGreatDoor
