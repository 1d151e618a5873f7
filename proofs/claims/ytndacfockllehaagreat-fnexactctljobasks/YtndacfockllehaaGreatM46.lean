/-
  Several texts in one.
-/
import Derived.Test.YtndacfockllehaaGreatM42
import Derived.Test.YtndacfockllehaaGreatM45
import Derived.Test.YtndacfockllehaaGreatM34
import Derived.Test.YtndacfockllehaaGreatKi
/-
  What a job asks, by the model and by the program.
-/
namespace Go.Proofs.YtndacfockllehaaGreat
open Go.RowKit

def JaIs (D : PD) (num kind am : Int) (m : Nat) (P : Nat → ByteArray) (k : Nat) (Q : Nat → ByteArray) (ts ls : List ByteArray) (q : List DCtlAsk) : Prop := (kind = 1 → RaIs D num am m P k Q ts q) ∧ (kind ≠ 1 → PaIs D num kind ls q)
def JbIs (D : PD) (num kind am : Int) (m : Nat) (P : Nat → ByteArray) (k : Nat) (Q : Nat → ByteArray) (ts ls : List ByteArray) (q : List DCtlAsk) : Prop := (kind = 1 → RaIs D num am m P k Q ts q) ∧ (kind ≠ 1 → PsIs D num kind ls q)
def JaE (D : PD) (num kind am : Int) (m : Nat) (P : Nat → ByteArray) (k : Nat) (Q : Nat → ByteArray) (ts ls : List ByteArray) (S : Nat → Prop) (w' : World) (e : Ending) : Prop := ∃ r q, e = .returned r ∧ JaIs D num kind am m P k Q ts ls q ∧ OnL S w' q r
def JbE (D : PD) (num kind am : Int) (m : Nat) (P : Nat → ByteArray) (k : Nat) (Q : Nat → ByteArray) (ts ls : List ByteArray) (S : Nat → Prop) (w' : World) (e : Ending) : Prop := ∃ r q, e = .returned r ∧ JbIs D num kind am m P k Q ts ls q ∧ OnL S w' q r
theorem ja_same {D : PD} {num kind am : Int} {m : Nat} {P : Nat → ByteArray} {k : Nat} {Q : Nat → ByteArray} {ts ls : List ByteArray} {q q1 : List DCtlAsk} (h : JaIs D num kind am m P k Q ts ls q) (h1 : JbIs D num kind am m P k Q ts ls q1) : q1 = q := by
  by_cases c : kind = 1
  · exact ra_same (h.1 c) (h1.1 c)
  · exact pa_same (h.2 c) (h1.2 c)
theorem ja_cnt {D : PD} {num kind am : Int} {m : Nat} {P : Nat → ByteArray} {k : Nat} {Q : Nat → ByteArray} {ts ls : List ByteArray} {q : List DCtlAsk} (h : JaIs D num kind am m P k Q ts ls q) (hl : ts.length ≤ 1048576) : cntL q ≤ 40000000 := by
  by_cases c : kind = 1
  · exact ra_cnt (h.1 c) hl
  · exact Nat.le_trans (pa_cnt (h.2 c)) (by decide)

set_option maxRecDepth 100000 in
set_option maxHeartbeats 4000000 in
theorem jobAsksS_any (B : Nat) (S : Nat → Prop) (v0 v1 v2 v3 : Value) (D : PD) (num kind am st mv : Int) (dn : Bool) (op ov : Option Addr) (m k cm ck : Nat) (P Q : Nat → ByteArray) (ts ls : List ByteArray) (vl vt v7 : Value) (w : World) (h : PAt B w v0 v1 v2 v3 D) (hP : Lst B w (.slice op m cm) m 1 (cS P)) (hQ : Lst B w (.slice ov k ck) k 1 (cS Q)) (hB : B ≤ w.heap.size) (hz : D.Sz) (hcm : m ≤ cm) (hm : m ≤ 1048576) (hk : k ≤ 1048576) (hzp : ∀ i, i < m → (P i).size ≤ maxLen) (hzq : ∀ i, i < k → (Q i).size ≤ maxLen) 
    (ht : AtL S w ts vt) (hv : AtL S w ls vl) (hS : ∀ b, S b → b < w.heap.size) (hl : ts.length ≤ 1048576) (hn : OkI num) (hd : OkI kind) (ha : OkI am) (hsl : D.V → (stL true D).length ≤ 1048576) :
    Calls Tryz.prog 6 #[.agg #[v0, v1, v2, v3], .agg #[.int .i64 num, .int .i64 kind, .slice op m cm, .slice ov k ck, vl, vt, .int .i64 am, .int .i64 st, v7, .int .i64 mv, .bool dn]] w fun e w' => JaE D num kind am m P k Q ts ls (fun b => w.heap.size ≤ b ∧ b < w'.heap.size) w' e ∧ Below w.heap.size w w' := by
  have H : Hid (∀ w', Below w.heap.size w w' → (PAt B w' v0 v1 v2 v3 D ∧ Lst B w' (.slice op m cm) m 1 (cS P) ∧ Lst B w' (.slice ov k ck) k 1 (cS Q)) ∧ AtL S w' ts vt ∧ AtL S w' ls vl) := fun w' hb => ⟨⟨h.kept hb hB, hP.kept hb hB, hQ.kept hb hB⟩, ht.same (Same.of_below hb hS), hv.same (Same.of_below hb hS)⟩
  clear h hP hQ ht hv
  have e0 : Hid (Below w.heap.size w ((w.alloc (.cells #[v0, v1, v2, v3] 40)).alloc (.cells #[.int .i64 num, .int .i64 kind, .slice op m cm, .slice ov k ck, vl, vt, .int .i64 am, .int .i64 st, v7, .int .i64 mv, .bool dn] 44))) := two_end (Below.refl _ _)
  have z0 := e0.out.size
  by_cases c : kind = 1
  · subst c
    go_enter Tryz.func6, Tryz.ntmps6
    go_wp2_with fail
    refine (routeAsksS_any B S v0 v1 v2 v3 D num am op ov m k cm ck P Q ts vt _ (H.out _ e0.out).1.1 (H.out _ e0.out).1.2.1 (H.out _ e0.out).1.2.2 (Nat.le_trans hB z0) hz hcm hm hk hzp hzq (H.out _ e0.out).2.1 (fun b hb => Nat.lt_of_lt_of_le (hS b hb) z0) hl hn ha hsl).mono ?_
    rintro e w1 ⟨⟨r, q, rfl, is, on⟩, hb⟩
    go_wp2_with fail
    go_ret
    exact ⟨⟨r, q, rfl, ⟨fun _ => is, fun h => absurd rfl h⟩, on.up (fun b hb => ⟨Nat.le_trans z0 hb.1, hb.2⟩)⟩, e0.out.trans (hb.mono z0)⟩
  · go_enter Tryz.func6, Tryz.ntmps6
    go_wp2_with fail
    refine (placeAsksS_any B S v0 v1 v2 v3 D num kind ls vl _ (H.out _ e0.out).1.1 (Nat.le_trans hB z0) hz (H.out _ e0.out).2.2 (fun b hb => Nat.lt_of_lt_of_le (hS b hb) z0) hn hd hsl).mono ?_
    rintro e w1 ⟨r, q, rfl, is, on, hb⟩
    go_wp2_with fail
    go_ret
    exact ⟨⟨r, q, rfl, ⟨fun h => absurd h c, fun _ => is⟩, on.up (fun b hb => ⟨Nat.le_trans z0 hb.1, hb.2⟩)⟩, e0.out.trans (hb.mono z0)⟩

set_option maxRecDepth 100000 in
set_option maxHeartbeats 4000000 in
theorem jobAsksI_any (B : Nat) (S : Nat → Prop) (v0 v1 v2 v3 : Value) (D : PD) (num kind am st mv : Int) (dn : Bool) (op ov : Option Addr) (m k cm ck : Nat) (P Q : Nat → ByteArray) (ts ls : List ByteArray) (vl vt v7 : Value) (w : World) (h : PAt B w v0 v1 v2 v3 D) (hP : Lst B w (.slice op m cm) m 1 (cS P)) (hQ : Lst B w (.slice ov k ck) k 1 (cS Q)) (hB : B ≤ w.heap.size) (hz : D.Sz) (hcm : m ≤ cm) 
    (ht : AtL S w ts vt) (hv : AtL S w ls vl) (hS : ∀ b, S b → b < w.heap.size) (hl : ts.length ≤ 1048576) (hs : ∀ x ∈ ts, x.size ≤ 1048576) (hn : OkI num) (hd : OkI kind) (ha : OkI am) (hsl : D.V → (stnL D).length ≤ 1048576) :
    Calls Tryz.prog 9 #[.agg #[v0, v1, v2, v3], .agg #[.int .i64 num, .int .i64 kind, .slice op m cm, .slice ov k ck, vl, vt, .int .i64 am, .int .i64 st, v7, .int .i64 mv, .bool dn]] w fun e w' => JbE D num kind am m P k Q ts ls (fun b => w.heap.size ≤ b ∧ b < w'.heap.size) w' e ∧ Below w.heap.size w w' := by
  have H : Hid (∀ w', Below w.heap.size w w' → (PAt B w' v0 v1 v2 v3 D ∧ Lst B w' (.slice op m cm) m 1 (cS P) ∧ Lst B w' (.slice ov k ck) k 1 (cS Q)) ∧ AtL S w' ts vt ∧ AtL S w' ls vl) := fun w' hb => ⟨⟨h.kept hb hB, hP.kept hb hB, hQ.kept hb hB⟩, ht.same (Same.of_below hb hS), hv.same (Same.of_below hb hS)⟩
  clear h hP hQ ht hv
  have e0 : Hid (Below w.heap.size w ((w.alloc (.cells #[v0, v1, v2, v3] 40)).alloc (.cells #[.int .i64 num, .int .i64 kind, .slice op m cm, .slice ov k ck, vl, vt, .int .i64 am, .int .i64 st, v7, .int .i64 mv, .bool dn] 44))) := two_end (Below.refl _ _)
  have z0 := e0.out.size
  by_cases c : kind = 1
  · subst c
    go_enter Tryz.func9, Tryz.ntmps9
    go_wp2_with fail
    refine (routeAsksI_any B S v0 v1 v2 v3 D num am op ov m k cm ck P Q ts vt _ (H.out _ e0.out).1.1 (H.out _ e0.out).1.2.1 (H.out _ e0.out).1.2.2 (Nat.le_trans hB z0) hz hcm (H.out _ e0.out).2.1 (fun b hb => Nat.lt_of_lt_of_le (hS b hb) z0) hl hs hn ha hsl).mono ?_
    rintro e w1 ⟨⟨r, q, rfl, is, on⟩, hb⟩
    go_wp2_with fail
    go_ret
    exact ⟨⟨r, q, rfl, ⟨fun _ => is, fun h => absurd rfl h⟩, on.up (fun b hb => ⟨Nat.le_trans z0 hb.1, hb.2⟩)⟩, e0.out.trans (hb.mono z0)⟩
  · go_enter Tryz.func9, Tryz.ntmps9
    go_wp2_with fail
    refine (placeAsksI_any B S v0 v1 v2 v3 D num kind ls vl _ (H.out _ e0.out).1.1 (Nat.le_trans hB z0) hz (H.out _ e0.out).2.2 (fun b hb => Nat.lt_of_lt_of_le (hS b hb) z0) hn hd hsl).mono ?_
    rintro e w1 ⟨⟨r, q, rfl, is, on⟩, hb⟩
    go_wp2_with fail
    go_ret
    exact ⟨⟨r, q, rfl, ⟨fun h => absurd h c, fun _ => is⟩, on.up (fun b hb => ⟨Nat.le_trans z0 hb.1, hb.2⟩)⟩, e0.out.trans (hb.mono z0)⟩

end Go.Proofs.YtndacfockllehaaGreat

/-
  A route in memory of its own, marked.
-/
namespace Go.Proofs.YtndacfockllehaaGreat
open Go.RowKit Go.Sort

set_option maxRecDepth 100000 in
set_option maxHeartbeats 2000000 in
/-- A route in blocks of its own, marked. -/
theorem markRoute_any (A B g0 g1 m k : Nat) (k0 : Int) (w : World) (a0 : A ≤ g0) (a1 : A ≤ g1) (h0 : Blk B w g0 9 m) (h1 : Blk B w g1 9 k) (hB : B ≤ w.heap.size) (hm : m ≤ 1048576) (hk : k ≤ 1048576) (hk0 : 1 ≤ k0) (hk1 : k0 ≤ 17000000) :
    Calls Tryz.prog 41 #[.agg #[sl g0 m, sl g1 k], .int .i64 k0] w fun e w' => ∃ y : Int, e = .returned (.int .i64 y) ∧ (1 ≤ y ∧ y ≤ k0 + 2097152) ∧ Outs A B w w' := by
  obtain ⟨l0, c0, r0, z0⟩ := h0
  obtain ⟨l1, r1⟩ := h1
  have R0 : Hid _ := r0
  have R1 : Hid (∃ c : Array Value, w.heap[g1]? = some (.cells c 9 (0, 0)) ∧ c.size = k) := r1
  clear r0 r1
  have hA : A ≤ w.heap.size := by omega
  have O0 : Hid (Outs A B w (w.alloc (.cells #[sl g0 m, sl g1 k] 42))) := Outs.of_below ((Below.refl _ _).alloc (Nat.le_refl _) _) hA
  have bx : Hid (∀ w' : World, Outs A B (w.alloc (.cells #[sl g0 m, sl g1 k] 42)) w' → w'.heap[w.heap.size]? = some (.cells #[sl g0 m, sl g1 k] 42 (0, 0))) := fun w' ho => (ho.out _ hB (by simp)).trans (heap_alloc_new w _)
  go_enter Tryz.func41, Tryz.ntmps41
  go_wp2_with fail
  refine (mkS_any A B g0 m m m k0 c0 _ ((Below.heap_alloc w _ g0 (by omega)).trans R0.out) z0 a0 l0 (Nat.le_refl _) hk0 (by omega)).mono ?_; rintro e w1 ⟨rfl, o1, _⟩
  have O1 : Hid (Outs A B w w1) := O0.out.trans o1
  have B1 := bx.out w1 o1
  obtain ⟨x1, _⟩ := cell_row B1 1 _ rfl
  clear B1
  simp only [List.getElem_toArray, List.getElem_cons_zero, List.getElem_cons_succ] at x1
  obtain ⟨c1, R1', z1⟩ := O1.out.blk g1 _ _ R1.out
  have HR1 : Hid (w1.heap[g1]? = some (.cells c1 9 (0, 0))) := R1'
  clear R1'
  go_wp2_with fail
  refine (mkS_any A B g1 k k k (k0 + m) c1 _ HR1.out z1 a1 l1 (Nat.le_refl _) (by omega) (by omega)).mono ?_; rintro e w2 ⟨rfl, o2, _⟩
  go_wp2_with fail
  go_ret
  exact ⟨_, rfl, by omega, O1.out.trans o2⟩

end Go.Proofs.YtndacfockllehaaGreat
