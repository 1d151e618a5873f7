/-
  Contracts of four of the program's tests of a book of claims.
-/
import Derived.Test.YticojnepejboaacGreatCpg
namespace Go.Proofs.YticojnepejboaacGreat
open Go.RowKit

/-- The foes, the spots, the valves and the parts, as the program asks. -/
noncomputable def foesI (foes : List DClaimFoe) : Bool := okB 12 (tst (fun f : DClaimFoe => nameB f.1 && nameB f.2 && ltB f.1 f.2) (fun p f : DClaimFoe => befB p f)) foes
noncomputable def spotsI (foes : List DClaimFoe) (sp : List DClaimSpot) : Bool := okB 8 (tst (fun f : DClaimSpot => spI (cntF (nthF foes) foes.length) f.1 f.2.1 f.2.2.1 f.2.2.2.1 f.2.2.2.2) (fun p f : DClaimSpot => ltB p.1 f.1)) sp
noncomputable def valvesI (va : List ByteArray) (seen : Int) : Bool := okB 12 (tst nameB ltB) va && (decide (0 ≤ seen) && decide (seen ≤ 1000000))
noncomputable def partsI (sp : List DClaimSpot) (va : List ByteArray) (seen : Int) (ps : List DClaimPart) : Bool := okB 6 (tst (fun f : DClaimPart => paI sp va seen (f.1, f.2.1, f.2.2.1, f.2.2.2.1, f.2.2.2.2.1, f.2.2.2.2.2.1)) (fun p f : DClaimPart => decide (p.1 < f.1))) ps

set_option maxRecDepth 100000 in
set_option maxHeartbeats 4000000 in
theorem claimFoes_any (S : Nat → Prop) (v0 v1 v2 v3 : Value) (seen : Int) (foes : List DClaimFoe) (w : World) (h : AtL S w foes v0) (hS : ∀ b, S b → b < w.heap.size) :
    Calls Tryz.prog 69 #[.agg #[v0, v1, v2, v3, .int .i64 seen]] w fun e w' => e = .returned (.bool (foesI foes)) ∧ Below w.heap.size w w' := by
  have B0 : Hid (Below w.heap.size w (w.alloc (.cells #[v0, v1, v2, v3, .int .i64 seen] 33))) := (Below.refl _ _).alloc (Nat.le_refl _) _
  have CA : Hid _ := listClaimFoe_any S v0 foes 12 (w.alloc (.cells #[v0, v1, v2, v3, .int .i64 seen] 33)) (h.same (Same.of_below B0.out hS)) (fun b hb => by have := hS b hb; simp; omega)
  obtain ⟨o0, k0, rfl, _⟩ := id h
  clear h
  go_enter Tryz.func69, Tryz.ntmps69
  go_wp2_with fail
  refine Calls.mono CA.out ?_
  rintro e w1 ⟨rfl, hb⟩
  go_wp2_with fail
  go_ret
  exact ⟨rfl, B0.out.trans (hb.mono B0.out.size)⟩

set_option maxRecDepth 100000 in
set_option maxHeartbeats 4000000 in
theorem claimSpots_any (S : Nat → Prop) (v0 v1 v2 v3 : Value) (seen : Int) (foes : List DClaimFoe) (sp : List DClaimSpot) (w : World) (h : AtL S w foes v0) (h1 : AtL S w sp v1) (hS : ∀ b, S b → b < w.heap.size) (hf : foes.length ≤ 1048576) :
    Calls Tryz.prog 70 #[.agg #[v0, v1, v2, v3, .int .i64 seen]] w fun e w' => e = .returned (.bool (spotsI foes sp)) ∧ Below w.heap.size w w' := by
  have hmf : ∀ (fn : Fn) (first cap : Array Value) (w : World), (Instr.makeFunc fn first cap).run Tryz.prog w = .ok (.func fn first cap) w := fun _ _ _ _ => rfl
  have B0 : Hid (Below w.heap.size w (w.alloc (.cells #[v0, v1, v2, v3, .int .i64 seen] 33))) := (Below.refl _ _).alloc (Nat.le_refl _) _
  have S0 : ∀ b, S b → b < (w.alloc (.cells #[v0, v1, v2, v3, .int .i64 seen] 33)).heap.size := fun b hb => by have := hS b hb; simp; omega
  have CA : Hid _ := bothWays_any S v0 v1 v2 v3 (.int .i64 seen) foes (w.alloc (.cells #[v0, v1, v2, v3, .int .i64 seen] 33)) (h.same (Same.of_below B0.out hS)) S0 hf
  have H1 : Hid (∀ w', Below w.heap.size w w' → AtL S w' sp v1) := fun w' h => h1.same (Same.of_below h hS)
  obtain ⟨o1, k1, rfl, _⟩ := id h1
  clear h h1
  go_enter Tryz.func70, Tryz.ntmps70
  go_wp2_with fail
  refine Calls.mono CA.out ?_
  rintro e w1 ⟨m, rfl, hm, hb⟩
  have D1 : Hid (Below (w.heap.size + 1) (w.alloc (.cells #[v0, .slice o1 sp.length k1, v2, v3, .int .i64 seen] 33)) w1) := by simpa [Hid] using hb
  have B1 : Hid (Below w.heap.size w w1) := below_end D1.out
  have hs1 := B1.out.size
  have hs2 : w.heap.size + 1 ≤ w1.heap.size := by have := D1.out.size; simpa using this
  have q1 := fun o => cell_past (box_at _ _ D1.out 1 (.slice o1 sp.length k1) rfl) (by omega) o
  have BM : Hid (Below w.heap.size w (w1.alloc (.cells #[.map (some m)] 120))) := B1.out.alloc hs1 _
  have KM : CapM (w1.alloc (.cells #[.map (some m)] 120)) w1.heap.size m (cntF (nthF foes) foes.length) := ⟨by simp, new_cell w1 _ _ 0 _ rfl, hm.of_block (Below.heap_alloc w1 _ _ hm.lt)⟩
  have CB : Hid _ := listClaimSpot_any S w1.heap.size m (cntF (nthF foes) foes.length) (.slice o1 sp.length k1) sp 8 _ (H1.out _ BM.out) (fun b hb => by have := hS b hb; simp; omega) KM
  clear hb hm KM
  go_wp2_with fail
  refine Calls.mono CB.out ?_
  rintro e w2 ⟨rfl, hb2⟩
  go_wp2_with fail
  go_ret
  exact ⟨rfl, BM.out.trans (hb2.mono BM.out.size)⟩

set_option maxRecDepth 100000 in
set_option maxHeartbeats 4000000 in
theorem claimValves_any (S : Nat → Prop) (v0 v1 v2 v3 : Value) (seen : Int) (va : List ByteArray) (w : World) (h : AtL S w va v2) (hS : ∀ b, S b → b < w.heap.size) :
    Calls Tryz.prog 71 #[.agg #[v0, v1, v2, v3, .int .i64 seen]] w fun e w' => e = .returned (.bool (valvesI va seen)) ∧ Below w.heap.size w w' := by
  have B0 : Hid (Below w.heap.size w (w.alloc (.cells #[v0, v1, v2, v3, .int .i64 seen] 33))) := (Below.refl _ _).alloc (Nat.le_refl _) _
  have CA : Hid _ := names_any S v2 va 12 (w.alloc (.cells #[v0, v1, v2, v3, .int .i64 seen] 33)) (h.same (Same.of_below B0.out hS)) (fun b hb => by have := hS b hb; simp; omega)
  obtain ⟨o2, k2, rfl, _⟩ := id h
  clear h
  cases c0 : okB 12 (tst nameB ltB) va
  · go_enter Tryz.func71, Tryz.ntmps71
    go_wp2_with fail
    refine Calls.mono CA.out ?_
    rintro e w1 ⟨rfl, hb⟩
    rw [c0]
    have D1 : Hid (Below (w.heap.size + 1) (w.alloc (.cells #[v0, v1, .slice o2 va.length k2, v3, .int .i64 seen] 33)) w1) := by simpa [Hid] using hb
    have x4 := box_at _ _ D1.out 4 (.int .i64 seen) rfl
    clear hb
    go_wp2_with fail
    go_ret
    exact ⟨by rw [show valvesI va seen = false by unfold valvesI; rw [c0]; rfl]; rfl, below_end D1.out⟩
  · cases c1 : decide (0 ≤ seen)
    · go_enter Tryz.func71, Tryz.ntmps71
      go_wp2_with fail
      refine Calls.mono CA.out ?_
      rintro e w1 ⟨rfl, hb⟩
      rw [c0]
      have D1 : Hid (Below (w.heap.size + 1) (w.alloc (.cells #[v0, v1, .slice o2 va.length k2, v3, .int .i64 seen] 33)) w1) := by simpa [Hid] using hb
      have x4 := box_at _ _ D1.out 4 (.int .i64 seen) rfl
      clear hb
      go_wp2_with fail
      go_ret
      exact ⟨by rw [show valvesI va seen = false by unfold valvesI; rw [c0, c1]; rfl]; rfl, below_end D1.out⟩
    · cases c2 : decide (seen ≤ 1000000)
      · go_enter Tryz.func71, Tryz.ntmps71
        go_wp2_with fail
        refine Calls.mono CA.out ?_
        rintro e w1 ⟨rfl, hb⟩
        rw [c0]
        have D1 : Hid (Below (w.heap.size + 1) (w.alloc (.cells #[v0, v1, .slice o2 va.length k2, v3, .int .i64 seen] 33)) w1) := by simpa [Hid] using hb
        have x4 := box_at _ _ D1.out 4 (.int .i64 seen) rfl
        clear hb
        go_wp2_with fail
        go_ret
        exact ⟨by rw [show valvesI va seen = false by unfold valvesI; rw [c0, c1, c2]; rfl]; rfl, below_end D1.out⟩
      · go_enter Tryz.func71, Tryz.ntmps71
        go_wp2_with fail
        refine Calls.mono CA.out ?_
        rintro e w1 ⟨rfl, hb⟩
        rw [c0]
        have D1 : Hid (Below (w.heap.size + 1) (w.alloc (.cells #[v0, v1, .slice o2 va.length k2, v3, .int .i64 seen] 33)) w1) := by simpa [Hid] using hb
        have x4 := box_at _ _ D1.out 4 (.int .i64 seen) rfl
        clear hb
        go_wp2_with fail
        go_ret
        exact ⟨by rw [show valvesI va seen = true by unfold valvesI; rw [c0, c1, c2]; rfl]; rfl, below_end D1.out⟩

set_option maxRecDepth 100000 in
set_option maxHeartbeats 4000000 in
theorem claimParts_any (S : Nat → Prop) (v0 v1 v2 v3 : Value) (seen : Int) (sp : List DClaimSpot) (va : List ByteArray) (ps : List DClaimPart) (w : World) (h1 : AtL S w sp v1) (h2 : AtL S w va v2) (h3 : AtL S w ps v3) (hS : ∀ b, S b → b < w.heap.size) :
    Calls Tryz.prog 72 #[.agg #[v0, v1, v2, v3, .int .i64 seen]] w fun e w' => e = .returned (.bool (partsI sp va seen ps)) ∧ Below w.heap.size w w' := by
  have hmf : ∀ (fn : Fn) (first cap : Array Value) (w : World), (Instr.makeFunc fn first cap).run Tryz.prog w = .ok (.func fn first cap) w := fun _ _ _ _ => rfl
  have B0 : Hid (Below w.heap.size w (w.alloc (.cells #[v0, v1, v2, v3, .int .i64 seen] 33))) := (Below.refl _ _).alloc (Nat.le_refl _) _
  have S0 : ∀ b, S b → b < (w.alloc (.cells #[v0, v1, v2, v3, .int .i64 seen] 33)).heap.size := fun b hb => by have := hS b hb; simp; omega
  have KC : CapC S (w.alloc (.cells #[v0, v1, v2, v3, .int .i64 seen] 33)) w.heap.size v0 v1 v2 v3 seen sp va := ⟨by simp, new_cell w _ _ 0 _ rfl, new_cell w _ _ 1 _ rfl, new_cell w _ _ 2 _ rfl, new_cell w _ _ 3 _ rfl, new_cell w _ _ 4 _ rfl, h1.same (Same.of_below B0.out hS), h2.same (Same.of_below B0.out hS), S0⟩
  have CA : Hid _ := listClaimPart_any S w.heap.size v0 v1 v2 v3 seen sp va v3 ps 6 (w.alloc (.cells #[v0, v1, v2, v3, .int .i64 seen] 33)) (h3.same (Same.of_below B0.out hS)) S0 KC
  obtain ⟨o3, k3, rfl, _⟩ := id h3
  clear h1 h2 h3 KC
  go_enter Tryz.func72, Tryz.ntmps72
  go_wp2_with fail
  refine Calls.mono CA.out ?_
  rintro e w1 ⟨rfl, hb⟩
  go_wp2_with fail
  go_ret
  exact ⟨rfl, B0.out.trans (hb.mono B0.out.size)⟩

end Go.Proofs.YticojnepejboaacGreat
