/-
  The program's answer whether some lots and others have foes among them; what may be in a vessel; how much parts are together.
-/
import Derived.Test.YthleodbbppgadaaGreatIg
import Derived.Test.YthleodbbppgadaaGreatIe
import Derived.Test.YthleodbbppgadaaGreatHc
import Derived.Deep.Cut
namespace Go.Proofs.YthleodbbppgadaaGreat
open Go.RowKit

/-- Does one of some lots clash with one of others, by their stuffs? -/
def meetL (foes : List DStuffFoe) (lots : List DStuffLot) (xs ys : List ByteArray) : Bool := (stuffsL lots xs).any fun a => (stuffsL lots ys).any fun b => foeB foes a b

theorem at_texts {S : Nat → Prop} {w : World} {l : List ByteArray} {v : Value} (h : AtL S w l v) : ∀ y ∈ l, y.size ≤ maxLen := fun y hy => by
  obtain ⟨i, hi, rfl⟩ := List.getElem_of_mem hy
  obtain ⟨oa, cap, _, _, hc⟩ := h
  obtain ⟨b, off, _, _, c, _, hat⟩ := hc i hi
  exact hat.2

set_option maxRecDepth 100000 in
set_option maxHeartbeats 4000000 in
theorem meetP_any (SX SY : Nat → Prop) (foes : List DStuffFoe) (X Y : List ByteArray) (vx vy : Value) (mb : Nat) (w : World) (hx : AtL SX w X vx) (hy : AtL SY w Y vy) (hmp : Mp w mb (cntF (nthF foes) foes.length)) :
    Calls Tryz.prog 146 #[.map (some mb), vx, vy] w fun e w' => e = .returned (.bool (X.any fun a => Y.any fun b => foeB foes a b)) ∧ w' = w := by
  have M2 : Hid (Mp w mb (cntF (nthF foes) foes.length)) := hmp
  have HZX : Hid (∀ y ∈ X, y.size ≤ maxLen) := at_texts hx
  have HZY : Hid (∀ y ∈ Y, y.size ≤ maxLen) := at_texts hy
  obtain ⟨ox, cx, rfl, nx, gx⟩ := hx
  obtain ⟨oy, cy, rfl, ny, gy⟩ := hy
  have GX : Hid _ := gx
  have GY : Hid _ := gy
  clear gx gy hmp
  obtain ⟨a, ea⟩ : ∃ n, X.length = n := ⟨_, rfl⟩
  obtain ⟨b, eb⟩ : ∃ n, Y.length = n := ⟨_, rfl⟩
  rw [ea] at nx
  rw [eb] at ny
  rw [ea, eb]
  unfold maxLen at nx ny
  go_enter Tryz.func146, Tryz.ntmps146
  go_wp2
  go_loop [13] (fun i => ∃ k : Nat, k ≤ a ∧ i = .int .i64 k ∧ Hid (∀ j (hj : j < X.length), j < k → (Y.any fun y => foeB foes X[j] y) = false)) (fun i => a - (intOf i).toNat)
  case atStart => exact ⟨0, Nat.zero_le _, rfl, fun _ _ h => by omega⟩
  case round =>
    obtain ⟨k, hk, rfl, hno⟩ := hrel
    by_cases hlt : k < a
    · obtain ⟨bx, fx, rfl, _, cc, hcell, hat⟩ := GX.out k (by omega)
      rw [width_str] at hcell
      have hcell := hcell 0 (by omega)
      rw [Nat.mul_one, Nat.add_zero] at hcell
      rw [at_str] at hat
      rw [hat.1] at hcell
      have hzx := HZX.out _ (List.getElem_mem (by omega : k < X.length))
      obtain ⟨x, ex⟩ : ∃ x, X[k]'(by omega) = x := ⟨_, rfl⟩
      rw [ex] at hcell hzx
      clear hat
      have HZ1 : Hid _ := hzx
      clear hzx
      go_wp2
      go_loop [19] (fun i => ∃ q : Nat, q ≤ b ∧ i = .int .i64 q ∧ Hid (∀ j (hj : j < Y.length), j < q → foeB foes x Y[j] = false)) (fun i => b - (intOf i).toNat)
      case atStart => exact ⟨0, Nat.zero_le _, rfl, fun _ _ h => by omega⟩
      case round =>
        obtain ⟨q, hq, rfl, hnq⟩ := hrel
        by_cases hlq : q < b
        · obtain ⟨by', fy, rfl, _, cd, hceld, had⟩ := GY.out q (by omega)
          rw [width_str] at hceld
          have hceld := hceld 0 (by omega)
          rw [Nat.mul_one, Nat.add_zero] at hceld
          rw [at_str] at had
          rw [had.1] at hceld
          have hzy := HZY.out _ (List.getElem_mem (by omega : q < Y.length))
          obtain ⟨y, ey⟩ : ∃ y, Y[q]'(by omega) = y := ⟨_, rfl⟩
          rw [ey] at hceld hzy
          clear had
          have HZ2 : Hid _ := hzy
          clear hzy
          cases hf : foeB foes x y
          · go_wp2_with (go_at_call 150; refine (hasP_any mb _ x y _ M2.out HZ1.out HZ2.out).mono ?_; rintro e w3 ⟨rfl, rfl⟩; rw [cnt_foe, hf])
            go_round
            case rel => exact ⟨q + 1, by omega, by go_num, fun j hj hjq => by
              by_cases e : j = q
              · subst e; rw [ey]; exact hf
              · exact hnq.out j hj (by omega)⟩
            case measure => simp [intOf]; omega
          · have hyes : (X.any fun a => Y.any fun b => foeB foes a b) = true :=
              any_yes (k := k) (by omega) (by rw [ex]; exact any_yes (k := q) (by omega) (by rw [ey]; exact hf))
            go_wp2_with (go_at_call 150; refine (hasP_any mb _ x y _ M2.out HZ1.out HZ2.out).mono ?_; rintro e w3 ⟨rfl, rfl⟩; rw [cnt_foe, hf])
            rw [hyes]
            go_ret
            exact ⟨rfl, rfl⟩
        · go_wp2
          go_round
          case rel => exact ⟨k + 1, by omega, by go_num, fun j hj hjk => by
            by_cases e : j = k
            · subst e; rw [ex]; exact any_no (fun j hj => hnq.out j hj (by omega))
            · exact hno.out j hj (by omega)⟩
          case measure => simp [intOf]; omega
    · go_wp2
      go_ret
      rw [any_no (fun j hj => hno.out j hj (by omega))]
      exact ⟨rfl, rfl⟩

set_option maxRecDepth 100000 in
set_option maxHeartbeats 4000000 in
theorem lotsMeet_any (S : Nat → Prop) (v0 v1 v2 v3 : Value) (foes : List DStuffFoe) (lots : List DStuffLot) (xs ys : List ByteArray) (vx vy : Value) (mb : Nat) (w : World) (h1 : AtL S w lots v1) (hx : AtL S w xs vx) (hy : AtL S w ys vy) (hS : ∀ b, S b → b < w.heap.size) (mx : xs.length ≤ 1048576) (my : ys.length ≤ 1048576) (hmp : Mp w mb (cntF (nthF foes) foes.length)) :
    Calls Tryz.prog 133 #[.agg #[v0, v1, v2, v3], vx, vy, .map (some mb)] w fun e w' => e = .returned (.bool (meetL foes lots xs ys)) ∧ Below w.heap.size w w' := by
  obtain ⟨W, hW⟩ : ∃ W, W = w.alloc (.cells #[v0, v1, v2, v3] 36) := ⟨_, rfl⟩
  have hbW : Hid (Below w.heap.size w W) := by rw [hW]; exact (Below.refl _ _).alloc (Nat.le_refl _) _
  have hsW : W.heap.size = w.heap.size + 1 := by rw [hW]; simp
  have HB : Hid (W.heap[w.heap.size]? = some (.cells #[v0, v1, v2, v3] 36 (0, 0))) := by rw [hW]; exact heap_alloc_new w _
  have hSW : ∀ b, S b → b < W.heap.size := fun b hb => by have := hS b hb; omega
  have H1 : Hid (AtL S W lots v1) := h1.same (Same.of_below hbW.out hS)
  have HX : Hid (AtL S W xs vx) := hx.same (Same.of_below hbW.out hS)
  have HY : Hid (AtL S W ys vy) := hy.same (Same.of_below hbW.out hS)
  have hmb : mb < w.heap.size := hmp.lt
  have HM : Hid (Mp W mb (cntF (nthF foes) foes.length)) := hmp.below hbW.out hmb
  clear h1 hx hy hmp
  obtain ⟨x_0, _⟩ := cell_row HB.out 0 _ rfl
  obtain ⟨x_1, _⟩ := cell_row HB.out 1 _ rfl
  obtain ⟨x_2, _⟩ := cell_row HB.out 2 _ rfl
  obtain ⟨x_3, _⟩ := cell_row HB.out 3 _ rfl
  simp only [List.getElem_toArray, List.getElem_cons_zero, List.getElem_cons_succ] at x_0 x_1 x_2 x_3
  have q0 := fun d os => cell_regrown x_0 d os
  have q1 := fun d os => cell_regrown x_1 d os
  have q2 := fun d os => cell_regrown x_2 d os
  have q3 := fun d os => cell_regrown x_3 d os
  have hdr : Hid (Below W.heap.size W W.drew) := (Below.refl _ _).drew
  have hdd : W.drew.heap.size = W.heap.size := rfl
  unfold meetL
  go_enter Tryz.func133, Tryz.ntmps133
  go_upto_region 1 with fail
  rw [← hW]
  clear hW
  refine wp_region_mix 8 [0, 1, 2, 4, 5] (by kernel_rfl) (by kernel_rfl) ?_
  simp only [List.filterMap_cons, List.filterMap_nil, List.getElem?_cons_succ, List.getElem?_cons_zero]
  repeat (first | go_big_quiet_step (fail) | quiet_step (fail))
  refine wpQuiet_nil ?_
  refine call1 (md := .any) (f := 2) (i := 3) (dc := 12) (fn := 147) ⟨rfl, rfl, rfl, by decide⟩ (by kernel_rfl) ?run ((stuffsI_any S v0 v1 v2 v3 lots xs vx W.drew (H1.out.same (Same.of_below hdr.out hSW)) (HX.out.same (Same.of_below hdr.out hSW)) hSW mx).mono ?_)
  case run => go_simp
  rintro e w1 ⟨rx, rfl, ax, hb1⟩
  have B1 : Hid (Below W.heap.size W w1) := hdr.out.trans hb1
  have hs1 : W.heap.size ≤ w1.heap.size := B1.out.size
  have AX : Hid (AtL (fun b => b < w1.heap.size) w1 (stuffsL lots xs) rx) := ax.up (fun b hb => hb.2)
  clear ax hb1
  refine ⟨_, rfl, regrown_of_below B1.out, ?_⟩
  simp only [Act.put, List.setIfInBounds_toArray]
  refine call1 (md := .any) (f := 1) (i := 6) (dc := 15) (fn := 147) ⟨rfl, rfl, rfl, by decide⟩ (by kernel_rfl) ?run ((stuffsI_any S v0 v1 v2 v3 lots ys vy w1 (H1.out.same (Same.of_below B1.out hSW)) (HY.out.same (Same.of_below B1.out hSW)) (fun b hb => by have := hSW b hb; omega) my).mono ?_)
  case run => go_simp
  rintro e w2 ⟨ry, rfl, ay, hb2⟩
  have B2 : Hid (Below W.heap.size W w2) := B1.out.trans (hb2.mono hs1)
  have AX2 : Hid (AtL (fun b => b < w1.heap.size) w2 (stuffsL lots xs) rx) := AX.out.same (Same.of_below hb2 (fun b hb => hb))
  have AY2 : Hid (AtL (fun b => w1.heap.size ≤ b ∧ b < w2.heap.size) w2 (stuffsL lots ys) ry) := ay
  have M2 : Hid (Mp w2 mb (cntF (nthF foes) foes.length)) := HM.out.below B2.out (by omega)
  clear ay hb2 AX
  refine ⟨_, rfl, regrown_of_below B2.out, ?_⟩
  simp only [Act.put, List.setIfInBounds_toArray]
  refine call1 (md := .any) (f := 0) (i := 7) (dc := 16) (fn := 146) ⟨rfl, rfl, rfl, by decide⟩ (by kernel_rfl) ?run ((meetP_any _ _ foes _ _ rx ry mb w2 AX2.out AY2.out M2.out).mono ?_)
  case run => go_simp
  rintro e w3 ⟨rfl, rfl⟩
  refine ⟨_, rfl, regrown_of_below B2.out, ?_⟩
  refine ⟨by kernel_rfl, ?_⟩
  simp only [List.drop_succ_cons, List.drop_zero, Act.put, List.setIfInBounds_toArray, List.set_cons_zero, List.set_cons_succ]
  go_wp2_with fail
  go_ret
  exact ⟨rfl, hbW.out.trans (B2.out.mono (by omega))⟩

end Go.Proofs.YthleodbbppgadaaGreat
