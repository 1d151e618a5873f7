/-
  The program's answer whether some lots and others have foes among them; what may be in a vessel; how much parts are together.
-/
import Derived.Test.YtkmgogfgdpldbaaGreatIg
import Derived.Test.YtkmgogfgdpldbaaGreatIe
namespace Go.Proofs.YtkmgogfgdpldbaaGreat
open Go.RowKit

/-- Does one of some lots clash with one of others, by their stuffs? -/
def meetL (foes : List DStuffFoe) (lots : List DStuffLot) (xs ys : List ByteArray) : Bool := (stuffsL lots xs).any fun a => (stuffsL lots ys).any fun b => foeB foes a b

set_option maxRecDepth 100000 in
set_option maxHeartbeats 4000000 in
theorem lotsMeet_any (S : Nat → Prop) (v0 v1 v2 v3 : Value) (foes : List DStuffFoe) (lots : List DStuffLot) (xs ys : List ByteArray) (vx vy : Value) (mb : Nat) (w : World) (h1 : AtL S w lots v1) (hx : AtL S w xs vx) (hy : AtL S w ys vy) (hS : ∀ b, S b → b < w.heap.size) (mx : xs.length ≤ 1048576) (my : ys.length ≤ 1048576) (hmp : Mp w mb (cntF (nthF foes) foes.length)) :
    Calls Tryz.prog 22 #[.agg #[v0, v1, v2, v3], vx, vy, .map (some mb)] w fun e w' => e = .returned (.bool (meetL foes lots xs ys)) ∧ Below w.heap.size w w' := by
  have H1 : Hid (AtL S w lots v1) := h1
  have HX : Hid (AtL S w xs vx) := hx
  have HY : Hid (AtL S w ys vy) := hy
  have HM : Hid (Mp w mb (cntF (nthF foes) foes.length)) := hmp
  have hmb : mb < w.heap.size := hmp.lt
  have HZX : Hid (∀ y ∈ stuffsL lots xs, y.size ≤ maxLen) := stuffs_size h1 xs _ (Nat.le_refl _)
  have HZY : Hid (∀ y ∈ stuffsL lots ys, y.size ≤ maxLen) := stuffs_size h1 ys _ (Nat.le_refl _)
  clear h1 hx hy hmp
  unfold meetL
  obtain ⟨X, eX⟩ : ∃ X, stuffsL lots xs = X := ⟨_, rfl⟩
  obtain ⟨Y, eY⟩ : ∃ Y, stuffsL lots ys = Y := ⟨_, rfl⟩
  rw [eX] at HZX
  rw [eY] at HZY
  rw [eX, eY]
  have EX : Hid (stuffsL lots xs = X) := eX
  have EY : Hid (stuffsL lots ys = Y) := eY
  clear eX eY
  have hbel0 : Hid (Below (w.heap.size + 1) (w.alloc (.cells #[v0, v1, v2, v3] 35)) (w.alloc (.cells #[v0, v1, v2, v3] 35))) := Below.refl _ _
  have hsz0 : w.heap.size + 1 ≤ (w.alloc (.cells #[v0, v1, v2, v3] 35)).heap.size := by simp
  have hS0 : ∀ b, S b → b < (w.alloc (.cells #[v0, v1, v2, v3] 35)).heap.size := fun b hb => by have := hS b hb; omega
  have hbw0 := below_end hbel0.out
  have K1 : Hid (AtL S (w.alloc (.cells #[v0, v1, v2, v3] 35)) lots v1) := H1.out.same (Same.of_below hbw0 hS)
  have KY : Hid (AtL S (w.alloc (.cells #[v0, v1, v2, v3] 35)) ys vy) := HY.out.same (Same.of_below hbw0 hS)
  go_enter Tryz.func22, Tryz.ntmps22
  go_wp2_with fail
  refine (stuffsI_any S _ _ _ _ lots ys vy _ K1.out KY.out hS0 my).mono ?_
  rintro e w1 ⟨ry, rfl, ay, hb1⟩
  have hbel1 : Hid (Below (w.heap.size + 1) (w.alloc (.cells #[v0, v1, v2, v3] 35)) w1) := by simpa [Hid] using hb1
  have hsz1 : w.heap.size + 1 ≤ w1.heap.size := by have := hbel1.out.size; simpa using this
  have AY : Hid (AtL (fun b => b < w1.heap.size) w1 (stuffsL lots ys) ry) := ay.up (fun b hb => hb.2)
  clear ay hb1
  have y0 := box_at _ _ hbel1.out 0 (v0) rfl
  have y1 := box_at _ _ hbel1.out 1 (v1) rfl
  have y2 := box_at _ _ hbel1.out 2 (v2) rfl
  have y3 := box_at _ _ hbel1.out 3 (v3) rfl
  have hS1 : ∀ b, S b → b < w1.heap.size := fun b hb => by have := hS b hb; omega
  go_wp2_with fail
  refine (stuffsI_any S _ _ _ _ lots xs vx _ (H1.out.same (Same.of_below (below_end hbel1.out) hS)) (HX.out.same (Same.of_below (below_end hbel1.out) hS)) hS1 mx).mono ?_
  rintro e w2 ⟨rx, rfl, ax, hb2⟩
  have hbel2 : Hid (Below (w.heap.size + 1) (w.alloc (.cells #[v0, v1, v2, v3] 35)) w2) := below_of hbel1.out hb2
  have AY2 : Hid (AtL (fun b => b < w1.heap.size) w2 (stuffsL lots ys) ry) := AY.out.same (Same.of_below hb2 (fun b hb => hb))
  have M2 : Hid (Mp w2 mb (cntF (nthF foes) foes.length)) := HM.out.below (below_end hbel2.out) hmb
  clear AY hb2 y0 y1 y2 y3 K1 KY hbel0 hS0 hbw0 hsz0
  rw [EX.out] at ax
  rw [EY.out] at AY2
  obtain ⟨ox, cx, rfl, nx, gx⟩ := ax
  obtain ⟨oy, cy, ey, ny, gy⟩ := AY2.out
  subst ey
  have GX : Hid _ := gx
  have GY : Hid _ := gy
  clear gx gy AY2 EX EY
  obtain ⟨a, ea⟩ : ∃ n, X.length = n := ⟨_, rfl⟩
  obtain ⟨b, eb⟩ : ∃ n, Y.length = n := ⟨_, rfl⟩
  rw [ea] at nx
  rw [eb] at ny
  rw [ea, eb]
  unfold maxLen at nx ny
  go_wp2
  go_loop [21] (fun i => ∃ k : Nat, k ≤ a ∧ i = .int .i64 k ∧ Hid (∀ j (hj : j < X.length), j < k → (Y.any fun y => foeB foes X[j] y) = false)) (fun i => a - (intOf i).toNat)
  case atStart => exact ⟨0, Nat.zero_le _, rfl, fun _ _ h => by omega⟩
  case round =>
    obtain ⟨k, hk, rfl, hno⟩ := hrel
    by_cases hlt : k < a
    · obtain ⟨bx, fx, rfl, _, cc, hcell, hat⟩ := GX.out k (by omega)
      rw [width_str] at hcell
      have hcell := hcell 0 (by omega)
      rw [Nat.mul_one, Nat.add_zero] at hcell
      rw [at_str] at hat
      rw [hat.1] at hcell
      have hzx := HZX.out _ (List.getElem_mem (by omega : k < X.length))
      obtain ⟨x, ex⟩ : ∃ x, X[k]'(by omega) = x := ⟨_, rfl⟩
      rw [ex] at hcell hzx
      clear hat
      have HZ1 : Hid _ := hzx
      clear hzx
      go_wp2
      go_loop [27] (fun i => ∃ q : Nat, q ≤ b ∧ i = .int .i64 q ∧ Hid (∀ j (hj : j < Y.length), j < q → foeB foes x Y[j] = false)) (fun i => b - (intOf i).toNat)
      case atStart => exact ⟨0, Nat.zero_le _, rfl, fun _ _ h => by omega⟩
      case round =>
        obtain ⟨q, hq, rfl, hnq⟩ := hrel
        by_cases hlq : q < b
        · obtain ⟨by', fy, rfl, _, cd, hceld, had⟩ := GY.out q (by omega)
          rw [width_str] at hceld
          have hceld := hceld 0 (by omega)
          rw [Nat.mul_one, Nat.add_zero] at hceld
          rw [at_str] at had
          rw [had.1] at hceld
          have hzy := HZY.out _ (List.getElem_mem (by omega : q < Y.length))
          obtain ⟨y, ey⟩ : ∃ y, Y[q]'(by omega) = y := ⟨_, rfl⟩
          rw [ey] at hceld hzy
          clear had
          have HZ2 : Hid _ := hzy
          clear hzy
          cases hf : foeB foes x y
          · go_wp2_with (go_at_call 51; refine (hasP_any mb _ x y _ M2.out HZ1.out HZ2.out).mono ?_; rintro e w3 ⟨rfl, rfl⟩; rw [cnt_foe, hf])
            go_round
            case rel => exact ⟨q + 1, by omega, by go_num, fun j hj hjq => by
              by_cases e : j = q
              · subst e; rw [ey]; exact hf
              · exact hnq.out j hj (by omega)⟩
            case measure => simp [intOf]; omega
          · have hyes : (X.any fun a => Y.any fun b => foeB foes a b) = true :=
              any_yes (k := k) (by omega) (by rw [ex]; exact any_yes (k := q) (by omega) (by rw [ey]; exact hf))
            go_wp2_with (go_at_call 51; refine (hasP_any mb _ x y _ M2.out HZ1.out HZ2.out).mono ?_; rintro e w3 ⟨rfl, rfl⟩; rw [cnt_foe, hf])
            rw [hyes]
            go_ret
            exact ⟨rfl, below_end hbel2.out⟩
        · go_wp2
          go_round
          case rel => exact ⟨k + 1, by omega, by go_num, fun j hj hjk => by
            by_cases e : j = k
            · subst e; rw [ex]; exact any_no (fun j hj => hnq.out j hj (by omega))
            · exact hno.out j hj (by omega)⟩
          case measure => simp [intOf]; omega
    · go_wp2
      go_ret
      rw [any_no (fun j hj => hno.out j hj (by omega))]
      exact ⟨rfl, below_end hbel2.out⟩

end Go.Proofs.YtkmgogfgdpldbaaGreat
